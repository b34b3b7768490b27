package word

import (
	"math"
	"testing"
)

const twenty = 1 << 20

// parts are numbers beside which a part of 20 bits goes wrong.
func parts() []int {
	return []int{0, 1, 2, 3, 7, 512, twenty/2 - 1, twenty / 2, twenty - 2, twenty - 1, twenty, twenty + 1, 2*twenty - 1, 1<<40 + 5, -1, -2, -twenty, -twenty - 1, math.MaxInt, math.MinInt, math.MinInt + 3}
}

// mod20 is n modulo 2^20, by its definition.
func mod20(n int) int { return (n%twenty + twenty) % twenty }

// laid is the head that the chapter describes, part by part.
func laid(shape, n int, marked bool, count int) uint64 {
	h := 1 + 2*uint64(mod20(shape)) + 1<<21*uint64(mod20(n)) + 1<<42*uint64(mod20(count))
	if marked {
		h += 1 << 41
	}
	return h
}

// P1.3: where each part stands.
func TestHeadIsLaid(t *testing.T) {
	for _, c := range []struct{ got, want uint64 }{
		{Head(0, 0), 1},
		{Head(1, 0), 3},
		{Head(0, 1), 1<<21 | 1},
		{Head(3, 7), 7<<21 | 3<<1 | 1},
		{Head(-1, 0), 1<<21 - 1},
		{Head(-1, -1), 1<<41 - 1},
		{Head(twenty, twenty), 1},
		{Mark(1, true), 1<<41 | 1},
		{Turn(1, 1), 1<<42 | 1},
		{Turn(Mark(Head(-1, -1), true), -1), 1<<62 - 1},
	} {
		if c.got != c.want {
			t.Errorf("%#x, want %#x", c.got, c.want)
		}
	}
}

// P1.3: what a head says.
func TestHeadSays(t *testing.T) {
	for _, shape := range parts() {
		for _, n := range parts() {
			h := Head(shape, n)
			if h != laid(shape, n, false, 0) {
				t.Fatalf("Head(%d, %d) = %#x", shape, n, h)
			}
			if Shape(h) != mod20(shape) || Len(h) != mod20(n) || Marked(h) || Turned(h) != 0 {
				t.Fatalf("Head(%d, %d): %d, %d, %v, %d", shape, n, Shape(h), Len(h), Marked(h), Turned(h))
			}
		}
	}
}

// P1.7: a head's parts don't touch one another.
func TestHeadPartsApart(t *testing.T) {
	for _, shape := range parts() {
		for _, n := range parts() {
			for _, k := range parts() {
				h := Head(shape, n)
				for _, on := range []bool{true, true, false, false, true} {
					h = Turn(Mark(h, on), k)
					if h != laid(shape, n, on, k) {
						t.Fatalf("head of %d, %d, %v, %d: %#x", shape, n, on, k, h)
					}
					if Shape(h) != mod20(shape) || Len(h) != mod20(n) || Marked(h) != on || Turned(h) != mod20(k) {
						t.Fatalf("head of %d, %d, %v, %d says %d, %d, %v, %d", shape, n, on, k, Shape(h), Len(h), Marked(h), Turned(h))
					}
					h = Turn(h, 0)
				}
			}
		}
	}
}

// P1.3, P1.7, P5: of any word, a head or not, each call reads, or changes, its own bits alone.
func TestHeadOfAnyWord(t *testing.T) {
	for _, w := range append(edges(), draws(5000)...) {
		h := uint64(w)
		if Shape(h) != int(h/2%twenty) || Len(h) != int(h/(1<<21)%twenty) || Marked(h) != (h/(1<<41)%2 == 1) || Turned(h) != int(h/(1<<42)%twenty) {
			t.Fatalf("%#x says %d, %d, %v, %d", h, Shape(h), Len(h), Marked(h), Turned(h))
		}
		for _, on := range []bool{false, true} {
			m := Mark(h, on)
			if Marked(m) != on || m|1<<41 != h|1<<41 {
				t.Fatalf("Mark(%#x, %v) = %#x", h, on, m)
			}
		}
		for _, k := range parts() {
			const count = uint64(twenty-1) << 42
			u := Turn(h, k)
			if Turned(u) != mod20(k) || u|count != h|count {
				t.Fatalf("Turn(%#x, %d) = %#x", h, k, u)
			}
		}
	}
}
