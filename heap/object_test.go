package heap

import (
	"math"
	"slices"
	"strings"
	"testing"

	"bellows/api"
	"bellows/word"
)

// P2.3: Kind.
func TestKind(t *testing.T) {
	h := open(t, 0)
	for shape, l := range layouts() {
		if got := h.Kind(shape); got != l.Kind {
			t.Errorf("Kind(%d) = %d", shape, got)
		}
	}
	for _, shape := range append(wilds(), shapes) {
		if got := h.Kind(shape); got != 0 {
			t.Errorf("Kind(%d) = %d", shape, got)
		}
	}
}

// mixed is a heap of 20 words with objects of all kinds at 0, 3, 6, 9, 10, 14 and 15.
func mixed(t *testing.T) *Heap {
	h := open(t, 20)
	for _, c := range [][2]int{{pair, 2}, {text, 9}, {row, 2}, {none, 0}, {three, 3}, {row, 0}, {text, 0}} {
		made(t, h, c[0], c[1])
	}
	if l := h.Objects(); !slices.Equal(l, []int{0, 3, 6, 9, 10, 14, 15}) {
		t.Fatal(l)
	}
	return h
}

// P2.3: Is, Fits, Shape, Len at the places of objects.
func TestWhereObjectsStand(t *testing.T) {
	h := mixed(t)
	for _, c := range []struct{ at, shape, n int }{{0, pair, 2}, {3, text, 9}, {6, row, 2}, {9, none, 0}, {10, three, 3}, {14, row, 0}, {15, text, 0}} {
		if !h.Is(c.at) || !h.Fits(word.Ptr(c.at)) {
			t.Errorf("no object at %d", c.at)
		}
		if got, e := h.Shape(c.at); got != c.shape || e != api.OK {
			t.Errorf("Shape(%d) = %d, %d", c.at, got, e)
		}
		if got, e := h.Len(c.at); got != c.n || e != api.OK {
			t.Errorf("Len(%d) = %d, %d", c.at, got, e)
		}
	}
}

// P2.3: everywhere else nothing stands.
func TestWhereNothingStands(t *testing.T) {
	h := mixed(t)
	kept := image(h)
	for _, at := range append(wilds(), 1, 2, 4, 5, 7, 8, 11, 12, 13, 16, 17, 18, 19, 20, 21) {
		s, e1 := h.Shape(at)
		n, e2 := h.Len(at)
		b, e3 := h.Text(at)
		if h.Is(at) || s != 0 || n != 0 || b != "" || e1 != api.ErrArg || e2 != api.ErrArg || e3 != api.ErrArg {
			t.Errorf("something stands at %d: %v %d %d %q %d %d %d", at, h.Is(at), s, n, b, e1, e2, e3)
		}
		for _, i := range []int{0, 1, -1} {
			w, e1 := h.Get(at, i)
			c, e2 := h.Byte(at, i)
			if w != 0 || c != 0 || e1 != api.ErrArg || e2 != api.ErrArg || h.Set(at, i, 1) != api.ErrArg || h.SetByte(at, i, 1) != api.ErrArg {
				t.Errorf("something stands at %d, %d", at, i)
			}
		}
		if at >= 0 && h.Fits(word.Ptr(at)) {
			t.Errorf("a pointer of %d fits", at)
		}
	}
	if !slices.Equal(image(h), kept) {
		t.Error("what is refused changes the heap")
	}
}

// P2.3: a word that looks like a head is none.
func TestNumbersAreNoHeads(t *testing.T) {
	h := open(t, 6)
	made(t, h, pair, 2)
	made(t, h, pair, 2)
	if h.Set(0, 0, word.Head(pair, 2)) != api.OK || h.Set(0, 1, word.Head(none, 0)) != api.OK {
		t.Fatal("a head's word is an immediate too")
	}
	if h.Is(1) || h.Is(2) || h.Fits(word.Ptr(1)) || !slices.Equal(h.Objects(), []int{0, 3}) {
		t.Error("a number is a head")
	}
	if h.Close(6) != api.OK || h.Is(1) || h.Is(2) {
		t.Error("a number is a head behind Close")
	}
}

// P2.3: Fits.
func TestFits(t *testing.T) {
	h := mixed(t)
	for _, n := range []int64{0, 1, -1, 5, 1<<62 - 1, -1 << 62} {
		if !h.Fits(word.Imm(n)) {
			t.Errorf("the number %d doesn't fit", n)
		}
	}
	for i := range 20 {
		is := slices.Contains([]int{0, 3, 6, 9, 10, 14, 15}, i)
		if h.Fits(word.Ptr(i)) != is {
			t.Errorf("Fits of a pointer of %d: %v", i, !is)
		}
	}
	for _, w := range []uint64{word.Ptr(20), word.Ptr(api.MaxWords), word.Ptr(-1), 1 << 63, 1<<63 + 6, 1 << 62, 1<<17 + 6, 1<<33 + 6, math.MaxUint64 - 1} {
		if h.Fits(w) {
			t.Errorf("the pointer %#x fits", w)
		}
	}
	empty := open(t, 5)
	if !empty.Fits(1) || empty.Fits(0) {
		t.Error("what fits an empty heap")
	}
}

// P2.3: Get and Set, the first and the last, and beyond.
func TestGetSet(t *testing.T) {
	h := mixed(t)
	for _, c := range []struct{ at, n int }{{0, 2}, {6, 2}, {9, 0}, {10, 3}, {14, 0}} {
		for i := range c.n {
			for _, w := range []uint64{word.Imm(-7), word.Ptr(15), word.Ptr(0), word.Ptr(c.at), word.Imm(int64(i))} {
				if e := h.Set(c.at, i, w); e != api.OK {
					t.Fatalf("Set(%d, %d, %#x): %d", c.at, i, w, e)
				}
				if got, e := h.Get(c.at, i); got != w || e != api.OK || h.Load(c.at+1+i) != w {
					t.Fatalf("Get(%d, %d) = %#x, %d, want %#x", c.at, i, got, e, w)
				}
			}
		}
		kept := image(h)
		for _, i := range append(wilds(), c.n, c.n+1) {
			if w, e := h.Get(c.at, i); w != 0 || e != api.ErrArg {
				t.Errorf("Get(%d, %d) = %#x, %d", c.at, i, w, e)
			}
			if e := h.Set(c.at, i, 1); e != api.ErrArg {
				t.Errorf("Set(%d, %d): %d", c.at, i, e)
			}
		}
		for _, w := range []uint64{word.Ptr(1), word.Ptr(16), word.Ptr(20), word.Ptr(-1), 1 << 63} {
			for i := range c.n {
				if e := h.Set(c.at, i, w); e != api.ErrArg {
					t.Errorf("Set(%d, %d, %#x): %d", c.at, i, w, e)
				}
			}
		}
		for i := range 3 {
			b, e := h.Byte(c.at, i)
			if b != 0 || e != api.ErrArg || h.SetByte(c.at, i, 9) != api.ErrArg {
				t.Errorf("the object at %d has the byte %d", c.at, i)
			}
		}
		if s, e := h.Text(c.at); s != "" || e != api.ErrArg {
			t.Errorf("the object at %d has bytes %q", c.at, s)
		}
		if !slices.Equal(image(h), kept) {
			t.Fatal("what is refused changes the heap")
		}
	}
}

// P2.3: bytes of all lengths that end in a word's every place.
func TestBytes(t *testing.T) {
	for n := range 26 {
		h := open(t, 12)
		made(t, h, pair, 2)
		at := made(t, h, text, n)
		behind := made(t, h, pair, 2)
		var want strings.Builder
		for i := range n {
			c := byte(255 - 7*i)
			want.WriteByte(c)
			if e := h.SetByte(at, i, 255); e != api.OK {
				t.Fatal(n, i, e)
			}
			if e := h.SetByte(at, i, c); e != api.OK {
				t.Fatal(n, i, e)
			}
			if got, e := h.Byte(at, i); got != c || e != api.OK {
				t.Fatalf("Byte(%d, %d) = %d, %d", at, i, got, e)
			}
		}
		if got, e := h.Text(at); got != want.String() || e != api.OK {
			t.Errorf("%q, want %q: %d", got, want.String(), e)
		}
		for i := range n {
			if got, e := h.Byte(at, i); got != want.String()[i] || e != api.OK {
				t.Errorf("Byte(%d, %d) = %d, %d", at, i, got, e)
			}
		}
		kept := image(h)
		for _, i := range append(wilds(), n, n+1, n+7, n+8) {
			b, e := h.Byte(at, i)
			if b != 0 || e != api.ErrArg || h.SetByte(at, i, 9) != api.ErrArg {
				t.Errorf("of %d bytes, the byte %d: %d, %d", n, i, b, e)
			}
		}
		for _, i := range []int{-1, 0, n - 1, n} {
			w, e := h.Get(at, i)
			if w != 0 || e != api.ErrArg || h.Set(at, i, 1) != api.ErrArg {
				t.Errorf("of %d bytes, the field %d: %d, %d", n, i, w, e)
			}
		}
		if !slices.Equal(image(h), kept) || h.Close(behind+3) != api.OK {
			t.Errorf("%d bytes: what is refused changes the heap", n)
		}
	}
}

// P2.3: the last byte of the longest bytes.
func TestLongestBytes(t *testing.T) {
	h := open(t, api.MaxLen/8+1)
	at := made(t, h, text, api.MaxLen)
	if h.SetByte(at, api.MaxLen-1, 'z') != api.OK || h.SetByte(at, api.MaxLen, 'z') != api.ErrArg {
		t.Error("the last byte")
	}
	s, e := h.Text(at)
	if e != api.OK || len(s) != api.MaxLen || s[api.MaxLen-1] != 'z' || strings.Trim(s, "\x00") != "z" {
		t.Error(len(s), e)
	}
	if n, e := h.Len(at); n != api.MaxLen || e != api.OK {
		t.Error(n, e)
	}
}
