package word

import (
	"bytes"
	"math"
	"math/big"
	"testing"
)

// putAsTold is Put by the chapter's words, in whole numbers of any size.
func putAsTold(n int64) []byte {
	left := new(big.Int).Mul(big.NewInt(n), big.NewInt(2))
	if n < 0 {
		left.Neg(left)
		left.Sub(left, big.NewInt(1))
	}
	var b []byte
	group := new(big.Int)
	for {
		left.DivMod(left, big.NewInt(128), group)
		b = append(b, byte(group.Int64())+128)
		if left.Sign() == 0 {
			b[len(b)-1] -= 128
			return b
		}
	}
}

// ends is a row of n bytes that say that more follow, and one that doesn't.
func ends(n int, fill, last byte) []byte {
	return append(bytes.Repeat([]byte{fill | 128}, n), last)
}

// P1.4: Put.
func TestPut(t *testing.T) {
	for _, c := range []struct {
		n int64
		b []byte
	}{
		{0, []byte{0}}, {-1, []byte{1}}, {1, []byte{2}}, {-2, []byte{3}},
		{63, []byte{126}}, {-64, []byte{127}}, {64, []byte{0x80, 1}}, {-65, []byte{0x81, 1}},
		{8191, []byte{0xfe, 127}}, {-8192, []byte{0xff, 127}}, {8192, []byte{0x80, 0x80, 1}},
		{greatest, append([]byte{0xfe}, ends(7, 127, 127)...)},
		{least, append([]byte{0xff}, ends(7, 127, 127)...)},
		{greatest + 1, ends(9, 0, 1)},
		{math.MaxInt64, append([]byte{0xfe}, ends(8, 127, 1)...)},
		{math.MinInt64, ends(9, 127, 1)},
	} {
		if got := Put(c.n); !bytes.Equal(got, c.b) {
			t.Errorf("Put(%d) = % x, want % x", c.n, got, c.b)
		}
	}
	for _, n := range append(edges(), draws(20000)...) {
		if got, want := Put(n), putAsTold(n); !bytes.Equal(got, want) {
			t.Fatalf("Put(%d) = % x, want % x", n, got, want)
		}
	}
}

// Rule 4: an answer is new memory.
func TestPutIsNew(t *testing.T) {
	for _, n := range []int64{0, 64, math.MinInt64} {
		a, b := Put(n), Put(n)
		for i := range a {
			a[i] = ^a[i]
		}
		if !bytes.Equal(b, putAsTold(n)) || !bytes.Equal(Put(n), b) {
			t.Errorf("the bytes of %d are shared", n)
		}
	}
}

// P1.4: Get, where a number stands.
func TestGet(t *testing.T) {
	for _, c := range []struct {
		b  []byte
		at int
		n  int64
		to int
	}{
		{[]byte{0}, 0, 0, 1},
		{[]byte{1}, 0, -1, 1},
		{[]byte{0x80, 1}, 0, 64, 2},
		{[]byte{0x80, 1}, 1, -1, 2},
		{[]byte{0, 0}, 0, 0, 1},
		{[]byte{0, 0}, 1, 0, 2},
		{[]byte{5, 0x80, 1, 0x80}, 1, 64, 3},
		{ends(9, 0, 1), 0, 1 << 62, 10},
		{ends(9, 127, 1), 0, math.MinInt64, 10},
		{ends(8, 127, 127), 0, least, 9},
		{append(ends(9, 0, 1), 0x80), 0, 1 << 62, 10},
	} {
		if n, to, ok := Get(c.b, c.at); n != c.n || to != c.to || !ok {
			t.Errorf("Get(% x, %d) = %d, %d, %v, want %d, %d", c.b, c.at, n, to, ok, c.n, c.to)
		}
	}
}

// P1.4: Get, where none stands.
func TestGetNone(t *testing.T) {
	for _, c := range []struct {
		why string
		b   []byte
		at  int
	}{
		{"no bytes", nil, 0},
		{"no bytes", []byte{}, 0},
		{"no bytes, below 0", nil, -1},
		{"below 0", []byte{0, 0}, -1},
		{"far below 0", []byte{0, 0}, math.MinInt},
		{"at the end", []byte{0, 0}, 2},
		{"behind the end", []byte{0, 0}, 3},
		{"far behind the end", []byte{0, 0}, math.MaxInt},
		{"in spare room", append(make([]byte, 0, 8), 0, 0)[:1], 1},
		{"bytes wanting", []byte{0x80}, 0},
		{"bytes wanting", []byte{1, 0xff, 0xff}, 1},
		{"bytes wanting, nine there", ends(9, 0, 1)[:9], 0},
		{"bytes wanting, ten there", ends(10, 0, 1)[:10], 0},
		{"bytes wanting, spare room behind", append(make([]byte, 0, 8), 0x80, 1)[:1], 0},
		{"a last group of 0", []byte{0x80, 0}, 0},
		{"a last group of 0", []byte{0xff, 0}, 0},
		{"a last group of 0", ends(8, 127, 0), 0},
		{"a last group of 0, the tenth", ends(9, 127, 0), 0},
		{"65 bits", ends(9, 0, 2), 0},
		{"65 bits", ends(9, 127, 3), 0},
		{"70 bits", ends(9, 127, 127), 0},
		{"eleven groups", ends(10, 0, 1), 0},
		{"eleven groups", ends(10, 127, 1), 0},
		{"eleven groups, the last one 0", ends(10, 0, 0), 0},
		{"very many groups", ends(1000, 0, 1), 0},
	} {
		if n, to, ok := Get(c.b, c.at); n != 0 || to != 0 || ok {
			t.Errorf("%s: Get(% x, %d) = %d, %d, %v", c.why, c.b, c.at, n, to, ok)
		}
	}
}

// P1.8: what is put is got, whatever stands around it, and is not changed.
func TestPutGet(t *testing.T) {
	for _, n := range append(edges(), draws(20000)...) {
		p := Put(n)
		b := append(append([]byte{0x80, 0xff, 0x80}, p...), 0xff, 0)
		kept := bytes.Clone(b)
		if got, to, ok := Get(b, 3); got != n || to != 3+len(p) || !ok {
			t.Fatalf("Get of Put(%d) = %d, %d, %v", n, got, to, ok)
		}
		if !bytes.Equal(b, kept) {
			t.Fatalf("Get changed % x to % x", kept, b)
		}
		for i := range p {
			if got, to, ok := Get(p[:i], 0); got != 0 || to != 0 || ok {
				t.Fatalf("a beginning of Put(%d) is got: %d, %d", n, got, to)
			}
		}
	}
}

// P1.8: no two numbers are put alike.
func TestPutApart(t *testing.T) {
	seen := map[string]int64{}
	look := func(n int64) {
		b := string(Put(n))
		if o, ok := seen[b]; ok && o != n {
			t.Fatalf("%d and %d are put alike", o, n)
		}
		seen[b] = n
	}
	for n := int64(-70000); n <= 70000; n++ {
		look(n)
	}
	for _, n := range append(edges(), draws(20000)...) {
		look(n)
	}
}

// getAsTold is Get at 0 by the chapter's words: the number whose bytes these would be, if they are.
func getAsTold(b []byte) (int64, int, bool) {
	n, scale := new(big.Int), big.NewInt(1)
	for i, c := range b {
		n.Add(n, new(big.Int).Mul(scale, big.NewInt(int64(c%128))))
		scale.Lsh(scale, 7)
		if c >= 128 {
			continue
		}
		half, odd := new(big.Int).DivMod(n, big.NewInt(2), new(big.Int))
		if odd.Sign() != 0 {
			half.Not(half)
		}
		if !half.IsInt64() || !bytes.Equal(putAsTold(half.Int64()), b[:i+1]) {
			return 0, 0, false
		}
		return half.Int64(), i + 1, true
	}
	return 0, 0, false
}

// P1.4, P1.8: of any bytes Get finds the number of which they are Put, and no other.
func TestGetAnyBytes(t *testing.T) {
	look := func(b []byte) {
		n, to, ok := Get(b, 0)
		if wantN, wantTo, want := getAsTold(b); n != wantN || to != wantTo || ok != want {
			t.Fatalf("Get(% x) = %d, %d, %v, want %d, %d, %v", b, n, to, ok, wantN, wantTo, want)
		}
		if ok && !bytes.Equal(Put(n), b[:to]) {
			t.Fatalf("Get(% x) = %d, which is put as % x", b, n, Put(n))
		}
	}
	for i := range 1 << 16 {
		for _, last := range []byte{0, 1, 127, 128} {
			look([]byte{byte(i), byte(i >> 8), last})
		}
	}
	for _, fill := range []byte{0, 1, 64, 127} {
		for n := range 13 {
			for last := range 256 {
				look(ends(n, fill, byte(last)))
			}
		}
	}
}

// P5: Put and Get end, and none panics, at all arguments.
func TestBytesEnd(t *testing.T) {
	for _, n := range append(edges(), draws(1000)...) {
		b := Put(n)
		for _, at := range edges() {
			Get(b, int(at))
			Get(nil, int(at))
		}
	}
}
