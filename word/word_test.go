package word

import (
	"math"
	"math/big"
	"math/bits"
	"testing"
)

// The least and the greatest number of 63 bits.
const (
	least    = -1 << 62
	greatest = 1<<62 - 1
)

// edges are the numbers beside which reckonings go wrong: 0, the ends of 63 and of 64 bits, powers of two between, and a few of no shape.
func edges() []int64 {
	var l []int64
	for _, n := range []int64{0, least, greatest, math.MinInt64, math.MaxInt64, 1 << 31, -1 << 31, 1 << 32, 1 << 61, -1 << 61, 3037000500, 0x123456789abcdef, -0x7edcba987654321} {
		for d := int64(-2); d <= 2; d++ {
			l = append(l, n+d)
		}
	}
	return append(l, 7, -7, 10, -10, 63, 64, -64, -65)
}

// draws are numbers of all lengths, the same in each run.
func draws(count int) []int64 {
	seed := uint64(1)
	next := func() uint64 {
		seed = seed*6364136223846793005 + 1442695040888963407
		return bits.RotateLeft64(seed, 27) ^ seed>>17
	}
	l := make([]int64, count)
	for i := range l {
		l[i] = int64(next()) >> (next() % 64)
	}
	return l
}

// pairs calls f with any two of the edges, and with draws.
func pairs(f func(a, b int64)) {
	for _, a := range edges() {
		for _, b := range edges() {
			f(a, b)
		}
	}
	l := draws(20000)
	for i := 1; i < len(l); i++ {
		f(l[i-1], l[i])
	}
}

// wrapped is what Wrap should answer of a whole number of any size, by its definition.
func wrapped(n *big.Int) int64 {
	ring := new(big.Int).Lsh(big.NewInt(1), 63)
	r := new(big.Int).Mod(n, ring)
	if r.Cmp(big.NewInt(greatest)) > 0 {
		r.Sub(r, ring)
	}
	return r.Int64()
}

// floored is the greatest whole number that is not above a divided by b, and what is left.
func floored(a, b int64) (q, r *big.Int) {
	y := big.NewInt(b)
	q, r = new(big.Int).DivMod(big.NewInt(a), y, new(big.Int)) // Euclid's: r is never below 0
	if b < 0 && r.Sign() > 0 {
		q.Sub(q, big.NewInt(1))
		r.Add(r, y)
	}
	return q, r
}

// P1.1: Wrap.
func TestWrap(t *testing.T) {
	want := func(n, w int64) {
		t.Helper()
		if got := Wrap(n); got != w {
			t.Errorf("Wrap(%d) = %d, want %d", n, got, w)
		}
	}
	want(0, 0)
	want(-1, -1)
	want(greatest, greatest)
	want(greatest+1, least)
	want(greatest+2, least+1)
	want(least, least)
	want(least-1, greatest)
	want(least-2, greatest-1)
	want(math.MaxInt64, -1)
	want(math.MaxInt64-1, -2)
	want(math.MinInt64, 0)
	want(math.MinInt64+1, 1)
	for _, n := range append(edges(), draws(20000)...) {
		want(n, wrapped(big.NewInt(n)))
	}
}

// P1.1: Add, Sub, Mul.
func TestSumDifferenceProduct(t *testing.T) {
	if got := Mul(1<<61, 2); got != least {
		t.Errorf("Mul(2^61, 2) = %d", got)
	}
	if Add(greatest, 1) != least || Sub(least, 1) != greatest || Mul(least, -1) != least {
		t.Error("the ends of the numbers don't meet")
	}
	pairs(func(a, b int64) {
		x, y := big.NewInt(a), big.NewInt(b)
		if got, want := Add(a, b), wrapped(new(big.Int).Add(x, y)); got != want {
			t.Fatalf("Add(%d, %d) = %d, want %d", a, b, got, want)
		}
		if got, want := Sub(a, b), wrapped(new(big.Int).Sub(x, y)); got != want {
			t.Fatalf("Sub(%d, %d) = %d, want %d", a, b, got, want)
		}
		if got, want := Mul(a, b), wrapped(new(big.Int).Mul(x, y)); got != want {
			t.Fatalf("Mul(%d, %d) = %d, want %d", a, b, got, want)
		}
	})
}

// P1.1: Div, Mod.
func TestDivMod(t *testing.T) {
	for _, c := range []struct{ a, b, q, r int64 }{
		{7, 2, 3, 1}, {-7, 2, -4, 1}, {7, -2, -4, -1}, {-7, -2, 3, -1},
		{6, 2, 3, 0}, {-6, 2, -3, 0}, {6, -2, -3, 0}, {-6, -2, 3, 0},
		{0, 5, 0, 0}, {0, -5, 0, 0}, {1, 5, 0, 1}, {-1, 5, -1, 4}, {1, -5, -1, -4}, {-1, -5, 0, -1},
		{least, -1, least, 0}, {least, 1, least, 0}, {greatest, -1, -greatest, 0},
		{math.MinInt64, -1, 0, 0}, {math.MinInt64, 1, 0, 0}, {math.MaxInt64, 1, -1, 0},
		{math.MaxInt64, math.MinInt64, -1, -1}, {math.MinInt64, math.MaxInt64, -2, -2},
	} {
		if q, ok := Div(c.a, c.b); q != c.q || !ok {
			t.Errorf("Div(%d, %d) = %d, %v, want %d", c.a, c.b, q, ok, c.q)
		}
		if r, ok := Mod(c.a, c.b); r != c.r || !ok {
			t.Errorf("Mod(%d, %d) = %d, %v, want %d", c.a, c.b, r, ok, c.r)
		}
	}
	pairs(func(a, b int64) {
		if b == 0 {
			return
		}
		wantQ, wantR := floored(a, b)
		if q, ok := Div(a, b); q != wrapped(wantQ) || !ok {
			t.Fatalf("Div(%d, %d) = %d, %v, want %v", a, b, q, ok, wantQ)
		}
		if r, ok := Mod(a, b); r != wrapped(wantR) || !ok {
			t.Fatalf("Mod(%d, %d) = %d, %v, want %v", a, b, r, ok, wantR)
		}
	})
}

// P1.1: by 0 nothing is divided.
func TestDivModByZero(t *testing.T) {
	for _, a := range append(edges(), draws(100)...) {
		if q, ok := Div(a, 0); q != 0 || ok {
			t.Errorf("Div(%d, 0) = %d, %v", a, q, ok)
		}
		if r, ok := Mod(a, 0); r != 0 || ok {
			t.Errorf("Mod(%d, 0) = %d, %v", a, r, ok)
		}
	}
}

// P1.2: Imm, Int, IsImm.
func TestImmediates(t *testing.T) {
	for _, c := range []struct {
		n int64
		w uint64
	}{
		{0, 1}, {1, 3}, {5, 11}, {-1, math.MaxUint64}, {-2, math.MaxUint64 - 2},
		{greatest, math.MaxInt64}, {least, 1<<63 | 1},
		{greatest + 1, 1<<63 | 1}, {least - 1, math.MaxInt64},
		{math.MaxInt64, math.MaxUint64}, {math.MinInt64, 1},
	} {
		if got := Imm(c.n); got != c.w {
			t.Errorf("Imm(%d) = %#x, want %#x", c.n, got, c.w)
		}
	}
	for _, n := range append(edges(), draws(20000)...) {
		w := Imm(n)
		if want := 2*uint64(wrapped(big.NewInt(n))) + 1; w != want {
			t.Fatalf("Imm(%d) = %#x, want %#x", n, w, want)
		}
		if Int(w) != Wrap(n) || !IsImm(w) {
			t.Fatalf("Int(Imm(%d)) = %d, IsImm %v", n, Int(w), IsImm(w))
		}
	}
}

// P1.2: any word is an immediate or a pointer; Int of a pointer is that of the word above it.
func TestAnyWord(t *testing.T) {
	for _, n := range append(edges(), draws(20000)...) {
		w := uint64(n)
		if got := IsImm(w); got != (w%2 == 1) {
			t.Fatalf("IsImm(%#x) = %v", w, got)
		}
		odd := w
		if w%2 == 0 {
			odd = w + 1
		}
		if got := Int(w); Imm(got) != odd || got != Wrap(got) {
			t.Fatalf("Int(%#x) = %d", w, got)
		}
		if got := At(w); got < 0 || uint64(got) != w/2 {
			t.Fatalf("At(%#x) = %d", w, got)
		}
	}
	if Int(0) != 0 || Int(10) != 5 || Int(1<<63) != least || Int(math.MaxUint64-1) != -1 {
		t.Error("Int of a pointer", Int(0), Int(10), Int(1<<63), Int(math.MaxUint64-1))
	}
}

// P1.2: Ptr, At.
func TestPointers(t *testing.T) {
	for _, c := range []struct {
		at   int
		w    uint64
		back int
	}{
		{0, 0, 0}, {1, 2, 1}, {3, 6, 3}, {1 << 16, 1 << 17, 1 << 16},
		{1 << 62, 1 << 63, 1 << 62},
		{math.MaxInt, math.MaxUint64 - 1, math.MaxInt},
		{-1, math.MaxUint64 - 1, math.MaxInt},
		{math.MinInt, 0, 0},
	} {
		w := Ptr(c.at)
		if w != c.w || IsImm(w) || At(w) != c.back {
			t.Errorf("Ptr(%d) = %#x, IsImm %v, At %d", c.at, w, IsImm(w), At(w))
		}
	}
	if At(math.MaxUint64) != math.MaxInt || At(1) != 0 || At(7) != 3 {
		t.Error("At doesn't round down", At(math.MaxUint64), At(1), At(7))
	}
}

// P1.5: sums, differences and products are those of a ring.
func TestRing(t *testing.T) {
	same := func(law string, x, y int64) {
		t.Helper()
		if x != y {
			t.Fatalf("%s: %d is not %d", law, x, y)
		}
	}
	triple := func(a, b, c int64) {
		same("a + b, b + a", Add(a, b), Add(b, a))
		same("a b, b a", Mul(a, b), Mul(b, a))
		same("(a + b) + c, a + (b + c)", Add(Add(a, b), c), Add(a, Add(b, c)))
		same("(a b) c, a (b c)", Mul(Mul(a, b), c), Mul(a, Mul(b, c)))
		same("a (b + c), a b + a c", Mul(a, Add(b, c)), Add(Mul(a, b), Mul(a, c)))
		same("a (b - c), a b - a c", Mul(a, Sub(b, c)), Sub(Mul(a, b), Mul(a, c)))
		same("a - b, a + -b", Sub(a, b), Add(a, Sub(0, b)))
		same("(a - b) + b, a", Add(Sub(a, b), b), Wrap(a))
		same("a + 0, a", Add(a, 0), Wrap(a))
		same("1 a, a", Mul(1, a), Wrap(a))
		same("a - a, 0", Sub(a, a), 0)
	}
	l := edges()
	for _, a := range l {
		for _, b := range l {
			for _, c := range l {
				triple(a, b, c)
			}
		}
	}
	d := draws(20000)
	for i := 2; i < len(d); i++ {
		triple(d[i-2], d[i-1], d[i])
	}
}

// P1.6: Div times b and Mod are a; Mod has b's sign, and is nearer to 0 than b.
func TestDivTimesAndMod(t *testing.T) {
	pairs(func(a, b int64) {
		if b == 0 {
			return
		}
		q, _ := Div(a, b)
		r, _ := Mod(a, b)
		if Add(Mul(q, b), r) != Wrap(a) {
			t.Fatalf("%d times %d and %d are not %d", q, b, r, a)
		}
		a, b = Wrap(a), Wrap(b)
		if b == 0 {
			return
		}
		r, _ = Mod(a, b)
		if b > 0 && (r < 0 || r >= b) || b < 0 && (r > 0 || r <= b) {
			t.Fatalf("Mod(%d, %d) = %d", a, b, r)
		}
	})
}

// P5: every call ends, and none panics, at all arguments.
func TestNumbersAndWordsEnd(t *testing.T) {
	pairs(func(a, b int64) {
		Wrap(a)
		Add(a, b)
		Sub(a, b)
		Mul(a, b)
		Div(a, b)
		Mod(a, b)
		Imm(a)
		Int(uint64(a))
		IsImm(uint64(a))
		Ptr(int(a))
		At(uint64(a))
	})
}

// The shapes of the calls are those of the chapter.
var (
	_ func(int64) int64                    = Wrap
	_ func(int64, int64) int64             = Add
	_ func(int64, int64) int64             = Sub
	_ func(int64, int64) int64             = Mul
	_ func(int64, int64) (int64, bool)     = Div
	_ func(int64, int64) (int64, bool)     = Mod
	_ func(int64) uint64                   = Imm
	_ func(uint64) int64                   = Int
	_ func(uint64) bool                    = IsImm
	_ func(int) uint64                     = Ptr
	_ func(uint64) int                     = At
	_ func(int, int) uint64                = Head
	_ func(uint64) int                     = Shape
	_ func(uint64) int                     = Len
	_ func(uint64, bool) uint64            = Mark
	_ func(uint64) bool                    = Marked
	_ func(uint64, int) uint64             = Turn
	_ func(uint64) int                     = Turned
	_ func(int64) []byte                   = Put
	_ func([]byte, int) (int64, int, bool) = Get
)
