// Package word is layer 1: numbers of 63 bits, words and heads of objects, and numbers as bytes (see shared/doc/01-word.md).
package word

import "bellows/api"

// Wrap: P1.1. Bit 62 is the sign of a number of 63 bits: what stands above it is pushed out, and made anew from it.
func Wrap(n int64) int64 { return n << 1 >> 1 }

// Add: P1.1.
func Add(a, b int64) int64 { return always(api.Add, a, b) }

// Sub: P1.1.
func Sub(a, b int64) int64 { return always(api.Sub, a, b) }

// Mul: P1.1.
func Mul(a, b int64) int64 { return always(api.Mul, a, b) }

// Div: P1.1.
func Div(a, b int64) (int64, bool) { return reckon(api.Div, a, b) }

// Mod: P1.1.
func Mod(a, b int64) (int64, bool) { return reckon(api.Mod, a, b) }

// always is for the reckonings that have an answer of any two numbers.
func always(kind int, a, b int64) int64 {
	n, _ := reckon(kind, a, b)
	return n
}

// reckon lets sums, differences and products wrap round in int64: that changes them by multiples of 2^64, which Wrap takes no notice of.
func reckon(kind int, a, b int64) (int64, bool) {
	switch kind {
	case api.Add:
		return Wrap(a + b), true
	case api.Sub:
		return Wrap(a - b), true
	case api.Mul:
		return Wrap(a * b), true
	case api.Div:
		q, _, ok := divide(a, b)
		return Wrap(q), ok
	case api.Mod:
		_, r, ok := divide(a, b)
		return Wrap(r), ok
	}
	return 0, false
}

// divide rounds down, where Go rounds towards 0.
func divide(a, b int64) (q, r int64, ok bool) {
	if b == 0 {
		return 0, 0, false
	}
	q, r = a/b, a%b
	if r != 0 && r < 0 != (b < 0) {
		q, r = q-1, r+b
	}
	return q, r, true
}

// Imm: P1.2. The shift pushes out what Wrap would.
func Imm(n int64) uint64 { return uint64(n)<<1 | 1 }

// Int: P1.2. The lowest bit is not looked at, so a pointer answers as the word above it does.
func Int(w uint64) int64 { return int64(w) >> 1 }

// IsImm: P1.2.
func IsImm(w uint64) bool { return w&1 == 1 }

// Ptr: P1.2.
func Ptr(at int) uint64 { return uint64(at) << 1 }

// At: P1.2.
func At(w uint64) int { return int(w >> 1) }
