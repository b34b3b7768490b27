package word

// A head's lowest bit is 1, so that a collector can tell a head from a pointer that was threaded into its place.
const headBit = 1

// How wide a head's numbers are.
const (
	partBits = 20
	partMask = 1<<partBits - 1
)

// Where a head's parts begin.
const (
	shapeAt = 1 + partBits*iota
	lenAt
	markAt
	countAt = markAt + 1
)

// Head: P1.3.
func Head(shape, n int) uint64 {
	return with(with(headBit, shapeAt, shape), lenAt, n)
}

// Shape: P1.3.
func Shape(h uint64) int { return part(h, shapeAt) }

// Len: P1.3.
func Len(h uint64) int { return part(h, lenAt) }

// Mark: P1.3.
func Mark(h uint64, on bool) uint64 {
	if on {
		return h | 1<<markAt
	}
	return h &^ (1 << markAt)
}

// Marked: P1.3.
func Marked(h uint64) bool { return h>>markAt&1 == 1 }

// Turn: P1.3.
func Turn(h uint64, k int) uint64 { return with(h, countAt, k) }

// Turned: P1.3.
func Turned(h uint64) int { return part(h, countAt) }

// part is the number of a head that begins at a bit.
func part(h uint64, at int) int { return int(h >> at & partMask) }

// with is h with another number there; the mask takes n modulo 2^20, of a negative one too.
func with(h uint64, at, n int) uint64 {
	return h&^(partMask<<at) | uint64(n)&partMask<<at
}
