package word

// A number's bytes are groups of seven bits; the eighth bit says that there are more.
const (
	groupBits = 7
	groupMask = 1<<groupBits - 1
	more      = 1 << groupBits
	maxGroups = 10                                  // that 64 bits may need
	lastMost  = 1<<(64-groupBits*(maxGroups-1)) - 1 // the greatest that the last of so many may be
)

// Put: P1.4.
func Put(n int64) []byte {
	var b []byte
	left := fold(n)
	for left > groupMask {
		b = append(b, byte(left&groupMask|more))
		left >>= groupBits
	}
	return append(b, byte(left))
}

// Get: P1.4.
func Get(b []byte, at int) (int64, int, bool) {
	if at < 0 || at >= len(b) {
		return 0, 0, false
	}
	var folded uint64
	for i := range min(maxGroups, len(b)-at) {
		c := b[at+i]
		folded |= uint64(c&groupMask) << (groupBits * i)
		if c&more != 0 {
			continue
		}
		if !mayEnd(i, c) {
			return 0, 0, false
		}
		return unfold(folded), at + i + 1, true
	}
	return 0, 0, false
}

// mayEnd keeps each number to one row of bytes: the shortest, and of 64 bits.
func mayEnd(i int, c byte) bool {
	if i > 0 && c == 0 {
		return false
	}
	return i < maxGroups-1 || c <= lastMost
}

// fold lays negative numbers between the others, so that small ones of both signs take few bytes.
func fold(n int64) uint64 { return uint64(n)<<1 ^ uint64(n>>63) }

func unfold(u uint64) int64 { return int64(u>>1) ^ -int64(u&1) }
