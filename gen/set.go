package gen

import (
	"math/bits"

	"bellows/api"
)

// set is a set of slots: there are some more than a function may have, so that what is too much has its place, too.
type set [api.MaxSlots/64 + 1]uint64

func (s *set) add(slot int) { s[slot/64] |= 1 << (slot % 64) }

func (s *set) drop(slot int) { s[slot/64] &^= 1 << (slot % 64) }

func (s *set) has(slot int) bool { return s[slot/64]>>(slot%64)&1 == 1 }

func (s *set) addAll(of set) {
	for i := range s {
		s[i] |= of[i]
	}
}

// free is the first slot that isn't in a set.
func (s *set) free() int {
	i := 0
	for s[i] == 1<<64-1 {
		i++
	}
	return 64*i + bits.TrailingZeros64(^s[i])
}

// list are the slots, rising.
func (s *set) list() []int {
	var l []int
	for i, w := range s {
		for ; w != 0; w &= w - 1 {
			l = append(l, 64*i+bits.TrailingZeros64(w))
		}
	}
	return l
}

// live tells each instruction that collects which slots are needed behind it. It goes through the blocks till what each of them needs is what it needed the time before.
func live(blocks []api.Block) {
	needs := make([]set, len(blocks))
	for changed := true; changed; {
		changed = false
		for i := len(blocks) - 1; i >= 0; i-- {
			if now := needed(blocks[i].Code, needs); now != needs[i] {
				needs[i], changed = now, true
			}
		}
	}
}

// needed are the slots that are needed ahead of instructions.
func needed(l []api.Instr, needs []set) set {
	var now set
	for i := len(l) - 1; i >= 0; i-- {
		x := &l[i]
		if sets(x.Op) {
			now.drop(x.D)
		}
		leads(x, func(n int) int {
			there := needs[n]
			if x.Op == api.OpCall {
				there.drop(x.C)
			}
			now.addAll(there)
			return n
		})
		if collects(x.Op) {
			x.Live = now.list()
		}
		reads(x, func(slot int) int {
			now.add(slot)
			return slot
		})
	}
	return now
}
