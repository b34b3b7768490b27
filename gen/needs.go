package gen

import (
	"slices"

	"bellows/api"
)

// places are some of a function's.
type places struct {
	l  []int
	at []int // where each stands in l, and one more; 0: nowhere
}

func (s *places) has(p int) bool { return s.at[p] > 0 }

func (s *places) add(p int) {
	if !s.has(p) {
		s.l = append(s.l, p)
		s.at[p] = len(s.l)
	}
}

// drop lets the last one stand where p stood.
func (s *places) drop(p int) {
	if s.has(p) {
		end := s.l[len(s.l)-1]
		s.l[s.at[p]-1], s.at[end] = end, s.at[p]
		s.l, s.at[p] = s.l[:len(s.l)-1], 0
	}
}

// need finds what is needed ahead of each block, and where places are needed last. It goes from the end on, since all that a block leads to is begun behind it.
func (f *function) need() {
	now := &places{at: make([]int, len(f.places))}
	for i := len(f.begun) - 1; i >= 0; i-- {
		b := f.begun[i]
		for len(now.l) > 0 {
			now.drop(now.l[0])
		}
		for j := len(b.code) - 1; j >= 0; j-- {
			f.ahead(&b.code[j], now)
			if f.big = f.big || len(now.l) > api.MaxSlots; f.big {
				return
			}
		}
		b.needs = slices.Clone(now.l)
		for j, p := range b.sets {
			if now.has(p) {
				b.wants = append(b.wants, j)
			}
		}
	}
}

// ahead makes of what is needed behind a step what is needed ahead of it.
func (f *function) ahead(x *step, now *places) {
	if x.Op == api.OpJump {
		f.aheadOfJump(x, now)
		return
	}
	if sets(x.Op) {
		x.idle = !now.has(x.D)
		now.drop(x.D)
	}
	if x.Op == api.OpMove && x.idle {
		return
	}
	add := func(p int) int {
		if !now.has(p) {
			now.add(p)
			x.ends = append(x.ends, p)
		}
		return p
	}
	leads(&x.Instr, func(n int) int {
		for _, p := range f.blocks[n].needs {
			if x.Op != api.OpCall || p != x.C {
				add(p)
			}
		}
		return n
	})
	reads(&x.Instr, add)
}

// aheadOfJump leaves of a jump what is needed where it goes: what isn't needs no slot.
func (f *function) aheadOfJump(x *step, now *places) {
	b := f.blocks[x.A]
	for _, p := range b.needs {
		now.add(p)
	}
	var from, to []int
	for _, i := range b.wants {
		if i < len(x.L) {
			from, to = append(from, x.L[i]), append(to, b.sets[i])
			now.drop(b.sets[i])
		}
	}
	for _, p := range from {
		now.add(p)
	}
	x.L, x.M = from, to
}
