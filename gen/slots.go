package gen

import (
	"slices"

	"bellows/api"
)

// settled are the blocks of the image: places get slots in the order in which they are set. So a slot more is begun only where all that there are are needed.
func (f *function) settled(params []int) []api.Block {
	blocks := make([]api.Block, len(f.begun))
	for i, b := range f.begun {
		if blocks[i].Code = f.code(b); f.big {
			return nil
		}
	}
	for i, b := range f.begun {
		blocks[i].In = f.in(b)
	}
	copy(blocks[0].In, params)
	live(blocks)
	return blocks
}

// in are the types of slots ahead of a block.
func (f *function) in(b *block) []int {
	in := slices.Repeat([]int{none}, f.slots)
	slots := map[int]int{}
	for _, p := range b.needs {
		slots[p] = f.slot(p)
		in[slots[p]] = f.places[p].ty
	}
	for k := b.facts; k != nil; k = k.outer {
		slot, is := slots[k.place]
		switch {
		case is && k.shape == none:
			in[slot] = numbers
		case is:
			in[slot] = f.aloneOf(k.shape)
		}
	}
	return in
}

// code are a block's instructions, of slots.
func (f *function) code(b *block) []api.Instr {
	var l []api.Instr
	taken := f.taken(b.needs)
	for i := range b.code {
		x := &b.code[i]
		if x.Op == api.OpJump {
			l = f.moves(l, x, taken)
		}
		if x.Op != api.OpMove || !x.idle {
			l = f.instr(l, x, &taken)
		}
	}
	return l
}

// taken are the slots of places.
func (f *function) taken(l []int) set {
	var s set
	for _, p := range l {
		if slot := f.places[p].slot; slot != none {
			s.add(slot)
		}
	}
	return s
}

func (f *function) slot(p int) int { return f.places[p].slot }

// use needs a slot.
func (f *function) use(slot int) int {
	f.slots = max(f.slots, slot+1)
	return slot
}

// instr writes a step, if it isn't a move of a slot to itself. What it reads and isn't needed any more gives its slot to what it sets.
func (f *function) instr(l []api.Instr, x *step, taken *set) []api.Instr {
	y := x.Instr
	reads(&y, f.slot)
	for _, p := range x.ends {
		if slot := f.slot(p); slot != none {
			taken.drop(slot)
		}
	}
	if sets(y.Op) {
		y.D = f.target(x, &y, taken)
	}
	if y.Op == api.OpCall && y.B != none {
		y.C = f.caught(x)
	}
	if y.Op == api.OpMove && y.D == y.A {
		return l
	}
	leads(&y, func(n int) int { return f.blocks[n].behind })
	return append(l, y)
}

// target is the slot for what a step sets: of a move best the one that is read.
func (f *function) target(x *step, y *api.Instr, taken *set) int {
	if x.idle {
		return f.use(taken.free())
	}
	var best []int
	if y.Op == api.OpMove {
		best = []int{y.A}
	}
	p := &f.places[x.D]
	if p.of != nil {
		f.settle(p.of, best)
	} else {
		p.slot = f.use(chosen(taken, best))
	}
	taken.add(p.slot)
	return p.slot
}

// chosen is a slot that isn't taken, best the first one of some.
func chosen(taken *set, best []int) int {
	if len(best) > 0 && !taken.has(best[0]) {
		return best[0]
	}
	return taken.free()
}

// settle gives slots to what all that lead to a block set, if that isn't done: it must be in the same ones everywhere.
func (f *function) settle(b *block, best []int) {
	taken := f.taken(b.needs)
	for i, n := range b.wants {
		if p := &f.places[b.sets[n]]; p.slot == none {
			p.slot = f.use(chosen(&taken, best[min(i, len(best)):]))
			taken.add(p.slot)
		}
	}
}

// caught is the slot for what is thrown in a call, which may be any that isn't needed where it is handled, if it isn't needed there itself.
func (f *function) caught(x *step) int {
	b := f.blocks[x.B]
	f.settle(b, nil)
	if slot := f.slot(x.C); slot != none {
		return slot
	}
	taken := f.taken(b.needs)
	return f.use(taken.free())
}

// moves writes the moves of a jump.
func (f *function) moves(l []api.Instr, x *step, taken set) []api.Instr {
	from := each(x.L, func(p *int) int { return f.slot(*p) })
	f.settle(f.blocks[x.A], from)
	to := each(x.M, func(p *int) int { return f.slot(*p) })
	for _, slot := range to {
		taken.add(slot)
	}
	x.L, x.M = nil, nil
	moves := Moves(from, to, taken.free())
	f.count(len(moves))
	for _, m := range moves {
		l = append(l, api.Instr{Op: api.OpMove, D: f.use(m[1]), A: m[0]})
	}
	return l
}
