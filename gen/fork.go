package gen

import (
	"slices"

	"bellows/api"
)

// fork writes what may be done in more ways than one, all of which go on at one block.
func (f *function) fork(e *api.Flat, g goal) {
	if !g.answer && g.then == nil {
		then := f.block(g.place)
		f.fork(e, goal{place: g.place, then: then})
		f.begin(then)
		return
	}
	switch e.Kind {
	case api.LSwitch:
		f.choose(e, g)
	case api.LHandle:
		f.handle(e, g)
	case api.LJoin:
		f.join(e, g)
	}
}

// way is one of an OpSwitch: what is known there, and what is done.
type way struct {
	block *block
	known fact
	e     *api.Flat
}

// choose leaves out ways for what the variable's type doesn't have. Where there is no way for other numbers there are none, so that the last number's may be theirs.
func (f *function) choose(e *api.Flat, g goal) {
	x := api.Instr{Op: api.OpSwitch, A: f.value(part(e.L, 0)), B: none}
	var ways []way
	add := func(shape int, e *api.Flat) int {
		b := f.block()
		ways = append(ways, way{b, fact{place: x.A, shape: shape}, e})
		return b.number
	}
	t := f.typeOf(x.A)
	for i := range e.Nums {
		if t.Imm {
			x.B = add(none, &e.Nums[i].E)
			x.L = append(x.L, int(e.Nums[i].N), x.B)
		}
	}
	for i := range e.Shapes {
		if shape := int(e.Shapes[i].N); slices.Contains(t.Shapes, shape) {
			x.M = append(x.M, shape, add(shape, &e.Shapes[i].E))
		}
	}
	if t.Imm && len(e.L) > 1 {
		x.B = add(none, &e.L[1])
	}
	f.end(x)
	for i := range ways {
		f.way(&ways[i], g)
	}
}

func (f *function) way(w *way, g goal) {
	outer := f.facts
	w.known.outer = outer
	f.facts = &w.known
	f.begin(w.block)
	f.put(w.e, g)
	f.facts = outer
}

func (f *function) handle(e *api.Flat, g goal) {
	call := part(e.L, 0)
	if call.Kind != api.LCall { // what no program has that Flatten answers
		f.put(call, g)
		return
	}
	l := f.values(call.L)
	thrown := f.place(f.m.Exn)
	b := f.block(thrown)
	d := f.into(call.Ty, g)
	f.add(api.Instr{Op: api.OpCall, D: d, A: f.number(call.Id), B: b.number, C: thrown, L: l})
	f.done(d, g)
	f.begin(b)
	f.within([]api.Slot{{Id: e.Id}}, []int{thrown}, part(e.L, 1), g)
}

// join writes what the label does last, since then it is known whether anything comes there.
func (f *function) join(e *api.Flat, g goal) {
	params := each(e.Params, func(v *api.Slot) int { return f.place(v.Ty) })
	b := f.block(params...)
	outer := f.labels[e.Id]
	f.labels[e.Id] = b
	f.put(part(e.L, 1), g)
	f.labels[e.Id] = outer
	f.begin(b)
	f.within(e.Params, params, part(e.L, 0), g)
}

// jump goes to a label that is known.
func (f *function) jump(e *api.Flat, g goal) {
	b := f.labels[e.Id]
	if b == nil {
		f.made(&api.Flat{Kind: api.LInt}, g)
		return
	}
	l := f.values(e.L)
	for len(l) < len(b.sets) {
		l = append(l, f.constant(0))
	}
	f.end(api.Instr{Op: api.OpJump, A: b.number, L: l})
}
