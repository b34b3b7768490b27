package gen

import "bellows/api"

// goal is what happens with the value of an expression.
type goal struct {
	answer bool   // it is the function's answer
	place  int    // else: where it will be
	then   *block // where it goes on then; nil: behind
}

// put writes what works an expression out.
func (f *function) put(e *api.Flat, g goal) {
	if f.now == nil || f.big {
		return
	}
	switch e.Kind {
	case api.LVar:
		f.variable(e, g)
	case api.LLet:
		f.let(e, g)
	case api.LSwitch, api.LHandle, api.LJoin:
		f.fork(e, g)
	case api.LCall:
		f.call(f.number(e.Id), f.values(e.L), g)
	case api.LRaise:
		f.end(api.Instr{Op: api.OpRaise, A: f.value(part(e.L, 0))})
	case api.LJump:
		f.jump(e, g)
	default:
		f.made(e, g)
	}
}

// part is one of a list; the number 0, if there is none.
func part(l []api.Flat, i int) *api.Flat {
	if i >= len(l) {
		return &api.Flat{Kind: api.LInt}
	}
	return &l[i]
}

// number is that of a function in the image.
func (w *writer) number(id int) int {
	n, is := w.funs[id]
	if !is {
		return none
	}
	return n
}

// value is the place of an expression's value.
func (f *function) value(e *api.Flat) int {
	if e.Kind == api.LVar {
		return f.known(e.Id)
	}
	p := f.place(e.Ty)
	f.put(e, goal{place: p})
	return p
}

// known is the place of a variable; of none, that of a number.
func (f *function) known(id int) int {
	p, is := f.vars[id]
	if !is {
		p = f.constant(0)
	}
	return p
}

func (f *function) values(l []api.Flat) []int { return each(l, f.value) }

// constant is the place of a number.
func (f *function) constant(n int64) int {
	p := f.place(numbers)
	f.add(api.Instr{Op: api.OpConst, D: p, N: n})
	return p
}

// into is the place for a value.
func (f *function) into(ty int, g goal) int {
	if g.answer {
		return f.place(ty)
	}
	return g.place
}

// done is what happens when a value is at its place, or the answer where it is.
func (f *function) done(place int, g goal) {
	switch {
	case g.answer:
		f.end(api.Instr{Op: api.OpReturn, A: place})
	case g.then != nil:
		f.end(api.Instr{Op: api.OpJump, A: g.then.number})
	}
}

func (f *function) variable(e *api.Flat, g goal) {
	p := f.known(e.Id)
	if !g.answer {
		f.add(api.Instr{Op: api.OpMove, D: g.place, A: p})
	}
	f.done(p, g)
}

func (f *function) let(e *api.Flat, g goal) {
	of := part(e.L, 0)
	p := f.place(of.Ty)
	f.put(of, goal{place: p})
	f.within([]api.Slot{{Id: e.Id}}, []int{p}, part(e.L, 1), g)
}

// within writes an expression in which variables are known, and are no more behind it.
func (f *function) within(l []api.Slot, places []int, e *api.Flat, g goal) {
	outer := each(l, func(v *api.Slot) int {
		p, is := f.vars[v.Id]
		if !is {
			p = none
		}
		return p
	})
	for i, v := range l {
		f.vars[v.Id] = places[i]
	}
	f.put(e, g)
	for i, v := range l {
		if f.vars[v.Id] = outer[i]; outer[i] == none {
			delete(f.vars, v.Id)
		}
	}
}

// call leaves the function, where the answer is its own.
func (f *function) call(number int, l []int, g goal) {
	if g.answer {
		f.end(api.Instr{Op: api.OpTail, A: number, L: l})
		return
	}
	f.add(api.Instr{Op: api.OpCall, D: g.place, A: number, B: none, L: l})
	f.done(g.place, g)
}
