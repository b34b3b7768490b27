package gen

import (
	"slices"

	"bellows/api"
)

// maker makes flat programs up that have right types, of more forms than texts give: jumps that turn values round, switches, handles and joins in all places.
type maker struct {
	chance
	p      api.FlatProg
	vars   []api.Slot
	labels []api.Flat // joins, to which may be jumped where the maker is
	self   int        // the function that is made
	next   int
	left   int
}

// The maker's types: numbers, texts, then these.
const (
	exns = iota + 2
	lists
	pairs
	cells
	datas5
	arrays
	alones // of shapes alone, from here on
)

// layoutOf are types and shapes; some shapes have no type of them alone, and aren't made.
func (g *maker) layout() {
	g.p = api.FlatProg{Exn: exns, Names: []string{"Match", "Div", "Subscript", "Size"}}
	g.p.Types = []api.Type{{Imm: true}, {Shapes: []int{0}}, {Imm: true, Shapes: []int{1}}, {Imm: true, Shapes: []int{2}}, {Shapes: []int{3}}, {Shapes: []int{4}}, {Imm: true, Shapes: []int{5, 6}}, {Shapes: []int{7}}}
	record := func(name string, fields ...int) api.Shape {
		return api.Shape{Kind: api.Record, Fields: fields, Name: name}
	}
	g.p.Shapes = []api.Shape{{Kind: api.Bytes}, record("T", texts), record("", numbers, lists), record("", lists, numbers), record("", datas5), record("", numbers, pairs), record("", texts), {Kind: api.Array, Fields: []int{datas5}}}
	for _, shape := range []int{1, 2, 5, 6} {
		if g.below(4) > 0 {
			g.p.Types = append(g.p.Types, api.Type{Shapes: []int{shape}})
		}
	}
}

// alone is the type of a shape alone, and whether there is one.
func (g *maker) alone(shape int) (int, bool) {
	n := slices.IndexFunc(g.p.Types, func(t api.Type) bool { return !t.Imm && slices.Equal(t.Shapes, []int{shape}) })
	return n, n >= 0
}

func (g *maker) sub(a, b int) bool {
	s, t := g.p.Types[a], g.p.Types[b]
	return (t.Imm || !s.Imm) && !slices.ContainsFunc(s.Shapes, func(n int) bool { return !slices.Contains(t.Shapes, n) })
}

func (g *maker) id() int {
	g.next++
	return g.next
}

func (g *maker) typ() int { return g.below(alones) }

func (g *maker) slot() api.Slot { return api.Slot{Id: g.id(), Ty: g.typ()} }

func (g *maker) slots(n int) []api.Slot {
	l := make([]api.Slot, n)
	for i := range l {
		l[i] = g.slot()
	}
	return l
}

// program is one of a few functions, of which each calls those behind it, and the last one itself.
func (g *maker) program() api.FlatProg {
	g.layout()
	g.next = 0
	for i := range 1 + g.below(4) {
		g.p.Funs = append(g.p.Funs, api.FlatFun{Id: 7 + 3*i, Params: append([]api.Slot{{Id: g.id()}}, g.slots(g.below(6))...), Result: g.typ()})
	}
	for i := range g.p.Funs {
		f := &g.p.Funs[i]
		g.self, g.vars, g.labels, g.left = i, slices.Clone(f.Params), nil, 30+g.below(100)
		first := f.Params[0]
		f.E = g.exp(f.Result, 6)
		if i == len(g.p.Funs)-1 {
			f.E = api.Flat{Kind: api.LSwitch, Ty: f.Result, L: []api.Flat{variable(first.Id, numbers), f.E}, Nums: []api.Arm{{N: 0, E: g.simple(f.Result)}}}
		}
	}
	g.self, g.vars, g.labels, g.left = -1, nil, nil, 100
	g.p.Main = g.exp(g.typ(), 7)
	return g.p
}

// vary is a variable of a type, "" if there is none.
func (g *maker) vary(ty int) (api.Flat, bool) {
	var l []api.Slot
	for _, v := range g.vars {
		if g.sub(v.Ty, ty) {
			l = append(l, v)
		}
	}
	if len(l) == 0 {
		return api.Flat{}, false
	}
	v := l[g.below(len(l))]
	return variable(v.Id, v.Ty), true
}

// simple is a value that is made of little.
func (g *maker) simple(ty int) api.Flat {
	if v, is := g.vary(ty); is && g.below(5) > 0 {
		return v
	}
	switch t := g.p.Types[ty]; {
	case t.Imm:
		return number(int64(g.below(4)))
	case ty == texts:
		return api.Flat{Kind: api.LText, Ty: texts, Name: oneOf(&g.chance, "", "a", "bc", "some more")}
	case ty == arrays:
		return api.Flat{Kind: api.LArray, Ty: arrays, N: 7, L: []api.Flat{number(int64(g.below(4) - g.below(2))), g.simple(datas5)}}
	default:
		return g.record(t.Shapes[0], ty, g.simple)
	}
}

func (g *maker) record(shape, ty int, part func(ty int) api.Flat) api.Flat {
	e := api.Flat{Kind: api.LNew, Ty: ty, N: int64(shape)}
	for _, f := range g.p.Shapes[shape].Fields {
		e.L = append(e.L, part(f))
	}
	return e
}

// apart is what is made where nothing that is made around it is left without being worked out.
func (g *maker) apart(do func() api.Flat) api.Flat {
	labels := g.labels
	g.labels = nil
	e := do()
	g.labels = labels
	return e
}

// part is made up as a part of another expression.
func (g *maker) part(depth int) func(ty int) api.Flat {
	return func(ty int) api.Flat { return g.apart(func() api.Flat { return g.exp(ty, depth-1) }) }
}

// within is what is made with more variables.
func (g *maker) within(l []api.Slot, do func() api.Flat) api.Flat {
	n := len(g.vars)
	g.vars = append(g.vars, l...)
	e := do()
	g.vars = g.vars[:n]
	return e
}

// exp makes an expression of a type up.
func (g *maker) exp(ty, depth int) api.Flat {
	if g.left--; depth <= 0 || g.left < 0 {
		return g.simple(ty)
	}
	part := g.part(depth)
	switch g.below(16) {
	case 0, 1, 2:
		v := api.Slot{Id: g.id()}
		of := part(g.typ())
		v.Ty = of.Ty
		return let(v.Id, of, g.within([]api.Slot{v}, func() api.Flat { return g.exp(ty, depth-1) }))
	case 3, 4, 5:
		return g.branch(ty, depth)
	case 6, 7:
		return g.join(ty, depth)
	case 8, 9, 10:
		if len(g.labels) > 0 {
			return g.jump(ty, depth)
		}
	case 11:
		return g.handle(ty, depth)
	case 12:
		if e, is := g.call(ty, depth); is {
			return e
		}
	case 13:
		if g.below(3) == 0 {
			return api.Flat{Kind: api.LRaise, Ty: ty, L: []api.Flat{part(exns)}}
		}
	}
	return g.value(ty, depth)
}

func (g *maker) branch(ty, depth int) api.Flat {
	of := oneOf(&g.chance, numbers, lists, datas5, exns, pairs)
	v, is := g.vary(of)
	if !is {
		id := g.id()
		e := g.part(depth)(of)
		return let(id, e, g.branchOn(variable(id, e.Ty), ty, depth))
	}
	return g.branchOn(v, ty, depth)
}

func (g *maker) branchOn(v api.Flat, ty, depth int) api.Flat {
	e := api.Flat{Kind: api.LSwitch, Ty: ty, L: []api.Flat{v}}
	t := g.p.Types[v.Ty]
	if t.Imm {
		for n := range 4 {
			if g.below(3) == 0 {
				e.Nums = append(e.Nums, api.Arm{N: int64(n), E: g.exp(ty, depth-1)})
			}
		}
		e.L = append(e.L, g.exp(ty, depth-1))
	}
	for _, shape := range t.Shapes {
		e.Shapes = append(e.Shapes, api.Arm{N: int64(shape), E: g.arm(v.Id, shape, ty, depth)})
	}
	return e
}

// arm is what is done where the variable is of one shape alone, if there is a type of it.
func (g *maker) arm(id, shape, ty, depth int) api.Flat {
	n, is := g.alone(shape)
	if !is {
		return g.exp(ty, depth-1)
	}
	all := g.vars
	g.vars = slices.Clone(all)
	for i := range g.vars {
		if g.vars[i].Id == id {
			g.vars[i].Ty = n
		}
	}
	if !slices.ContainsFunc(all, func(v api.Slot) bool { return v.Id == id }) {
		g.vars = append(g.vars, api.Slot{Id: id, Ty: n})
	}
	e := g.exp(ty, depth-1)
	if fields := g.p.Shapes[shape].Fields; g.below(2) == 0 {
		i := g.below(len(fields))
		v := api.Slot{Id: g.id(), Ty: fields[i]}
		of := api.Flat{Kind: api.LField, N: int64(i), Ty: v.Ty, L: []api.Flat{variable(id, n)}}
		e = let(v.Id, of, g.within([]api.Slot{v}, func() api.Flat { return g.exp(ty, depth-1) }))
	}
	g.vars = all
	return e
}

func (g *maker) join(ty, depth int) api.Flat {
	e := api.Flat{Kind: api.LJoin, Id: g.id(), Ty: ty, Params: g.slots(g.below(5))}
	if g.below(2) == 0 && len(e.Params) > 0 { // several of one type, which may go round
		for i := range e.Params {
			e.Params[i].Ty = e.Params[0].Ty
		}
	}
	there := g.within(e.Params, func() api.Flat { return g.exp(ty, depth-1) })
	n := len(g.labels)
	g.labels = append(g.labels, e)
	ahead := g.exp(ty, depth-1)
	g.labels = g.labels[:n]
	e.L = []api.Flat{there, ahead}
	return e
}

func (g *maker) jump(ty, depth int) api.Flat {
	to := g.labels[g.below(len(g.labels))]
	e := api.Flat{Kind: api.LJump, Id: to.Id, Ty: ty}
	for _, p := range to.Params {
		v, is := g.vary(p.Ty)
		if !is || g.below(6) == 0 {
			v = g.part(depth - 1)(p.Ty)
		}
		e.L = append(e.L, v)
	}
	return e
}

// call calls a function behind this one; the last one itself, with less.
func (g *maker) call(ty, depth int) (api.Flat, bool) {
	for range 5 {
		i := g.below(len(g.p.Funs))
		f := &g.p.Funs[i]
		self := i == g.self && i == len(g.p.Funs)-1
		if i <= g.self && !self || !g.sub(f.Result, ty) {
			continue
		}
		e := api.Flat{Kind: api.LCall, Id: f.Id, Ty: f.Result}
		for j, p := range f.Params {
			switch {
			case j == 0 && self:
				e.L = append(e.L, prim("-", variable(p.Id, numbers), number(1)))
			case j == 0:
				e.L = append(e.L, number(int64(g.below(4))))
			default:
				e.L = append(e.L, g.part(depth-1)(p.Ty))
			}
		}
		return e, true
	}
	return api.Flat{}, false
}

func (g *maker) handle(ty, depth int) api.Flat {
	call, is := g.call(ty, depth)
	if !is {
		return g.value(ty, depth)
	}
	v := api.Slot{Id: g.id(), Ty: exns}
	return api.Flat{Kind: api.LHandle, Id: v.Id, Ty: ty, L: []api.Flat{call, g.within([]api.Slot{v}, func() api.Flat { return g.exp(ty, depth-1) })}}
}

// value is an expression of the type's own kinds.
func (g *maker) value(ty, depth int) api.Flat {
	part := g.part(depth)
	field := func(n, ty, of int) api.Flat {
		return api.Flat{Kind: api.LField, N: int64(n), Ty: ty, L: []api.Flat{part(of)}}
	}
	t := g.p.Types[ty]
	if len(t.Shapes) > 0 && ty != texts && ty != arrays && g.below(2) == 0 {
		shape := oneOf(&g.chance, t.Shapes...)
		if n, is := g.alone(shape); is {
			return g.record(shape, n, part)
		}
	}
	switch {
	case ty == numbers:
		return g.number(depth)
	case ty == texts && g.below(2) == 0:
		e := prim("^", part(texts), part(texts))
		e.Ty = texts
		return e
	case ty == lists:
		return field(0, lists, pairs)
	case ty == datas5 && g.below(2) == 0:
		return field(0, datas5, cells)
	case ty == datas5:
		e := prim("sub", part(arrays), part(numbers))
		e.Ty = datas5
		return e
	case ty == arrays:
		return api.Flat{Kind: api.LArray, Ty: arrays, N: 7, L: []api.Flat{part(numbers), part(datas5)}}
	}
	return g.simple(ty)
}

// number is an expression that is one, or one that does something.
func (g *maker) number(depth int) api.Flat {
	part := g.part(depth)
	n := func() api.Flat { return part(numbers) }
	switch g.below(20) {
	case 0:
		return prim("size", part(texts))
	case 1:
		return prim("length", part(arrays))
	case 2:
		return prim("byte", part(texts), n())
	case 3:
		return prim("cmp", part(texts), part(texts))
	case 4:
		return prim("getc")
	case 5:
		return prim("print", part(texts))
	case 6, 7:
		return prim("putc", n())
	case 8:
		return prim("update", part(arrays), n(), part(datas5))
	case 9:
		return api.Flat{Kind: api.LSet, Ty: numbers, L: []api.Flat{part(cells), part(datas5)}}
	case 10:
		return api.Flat{Kind: api.LSet, Ty: numbers, N: 1, L: []api.Flat{part(pairs), n()}}
	case 11, 12:
		return number(int64(g.below(5)))
	}
	return prim(oneOf(&g.chance, "+", "-", "*", "div", "mod", "<", "<=", ">", ">=", "=", "<>"), n(), n())
}

func number(n int64) api.Flat { return api.Flat{Kind: api.LInt, N: n, Ty: numbers} }

func variable(id, ty int) api.Flat { return api.Flat{Kind: api.LVar, Id: id, Ty: ty} }

func prim(name string, l ...api.Flat) api.Flat {
	return api.Flat{Kind: api.LPrim, Name: name, Ty: numbers, L: l}
}

// let is e, bound to a variable, and then what is done with it.
func let(id int, e, then api.Flat) api.Flat {
	return api.Flat{Kind: api.LLet, Id: id, Ty: then.Ty, L: []api.Flat{e, then}}
}
