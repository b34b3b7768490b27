package flat

import "bellows/api"

// writer writes cores as flat expressions.
type writer struct {
	standing
	next int         // no variable has this number, or a greater one
	lets map[int]int // the types of variables that are bound by an LLet, in one function
	most [2]int      // how much may be written of any ways, and how much where it isn't written twice
}

// number is a new one, for a variable or a label.
func (w *writer) number() int {
	w.next++
	return w.next - 1
}

func (w *writer) function(f *api.FFun) api.FlatFun {
	params := each(f.Params, func(p *api.Param) api.Slot { return api.Slot{Id: p.Id, Ty: w.of(&p.T)} })
	return api.FlatFun{Id: f.Id, Params: params, Result: w.of(&f.Result), E: w.body(&f.E)}
}

// body is what a function does.
func (w *writer) body(e *api.Core) api.Flat {
	w.lets = map[int]int{}
	return w.core(e)
}

func (w *writer) core(c *api.Core) api.Flat {
	switch c.Kind {
	case api.KInt:
		return number(c.N)
	case api.KText:
		return api.Flat{Kind: api.LText, Name: c.Name, Ty: texts}
	case api.KVar:
		return w.variable(c)
	case api.KCon:
		return w.con(c)
	case api.KCase:
		return w.cased(c)
	case api.KLet:
		return w.let(c)
	case api.KTuple:
		return w.tuple(c)
	case api.KRaise:
		return api.Flat{Kind: api.LRaise, Ty: w.of(&c.T), L: each(c.L, w.core)}
	case api.KHandle:
		return w.handle(c)
	case api.KPrim:
		return w.prim(c)
	case api.KCall:
		return api.Flat{Kind: api.LCall, Id: c.Id, Ty: w.of(&c.T), L: each(c.L, w.core)}
	}
	return number(0) // what no program has that Defun answers
}

func number(n int64) api.Flat { return api.Flat{Kind: api.LInt, N: n, Ty: numbers} }

func variable(id, ty int) api.Flat { return api.Flat{Kind: api.LVar, Id: id, Ty: ty} }

// let is e, bound to a variable, and then what is done with it.
func let(id int, e, then api.Flat) api.Flat {
	return api.Flat{Kind: api.LLet, Id: id, Ty: then.Ty, L: []api.Flat{e, then}}
}

// only is the one of a list.
func only(l []api.Core) *api.Core {
	if len(l) == 0 {
		return &api.Core{Kind: api.KTuple, T: api.T{Kind: api.XTup}}
	}
	return &l[0]
}

// variable has the type of what was bound by an LLet, which may be less than what the variable's type in the program says.
func (w *writer) variable(c *api.Core) api.Flat {
	ty, is := w.lets[c.Id]
	if !is {
		ty = w.of(&c.T)
	}
	return variable(c.Id, ty)
}

func (w *writer) let(c *api.Core) api.Flat {
	var es []api.Flat
	for i := range c.Funs {
		e := w.core(&c.Funs[i].E)
		w.lets[c.Funs[i].Id] = e.Ty
		es = append(es, e)
	}
	then := w.core(only(c.L))
	for i := len(es) - 1; i >= 0; i-- {
		then = let(c.Funs[i].Id, es[i], then)
	}
	return then
}

func (w *writer) tuple(c *api.Core) api.Flat {
	if len(c.L) == 0 {
		return number(0)
	}
	return w.made(api.LNew, w.of(&c.T), each(c.L, w.core))
}

// made is a new object of the one shape of a type.
func (w *writer) made(kind, ty int, l []api.Flat) api.Flat {
	return api.Flat{Kind: kind, N: int64(w.shapeOf(ty)), Ty: ty, L: l}
}

// shapeOf is the shape of a type that has one.
func (w *writer) shapeOf(ty int) int {
	if l := w.types[ty].Shapes; len(l) > 0 {
		return l[0]
	}
	return bytes
}

func (w *writer) con(c *api.Core) api.Flat {
	k := w.cons[c.Name]
	switch {
	case k == nil || !k.has || len(c.L) == 0:
		return number(order(k))
	case k.of.through:
		return w.core(&c.L[0])
	case !isTuple(k.arg):
		return w.made(api.LNew, w.onlyOf(k.n), each(c.L, w.core))
	case c.L[0].Kind == api.KTuple:
		return w.made(api.LNew, w.onlyOf(k.n), each(c.L[0].L, w.core))
	}
	return w.again(k, w.core(&c.L[0]))
}

// order is the number of a constructor that has nothing.
func order(k *con) int64 {
	if k == nil || k.has {
		return 0
	}
	return int64(k.n)
}

// again is a constructor's Record of the parts of a tuple, which stands by itself.
func (w *writer) again(k *con, e api.Flat) api.Flat {
	id := w.number()
	var l []api.Flat
	for i, ty := range w.shapes[k.n].Fields {
		l = append(l, field(i, ty, variable(id, e.Ty)))
	}
	return let(id, e, w.made(api.LNew, w.onlyOf(k.n), l))
}

func field(n, ty int, of api.Flat) api.Flat {
	return api.Flat{Kind: api.LField, N: int64(n), Ty: ty, L: []api.Flat{of}}
}

func (w *writer) prim(c *api.Core) api.Flat {
	l := each(c.L, w.core)
	ty := w.of(&c.T)
	switch c.Name {
	case "ref":
		return w.made(api.LNew, ty, l)
	case "array":
		return w.made(api.LArray, ty, l)
	case "!":
		return api.Flat{Kind: api.LField, Ty: ty, L: l}
	case ":=":
		return api.Flat{Kind: api.LSet, Ty: ty, L: l}
	case "~":
		return api.Flat{Kind: api.LPrim, Name: "-", Ty: ty, L: append([]api.Flat{number(0)}, l...)}
	}
	return api.Flat{Kind: api.LPrim, Name: c.Name, Ty: ty, L: l}
}
