package defun

import "bellows/api"

// writer writes a program, when it is known which functions come to which places.
type writer struct {
	flow    *flow
	next    int
	written map[int]api.T     // types, by their numbers
	classes map[*place]*class // by the last ones of their places
	list    []*class
	funs    []api.FFun
}

func newWriter(f *flow) *writer {
	w := &writer{flow: f, next: f.next, written: map[int]api.T{}, classes: map[*place]*class{}}
	for _, fn := range f.made {
		fn.number = w.number()
	}
	for _, fn := range f.values {
		k := w.class(fn.at)
		k.funs = append(k.funs, fn)
	}
	return w
}

// number is a new one, which no variable, function, datatype or constructor has.
func (w *writer) number() int {
	w.next++
	return w.next - 1
}

func (w *writer) program(p *api.Prog) api.FProg {
	x := api.FProg{Main: w.core(&p.Main), Datas: each(p.Datas, w.dataAsWas)}
	for i := 0; i < len(w.list); i++ { // what is written of one may be of another that nothing was of ahead
		k := w.list[i]
		x.Datas = append(x.Datas, w.data(k))
		if k.called {
			w.funs = append(w.funs, w.caller(k))
		}
	}
	x.Funs = w.funs
	return x
}

// dataAsWas is a datatype of the program that is handed in.
func (w *writer) dataAsWas(d *api.Data) api.Data {
	return api.Data{Name: d.Name, Cons: each(d.Cons, func(c *api.DataCon) api.DataCon {
		if !c.Has {
			return api.DataCon{Name: c.Name}
		}
		return api.DataCon{Name: c.Name, Has: true, Arg: w.read(&c.Arg)}
	})}
}

func (w *writer) core(c *api.Core) api.Core {
	switch c.Kind {
	case api.KVar:
		if fn := w.flow.named[c.Id]; fn != nil {
			return w.value(fn)
		}
	case api.KFn:
		fn := w.flow.fns[c.Id]
		w.function(c, fn)
		return w.value(fn)
	case api.KFix:
		for i := range c.Funs {
			v := &c.Funs[i]
			w.function(&v.E, w.flow.named[v.Id])
		}
		return w.core(only(c.L))
	case api.KApp:
		if calls(c) {
			return w.app(c)
		}
	}
	return w.coreAsWas(c)
}

// coreAsWas is a core that stays what it is, but for what stands in it.
func (w *writer) coreAsWas(c *api.Core) api.Core {
	x := api.Core{Kind: c.Kind, Id: c.Id, Name: c.Name, N: c.N, T: w.typeOf(c)}
	switch c.Kind {
	case api.KVar:
		return x
	case api.KLet:
		x.Funs = each(c.Funs, w.let)
	case api.KCase:
		x.Ways = w.ways(c.Ways, w.flow.at(only(c.L)))
	case api.KHandle:
		x.L = []api.Core{w.handled(c)}
		x.Ways = w.ways(c.Ways, nil)
		return x
	}
	x.L = each(c.L, w.core)
	return x
}

func (w *writer) let(v *api.CoreFun) api.CoreFun {
	e := w.core(&v.E)
	return api.CoreFun{Id: v.Id, T: e.T, E: e}
}

// ways are held against what comes from a place.
func (w *writer) ways(l []api.Way, from *place) []api.Way {
	return each(l, func(x *api.Way) api.Way {
		return api.Way{P: w.pat(&x.P, from), E: w.core(&x.E)}
	})
}

func (w *writer) pat(p *api.CPat, from *place) api.CPat {
	x := api.CPat{Kind: p.Kind, Id: p.Id, Name: p.Name, N: p.N, T: w.typeAt(from, w.flow.read(&p.T))}
	x.L = each(p.L, func(q *api.CPat) api.CPat { return w.pat(q, nil) })
	return x
}

// app is a call of the function, if it is known which one, else of that of its class.
func (w *writer) app(c *api.Core) api.Core {
	of, with := &c.L[0], &c.L[1]
	x := api.Core{Kind: api.KCall, T: w.typeOf(c)}
	fn := w.flow.named[of.Id]
	if of.Kind == api.KVar && fn != nil {
		x.Id = fn.number
		x.L = w.variables(fn.knows)
	} else {
		x.Id = w.calling(w.class(w.flow.at(of)))
		x.L = []api.Core{w.core(of)}
	}
	x.L = append(x.L, w.core(with))
	return x
}

// value is what stands for a function where it isn't called.
func (w *writer) value(fn *function) api.Core {
	return api.Core{Kind: api.KCon, Name: fn.con(), T: w.class(fn.at).t, L: packed(w.variables(fn.knows), tuple)}
}

// function adds what is written for a KFn.
func (w *writer) function(c *api.Core, fn *function) {
	vars := append(w.variables(fn.knows), w.variable(c.Id))
	w.add(fn.number, vars, only(c.L))
}

// handled is a call of what a KHandle's L is.
func (w *writer) handled(c *api.Core) api.Core {
	number, vars := w.number(), w.variables(w.flow.known.of[c.Id])
	t := w.add(number, vars, only(c.L))
	return api.Core{Kind: api.KCall, Id: number, T: t, L: vars}
}

// add adds a function; it answers the type of what that answers.
func (w *writer) add(number int, vars []api.Core, body *api.Core) api.T {
	e := w.core(body)
	w.funs = append(w.funs, api.FFun{Id: number, Params: each(vars, param), Result: e.T, E: e})
	return e.T
}

// only is the one of a list.
func only(l []api.Core) *api.Core {
	if len(l) == 0 {
		return &api.Core{Kind: api.KTuple, T: api.T{Kind: api.XTup}}
	}
	return &l[0]
}

// variables are mentions of what must be known.
func (w *writer) variables(k *knowledge) []api.Core {
	return each(k.vars, func(id *int) api.Core { return w.variable(*id) })
}

func (w *writer) variable(id int) api.Core {
	v := w.flow.vars[id]
	return api.Core{Kind: api.KVar, Id: id, T: w.typeAt(v.at, v.typ)}
}

func (w *writer) typeOf(c *api.Core) api.T {
	return w.typeAt(w.flow.at(c), w.flow.read(&c.T))
}

// typeAt is the type of what comes to a place; of what is no function it is that with the number.
func (w *writer) typeAt(at *place, number int) api.T {
	if at != nil {
		return w.class(at).t
	}
	return w.typ(number)
}

// typ is the type with a number, of what is laid into something.
func (w *writer) typ(number int) api.T {
	if at := w.flow.held(number); at != nil {
		return w.class(at).t
	}
	t, is := w.written[number]
	if !is {
		x := &w.flow.all[number]
		t = api.T{Kind: x.kind, Name: x.name, L: each(x.parts, func(n *int) api.T { return w.typ(*n) })}
		w.written[number] = t
	}
	return t
}

func (w *writer) read(t *api.T) api.T { return w.typ(w.flow.read(t)) }
