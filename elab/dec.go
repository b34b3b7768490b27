package elab

import (
	"slices"

	"bellows/api"
)

// piece writes what a declaration is; what it answers lays that around the core of what stands behind.
type piece func(w *writer) func(rest api.Core) api.Core

func (c *checker) let(e *api.Exp) (*typ, part) {
	form(len(e.L) == 1)
	defer c.open()()
	var pieces []piece
	for i := range e.Decs {
		if p := c.dec(&e.Decs[i]); p != nil {
			pieces = append(pieces, p)
		}
	}
	t, x := c.exp(&e.L[0])
	return t, func(w *writer) api.Core {
		var around []func(api.Core) api.Core
		for _, p := range pieces {
			around = append(around, p(w))
		}
		core := x(w)
		for _, lay := range slices.Backward(around) {
			core = lay(core)
		}
		return core
	}
}

// dec is nil of what declares types and constructors alone.
func (c *checker) dec(d *api.Dec) piece {
	switch d.Kind {
	case api.DVal:
		if d.P.Kind == api.PVar {
			return c.valOfVar(d)
		}
		return c.valOfPat(d)
	case api.DFun:
		return c.funs(d)
	case api.DData:
		c.datatype(d)
		return nil
	case api.DExn:
		form(len(d.Cons) == 1)
		c.addCon(c.exns, &d.Cons[0], nil)
		return nil
	}
	panic(refused{api.ErrArg, 0})
}

func (c *checker) valOfVar(d *api.Dec) piece {
	t, gens, x := c.bindable(&d.E)
	v := c.newVariable(d.P.Name, t)
	v.gens = gens
	c.vars.add(v.name, v)
	return func(w *writer) func(api.Core) api.Core {
		f := w.bind(v, x)
		return func(rest api.Core) api.Core {
			return api.Core{Kind: api.KLet, T: rest.T, Funs: []api.CoreFun{f}, L: []api.Core{rest}}
		}
	}
}

// enter goes into a val or a fun. No text has more than MaxNest of them in one another; of many more the types would need more room than there is.
func (c *checker) enter() {
	form(c.level <= api.MaxNest)
	c.level++
}

// bindable is what a variable is to be, with the type variables that it is bound with.
func (c *checker) bindable(e *api.Exp) (*typ, []*typ, part) {
	if !value(e) {
		t, x := c.exp(e)
		return t, nil, x
	}
	c.enter()
	t, x := c.exp(e)
	c.level--
	return t, c.generalize(t), x
}

// value: may a variable that is this be bound with type variables of its own?
func value(e *api.Exp) bool {
	switch e.Kind {
	case api.EInt, api.EText, api.EVar, api.EFn, api.ECon:
		return true
	case api.EApp:
		return len(e.L) == 2 && e.L[0].Kind == api.ECon && value(&e.L[1])
	case api.ETuple:
		return values(e.L)
	}
	return false
}

func values(l []api.Exp) bool {
	for i := range l {
		if !value(&l[i]) {
			return false
		}
	}
	return true
}

func (c *checker) valOfPat(d *api.Dec) piece {
	t := c.variable()
	p, f := c.pattern(&d.P, t)
	c.limit(f.parts)
	from, x := c.exp(&d.E)
	c.same(t, from)
	c.addAll(f.vars)
	return func(w *writer) func(api.Core) api.Core {
		from, way := x(w), api.Way{P: p(w)}
		return func(rest api.Core) api.Core {
			way.E = rest
			return w.choice(from, []api.Way{way}, rest.T)
		}
	}
}

func (c *checker) funs(d *api.Dec) piece {
	c.enter()
	var vars []*variable
	for _, f := range d.Funs {
		v := c.newVariable(f.Name, c.variable())
		v.open = true
		vars = append(vars, v)
	}
	c.addAll(vars)
	parts := c.bodies(d.Funs, vars)
	c.level--
	for _, v := range vars {
		v.gens = c.generalize(v.t)
		v.open = false
	}
	return func(w *writer) func(api.Core) api.Core {
		var l []api.CoreFun
		for i, v := range vars {
			l = append(l, w.bind(v, parts[i]))
		}
		return func(rest api.Core) api.Core {
			return api.Core{Kind: api.KFix, T: rest.T, Funs: l, L: []api.Core{rest}}
		}
	}
}

func (c *checker) bodies(l []api.Fun, vars []*variable) []part {
	var parts []part
	there := map[string]int{}
	for i := range l {
		f := &l[i]
		once(there, f.Name, f.At)
		t, x := c.exp(&f.E)
		c.same(vars[i].t, t)
		parts = append(parts, x)
	}
	return parts
}

// once refuses a name that is there twice.
func once(there map[string]int, name string, at int) {
	there[name]++
	if there[name] > 1 {
		refuseName(at)
	}
}

func (c *checker) datatype(d *api.Dec) {
	params := map[string]*typ{}
	var vars []*typ
	for _, name := range d.Params {
		if params[name] != nil {
			refuseName(d.At)
		}
		v := newGeneric()
		params[name] = v
		vars = append(vars, v)
	}
	f := c.addFamily(d.Name, vars...)
	c.datas = append(c.datas, f)
	there := map[string]int{}
	for i := range d.Cons {
		once(there, d.Cons[i].Name, d.Cons[i].At)
		c.addCon(f, &d.Cons[i], params)
	}
}

func (c *checker) addAll(l []*variable) {
	for _, v := range l {
		c.vars.add(v.name, v)
	}
}
