package elab

import "bellows/api"

// checker goes over a program once, in the order of its text. A name that isn't known ends it; other errors are noted, since names are asked first.
type checker struct {
	vars      table[variable]
	cons      table[constructor]
	types     table[family]
	typeNames map[string]int // how many types of a name there were
	conNames  map[string]int
	datas     []*family // in the order of Datas
	exns      *family

	num, text, unit, truth, exn *typ
	prims                       map[string]*signature

	level int // in how many vals and funs
	walk  int // which walk over a type this is
	ids   int // how many variables there are
	noted api.Errno
}

// variable is one that is bound: its number, its type, the variables in this that are its own; or a reckoning's name.
type variable struct {
	name string
	id   int
	t    *typ
	gens []*typ
	open bool // within its own declaration, where it is as it is
	prim *signature
}

// part writes a core, when all types are known.
type part func(w *writer) api.Core

func newChecker() *checker {
	c := &checker{
		vars: newTable[variable](), cons: newTable[constructor](), types: newTable[family](),
		typeNames: map[string]int{}, conNames: map[string]int{}, level: 1,
	}
	c.begin()
	return c
}

func refuseName(at int) { panic(refused{api.ErrScope, at}) }

// form refuses what no text is read as.
func form(is bool) {
	if !is {
		panic(refused{api.ErrArg, 0})
	}
}

// note keeps an error for when all names are known; of two the one that is told first.
func (c *checker) note(err api.Errno) {
	if c.noted != api.ErrBig {
		c.noted = err
	}
}

func (c *checker) id() int {
	c.ids++
	return c.ids - 1
}

func (c *checker) newVariable(name string, t *typ) *variable {
	return &variable{name: name, id: c.id(), t: t}
}

func (c *checker) program(e *api.Exp) api.Prog {
	_, main := c.exp(e)
	if c.noted != api.OK {
		panic(refused{c.noted, 0})
	}
	datas := c.written()
	return api.Prog{Datas: datas, Main: main(newWriter(datas))}
}

func (c *checker) exp(e *api.Exp) (*typ, part) {
	switch e.Kind {
	case api.EInt:
		return constant(c.num, api.Core{Kind: api.KInt, N: e.N})
	case api.EText:
		return constant(c.text, api.Core{Kind: api.KText, Name: e.Name})
	case api.EVar:
		return c.mention(known(&c.vars, e.Name, e.At))
	case api.ECon:
		return c.construct(known(&c.cons, e.Name, e.At))
	case api.EApp:
		return c.app(e)
	case api.EFn:
		return c.fn(e)
	case api.ECase:
		return c.cases(e)
	case api.ELet:
		return c.let(e)
	case api.ETuple:
		return c.tuple(e)
	case api.ERaise:
		return c.raise(e)
	case api.EHandle:
		return c.handle(e)
	case api.EPrim:
		return c.sign(e)
	}
	panic(refused{api.ErrArg, 0})
}

func constant(t *typ, core api.Core) (*typ, part) {
	return t, func(w *writer) api.Core {
		core.T = w.t(t)
		return core
	}
}

// mention is a variable that isn't called.
func (c *checker) mention(v *variable) (*typ, part) {
	if v.prim != nil {
		return c.function(c.primOfOne(v.prim))
	}
	if v.open {
		return v.t, func(w *writer) api.Core {
			return api.Core{Kind: api.KVar, Id: v.id, T: w.t(v.t), Inst: w.ts(v.gens)}
		}
	}
	inst, with := c.anew(v.gens)
	t := with(v.t)
	return t, func(w *writer) api.Core {
		return api.Core{Kind: api.KVar, Id: v.id, T: w.t(t), Inst: w.ts(inst)}
	}
}

// function is a KFn of what is made of its variable.
func (c *checker) function(of func(t *typ, x part) (*typ, part)) (*typ, part) {
	v := c.newVariable("", c.variable())
	to, body := of(c.mention(v))
	t := arrow(v.t, to)
	return t, func(w *writer) api.Core {
		return api.Core{Kind: api.KFn, Id: v.id, T: w.t(t), L: []api.Core{body(w)}}
	}
}

func (c *checker) app(e *api.Exp) (*typ, part) {
	form(len(e.L) == 2)
	f, x := &e.L[0], &e.L[1]
	switch f.Kind {
	case api.ECon:
		if k := known(&c.cons, f.Name, f.At); k.has {
			return c.constructOf(k)(c.exp(x))
		}
	case api.EVar:
		if v := known(&c.vars, f.Name, f.At); v.prim != nil {
			return c.primCalled(v.prim, x)
		}
	}
	of, called := c.exp(f)
	from, with := c.exp(x)
	to := c.answer(of, from)
	return to, func(w *writer) api.Core {
		return api.Core{Kind: api.KApp, T: w.t(to), L: []api.Core{called(w), with(w)}}
	}
}

// answer is the type of what a function of the type f answers. (That it is no variable, if f is known, keeps long types from being walked again and again.)
func (c *checker) answer(f, from *typ) *typ {
	if f = f.last(); f.kind == api.XFun {
		c.same(f.args[0], from)
		return f.args[1]
	}
	to := c.variable()
	c.same(f, arrow(from, to))
	return to
}

func (c *checker) fn(e *api.Exp) (*typ, part) {
	return c.function(func(from *typ, x part) (*typ, part) {
		return c.choice(from, x, e.Cases)
	})
}

func (c *checker) cases(e *api.Exp) (*typ, part) {
	form(len(e.L) == 1)
	from, x := c.exp(&e.L[0])
	return c.choice(from, x, e.Cases)
}

// choice is a KCase of x.
func (c *checker) choice(from *typ, x part, l []api.Case) (*typ, part) {
	to, ways := c.ways(l, from, nil)
	return to, func(w *writer) api.Core {
		return w.choice(x(w), ways(w), w.t(to))
	}
}

func (c *checker) tuple(e *api.Exp) (*typ, part) {
	types, parts := c.each(e.L)
	t := tuple(types...)
	return t, func(w *writer) api.Core {
		return api.Core{Kind: api.KTuple, T: w.t(t), L: w.each(parts)}
	}
}

func (c *checker) each(l []api.Exp) ([]*typ, []part) {
	var types []*typ
	var parts []part
	for i := range l {
		t, p := c.exp(&l[i])
		types, parts = append(types, t), append(parts, p)
	}
	return types, parts
}

func (c *checker) raise(e *api.Exp) (*typ, part) {
	form(len(e.L) == 1)
	thrown, x := c.exp(&e.L[0])
	c.same(c.exn, thrown)
	t := c.variable()
	return t, func(w *writer) api.Core {
		return api.Core{Kind: api.KRaise, T: w.t(t), L: []api.Core{x(w)}}
	}
}

func (c *checker) handle(e *api.Exp) (*typ, part) {
	form(len(e.L) == 1)
	t, x := c.exp(&e.L[0])
	id := c.id()
	_, ways := c.ways(e.Cases, c.exn, t)
	return t, func(w *writer) api.Core {
		return api.Core{Kind: api.KHandle, Id: id, T: w.t(t), L: []api.Core{x(w)}, Ways: ways(w)}
	}
}
