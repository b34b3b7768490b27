package elab

import "bellows/api"

// signature is what a reckoning is of, and what it gives, with generic variables.
type signature struct {
	name string
	gens []*typ
	of   []*typ
	to   *typ
}

// reckonings: P9.3.
func (c *checker) reckonings() map[string]*signature {
	a := newGeneric()
	cell, row := named("ref", a), named("array", a)
	l := map[string]*signature{}
	add := func(name string, to *typ, of ...*typ) {
		s := &signature{name: name, of: of, to: to}
		if to.level == generic || tuple(of...).level == generic {
			s.gens = []*typ{a}
		}
		l[name] = s
	}
	for _, name := range []string{"+", "-", "*", "div", "mod"} {
		add(name, c.num, c.num, c.num)
	}
	for _, name := range []string{"<", "<=", ">", ">=", "=", "<>"} {
		add(name, c.truth, c.num, c.num)
	}
	add("^", c.text, c.text, c.text)
	add("~", c.num, c.num)
	add(":=", c.unit, cell, a)
	add("!", a, cell)
	add("print", c.unit, c.text)
	add("putc", c.unit, c.num)
	add("getc", c.num)
	add("size", c.num, c.text)
	add("byte", c.num, c.text, c.num)
	add("cmp", c.num, c.text, c.text)
	add("ref", cell, a)
	add("array", row, c.num, a)
	add("length", c.num, row)
	add("sub", a, row, c.num)
	add("update", c.unit, row, c.num, a)
	return l
}

// sign is a reckoning that is written with a sign.
func (c *checker) sign(e *api.Exp) (*typ, part) {
	s := c.prims[e.Name]
	form(s != nil && len(s.of) == len(e.L))
	return c.prim(s, e.L)
}

// prim is a reckoning of as many as it needs.
func (c *checker) prim(s *signature, l []api.Exp) (*typ, part) {
	_, with := c.anew(s.gens)
	types, parts := c.each(l)
	for i, t := range types {
		c.same(with(s.of[i]), t)
	}
	return primOf(s, with(s.to), parts)
}

func primOf(s *signature, to *typ, parts []part) (*typ, part) {
	return to, func(w *writer) api.Core {
		return api.Core{Kind: api.KPrim, Name: s.name, T: w.t(to), L: w.each(parts)}
	}
}

// primCalled is a reckoning that is called like a function.
func (c *checker) primCalled(s *signature, x *api.Exp) (*typ, part) {
	if x.Kind == api.ETuple && len(x.L) == len(s.of) {
		return c.prim(s, x.L)
	}
	return c.primOfOne(s)(c.exp(x))
}

// primOfOne makes a reckoning of one expression, whatever that is.
func (c *checker) primOfOne(s *signature) func(*typ, part) (*typ, part) {
	return func(t *typ, x part) (*typ, part) {
		_, with := c.anew(s.gens)
		if len(s.of) == 1 {
			c.same(with(s.of[0]), t)
			return primOf(s, with(s.to), []part{x})
		}
		return c.primOfTuple(s, with, t, x)
	}
}

// primOfTuple takes x apart for a reckoning.
func (c *checker) primOfTuple(s *signature, with func(*typ) *typ, t *typ, x part) (*typ, part) {
	var types []*typ
	var vars []patPart
	var parts []part
	for _, p := range s.of {
		v := c.newVariable("", with(p))
		_, mentioned := c.mention(v)
		types, vars, parts = append(types, v.t), append(vars, v.bound), append(parts, mentioned)
	}
	c.same(tuple(types...), t)
	to, body := primOf(s, with(s.to), parts)
	return to, func(w *writer) api.Core {
		p := api.CPat{Kind: api.PTuple, T: w.t(t), L: w.pats(vars)}
		return w.choice(x(w), []api.Way{{P: p, E: body(w)}}, w.t(to))
	}
}
