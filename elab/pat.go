package elab

import "bellows/api"

// mostParts is how many parts the patterns of one fn, case, handle or val may have.
const mostParts = 150

// patPart writes a pattern, when all types are known.
type patPart func(w *writer) api.CPat

// found is what is found in a pattern: its variables, and how many parts it has.
type found struct {
	vars  []*variable
	there map[string]int
	parts int
}

// limit notes that there are too many parts.
func (c *checker) limit(parts int) {
	if parts > mostParts {
		c.note(api.ErrBig)
	}
}

// ways are those of one fn, case or handle, whose patterns are all of from, whose expressions all of to: of the first one's type, if that is nil.
func (c *checker) ways(l []api.Case, from, to *typ) (*typ, func(w *writer) []api.Way) {
	n := 0
	var ways []func(w *writer) api.Way
	for i := range l {
		t, way, parts := c.way(&l[i], from)
		if to == nil {
			to = t
		}
		c.same(to, t)
		ways = append(ways, way)
		n += parts
	}
	form(to != nil)
	c.limit(n)
	return to, func(w *writer) []api.Way {
		var done []api.Way
		for _, way := range ways {
			done = append(done, way(w))
		}
		return done
	}
}

func (c *checker) way(k *api.Case, from *typ) (*typ, func(w *writer) api.Way, int) {
	defer c.open()()
	p, f := c.pattern(&k.P, from)
	c.addAll(f.vars)
	t, x := c.exp(&k.E)
	return t, func(w *writer) api.Way { return api.Way{P: p(w), E: x(w)} }, f.parts
}

// pattern is a whole one, of the type t. Its variables aren't known yet.
func (c *checker) pattern(p *api.Pat, t *typ) (patPart, *found) {
	f := &found{there: map[string]int{}}
	return c.pat(p, t, f), f
}

func (c *checker) pat(p *api.Pat, t *typ, f *found) patPart {
	f.parts++
	switch p.Kind {
	case api.PAny:
		return func(w *writer) api.CPat { return api.CPat{Kind: api.PAny, T: w.t(t)} }
	case api.PVar:
		once(f.there, p.Name, p.At)
		v := c.newVariable(p.Name, t)
		f.vars = append(f.vars, v)
		return v.bound
	case api.PInt:
		c.same(c.num, t)
		return func(w *writer) api.CPat { return api.CPat{Kind: api.PInt, N: p.N, T: w.t(t)} }
	case api.PCon:
		return c.conPat(p, t, f)
	case api.PTuple:
		return c.tuplePat(p, t, f)
	}
	panic(refused{api.ErrArg, 0})
}

// bound is the pattern of a variable.
func (v *variable) bound(w *writer) api.CPat {
	return api.CPat{Kind: api.PVar, Id: v.id, T: w.t(v.t)}
}

func (c *checker) conPat(p *api.Pat, t *typ, f *found) patPart {
	k := known(&c.cons, p.Name, p.At)
	form(len(p.L) < 2)
	_, with := c.anew(k.of.vars)
	c.same(with(k.of.t), t)
	arg := c.variable()
	if k.has {
		arg = with(k.arg)
	}
	if k.has != (len(p.L) == 1) {
		c.note(api.ErrType)
	}
	var parts []patPart
	for i := range p.L {
		parts = append(parts, c.pat(&p.L[i], arg, f))
	}
	return func(w *writer) api.CPat {
		return api.CPat{Kind: api.PCon, Name: k.name, T: w.t(t), L: w.pats(parts)}
	}
}

func (c *checker) tuplePat(p *api.Pat, t *typ, f *found) patPart {
	var types []*typ
	for range p.L {
		types = append(types, c.variable())
	}
	c.same(tuple(types...), t)
	var parts []patPart
	for i := range p.L {
		parts = append(parts, c.pat(&p.L[i], types[i], f))
	}
	return func(w *writer) api.CPat {
		return api.CPat{Kind: api.PTuple, T: w.t(t), L: w.pats(parts)}
	}
}
