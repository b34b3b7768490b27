package defun

import "bellows/api"

// gatherer finds out what functions need to know.
type gatherer struct {
	levels map[int]int        // in how many functions variables are bound
	of     map[int]*knowledge // of a KFn by what it is called with, of a KHandle's L by what was thrown
	shared map[int]*knowledge // by the variables that a KFix binds, which are themselves nothing that must be known
	there  map[mark]int
	count  int
}

// knowledge is what a function, or all functions of one KFix, need to know: variables that are bound outside.
type knowledge struct {
	number int
	level  int          // how many functions are around, itself too
	outer  *knowledge   // of what is around
	users  []*knowledge // of what mentions one of these functions
	vars   []int
}

// mark is a variable that is known somewhere.
type mark struct{ knowledge, variable int }

// gathered has what all functions in a core need to know.
func gathered(main *api.Core) *gatherer {
	g := &gatherer{levels: map[int]int{}, of: map[int]*knowledge{}, shared: map[int]*knowledge{}, there: map[mark]int{}}
	g.over(&knowledge{})(main)
	return g
}

func (g *gatherer) inside(outer *knowledge) *knowledge {
	g.count++
	return &knowledge{number: g.count, level: outer.level + 1, outer: outer}
}

// over is what gathers from cores that stand in one function, and in those within it.
func (g *gatherer) over(in *knowledge) func(c *api.Core) {
	var visit func(c *api.Core)
	visit = func(c *api.Core) {
		of := visit
		switch c.Kind {
		case api.KVar:
			g.mention(c.Id, in)
		case api.KFn:
			of = g.fn(c, g.inside(in))
		case api.KHandle:
			k := g.inside(in)
			g.of[c.Id] = k
			g.levels[c.Id] = in.level
			of = g.over(k)
		case api.KLet:
			for i := range c.Funs {
				visit(&c.Funs[i].E)
				g.levels[c.Funs[i].Id] = in.level
			}
		case api.KFix:
			g.fix(c, g.inside(in))
		}
		for i := range c.L {
			of(&c.L[i])
		}
		for i := range c.Ways {
			g.pat(&c.Ways[i].P, in.level)
			visit(&c.Ways[i].E)
		}
	}
	return visit
}

// fn is what gathers from a KFn's L.
func (g *gatherer) fn(c *api.Core, k *knowledge) func(c *api.Core) {
	g.of[c.Id] = k
	g.levels[c.Id] = k.level
	return g.over(k)
}

func (g *gatherer) fix(c *api.Core, k *knowledge) {
	for i := range c.Funs {
		g.shared[c.Funs[i].Id] = k
	}
	for i := range c.Funs {
		e := &c.Funs[i].E
		of := g.fn(e, k)
		for j := range e.L {
			of(&e.L[j])
		}
	}
}

func (g *gatherer) pat(p *api.CPat, level int) {
	if p.Kind == api.PVar {
		g.levels[p.Id] = level
	}
	for i := range p.L {
		g.pat(&p.L[i], level)
	}
}

// mention notes that a variable stands somewhere. Who calls, or builds, a function of a KFix needs to know what that does.
func (g *gatherer) mention(id int, in *knowledge) {
	if k := g.shared[id]; k != nil {
		k.users = append(k.users, in)
		for _, v := range k.vars {
			g.learn(in, v)
		}
	} else if _, is := g.levels[id]; is {
		g.learn(in, id)
	}
}

// learn adds a variable to what must be known: there, around it as far as the variable is bound outside, and wherever that is used.
func (g *gatherer) learn(k *knowledge, v int) {
	m := mark{k.number, v}
	if g.levels[v] >= k.level || g.there[m] > 0 {
		return
	}
	g.there[m] = 1
	k.vars = append(k.vars, v)
	g.learn(k.outer, v)
	for _, u := range k.users {
		g.learn(u, v)
	}
}
