package elab

import "slices"

// table is what names mean, and what those that were added meant ahead.
type table[M any] struct {
	now   map[string]*M
	added []meaning[M]
}

type meaning[M any] struct {
	name string
	was  *M
}

func newTable[M any]() table[M] { return table[M]{now: map[string]*M{}} }

// add hides what had the name.
func (t *table[M]) add(name string, m *M) {
	t.added = append(t.added, meaning[M]{name, t.now[name]})
	t.now[name] = m
}

// back forgets what was added behind the first n.
func (t *table[M]) back(n int) {
	for _, a := range slices.Backward(t.added[n:]) {
		t.now[a.name] = a.was
	}
	t.added = t.added[:n]
}

// open begins a scope; what it answers ends it.
func (c *checker) open() func() {
	vars, cons, types := len(c.vars.added), len(c.cons.added), len(c.types.added)
	return func() {
		c.vars.back(vars)
		c.cons.back(cons)
		c.types.back(types)
	}
}

// known is what a name means, which must have a meaning.
func known[M any](t *table[M], name string, at int) *M {
	m := t.now[name]
	if m == nil {
		refuseName(at)
	}
	return m
}
