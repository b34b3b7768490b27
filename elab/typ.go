package elab

import (
	"math"

	"bellows/api"
)

// typ is a type: a variable, till it is bound to another type; what a name makes of args; a function's; a tuple's.
type typ struct {
	kind  int
	name  string
	args  []*typ
	to    *typ // what it is bound to
	level int  // in how many vals and funs the innermost of its variables came up, at most: where that is too few, nothing in it needs to be looked at
	seen  int  // the walk that was here last: what several types share is walked once
}

// generic is the level of what a val or a fun binds, and of types that have such variables in them.
const generic = math.MaxInt

// last is the type that all those are bound to between which there is no difference any more.
func (t *typ) last() *typ {
	for t.to != nil {
		if t.to.to != nil {
			t.to = t.to.to
		}
		t = t.to
	}
	return t
}

func made(kind int, name string, args ...*typ) *typ {
	t := &typ{kind: kind, name: name, args: args}
	for _, a := range args {
		t.level = max(t.level, a.last().level)
	}
	return t
}

func named(name string, args ...*typ) *typ { return made(api.XCon, name, args...) }

func arrow(from, to *typ) *typ { return made(api.XFun, "", from, to) }

func tuple(l ...*typ) *typ { return made(api.XTup, "", l...) }

func (c *checker) variable() *typ { return &typ{kind: api.XVar, level: c.level} }

func newGeneric() *typ { return &typ{kind: api.XVar, level: generic} }

// same makes one type of two, if that can be.
func (c *checker) same(a, b *typ) {
	if !c.join(a, b) {
		c.note(api.ErrType)
	}
}

func (c *checker) join(a, b *typ) bool {
	a, b = a.last(), b.last()
	switch {
	case a == b:
		return true
	case a.kind == api.XVar:
		return c.bind(a, b)
	case b.kind == api.XVar:
		return c.bind(b, a)
	case a.kind != b.kind || a.name != b.name || len(a.args) != len(b.args):
		return false
	}
	for i := range a.args {
		if !c.join(a.args[i], b.args[i]) {
			return false
		}
	}
	b.to = a // so that they are not held against each other again
	return true
}

func (c *checker) bind(v, t *typ) bool {
	c.walk++
	if !c.lower(t, v) {
		return false
	}
	v.to = t
	return true
}

// lower makes the variables in t stand around wherever v does; false, if v is in t, so that it can't be t.
func (c *checker) lower(t, v *typ) bool {
	t = t.last()
	if t == v {
		return false
	}
	if t.level < v.level || t.seen == c.walk {
		return true
	}
	t.seen = c.walk
	t.level = v.level
	for _, a := range t.args {
		if !c.lower(a, v) {
			return false
		}
	}
	return true
}

// generalize makes the variables in t that stand nowhere around generic, and gives them in the order in which they stand first.
func (c *checker) generalize(t *typ) []*typ {
	var l []*typ
	c.walk++
	var visit func(t *typ)
	visit = func(t *typ) {
		t = t.last()
		if t.level <= c.level || t.seen == c.walk {
			return
		}
		t.seen = c.walk
		if t.kind == api.XVar {
			t.level = generic
			l = append(l, t)
			return
		}
		t.level = 0
		for _, a := range t.args {
			visit(a)
			t.level = max(t.level, a.last().level)
		}
	}
	visit(t)
	return l
}

// anew gives new variables for generic ones, and what writes a type with those in their places.
func (c *checker) anew(gens []*typ) ([]*typ, func(*typ) *typ) {
	var l []*typ
	done := map[*typ]*typ{}
	for _, g := range gens {
		v := c.variable()
		done[g] = v
		l = append(l, v)
	}
	var with func(t *typ) *typ
	with = func(t *typ) *typ {
		t = t.last()
		if t.level != generic {
			return t
		}
		if n := done[t]; n != nil {
			return n
		}
		var args []*typ
		for _, a := range t.args {
			args = append(args, with(a))
		}
		n := made(t.kind, t.name, args...)
		done[t] = n
		return n
	}
	return l, with
}
