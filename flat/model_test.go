package flat

import (
	"strconv"
	"strings"

	"bellows/api"
)

// model says by the chapter's words how values stand.
type model struct {
	datas map[string]*api.Data
	cons  map[string]*modelCon
}

// modelCon is a constructor: all is its datatype, ahead the ones ahead of it.
type modelCon struct {
	api.DataCon
	all   *api.Data
	ahead []api.DataCon
}

func newModel(p api.FProg) *model {
	m := &model{map[string]*api.Data{}, map[string]*modelCon{}}
	for i := range p.Datas {
		d := &p.Datas[i]
		m.datas[d.Name] = d
		for j, c := range d.Cons {
			m.cons[c.Name] = &modelCon{c, d, d.Cons[:j]}
		}
	}
	return m
}

// within: does the datatype stand in the type, or in the constructors of datatypes in it, and so on?
func (m *model) within(name string, t api.T, seen map[string]bool) bool {
	if t.Kind == api.XCon && t.Name == name {
		return true
	}
	for _, x := range t.L {
		if m.within(name, x, seen) {
			return true
		}
	}
	d := m.datas[t.Name]
	if t.Kind != api.XCon || d == nil || seen[t.Name] {
		return false
	}
	seen[t.Name] = true
	for _, c := range d.Cons {
		if c.Has && m.within(name, c.Arg, seen) {
			return true
		}
	}
	return false
}

// through: are the datatype's values what its constructor has?
func (m *model) through(d *api.Data) bool {
	return len(d.Cons) == 1 && d.Cons[0].Has && !m.within(d.Name, d.Cons[0].Arg, map[string]bool{})
}

// number is the number that a constructor is.
func (c *modelCon) number() (int, bool) {
	n := 0
	for _, x := range c.ahead {
		if !x.Has {
			n++
		}
	}
	return n, !c.Has
}

// numbersOf is how many constructors of a datatype are numbers.
func numbersOf(d *api.Data) int {
	n := 0
	for _, c := range d.Cons {
		if !c.Has {
			n++
		}
	}
	return n
}

// has are the parts of what a constructor has.
func (c *modelCon) has() []api.T {
	if c.Arg.Kind == api.XTup && len(c.Arg.L) > 0 {
		return c.Arg.L
	}
	return []api.T{c.Arg}
}

// shownAs tells a value of a flat program of a type as shown tells that of the core; shapes are the constructors and types whose shapes are which.
func (m *model) shownAs(v any, t api.T, shapes map[int]string) string {
	switch t.Kind {
	case api.XTup:
		if len(t.L) == 0 {
			must(v == int64(0), "()")
			return "()"
		}
		x := v.(*object)
		must(shapes[x.shape] == toldT(t), "a tuple's shape")
		return "(" + m.row(x, t.L, ", ", shapes) + ")"
	case api.XCon:
		switch t.Name {
		case "int":
			return strconv.FormatInt(v.(int64), 10)
		case "string":
			return strconv.Quote(v.(string))
		case "ref":
			x := v.(*object)
			must(shapes[x.shape] == toldT(t), "a cell's shape")
			return "ref"
		case "array":
			x := v.(*object)
			must(shapes[x.shape] == toldT(t), "an array's shape")
			return "array " + strconv.Itoa(len(x.fields))
		}
		return m.shownData(v, m.datas[t.Name], shapes)
	}
	panic("a type of no value")
}

func (m *model) row(x *object, l []api.T, sign string, shapes map[int]string) string {
	must(len(x.fields) == len(l), "another number of parts")
	var parts []string
	for i, v := range x.fields {
		parts = append(parts, m.shownAs(v, l[i], shapes))
	}
	return strings.Join(parts, sign)
}

func (m *model) shownData(v any, d *api.Data, shapes map[int]string) string {
	if m.through(d) {
		return d.Cons[0].Name + " " + m.shownAs(v, d.Cons[0].Arg, shapes)
	}
	for i := range d.Cons {
		c := m.cons[d.Cons[i].Name]
		if n, is := c.number(); is {
			if v == int64(n) {
				return c.Name
			}
			continue
		}
		x, is := v.(*object)
		if !is || shapes[x.shape] != "con "+c.Name {
			continue
		}
		if l := c.has(); len(l) > 1 {
			return c.Name + " (" + m.row(x, l, ", ", shapes) + ")"
		}
		return c.Name + " " + m.row(x, c.has(), "", shapes)
	}
	panic("no constructor's")
}
