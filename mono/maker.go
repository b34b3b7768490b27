package mono

import (
	"slices"

	"bellows/api"
)

// maker writes cores, in which each variable has another number in each copy.
type maker struct {
	*reader
	cons map[string]*api.Data
	vars map[int]*variable // what variables are in the copy that is being made
	keys map[key]int       // the numbers of the instances that are reached
}

// variable is one in the copy that is being made. Its number is its name there, or, if it has instances, only tells it from those that are bound elsewhere.
type variable struct {
	number int
	fun    *api.CoreFun
	in     *binder // nil, if neither a KLet nor a KFix binds it
}

// binder is a KLet or a KFix in the copy that is being made: the instances that are reached of what it binds.
type binder struct{ reached []instance }

// instance is one of a variable; row are the types that it is reached at.
type instance struct {
	fun    *api.CoreFun
	row    int
	number int
}

// key is what an instance is found by.
type key struct{ variable, row int }

func newMaker(datas []api.Data, most int) *maker {
	m := &maker{
		reader: newReader(newTypes(datas, most)), cons: map[string]*api.Data{},
		vars: map[int]*variable{}, keys: map[key]int{},
	}
	for i := range datas {
		for _, c := range datas[i].Cons {
			m.cons[c.Name] = &datas[i]
		}
	}
	return m
}

func (m *maker) program(main *api.Core) api.Prog {
	m.begin()
	core := m.core(main)
	return api.Prog{Datas: m.families(), Main: core}
}

func (m *maker) core(c *api.Core) api.Core {
	switch c.Kind {
	case api.KLet:
		return m.let(c)
	case api.KFix:
		return m.fix(c)
	}
	x := api.Core{Kind: c.Kind, Id: c.Id, Name: c.Name, N: c.N, T: m.t(&c.T)}
	switch c.Kind {
	case api.KVar:
		x.Id = m.mention(c)
	case api.KCon:
		x.Name += m.mark(c)
	case api.KFn, api.KHandle:
		x.Id = m.bind(c.Id)
	}
	x.L = each(c.L, m.core)
	x.Ways = each(c.Ways, m.way)
	return x
}

// bind gives a variable that has no instances its number.
func (m *maker) bind(id int) int {
	v := &variable{number: m.number()}
	m.vars[id] = v
	return v.number
}

// mention is the number of a variable, or of its instance, which may be a new one.
func (m *maker) mention(c *api.Core) int {
	row := m.row(c.Inst)
	v := m.vars[c.Id]
	switch {
	case v == nil:
		return c.Id
	case v.in == nil:
		return v.number
	}
	k := key{v.number, row}
	n, is := m.keys[k]
	if !is {
		m.one()
		n = m.number()
		m.keys[k] = n
		v.in.reached = append(v.in.reached, instance{v.fun, row, n})
	}
	return n
}

// mark is what stands behind the name of a constructor of that datatype's instance.
func (m *maker) mark(c *api.Core) string {
	row := m.row(c.Inst)
	d := m.cons[c.Name]
	if d == nil {
		return ""
	}
	return m.all[m.typ(form{kind: api.XCon, name: d.Name, parts: row})].mark
}

func (m *maker) way(w *api.Way) api.Way {
	p := m.pat(&w.P)
	return api.Way{P: p, E: m.core(&w.E)}
}

func (m *maker) pat(p *api.CPat) api.CPat {
	t := m.all[m.read(&p.T)]
	x := api.CPat{Kind: p.Kind, Id: p.Id, Name: p.Name, N: p.N, T: t.t}
	switch p.Kind {
	case api.PVar:
		x.Id = m.bind(p.Id)
	case api.PCon:
		x.Name += t.mark
	}
	x.L = each(p.L, m.pat)
	return x
}

func (m *maker) let(c *api.Core) api.Core {
	rest, funs := m.scope(c)
	if len(funs) == 0 {
		return m.unbound(c, rest)
	}
	t := m.t(&c.T)
	for _, f := range slices.Backward(funs) {
		rest = api.Core{Kind: api.KLet, T: t, Funs: []api.CoreFun{f}, L: []api.Core{rest}}
	}
	return rest
}

func (m *maker) fix(c *api.Core) api.Core {
	rest, funs := m.scope(c)
	if len(funs) == 0 {
		return rest
	}
	return api.Core{Kind: api.KFix, T: m.t(&c.T), Funs: funs, L: []api.Core{rest}}
}

// scope writes what stands behind a KLet's or a KFix's variables, and their instances: those that are reached there, and those that these reach.
func (m *maker) scope(c *api.Core) (api.Core, []api.CoreFun) {
	b := &binder{}
	for i := range c.Funs {
		f := &c.Funs[i]
		m.vars[f.Id] = &variable{m.number(), f, b}
	}
	var rest api.Core
	for i := range c.L {
		rest = m.core(&c.L[i])
	}
	var funs []api.CoreFun
	for i := 0; i < len(b.reached); i++ {
		funs = append(funs, m.fun(b.reached[i]))
	}
	return rest, funs
}

func (m *maker) fun(i instance) api.CoreFun {
	if len(i.fun.Gen) > 0 {
		defer m.put(i.fun.Gen, i.row)()
	}
	return api.CoreFun{Id: i.number, T: m.t(&i.fun.T), E: m.core(&i.fun.E)}
}

// unbound is a KLet of which no instance is reached: what its variable would be is worked out all the same, if that does something.
func (m *maker) unbound(c *api.Core, rest api.Core) api.Core {
	for i := range c.Funs {
		e := &c.Funs[i].E
		if idle(e) {
			continue
		}
		x := m.core(e)
		way := api.Way{P: api.CPat{Kind: api.PAny, T: x.T}, E: rest}
		rest = api.Core{Kind: api.KCase, T: m.t(&c.T), L: []api.Core{x}, Ways: []api.Way{way}}
	}
	return rest
}

// idle: is it a value that does nothing?
func idle(c *api.Core) bool {
	switch c.Kind {
	case api.KInt, api.KText, api.KVar, api.KFn:
		return true
	case api.KCon, api.KTuple:
		return !slices.ContainsFunc(c.L, busy)
	}
	return false
}

func busy(c api.Core) bool { return !idle(&c) }
