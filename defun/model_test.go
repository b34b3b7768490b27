package defun

import (
	"maps"
	"slices"

	"bellows/api"
)

// model says by the chapter's words which places functions come to, which of these are one (P11.1), and what functions need to know (P11.2). Places are numbers; that two are one is an equation, and all equations are gone over again and again, till nothing changes.
type model struct {
	types  []api.T // the places' types
	with   []int   // what is called there is called with what comes here; -1, if that is no function
	answer []int
	equal  [][2]int
	label  []int // what is one has one label

	vars  map[int]int
	cores map[*api.Core]int
	holds map[string]int
	typOf map[int]api.T

	fns    map[int]*api.Core      // each KFn, by what it is called with
	named  map[int]*api.Core      // the KFn that a KFix's variable is
	groups map[int][]*api.CoreFun // the KFix that a variable is bound by
	value  map[int]bool           // is the KFn anywhere but called?
	know   map[int][]int          // what a KFn needs to know; of a KHandle's L, by its Id
}

func newModel(p *api.Prog) *model {
	m := &model{
		vars: map[int]int{}, cores: map[*api.Core]int{}, holds: map[string]int{}, typOf: map[int]api.T{},
		fns: map[int]*api.Core{}, named: map[int]*api.Core{}, groups: map[int][]*api.CoreFun{}, value: map[int]bool{}, know: map[int][]int{},
	}
	for _, d := range p.Datas {
		for _, c := range d.Cons {
			m.within(c.Arg)
		}
	}
	m.core(&p.Main)
	m.solve()
	m.learn(&p.Main)
	return m
}

// place is a new one, with those that its type has: -1, if it is no function's.
func (m *model) place(t api.T) int {
	if t.Kind != api.XFun {
		return -1
	}
	n := len(m.types)
	m.types, m.with, m.answer = append(m.types, t), append(m.with, -1), append(m.answer, -1)
	m.with[n] = m.place(t.L[0])
	m.answer[n] = m.place(t.L[1])
	return n
}

// held is where what is laid into something comes to.
func (m *model) held(t api.T) int {
	n, is := m.holds[toldT(t)]
	if !is {
		n = m.place(t)
		m.holds[toldT(t)] = n
	}
	return n
}

// within has places for functions' types that stand within another one.
func (m *model) within(t api.T) {
	if t.Kind == api.XFun {
		m.held(t)
	}
	for _, x := range t.L {
		m.within(x)
	}
}

func (m *model) same(a, b int) {
	if (a < 0) != (b < 0) {
		panic("a function comes where none can be")
	}
	if a >= 0 {
		m.equal = append(m.equal, [2]int{a, b})
	}
}

func (m *model) bind(id int, t api.T) int {
	if _, is := m.vars[id]; is {
		panic("a variable twice")
	}
	m.within(t)
	n := m.place(t)
	m.vars[id], m.typOf[id] = n, t
	return n
}

func (m *model) core(c *api.Core) int {
	m.within(c.T)
	at := m.place(c.T)
	m.cores[c] = at
	switch c.Kind {
	case api.KVar:
		m.same(at, m.vars[c.Id])
		if f := m.named[c.Id]; f != nil {
			m.value[f.Id] = true
		}
	case api.KApp:
		m.app(c, at)
	case api.KFn:
		m.value[c.Id] = true
		m.fn(c, at)
	case api.KLet:
		f := &c.Funs[0]
		m.same(m.core(&f.E), m.bind(f.Id, f.T))
		m.same(at, m.core(&c.L[0]))
	case api.KFix:
		m.fix(c)
		m.same(at, m.core(&c.L[0]))
	case api.KCase:
		m.ways(c, at, m.core(&c.L[0]))
	case api.KHandle:
		m.same(at, m.core(&c.L[0]))
		m.bind(c.Id, api.T{Kind: api.XCon, Name: "exn"})
		m.ways(c, at, -1)
	default:
		for i := range c.L {
			m.same(m.core(&c.L[i]), m.held(c.L[i].T))
		}
		if c.Kind == api.KPrim {
			m.same(at, m.held(c.T))
		}
	}
	return at
}

func (m *model) app(c *api.Core, at int) {
	f := &c.L[0]
	fn := m.named[f.Id]
	is := f.Kind == api.KVar && fn != nil
	was := is && m.value[fn.Id]
	n := m.core(f)
	if is {
		m.value[fn.Id] = was
	}
	m.same(m.with[n], m.core(&c.L[1]))
	m.same(at, m.answer[n])
}

func (m *model) fn(c *api.Core, at int) {
	m.fns[c.Id] = c
	m.same(m.bind(c.Id, c.T.L[0]), m.with[at])
	m.same(m.core(&c.L[0]), m.answer[at])
}

func (m *model) fix(c *api.Core) {
	var all []*api.CoreFun
	for i := range c.Funs {
		all = append(all, &c.Funs[i])
	}
	for _, f := range all {
		m.bind(f.Id, f.T)
		m.named[f.Id], m.groups[f.Id] = &f.E, all
	}
	for _, f := range all {
		at := m.place(f.E.T)
		m.cores[&f.E] = at
		m.same(at, m.vars[f.Id])
		m.fn(&f.E, at)
	}
}

func (m *model) ways(c *api.Core, at, from int) {
	for i := range c.Ways {
		m.pat(&c.Ways[i].P, from)
		m.same(at, m.core(&c.Ways[i].E))
	}
}

func (m *model) pat(p *api.CPat, from int) {
	if p.Kind == api.PVar {
		m.same(m.bind(p.Id, p.T), from)
	}
	for i := range p.L {
		m.pat(&p.L[i], m.held(p.L[i].T))
	}
}

func (m *model) solve() {
	for i := range m.types {
		m.label = append(m.label, i)
	}
	for change := true; change; {
		change = false
		one := func(a, b int) {
			if a < 0 || m.label[a] == m.label[b] {
				return
			}
			change = true
			from, to := m.label[a], m.label[b]
			for i, l := range m.label {
				if l == from {
					m.label[i] = to
				}
			}
		}
		for _, e := range m.equal {
			one(e[0], e[1])
		}
		for i, l := range m.label {
			one(m.with[i], m.with[l])
			one(m.answer[i], m.answer[l])
		}
	}
}

// learn finds out what is known, by going over everything till no more is.
func (m *model) learn(main *api.Core) {
	for change := true; change; {
		change = false
		note := func(id int, l map[int]bool) {
			now := slices.Sorted(maps.Keys(l))
			if !slices.Equal(m.know[id], now) {
				m.know[id], change = now, true
			}
		}
		var visit func(c *api.Core)
		visit = func(c *api.Core) {
			switch c.Kind {
			case api.KFn:
				note(c.Id, m.free(c))
			case api.KHandle:
				note(c.Id, m.free(&c.L[0]))
			case api.KFix:
				l := map[int]bool{}
				for i := range c.Funs {
					maps.Copy(l, m.free(&c.Funs[i].E))
				}
				for i := range c.Funs {
					note(c.Funs[i].E.Id, l)
					visit(&c.Funs[i].E.L[0])
				}
				visit(&c.L[0])
				return
			}
			inside(c, visit)
		}
		visit(main)
	}
}

// inside does something with what stands in a core.
func inside(c *api.Core, do func(c *api.Core)) {
	for i := range c.Funs {
		do(&c.Funs[i].E)
	}
	for i := range c.L {
		do(&c.L[i])
	}
	for i := range c.Ways {
		do(&c.Ways[i].E)
	}
}

// free are the variables that stand free in a core. Of one that a KFix binds it is what that needs to know.
func (m *model) free(c *api.Core) map[int]bool {
	l, bound := map[int]bool{}, map[int]bool{}
	var visit func(c *api.Core)
	var pat func(p *api.CPat)
	pat = func(p *api.CPat) {
		if p.Kind == api.PVar {
			bound[p.Id] = true
		}
		for i := range p.L {
			pat(&p.L[i])
		}
	}
	visit = func(c *api.Core) {
		if f := m.named[c.Id]; c.Kind == api.KVar && f != nil {
			for _, v := range m.know[f.Id] {
				l[v] = true
			}
		} else if c.Kind == api.KVar {
			l[c.Id] = true
		}
		if c.Kind == api.KFn || c.Kind == api.KHandle {
			bound[c.Id] = true
		}
		for i := range c.Funs {
			bound[c.Funs[i].Id] = true
		}
		for i := range c.Ways {
			pat(&c.Ways[i].P)
		}
		inside(c, visit)
	}
	visit(c)
	maps.DeleteFunc(l, func(v int, _ bool) bool { return bound[v] })
	return l
}
