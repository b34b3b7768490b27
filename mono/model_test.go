package mono

import (
	"slices"
	"strconv"

	"bellows/api"
)

// model finds out which instances there are by P10.1's words: it goes over what is reached again and again, till nothing new is met. What is met is told by texts: of a variable where it is bound, and the row; of a datatype its type.
type model struct {
	p      api.Prog
	rows   map[string][][]api.T // the rows at which a variable is reached, by where it is bound
	datas  map[string]api.T     // the datatypes' types that are reached
	count  int
	change bool
}

// inside is where something stands: which instances are around it, the types there in the places of type variables, where variables are bound.
type inside struct {
	path string
	by   map[int]api.T
	at   map[int]string
}

func (in inside) bound(id int) string { return in.path + "/" + strconv.Itoa(id) }

// instance is what is inside one of f.
func (in inside) instance(f *api.CoreFun, row []api.T) inside {
	by := map[int]api.T{}
	for n, t := range in.by {
		by[n] = t
	}
	for i, g := range f.Gen {
		by[g] = row[i]
	}
	return inside{in.bound(f.Id) + toldRow(row), by, in.at}
}

// closed is a type with others in the places of its variables.
func closed(t api.T, by map[int]api.T) api.T {
	if t.Kind == api.XVar {
		return by[t.N]
	}
	t.L = closedRow(t.L, by)
	return t
}

func closedRow(l []api.T, by map[int]api.T) []api.T {
	return each(l, func(t *api.T) api.T { return closed(*t, by) })
}

func dataOf(p api.Prog, name string) *api.Data {
	i := slices.IndexFunc(p.Datas, func(d api.Data) bool { return d.Name == name })
	if i < 0 {
		return nil
	}
	return &p.Datas[i]
}

// conOf is a constructor's datatype, and itself.
func conOf(p api.Prog, name string) (*api.Data, *api.DataCon) {
	for i := range p.Datas {
		for j := range p.Datas[i].Cons {
			if p.Datas[i].Cons[j].Name == name {
				return &p.Datas[i], &p.Datas[i].Cons[j]
			}
		}
	}
	return nil, nil
}

// rowOf are the types in the places of a datatype's variables.
func rowOf(d *api.Data, l []api.T) map[int]api.T {
	by := map[int]api.T{}
	for i, v := range d.Vars {
		by[v] = l[i]
	}
	return by
}

// reached is the model of a program.
func reached(p api.Prog) *model {
	m := &model{p: p, rows: map[string][][]api.T{}, datas: map[string]api.T{}, change: true}
	m.typ(api.T{Kind: api.XCon, Name: "exn"})
	m.typ(api.T{Kind: api.XCon, Name: "bool"})
	for m.change {
		m.change = false
		m.core(&p.Main, inside{at: map[int]string{}})
	}
	m.count = len(m.datas)
	for _, l := range m.rows {
		m.count += len(l)
	}
	return m
}

func (m *model) typ(t api.T) {
	for _, x := range t.L {
		m.typ(x)
	}
	d := dataOf(m.p, t.Name)
	if t.Kind != api.XCon || d == nil || m.datas[toldT(t)].Kind != 0 {
		return
	}
	m.datas[toldT(t)] = t
	m.change = true
	for _, c := range d.Cons {
		if c.Has {
			m.typ(closed(c.Arg, rowOf(d, t.L)))
		}
	}
}

func (m *model) mention(at string, row []api.T) {
	for _, l := range m.rows[at] {
		if toldRow(l) == toldRow(row) {
			return
		}
	}
	m.rows[at] = append(m.rows[at], row)
	m.change = true
}

func (m *model) core(c *api.Core, in inside) {
	m.typ(closed(c.T, in.by))
	row := closedRow(c.Inst, in.by)
	for _, t := range row {
		m.typ(t)
	}
	switch c.Kind {
	case api.KVar:
		if at := in.at[c.Id]; at != "" {
			m.mention(at, row)
		}
	case api.KCon:
		d, _ := conOf(m.p, c.Name)
		m.typ(api.T{Kind: api.XCon, Name: d.Name, L: row})
	case api.KLet, api.KFix:
		m.funs(c, in)
	}
	for i := range c.L {
		m.core(&c.L[i], in)
	}
	for i := range c.Ways {
		m.pat(&c.Ways[i].P, in)
		m.core(&c.Ways[i].E, in)
	}
}

func (m *model) funs(c *api.Core, in inside) {
	for i := range c.Funs {
		in.at[c.Funs[i].Id] = in.bound(c.Funs[i].Id)
	}
	for i := range c.Funs {
		f := &c.Funs[i]
		rows := m.rows[in.bound(f.Id)]
		if c.Kind == api.KLet && !nothingDone(&f.E) { // it is done once, whether its variable is reached or not
			rows = [][]api.T{nil}
		}
		for _, row := range rows {
			m.core(&f.E, in.instance(f, row))
		}
	}
}

func (m *model) pat(p *api.CPat, in inside) {
	m.typ(closed(p.T, in.by))
	for i := range p.L {
		m.pat(&p.L[i], in)
	}
}

// nothingDone: is a core among those that P10.2 names?
func nothingDone(c *api.Core) bool {
	if c.Kind == api.KCon || c.Kind == api.KTuple {
		for i := range c.L {
			if !nothingDone(&c.L[i]) {
				return false
			}
		}
		return true
	}
	return c.Kind == api.KInt || c.Kind == api.KText || c.Kind == api.KVar || c.Kind == api.KFn
}
