package elab

import (
	"slices"

	"bellows/api"
)

// cover finds out whether each value fits a pattern; it has the datatypes by their names.
type cover map[string]*api.Data

func newCover(datas []api.Data) cover {
	k := cover{}
	for i := range datas {
		if d := &datas[i]; k[d.Name] == nil && d.Name != "exn" {
			k[d.Name] = d
		}
	}
	return k
}

// size is how many parts a pattern has.
func size(p *api.CPat) int {
	n := 1
	for i := range p.L {
		n += size(&p.L[i])
	}
	return n
}

// each: does one of the patterns fit each value of the type?
func (k cover) each(t api.T, l []api.CPat) bool {
	var rows [][]*api.CPat
	for i := range l {
		rows = append(rows, []*api.CPat{&l[i]})
	}
	return k.all([]api.T{t}, rows)
}

// free: does the pattern fit whatever there is?
func free(p *api.CPat) bool { return p.Kind == api.PAny || p.Kind == api.PVar }

// all: does one of the rows fit each row of values of these types? What the first row asks for is looked at first.
func (k cover) all(types []api.T, rows [][]*api.CPat) bool {
	if len(rows) == 0 {
		return false
	}
	at := slices.IndexFunc(rows[0], func(p *api.CPat) bool { return !free(p) })
	if at < 0 {
		return true
	}
	for _, s := range k.needed(types[at], rows, at) {
		if !k.all(put(types, at, s.of()...), s.left(rows, at)) {
			return false
		}
	}
	return true
}

// shape is how some values of a type are made: of which others, and which patterns ask for that.
type shape struct {
	of   func() []api.T
	asks func(p *api.CPat) bool
}

// needed are the shapes that must be looked at: all, if each of them is asked for; else one of those that none asks for is enough, since what fits its values fits the others, too.
func (k cover) needed(t api.T, rows [][]*api.CPat, at int) []shape {
	other := shape{func() []api.T { return nil }, func(*api.CPat) bool { return false }}
	l := k.shapes(t)
	for _, s := range l {
		if !slices.ContainsFunc(rows, func(r []*api.CPat) bool { return s.asks(r[at]) }) {
			return []shape{other}
		}
	}
	if len(l) == 0 {
		return []shape{other}
	}
	return l
}

// shapes are all there are of a type, none, if there are always values that no pattern asks for.
func (k cover) shapes(t api.T) []shape {
	if t.Kind == api.XTup {
		return []shape{{
			func() []api.T { return t.L },
			func(p *api.CPat) bool { return p.Kind == api.PTuple && len(p.L) == len(t.L) },
		}}
	}
	d := k[t.Name]
	if t.Kind != api.XCon || d == nil {
		return nil
	}
	var l []shape
	for _, con := range d.Cons {
		l = append(l, conShape(d, con, t.L))
	}
	return l
}

// conShape is that of a constructor, with types in the places of its datatype's variables.
func conShape(d *api.Data, con api.DataCon, types []api.T) shape {
	asks := func(n int) func(p *api.CPat) bool {
		return func(p *api.CPat) bool { return p.Kind == api.PCon && p.Name == con.Name && len(p.L) == n }
	}
	if !con.Has {
		return shape{func() []api.T { return nil }, asks(0)}
	}
	return shape{func() []api.T {
		by := map[int]api.T{}
		for i, v := range d.Vars[:min(len(d.Vars), len(types))] {
			by[v] = types[i]
		}
		return []api.T{with(con.Arg, by)}
	}, asks(1)}
}

// with is a type with others in the places of its variables.
func with(t api.T, by map[int]api.T) api.T {
	if x, is := by[t.N]; is && t.Kind == api.XVar {
		return x
	}
	var l []api.T
	for _, x := range t.L {
		l = append(l, with(x, by))
	}
	t.L = l
	return t
}

// left are the rows that may fit where there is a value of that shape, which is taken apart.
func (s shape) left(rows [][]*api.CPat, at int) [][]*api.CPat {
	var l [][]*api.CPat
	for _, r := range rows {
		p := r[at]
		var parts []*api.CPat
		switch {
		case s.asks(p):
			for i := range p.L {
				parts = append(parts, &p.L[i])
			}
		case free(p):
			for range s.of() {
				parts = append(parts, p)
			}
		default:
			continue
		}
		l = append(l, put(r, at, parts...))
	}
	return l
}

// put is a list with others in the place of one.
func put[E any](l []E, at int, parts ...E) []E { return slices.Concat(l[:at], parts, l[at+1:]) }
