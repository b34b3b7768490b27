package elab

import (
	"reflect"
	"slices"
	"strings"
	"testing"

	"bellows/api"
)

// bound is what a variable of a core is bound with.
type bound struct {
	gen []int
	t   api.T
}

// sounder looks at a core by itself: is each type that is told right, is each number bound, and once?
type sounder struct {
	t      testing.TB
	src    string
	arity  map[string]int
	cons   map[string]conBound
	vars   map[int]bound
	gens   map[int]int // those that may stand here
	ids    map[int]int // how often each is bound
	allGen map[int]int
	p      api.Prog
	prims  map[string][]api.T
}

type conBound struct {
	data api.Data
	con  api.DataCon
}

func (s *sounder) wrong(what string, x any) {
	s.t.Helper()
	s.t.Fatalf("%s: %s: %+v", short(s.src), what, x)
}

func (s *sounder) must(is bool, what string, x any) {
	s.t.Helper()
	if !is {
		s.wrong(what, x)
	}
}

// only looks that no fields have anything but these.
func (s *sounder) only(x any, fields string) {
	v := reflect.ValueOf(x).Elem()
	for i := range v.NumField() {
		name := v.Type().Field(i).Name
		f := v.Field(i)
		empty := f.IsZero() || f.Kind() == reflect.Slice && f.Len() == 0
		if !empty && !strings.Contains(" Kind T "+fields+" ", " "+name+" ") {
			s.wrong("what its kind hasn't: "+name, x)
		}
	}
}

// sound looks that what Elab answered is right in itself: P9.5, P9.7.
func sound(t testing.TB, src string, p api.Prog) {
	t.Helper()
	s := &sounder{t: t, src: src, p: p, prims: signatures(), arity: map[string]int{"int": 0, "string": 0, "ref": 1, "array": 1}, cons: map[string]conBound{}, vars: map[int]bound{}, gens: map[int]int{}, ids: map[int]int{}, allGen: map[int]int{}}
	s.datas(p.Datas)
	s.core(&p.Main)
	s.numbers(s.ids, "variables")
	s.numbers(s.allGen, "type variables")
}

// numbers looks that they are from 0 on, each bound once.
func (s *sounder) numbers(l map[int]int, what string) {
	for i := range len(l) {
		s.must(l[i] == 1, what+" aren't bound once each, from 0 on", l)
	}
}

func (s *sounder) datas(l []api.Data) {
	s.must(len(l) >= 3 && l[0].Name == "exn" && l[1].Name == "bool" && l[2].Name == "list", "datatypes", l)
	for _, d := range l {
		_, twice := s.arity[d.Name]
		s.must(!twice, "a type twice", d)
		s.arity[d.Name] = len(d.Vars)
		for i, v := range d.Vars {
			s.must(v == i, "type variables of a datatype", d)
		}
	}
	for _, d := range l {
		for _, v := range d.Vars {
			s.gens[v]++
		}
		for _, c := range d.Cons {
			_, twice := s.cons[c.Name]
			s.must(!twice, "a constructor twice", c)
			s.cons[c.Name] = conBound{d, c}
			if c.Has {
				s.typ(&c.Arg)
			} else {
				s.must(sameT(c.Arg, api.T{}), "something that a constructor hasn't", c)
			}
		}
		clear(s.gens)
	}
}

// typ looks that a type is one that may stand here.
func (s *sounder) typ(t *api.T) {
	switch t.Kind {
	case api.XVar:
		s.only(t, "N")
		s.must(s.gens[t.N] > 0, "a type variable that isn't known", t)
	case api.XCon:
		s.only(t, "Name L")
		n, is := s.arity[t.Name]
		s.must(is && n == len(t.L), "a type's name", t)
	case api.XFun:
		s.only(t, "L")
		s.must(len(t.L) == 2, "a function's type", t)
	case api.XTup:
		s.only(t, "L")
		s.must(len(t.L) != 1, "a tuple's type", t)
	default:
		s.wrong("no type", t)
	}
	for i := range t.L {
		s.typ(&t.L[i])
	}
}

func (s *sounder) is(c *api.Core, want api.T) {
	s.t.Helper()
	if !sameT(c.T, want) {
		s.wrong("isn't of the type "+toldT(want), toldTyped(*c))
	}
}

func sameT(a, b api.T) bool {
	return a.Kind == b.Kind && a.Name == b.Name && a.N == b.N && slices.EqualFunc(a.L, b.L, sameT)
}

// putT is a type with others for its variables.
func putT(t api.T, vars []int, l []api.T) api.T {
	if t.Kind == api.XVar {
		for i, v := range vars {
			if v == t.N {
				return l[i]
			}
		}
	}
	var parts []api.T
	for _, x := range t.L {
		parts = append(parts, putT(x, vars, l))
	}
	t.L = parts
	return t
}

func xcon(name string, l ...api.T) api.T { return api.T{Kind: api.XCon, Name: name, L: l} }
func xtup(l ...api.T) api.T              { return api.T{Kind: api.XTup, L: l} }
func xfun(a, b api.T) api.T              { return api.T{Kind: api.XFun, L: []api.T{a, b}} }
func xvar(n int) api.T                   { return api.T{Kind: api.XVar, N: n} }

func (s *sounder) each(l []api.Core) []api.T {
	var types []api.T
	for i := range l {
		s.core(&l[i])
		types = append(types, l[i].T)
	}
	return types
}

func (s *sounder) bind(id int, b bound) {
	s.ids[id]++
	s.vars[id] = b
}

func (s *sounder) core(c *api.Core) {
	s.typ(&c.T)
	for i := range c.Inst {
		s.typ(&c.Inst[i])
	}
	switch c.Kind {
	case api.KInt:
		s.only(c, "N")
		s.is(c, xcon("int"))
	case api.KText:
		s.only(c, "Name")
		s.is(c, xcon("string"))
	case api.KVar:
		s.only(c, "Id Inst")
		b, is := s.vars[c.Id]
		s.must(is && len(b.gen) == len(c.Inst), "a variable that isn't known so", c)
		s.is(c, putT(b.t, b.gen, c.Inst))
	case api.KCon:
		s.only(c, "Name Inst L")
		s.con(c)
	case api.KApp:
		s.only(c, "L")
		s.must(len(c.L) == 2, "parts", c)
		l := s.each(c.L)
		s.is(&c.L[0], xfun(l[1], c.T))
	case api.KFn:
		s.only(c, "Id L")
		s.must(c.T.Kind == api.XFun && len(c.L) == 1, "a function", c)
		s.bind(c.Id, bound{t: c.T.L[0]})
		s.each(c.L)
		s.is(&c.L[0], c.T.L[1])
		delete(s.vars, c.Id)
	case api.KTuple:
		s.only(c, "L")
		s.is(c, xtup(s.each(c.L)...))
	case api.KRaise:
		s.only(c, "L")
		s.must(len(c.L) == 1, "parts", c)
		s.each(c.L)
		s.is(&c.L[0], xcon("exn"))
	case api.KPrim:
		s.only(c, "Name L")
		s.prim(c)
	default:
		s.binder(c)
	}
}

func (s *sounder) binder(c *api.Core) {
	s.must(len(c.L) == 1, "parts", c)
	switch c.Kind {
	case api.KCase:
		s.only(c, "L Ways")
		s.each(c.L)
		s.ways(c, c.L[0].T)
		s.must(modelCovers(s.p.Datas, c.L[0].T, patsOf(c.Ways)), "no way fits some value", c)
	case api.KHandle:
		s.only(c, "Id L Ways")
		s.each(c.L)
		s.is(&c.L[0], c.T)
		s.bind(c.Id, bound{t: xcon("exn")})
		s.ways(c, xcon("exn"))
		delete(s.vars, c.Id)
	case api.KLet:
		s.only(c, "Funs L")
		s.must(len(c.Funs) == 1, "more than one", c)
		s.fun(&c.Funs[0])
		s.bind(c.Funs[0].Id, bound{c.Funs[0].Gen, c.Funs[0].T})
		s.each(c.L)
		s.is(&c.L[0], c.T)
		delete(s.vars, c.Funs[0].Id)
	case api.KFix:
		s.only(c, "Funs L")
		for _, f := range c.Funs {
			s.bind(f.Id, bound{f.Gen, f.T})
		}
		for i := range c.Funs {
			s.must(c.Funs[i].E.Kind == api.KFn, "no function", c)
			s.fun(&c.Funs[i])
		}
		s.each(c.L)
		s.is(&c.L[0], c.T)
		for _, f := range c.Funs {
			delete(s.vars, f.Id)
		}
	default:
		s.wrong("no core", c)
	}
}

func patsOf(l []api.Way) []api.CPat {
	var pats []api.CPat
	for _, w := range l {
		pats = append(pats, w.P)
	}
	return pats
}

func (s *sounder) fun(f *api.CoreFun) {
	for _, g := range f.Gen {
		s.allGen[g]++
		s.gens[g]++
	}
	s.typ(&f.T)
	s.core(&f.E)
	s.is(&f.E, f.T)
	for _, g := range f.Gen {
		s.must(strings.Contains(toldT(f.T)+" ", toldT(xvar(g))), "a type variable that isn't in the type", f)
		s.gens[g]--
	}
}

func (s *sounder) con(c *api.Core) {
	k, is := s.cons[c.Name]
	s.must(is && len(c.Inst) == len(k.data.Vars), "a constructor", c)
	s.is(c, xcon(k.data.Name, c.Inst...))
	l := s.each(c.L)
	if !k.con.Has {
		s.must(len(l) == 0, "a constructor that has nothing", c)
		return
	}
	s.must(len(l) == 1, "a constructor that has something", c)
	s.is(&c.L[0], putT(k.con.Arg, k.data.Vars, c.Inst))
}

func (s *sounder) ways(c *api.Core, from api.T) {
	for i := range c.Ways {
		w := &c.Ways[i]
		var ids []int
		s.pat(&w.P, from, &ids)
		s.core(&w.E)
		s.is(&w.E, c.T)
		for _, id := range ids {
			delete(s.vars, id)
		}
	}
}

func (s *sounder) pat(p *api.CPat, t api.T, ids *[]int) {
	s.typ(&p.T)
	s.must(sameT(p.T, t), "isn't of the type of what it is a pattern of", p)
	switch p.Kind {
	case api.PAny:
		s.only(p, "")
	case api.PVar:
		s.only(p, "Id")
		s.bind(p.Id, bound{t: t})
		*ids = append(*ids, p.Id)
	case api.PInt:
		s.only(p, "N")
		s.must(toldT(t) == "int", "a number", p)
	case api.PCon:
		s.only(p, "Name L")
		k, is := s.cons[p.Name]
		s.must(is && k.data.Name == t.Name && t.Kind == api.XCon && k.con.Has == (len(p.L) == 1) && len(p.L) < 2, "a constructor", p)
		for i := range p.L {
			s.pat(&p.L[i], putT(k.con.Arg, k.data.Vars, t.L), ids)
		}
	case api.PTuple:
		s.only(p, "L")
		s.must(t.Kind == api.XTup && len(t.L) == len(p.L), "a tuple", p)
		for i := range p.L {
			s.pat(&p.L[i], t.L[i], ids)
		}
	default:
		s.wrong("no pattern", p)
	}
}

// signatures are P9.3, with 0 for 'a, at last what each gives.
func signatures() map[string][]api.T {
	num, text, truth, unit, a := xcon("int"), xcon("string"), xcon("bool"), xtup(), xvar(0)
	cell, row := xcon("ref", a), xcon("array", a)
	table := map[string][]api.T{
		"^": {text, text, text}, "~": {num, num}, ":=": {cell, a, unit}, "!": {cell, a},
		"print": {text, unit}, "putc": {num, unit}, "getc": {num}, "size": {text, num}, "byte": {text, num, num}, "cmp": {text, text, num},
		"ref": {a, cell}, "array": {num, a, row}, "length": {row, num}, "sub": {row, num, a}, "update": {row, num, a, unit},
	}
	for _, name := range strings.Fields("+ - * div mod") {
		table[name] = []api.T{num, num, num}
	}
	for _, name := range strings.Fields("< <= > >= = <>") {
		table[name] = []api.T{num, num, truth}
	}
	return table
}

func (s *sounder) prim(c *api.Core) {
	sig, is := s.prims[c.Name]
	s.must(is && len(c.L) == len(sig)-1, "a reckoning", c)
	l := append(s.each(c.L), c.T)
	var of api.T // what 'a is
	for i, t := range sig {
		switch {
		case t.Kind == api.XVar:
			of = l[i]
		case len(t.L) == 1 && len(l[i].L) == 1:
			of = l[i].L[0]
		}
	}
	for i, t := range sig {
		s.must(sameT(l[i], putT(t, []int{0}, []api.T{of})), "a reckoning's types", c)
	}
}
