package defun

import (
	"reflect"
	"slices"
	"strings"
	"testing"

	"bellows/api"
	"bellows/elab"
)

// sounder looks that a first-order program has right types, by itself: P11.3.
type sounder struct {
	t     testing.TB
	src   string
	x     api.FProg
	datas map[string]bool
	funs  map[int]*api.FFun
	vars  map[int]api.T // what is known where the look is
	bound map[int]int   // of one function
	all   map[int]bool  // all numbers of variables
	prims map[string][]string
}

// sound looks that an answer has right types, and nothing that its kinds don't have, or that P11.2 rules out.
func sound(t testing.TB, src string, x api.FProg) {
	t.Helper()
	s := &sounder{t: t, src: src, x: x, datas: map[string]bool{}, funs: map[int]*api.FFun{}, all: map[int]bool{}, prims: signatures()}
	for _, d := range x.Datas {
		s.must(!s.datas[d.Name] && len(d.Vars) == 0 && !slices.Contains([]string{"int", "string", "ref", "array"}, d.Name), "a datatype", d)
		s.datas[d.Name] = true
	}
	cons := map[string]bool{}
	for _, d := range x.Datas {
		for _, c := range d.Cons {
			s.must(!cons[c.Name] && !s.datas[c.Name], "a constructor's name", c)
			cons[c.Name] = true
			if c.Has {
				s.typ(&c.Arg)
			}
		}
	}
	for i := range x.Funs {
		s.must(s.funs[x.Funs[i].Id] == nil, "a function's number twice", x.Funs[i].Id)
		s.funs[x.Funs[i].Id] = &x.Funs[i]
	}
	for i := range x.Funs {
		s.function(&x.Funs[i])
	}
	s.vars, s.bound = map[int]api.T{}, map[int]int{}
	s.core(&x.Main)
	for id := range s.funs {
		s.must(!s.all[id], "a function has a variable's number", id)
	}
}

// function looks at one by itself: what it knows are its parameters.
func (s *sounder) function(f *api.FFun) {
	s.vars, s.bound = map[int]api.T{}, map[int]int{}
	s.must(len(f.Params) > 0 || s.handled(f.Id), "a function without parameters", f.Id)
	for i := range f.Params {
		s.typ(&f.Params[i].T)
		s.bind(f.Params[i].Id, f.Params[i].T)
	}
	s.typ(&f.Result)
	s.core(&f.E)
	s.is(f.E.T, toldT(f.Result))
}

// handled: is it a function of what a KHandle's L was?
func (s *sounder) handled(id int) bool {
	is := false
	var visit func(c *api.Core)
	visit = func(c *api.Core) {
		is = is || c.Kind == api.KHandle && c.L[0].Id == id
		inside(c, visit)
	}
	visit(&s.x.Main)
	for i := range s.x.Funs {
		visit(&s.x.Funs[i].E)
	}
	return is
}

func (s *sounder) must(is bool, what string, x any) {
	if !is {
		s.t.Helper()
		s.t.Fatalf("%s: %s: %+v", short(s.src), what, x)
	}
}

// only looks that no fields have anything but these.
func (s *sounder) only(x any, fields string) {
	v := reflect.ValueOf(x).Elem()
	for i := range v.NumField() {
		name, f := v.Type().Field(i).Name, v.Field(i)
		if !f.IsZero() && (f.Kind() != reflect.Slice || f.Len() > 0) {
			s.must(slices.Contains(strings.Fields("Kind T "+fields), name), "what its kind hasn't: "+name, x)
		}
	}
}

func (s *sounder) typ(t *api.T) {
	switch t.Kind {
	case api.XCon:
		s.only(t, "Name L")
		switch t.Name {
		case "ref", "array":
			s.must(len(t.L) == 1, "a type", t)
		case "int", "string":
			s.must(len(t.L) == 0, "a type", t)
		default:
			s.must(s.datas[t.Name] && len(t.L) == 0, "a type's name", t)
		}
	case api.XTup:
		s.only(t, "L")
		s.must(len(t.L) != 1, "a tuple's type", t)
	default:
		s.must(false, "a type", t)
	}
	for i := range t.L {
		s.typ(&t.L[i])
	}
}

// is looks that a type is the one that is wanted.
func (s *sounder) is(t api.T, want string) {
	s.must(toldT(t) == want, "isn't of the type "+want, toldT(t))
}

func (s *sounder) bind(id int, t api.T) {
	s.all[id] = true
	s.bound[id]++
	s.must(s.bound[id] == 1, "a number twice", id)
	s.vars[id] = t
}

func (s *sounder) each(l []api.Core, n int) {
	s.must(len(l) == n, "parts", len(l))
	for i := range l {
		s.core(&l[i])
	}
}

func (s *sounder) core(c *api.Core) {
	s.typ(&c.T)
	t := toldT(c.T)
	switch c.Kind {
	case api.KInt:
		s.only(c, "N")
		s.is(c.T, "int")
	case api.KText:
		s.only(c, "Name")
		s.is(c.T, "string")
	case api.KVar:
		s.only(c, "Id")
		of, is := s.vars[c.Id]
		s.must(is, "a variable that isn't known", c)
		s.is(of, t)
	case api.KCon:
		s.con(c)
	case api.KCall:
		s.only(c, "Id L")
		f := s.funs[c.Id]
		s.must(f != nil, "a function that isn't there", c.Id)
		s.each(c.L, len(f.Params))
		for i := range c.L {
			s.is(c.L[i].T, toldT(f.Params[i].T))
		}
		s.is(f.Result, t)
	case api.KTuple:
		s.only(c, "L")
		s.each(c.L, len(c.L))
		s.is(c.T, "("+joined(c.L, ", ", func(x api.Core) string { return toldT(x.T) })+")")
	case api.KRaise:
		s.only(c, "L")
		s.each(c.L, 1)
		s.is(c.L[0].T, "exn")
	case api.KPrim:
		s.prim(c)
	default:
		s.binder(c)
	}
}

func (s *sounder) con(c *api.Core) {
	s.only(c, "Name L")
	d, k := s.conOf(c.Name)
	s.must(k != nil, "a constructor", c)
	s.is(c.T, d.Name)
	if !k.Has {
		s.each(c.L, 0)
		return
	}
	s.each(c.L, 1)
	s.is(c.L[0].T, toldT(k.Arg))
}

func (s *sounder) conOf(name string) (*api.Data, *api.DataCon) {
	for i := range s.x.Datas {
		for j := range s.x.Datas[i].Cons {
			if s.x.Datas[i].Cons[j].Name == name {
				return &s.x.Datas[i], &s.x.Datas[i].Cons[j]
			}
		}
	}
	return nil, nil
}

func (s *sounder) binder(c *api.Core) {
	switch c.Kind {
	case api.KLet:
		s.only(c, "Funs L")
		s.must(len(c.Funs) == 1 && len(c.Funs[0].Gen) == 0, "a KLet", c)
		f := &c.Funs[0]
		s.typ(&f.T)
		s.core(&f.E)
		s.is(f.E.T, toldT(f.T))
		s.bind(f.Id, f.T)
		s.each(c.L, 1)
		s.is(c.L[0].T, toldT(c.T))
		delete(s.vars, f.Id)
	case api.KCase:
		s.only(c, "L Ways")
		s.each(c.L, 1)
		s.ways(c, c.L[0].T)
		pats := each(c.Ways, func(w *api.Way) api.CPat { return w.P })
		s.must(elab.Covers(api.Prog{Datas: s.x.Datas}, c.L[0].T, pats) || size(pats) > 150, "no way fits some value", c)
	case api.KHandle:
		s.only(c, "Id L Ways")
		s.each(c.L, 1)
		s.must(c.L[0].Kind == api.KCall, "a KHandle's L is no KCall", c.L[0].Kind)
		s.is(c.L[0].T, toldT(c.T))
		s.bind(c.Id, api.T{Kind: api.XCon, Name: "exn"})
		s.ways(c, s.vars[c.Id])
		delete(s.vars, c.Id)
	default:
		s.must(false, "a core", c.Kind)
	}
}

// size is how many parts patterns have: of more than 150 Covers says nothing.
func size(l []api.CPat) int {
	n := len(l)
	for _, p := range l {
		n += size(p.L)
	}
	return n
}

func (s *sounder) ways(c *api.Core, from api.T) {
	s.must(len(c.Ways) > 0, "ways", 0)
	for i := range c.Ways {
		var ids []int
		s.pat(&c.Ways[i].P, from, &ids)
		s.core(&c.Ways[i].E)
		s.is(c.Ways[i].E.T, toldT(c.T))
		for _, id := range ids {
			delete(s.vars, id)
		}
	}
}

func (s *sounder) pat(p *api.CPat, from api.T, ids *[]int) {
	s.typ(&p.T)
	s.is(p.T, toldT(from))
	var of []api.T
	switch p.Kind {
	case api.PAny:
		s.only(p, "")
	case api.PVar:
		s.only(p, "Id")
		s.bind(p.Id, from)
		*ids = append(*ids, p.Id)
	case api.PInt:
		s.only(p, "N")
		s.is(from, "int")
	case api.PCon:
		s.only(p, "Name L")
		d, k := s.conOf(p.Name)
		s.must(k != nil, "a constructor", p)
		s.is(from, d.Name)
		if k.Has {
			of = []api.T{k.Arg}
		}
	case api.PTuple:
		s.only(p, "L")
		s.must(from.Kind == api.XTup, "a tuple", p)
		of = from.L
	default:
		s.must(false, "a pattern", p)
	}
	s.must(len(p.L) == len(of), "parts of a pattern", p)
	for i := range p.L {
		s.pat(&p.L[i], of[i], ids)
	}
}

// signatures are those of reckonings, at last what each gives; a is any type.
func signatures() map[string][]string {
	table := map[string][]string{}
	for _, line := range strings.Split("^ string string string,~ int int,:= ref[a] a (),! ref[a] a,print string (),putc int (),getc int,size string int,byte string int int,cmp string string int,ref a ref[a],array int a array[a],length array[a] int,sub array[a] int a,update array[a] int a ()", ",") {
		l := strings.Fields(line)
		table[l[0]] = l[1:]
	}
	for _, name := range strings.Fields("+ - * div mod") {
		table[name] = []string{"int", "int", "int"}
	}
	for _, name := range strings.Fields("< <= > >= = <>") {
		table[name] = []string{"int", "int", "bool"}
	}
	return table
}

func (s *sounder) prim(c *api.Core) {
	s.only(c, "Name L")
	sig := s.prims[c.Name]
	s.must(sig != nil, "a reckoning", c.Name)
	s.each(c.L, len(sig)-1)
	l := append(each(c.L, func(x *api.Core) api.T { return x.T }), c.T)
	a := ""
	for i, t := range l {
		switch sig[i] {
		case "a":
			a = toldT(t)
		case "ref[a]", "array[a]":
			s.must(len(t.L) == 1, "a reckoning's type", toldT(t))
			a = toldT(t.L[0])
		}
	}
	for i, t := range l {
		want := sig[i]
		switch {
		case want == "a":
			want = a
		case strings.HasSuffix(want, "[a]"):
			want = strings.TrimSuffix(want, "a]") + a + "]"
		}
		s.is(t, want)
	}
}
