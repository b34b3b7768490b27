package flat

import (
	"reflect"
	"slices"
	"testing"

	"bellows/api"
	"bellows/verify"
)

// sounder looks that a flat program has right types, by itself: P12.5.
type sounder struct {
	t      testing.TB
	src    string
	x      api.FlatProg
	funs   map[int]*api.FlatFun
	vars   map[int]api.Type // what is known where the look is
	labels map[int]*api.Flat
	bound  map[int]bool // of one function
}

// sound looks that an answer has right types, variables and labels that are bound once each, and nothing in fields that mean nothing.
func sound(t testing.TB, src string, x api.FlatProg) {
	t.Helper()
	s := &sounder{t: t, src: src, x: x, funs: map[int]*api.FlatFun{}}
	s.layout()
	for i := range x.Funs {
		s.must(s.funs[x.Funs[i].Id] == nil, "a function's number twice", x.Funs[i].Id)
		s.funs[x.Funs[i].Id] = &x.Funs[i]
	}
	for i := range x.Funs {
		f := &x.Funs[i]
		s.begin()
		s.bindAll(f.Params)
		s.flat(&f.E)
		s.may(f.E.Ty, f.Result, "a function's answer")
	}
	s.begin()
	s.flat(&x.Main)
}

func (s *sounder) must(is bool, what string, x any) {
	if !is {
		s.t.Helper()
		s.t.Fatalf("%s: %+v: %s", what, x, short(s.src))
	}
}

// layout looks at types and shapes as layer 5 does.
func (s *sounder) layout() {
	im := api.Image{Types: s.x.Types, Shapes: s.x.Shapes, Names: s.x.Names, Exn: s.x.Exn}
	im.Funcs = []api.Func{{Blocks: []api.Block{{Code: []api.Instr{{Op: api.OpReturn}}}}}}
	s.must(verify.Whole(im), "types and shapes", im)
}

func (s *sounder) begin() {
	s.vars, s.labels, s.bound = map[int]api.Type{}, map[int]*api.Flat{}, map[int]bool{}
}

func (s *sounder) bind(id int, t api.Type) {
	s.must(!s.bound[id], "bound twice", id)
	s.bound[id] = true
	s.vars[id] = t
}

func (s *sounder) bindAll(l []api.Slot) {
	for _, v := range l {
		s.bind(v.Id, s.typ(v.Ty))
	}
}

func (s *sounder) typ(n int) api.Type {
	s.must(n >= 0 && n < len(s.x.Types), "a type's number", n)
	return s.x.Types[n]
}

// may: what has the type a may stand where b is needed.
func (s *sounder) may(a, b int, what string) {
	s.must(verify.Sub(s.typ(a), s.typ(b)), what, []int{a, b})
}

// is: the type is just what is said.
func (s *sounder) is(e *api.Flat, t api.Type) {
	s.must(verify.Sub(s.typ(e.Ty), t) && verify.Sub(t, s.typ(e.Ty)), "another type", e)
}

// only looks that no fields have anything but these.
func (s *sounder) only(e *api.Flat, fields ...string) {
	v := reflect.ValueOf(*e)
	for i := range v.NumField() {
		name := v.Type().Field(i).Name
		s.must(name == "Kind" || name == "Ty" || slices.Contains(fields, name) || v.Field(i).IsZero(), "a field that means nothing: "+name, e)
	}
}

func (s *sounder) parts(e *api.Flat, n int) {
	s.must(len(e.L) == n, "how many parts", e)
	for i := range e.L {
		s.flat(&e.L[i])
	}
}

func (s *sounder) flat(e *api.Flat) {
	switch e.Kind {
	case api.LInt:
		s.only(e, "N")
		s.is(e, s.typ(0))
	case api.LText:
		s.only(e, "Name")
		s.is(e, s.typ(1))
	case api.LVar:
		s.only(e, "Id")
		t, known := s.vars[e.Id]
		s.must(known, "a variable that isn't known", e)
		s.is(e, t)
	case api.LNew, api.LArray, api.LField, api.LSet:
		s.only(e, "N", "L")
		s.object(e)
	case api.LPrim:
		s.only(e, "Name", "L")
		s.prim(e)
	case api.LCall:
		s.only(e, "Id", "L")
		f := s.funs[e.Id]
		s.must(f != nil, "a function that there isn't", e)
		s.given(e, f.Params)
		s.is(e, s.typ(f.Result))
	case api.LRaise:
		s.only(e, "L")
		s.typ(e.Ty)
		s.parts(e, 1)
		s.may(e.L[0].Ty, s.x.Exn, "what is thrown")
	case api.LJump:
		s.only(e, "Id", "L")
		j := s.labels[e.Id]
		s.must(j != nil, "a label that isn't known", e)
		s.given(e, j.Params)
		s.may(j.L[0].Ty, e.Ty, "what a jump gives")
	default:
		s.scoped(e)
	}
}

// given is what is called with, or jumped with.
func (s *sounder) given(e *api.Flat, params []api.Slot) {
	s.parts(e, len(params))
	for i, p := range params {
		s.may(e.L[i].Ty, p.Ty, "what is given")
	}
}

// scoped is what binds, or what is known in a part of it alone.
func (s *sounder) scoped(e *api.Flat) {
	switch e.Kind {
	case api.LLet:
		s.only(e, "Id", "L")
		s.must(len(e.L) == 2, "how many parts", e)
		s.flat(&e.L[0])
		s.bind(e.Id, s.typ(e.L[0].Ty))
		s.end(e, &e.L[1])
		delete(s.vars, e.Id)
	case api.LSwitch:
		s.only(e, "L", "Nums", "Shapes")
		s.branch(e)
	case api.LHandle:
		s.only(e, "Id", "L")
		s.must(len(e.L) == 2 && e.L[0].Kind == api.LCall, "a call that is handled", e)
		s.end(e, &e.L[0])
		s.bind(e.Id, s.typ(s.x.Exn))
		s.end(e, &e.L[1])
		delete(s.vars, e.Id)
	case api.LJoin:
		s.only(e, "Id", "L", "Params")
		s.must(len(e.L) == 2, "how many parts", e)
		s.bindAll(e.Params)
		s.end(e, &e.L[0])
		for _, p := range e.Params {
			delete(s.vars, p.Id)
		}
		s.must(!s.bound[e.Id], "a label that something else is", e)
		s.bound[e.Id] = true
		s.labels[e.Id] = e
		s.end(e, &e.L[1])
		delete(s.labels, e.Id)
	default:
		s.must(false, "a kind", e)
	}
}

// end is where e may end.
func (s *sounder) end(e, end *api.Flat) {
	s.flat(end)
	s.may(end.Ty, e.Ty, "an end")
}

func (s *sounder) shape(e *api.Flat, kind int) []int {
	s.must(e.N > 0 && e.N < int64(len(s.x.Shapes)) && s.x.Shapes[e.N].Kind == kind, "a shape", e)
	s.is(e, api.Type{Shapes: []int{int(e.N)}})
	return s.x.Shapes[e.N].Fields
}

func (s *sounder) object(e *api.Flat) {
	switch e.Kind {
	case api.LNew:
		fields := s.shape(e, api.Record)
		s.parts(e, len(fields))
		for i, f := range fields {
			s.may(e.L[i].Ty, f, "a field")
		}
	case api.LArray:
		s.parts(e, 2)
		s.may(e.L[0].Ty, 0, "how many")
		s.may(e.L[1].Ty, s.shape(e, api.Array)[0], "an element")
	case api.LField:
		s.parts(e, 1)
		s.is(e, s.fields(e, func(api.Type) {}))
	case api.LSet:
		s.parts(e, 2)
		s.is(e, s.typ(0))
		s.fields(e, func(t api.Type) { s.must(verify.Sub(s.typ(e.L[1].Ty), t), "what is set", e) })
	}
}

// fields are the fields of an object, of a kind of several shapes: the Join of their types.
func (s *sounder) fields(e *api.Flat, see func(t api.Type)) api.Type {
	of := s.typ(e.L[0].Ty)
	s.must(!of.Imm && len(of.Shapes) > 0, "a field of what is no object", e)
	t := api.Type{}
	for _, n := range of.Shapes {
		x := s.x.Shapes[n]
		s.must(x.Kind == api.Record && e.N >= 0 && e.N < int64(len(x.Fields)), "a field that there isn't", e)
		see(s.typ(x.Fields[e.N]))
		t = verify.Join(t, s.typ(x.Fields[e.N]))
	}
	return t
}

func (s *sounder) branch(e *api.Flat) {
	s.must(len(e.L) == 1 || len(e.L) == 2, "how many parts", e)
	v := &e.L[0]
	s.must(v.Kind == api.LVar, "what is looked at", e)
	s.flat(v)
	was := s.vars[v.Id]
	for i := range e.Nums {
		s.end(e, &e.Nums[i].E)
	}
	for i := range e.Shapes {
		s.vars[v.Id] = api.Type{Shapes: []int{int(e.Shapes[i].N)}}
		s.end(e, &e.Shapes[i].E)
	}
	s.vars[v.Id] = was
	if len(e.L) == 2 {
		s.end(e, &e.L[1])
	}
	s.must(!was.Imm || len(e.Nums) > 0 || len(e.L) == 2, "no way for numbers", e)
}

// prim: what reckonings need, and what they give.
func (s *sounder) prim(e *api.Flat) {
	args := map[string]string{
		"+": "nn", "-": "nn", "*": "nn", "div": "nn", "mod": "nn", "<": "nn", "<=": "nn", ">": "nn", ">=": "nn", "=": "nn", "<>": "nn",
		"^": "tt", "print": "t", "putc": "n", "getc": "", "size": "t", "byte": "tn", "cmp": "tt", "length": "a", "sub": "an", "update": "ane",
	}
	of, is := args[e.Name]
	s.must(is, "a reckoning", e)
	s.parts(e, len(of))
	element := -1
	for i, kind := range of {
		ty := e.L[i].Ty
		switch kind {
		case 'n':
			s.may(ty, 0, "a number")
		case 't':
			s.may(ty, 1, "a text")
		case 'a':
			t := s.typ(ty)
			s.must(!t.Imm && len(t.Shapes) == 1 && s.x.Shapes[t.Shapes[0]].Kind == api.Array, "an array", e)
			element = s.x.Shapes[t.Shapes[0]].Fields[0]
		case 'e':
			s.may(ty, element, "an element")
		}
	}
	switch e.Name {
	case "^":
		s.is(e, s.typ(1))
	case "sub":
		s.is(e, s.typ(element))
	default:
		s.is(e, s.typ(0))
	}
}
