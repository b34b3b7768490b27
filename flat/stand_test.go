package flat

import (
	"reflect"
	"testing"

	"bellows/api"
)

// P12.1: what every program has, and nothing more where nothing is needed.
func TestWhatEveryProgramHas(t *testing.T) {
	x := Flatten(written(t, "1"))
	want := api.FlatProg{
		Types: []api.Type{{Imm: true}, {Shapes: []int{0}}}, Shapes: []api.Shape{{Kind: api.Bytes}},
		Names: []string{"Match", "Div", "Subscript", "Size"}, Main: api.Flat{Kind: api.LInt, N: 1},
	}
	if !reflect.DeepEqual(x, want) {
		t.Errorf("%+v", x)
	}
}

// shapesOf are how many shapes there are of a kind with so many fields.
func shapesOf(x api.FlatProg, kind, fields int) int {
	n := 0
	for _, s := range x.Shapes {
		if s.Kind == kind && len(s.Fields) == fields {
			n++
		}
	}
	return n
}

// P12.1: one shape for each constructor that is a Record, used or not, and for tuples, refs and arrays of the same type.
func TestHowManyShapes(t *testing.T) {
	for _, v := range []struct {
		src                         string
		of1, of2, of3, arrays, many int
	}{
		{"((1, 2), (3, 4), (5, 6))", 0, 1, 1, 0, 2},
		{"((1, 2), (true, 4), (5, ()))", 0, 3, 1, 0, 4},
		{"(1, 2, 3, ref 1, ref 2, ref true, ref (ref 1))", 3, 0, 0, 0, 4},
		{"(array (1, 2), array (2, 3), array (1, true), array (1, array (1, 1)))", 0, 0, 0, 3, 4},
		{"datatype t = A of int | B of int | C of int * int | D of int * int | E of (int * int) * int in 1", 2, 4, 0, 0, 0},
		{"datatype t = A of int | B of int | C of int * int | D of int * int | E of (int * int) * int in A 1", 2, 4, 0, 0, 6},
		{"datatype 'a t = A of 'a | B in (A 1, A true, A (A 1))", 3, 0, 1, 0, 4},
		{"datatype 'a t = A of 'a in (A 1, A true, A (A 1))", 0, 0, 1, 0, 1},
		{"datatype 'a t = A of 'a in (A (1, 2), (1, 2))", 0, 2, 0, 0, 2},
		{"exception A of int exception B of int * int in 1", 1, 1, 0, 0, 2},
		{"[1, 2, 3]", 0, 1, 0, 0, 1},
		{"[[1], [2]]", 0, 2, 0, 0, 2},
	} {
		p := written(t, v.src)
		x := Flatten(p)
		c := paired(t, v.src, p, x, nil)
		got := []int{shapesOf(x, api.Record, 1), shapesOf(x, api.Record, 2), shapesOf(x, api.Record, 3), shapesOf(x, api.Array, 1)}
		want := []int{v.of1, v.of2, v.of3, v.arrays}
		if v.many == 0 { // of a datatype that isn't reached there is nothing
			want = []int{0, 0, 0, 0}
		}
		if !reflect.DeepEqual(got, want) || len(x.Shapes) != v.many+1 {
			t.Error(v.src, got, c.shapes)
		}
	}
}

// P12.1: exceptions have the names that were declared.
func TestNamesOfExceptions(t *testing.T) {
	src := "exception A exception B of int exception A exception B of int * int exception Div exception Size of string in 1"
	x := Flatten(written(t, src))
	if want := []string{"Match", "Div", "Subscript", "Size", "A", "A", "Div"}; !reflect.DeepEqual(x.Names, want) {
		t.Error(x.Names)
	}
	var names []string
	exn := x.Types[x.Exn]
	for _, n := range exn.Shapes {
		names = append(names, x.Shapes[n].Name)
	}
	if want := []string{"B", "B", "Size"}; !reflect.DeepEqual(names, want) || !exn.Imm {
		t.Error(names)
	}
	x = Flatten(written(t, "datatype t = A of int | B of int * int exception E of t in E (A 1)"))
	for i, s := range x.Shapes {
		if (s.Name != "") != (i == x.Types[x.Exn].Shapes[0]) {
			t.Error(i, s)
		}
	}
}

// P12.2.
func TestOrder(t *testing.T) {
	p := written(t, "datatype t = A | B of int | C | D of int * int | E datatype 'a o = N | S of 'a datatype u = U datatype w = W of int exception X exception Y of int exception X in (A, S 1, N, U, W 1, [1], fn x => x + 1)")
	for name, want := range map[string]int{
		"false": 0, "true": 1, "Match": 0, "Div": 1, "Subscript": 2, "Size": 3, "X": 4, "Y": -1, "X#1": 5,
		"A": 0, "B": -1, "C": 1, "D": -1, "E": 2, "U": 0, "W": -1, "N": -1, "S": -1, "Nil": -1, "Cons": -1, "": -1, "t": -1, "exn": -1, "bool": -1, "a": -1, "X#2": -1,
	} {
		n, is := Order(p, name)
		if is != (want >= 0) || n != max(want, 0) {
			t.Error(name, n, is)
		}
	}
	marked := 0
	for _, d := range p.Datas {
		n := 0
		for _, c := range d.Cons {
			if m, is := Order(p, c.Name); is == c.Has || is && m != n || !is && m != 0 {
				t.Error(c, m, is)
			}
			if !c.Has {
				n++
			}
			if c.Name != d.Name && len(c.Name) > 1 && c.Name[1] == '@' {
				marked++
			}
		}
	}
	if marked < 2 {
		t.Error("instances' constructors", marked)
	}
	if n, is := Order(api.FProg{}, "A"); n != 0 || is {
		t.Error(n, is)
	}
}

// P12.1, P12.2: a value that Order gives is the number that the constructor is.
func TestOrderIsWhatStands(t *testing.T) {
	p := written(t, "datatype t = A | B of int | C | D of int * int | E in [A, C, E]")
	x := Flatten(p)
	for e, i := &x.Main, 0; e.Kind == api.LNew; e, i = &e.L[1], i+1 {
		if n, is := Order(p, []string{"A", "C", "E"}[i]); !is || e.L[0].N != int64(n) || n != i {
			t.Error(i, n, e.L[0])
		}
	}
}

// P12.1: types whose lists stand one in the other in memory are still different ones.
func TestListsThatShareRoom(t *testing.T) {
	l := []api.T{xcon("int"), xcon("string"), xcon("int")}
	k := api.Core{Kind: api.KTuple, T: xtup(xtup(l[:2]...), xtup(l...), xtup(l[1:]...)), L: []api.Core{varOf(1, xtup(l[:2]...)), varOf(2, xtup(l...)), varOf(3, xtup(l[1:]...))}}
	for i, want := range [][]int{{0, 1}, {0, 1, 0}, {1, 0}} {
		x := Flatten(api.FProg{Datas: basic(), Main: k})
		s := x.Shapes[x.Types[x.Main.L[i].Ty].Shapes[0]]
		if !reflect.DeepEqual(s.Fields, want) {
			t.Error(i, s)
		}
	}
}
