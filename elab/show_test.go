package elab

import (
	"strconv"
	"strings"
	"testing"

	"bellows/api"
)

func typeOf(t api.T) string { return Type(api.Prog{Main: api.Core{T: t}}) }

// P9.6: how types are written.
func TestType(t *testing.T) {
	num := xcon("int")
	for want, x := range map[string]api.T{
		"int": num, "string": xcon("string"), "t#1": xcon("t#1"), "()": xtup(), "(int * string)": xtup(num, xcon("string")), "(int * int * ())": xtup(num, num, xtup()),
		"(int -> string)": xfun(num, xcon("string")), "((int -> ()) -> (int * int))": xfun(xfun(num, xtup()), xtup(num, num)), "(int -> (int -> int))": xfun(num, xfun(num, num)),
		"int list": xcon("list", num), "int list list": xcon("list", xcon("list", num)), "(int, string) t": xcon("t", num, xcon("string")), "(int, int, int) t#2 list": xcon("list", xcon("t#2", num, num, num)),
		"(int * int) list": xcon("list", xtup(num, num)), "(int -> int) ref": xcon("ref", xfun(num, num)), "() list": xcon("list", xtup()), "((int, int) t, int list) t": xcon("t", xcon("t", num, num), xcon("list", num)),
		"'a": xvar(0), "('a -> 'a)": xfun(xvar(7), xvar(7)), "('a * 'b * 'a * 'c)": xtup(xvar(3), xvar(1), xvar(3), xvar(2)), "'a list": xcon("list", xvar(9)), "('a, 'b) t": xcon("t", xvar(1), xvar(0)), "('a -> ('b -> 'a))": xfun(xvar(-1), xfun(xvar(5), xvar(-1))),
	} {
		if got := typeOf(x); got != want {
			t.Errorf("%s: %s, want %s", toldT(x), got, want)
		}
	}
	p := api.Prog{Datas: []api.Data{{Name: "exn"}}, Main: api.Core{Kind: api.KTuple, T: xcon("int"), L: []api.Core{{T: xcon("string")}}}}
	if got := Type(p); got != "int" {
		t.Error(got)
	}
}

// P9.6: type variables behind z.
func TestTypeVariablesBehindZ(t *testing.T) {
	for n := range 60 {
		var l []api.T
		var want []string
		for i := range n + 2 {
			l = append(l, xvar(1000-i))
			name := "'" + string(rune('a'+i))
			if i > 25 {
				name = "'a" + strconv.Itoa(i)
			}
			want = append(want, name)
		}
		l, want = append(l, l[0], l[n]), append(want, want[0], want[n])
		if got := typeOf(xtup(l...)); got != "("+strings.Join(want, " * ")+")" {
			t.Error(n, got)
		}
	}
}

// P9.6: the types of programs, with second names.
func TestTypesOfPrograms(t *testing.T) {
	has(t, "(int * string)", "fun id x = x in (id 1, id \"a\")")
	has(t, "() list ref", "val r = ref [] in r")
	has(t, "(int, bool) t#1", "datatype t = A datatype ('a, 'b) t = B of 'b * 'a in B (true, 1)")
	has(t, "(bool#1 * bool)", "datatype bool = Maybe in (Maybe, 1 < 2)")
	has(t, "((int -> int) * (() -> ()) * int list list * exn)", "(fn x => x + 1, fn x => x, [[1]], Div)")
}

// P5: of what is no type there is a text, too.
func TestTypeOfAnything(t *testing.T) {
	c := &chance{seed: 40}
	for range 20000 {
		var p api.Prog
		c.fill(&p, 4)
		if Type(p) != Type(p) {
			t.Fatal(p)
		}
	}
	for _, x := range []api.T{{}, {Kind: 99}, {Kind: -1, L: []api.T{xvar(1)}}, {Kind: api.XFun}, {Kind: api.XFun, L: []api.T{xvar(1)}}, {Kind: api.XTup, L: []api.T{xvar(1)}}} {
		typeOf(x)
	}
}
