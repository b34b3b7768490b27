package mono

import (
	"regexp"
	"slices"
	"strings"
	"testing"

	"bellows/api"
)

// names are those of datatypes and constructors, with A, B, .. for numbers, and the datatypes' marks as they are.
func names(q api.Prog) (string, []string) {
	w := newTeller()
	var marks []string
	s := joined(q.Datas, "; ", func(d api.Data) string {
		if k := mark(d.Name); k != "" {
			marks = append(marks, k)
		}
		return w.name(d.Name) + ": " + joined(d.Cons, " ", func(c api.DataCon) string { return w.name(c.Name) })
	})
	return s, marks
}

const always = "exn: Match Div Subscript Size; bool: false true"

// P10.3: names of instances whose row is empty are as they were; others have @ and a number, their constructors the same one.
func TestNamesOfInstances(t *testing.T) {
	for src, want := range map[string]string{
		"1":                                  always,
		"[1]":                                always + "; list@A: Nil@A Cons@A",
		"datatype t = A | B of int in A":     always + "; t: A B",
		"datatype 'a t = A | B of 'a in A":   always + "; t@A: A@A B@A",
		"datatype t = A datatype t = A in A": always + "; t#1: A#1",
		"datatype t = A datatype 'a t = A of 'a in A 1":          always + "; t#1@A: A#1@A",
		"datatype list = Nil | Cons in Cons":                     always + "; list#1: Nil#1 Cons#1",
		"exception E of int exception F exception E in 1":        strings.Replace(always, "Size", "Size E F E#1", 1),
		"datatype 'a p = P datatype u = U of int p in 1; U P":    always + "; u: U; p@A: P@A",
		"datatype ('a, 'b) t = A of 'a | B of 'b in A 1; A \"\"": always + "; t@A: A@A B@A; t@B: A@B B@B",
		"datatype bool = false in (false, 1 < 2)":                always + "; bool#1: false#1",
	} {
		q := checked(t, src, Instances(elaborated(t, src)))
		got, marks := names(q)
		a, b := strings.Split(got, "; "), strings.Split(want, "; ")
		if len(a) > 4 || !slices.Equal(a[:2], b[:2]) { // behind exn and bool their order is free
			t.Fatal(src, got)
		}
		slices.Sort(a[2:])
		slices.Sort(b[2:])
		if !slices.Equal(a, b) {
			t.Errorf("%s: %s, want %s", src, got, want)
		}
		slices.Sort(marks)
		if n := len(marks); len(slices.Compact(marks)) != n {
			t.Error(src, marks)
		}
		for _, k := range marks {
			if !regexp.MustCompile("^@(0|[1-9][0-9]*)$").MatchString(k) {
				t.Error(src, k)
			}
		}
	}
}

// P10.3: exn stands first, then bool, whatever is reached first.
func TestOrderOfDatas(t *testing.T) {
	for _, src := range []string{
		"1", "true", "[1]", "[Div]", "[true]", "[true, raise Div]", "datatype t = A of bool in A true", "exception E of bool list in raise E []",
		"datatype t = A of exn | B of t in (B (A Div), true)", "datatype 'a t = A of 'a in (A true, A Div, A (A 1))", "fun f x = [x] in (f true, f Div)",
	} {
		q := checked(t, src, Instances(elaborated(t, src)))
		if q.Datas[0].Name != "exn" || q.Datas[1].Name != "bool" || q.Datas[0].Cons[0].Name != "Match" || q.Datas[1].Cons[1].Name != "true" {
			t.Error(src)
		}
	}
}

// P10.3: constructors stay in their order, with what they have.
func TestConstructorsInTheirOrder(t *testing.T) {
	q := checked(t, "datatype 'a t = Z | A of 'a | M of 'a t * int | B of 'a -> 'a in A 1", 3)
	if got, want := newTeller().data(q.Datas[2]), "t@A = Z@A | A@A of int | M@A of (t@A, int) | B@A of (int -> int)"; got != want {
		t.Error(got)
	}
	q = checked(t, "exception A of int exception Z exception A of string * exn in 1", 2)
	if got, want := newTeller().data(q.Datas[0]), "exn = Match | Div | Subscript | Size | A of int | Z | A#1 of (string, exn)"; got != want {
		t.Error(got)
	}
}

// numbers are those of all variables that are bound.
func numbers(c *api.Core) []int {
	var l []int
	if c.Kind == api.KFn || c.Kind == api.KHandle {
		l = append(l, c.Id)
	}
	for i := range c.Funs {
		l = append(append(l, c.Funs[i].Id), numbers(&c.Funs[i].E)...)
	}
	for i := range c.L {
		l = append(l, numbers(&c.L[i])...)
	}
	for i := range c.Ways {
		l = append(append(l, patNumbers(&c.Ways[i].P)...), numbers(&c.Ways[i].E)...)
	}
	return l
}

func patNumbers(p *api.CPat) []int {
	var l []int
	if p.Kind == api.PVar {
		l = append(l, p.Id)
	}
	for i := range p.L {
		l = append(l, patNumbers(&p.L[i])...)
	}
	return l
}

// P10.3: each variable that is bound, in the copy of each instance, has another number.
func TestNumbersOfVariables(t *testing.T) {
	const body = "let val (a, b) = (x, x) val c = (a, 1 + 1) fun g y = (c; y) in ((fn q => q) (g b; g 1; x)) handle Div => x | e => raise e end"
	for src, n := range map[string]int{
		"fun f x = " + body + " in f 1":                        13,
		"fun f x = " + body + " in (f 1, f \"\")":              29,
		"fun f x = " + body + " in (f 1, f \"\", f ())":        45,
		"val f = fn x => " + body + " in (f 1, f \"\")":        29,
		"fun f x = " + body + " val h = f in (h 1, h \"\")":    31,
		"fun f x = " + body + " fun h x = f x in h 1":          16,
		"(fn x => x; fn x => x; 1 handle x => 2 | x => 3)":     7,
		"fn x => let val x = x + 1 val x = x + 1 in x end":     4,
		"fun f x = x in (f 1, f \"\", (fn x => x) 3)":          8,
		"fn (x, y, z) => fn (x, y, z) => (x, y, z, fn w => 1)": 10,
	} {
		q := checked(t, src, Instances(elaborated(t, src)))
		l := numbers(&q.Main)
		there := map[int]bool{}
		for _, id := range l {
			if there[id] || id < 0 {
				t.Error(src, id)
			}
			there[id] = true
		}
		if len(l) != n {
			t.Errorf("%s: %d, want %d", src, len(l), n)
		}
	}
}
