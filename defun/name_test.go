package defun

import (
	"slices"
	"strings"
	"testing"

	"bellows/api"
)

// named texts have many names that are alike, and functions of each sort.
func namedTexts() []string {
	return []string{
		"1", "fn x => x", "[fn x => x]", "fun f x = x in f; f",
		"datatype t = A datatype t = A of t -> t datatype 'a t = A of 'a in (A (fn x => x), A 1, fn x => A x)",
		"datatype fn1 = Fn of fn1 -> fn1 | FN1 datatype f = F of fn1 list in (F [Fn (fn x => x)], fn Fn f => f | x => fn y => x)",
		"exception E of int -> int exception E of (int -> int) list in (E [fn x => x]; fn E [f] => f 1 | _ => 0)",
		"fun f x y z = (x, y, z) in (f 1 2 3, f (f 1) (f 2) (f 3), [f 1 2, f 3 4])",
		"val a = 1 + 1 in (fn x => (x + a) handle Div => a | e => (raise e) handle Match => a, (fn y => y) handle Size => fn y => y + 0)",
		"fun f n = if n = 0 then g else f (n - 1) and g n = f n n in ([f 1, g], f, fn x => f)",
		"(raise Div) (raise Div) 1 2",
	}
}

// P11.2: Datas are those of p first, in their order, with their names and constructors, then those of classes.
func TestOrderOfDatas(t *testing.T) {
	for _, src := range namedTexts() {
		c := checked(t, src)
		n := len(c.p.Datas)
		cons := func(d api.Data) string { return joined(d.Cons, " ", func(k api.DataCon) string { return k.Name }) }
		for i, d := range c.p.Datas {
			if y := c.x.Datas[i]; y.Name != d.Name || cons(y) != cons(d) {
				t.Error(src, i, y.Name)
			}
		}
		for _, d := range c.x.Datas[n:] {
			if slices.ContainsFunc(c.p.Datas, func(e api.Data) bool { return e.Name == d.Name }) || strings.Contains(" int string ref array exn bool ", " "+d.Name+" ") {
				t.Error(src, d.Name)
			}
		}
	}
}

// P11.2: no name and no number of a function, datatype or constructor is another's, nor a variable's.
func TestNamesAndNumbersAreNewOnes(t *testing.T) {
	check := func(src string, x api.FProg) {
		names, numbers := map[string]int{}, map[int]int{}
		for _, d := range x.Datas {
			names[d.Name]++
			for _, k := range d.Cons {
				names[k.Name]++
			}
		}
		vars := map[int]int{}
		for _, f := range x.Funs {
			numbers[f.Id]++
			for _, id := range boundIn(&f) {
				vars[id]++
			}
		}
		for s, n := range names {
			if n > 1 {
				t.Error(src, s)
			}
		}
		for id, n := range numbers {
			if n > 1 || vars[id] > 0 {
				t.Error(src, id)
			}
		}
	}
	for _, src := range namedTexts() {
		check(src, checked(t, src).x)
	}
	typed(t, 50, 500, func(_ *author, src string, p api.Prog) { check(src, Defun(p)) })
}

// boundIn are the variables that a function binds, its parameters first.
func boundIn(f *api.FFun) []int {
	var l []int
	for _, p := range f.Params {
		l = append(l, p.Id)
	}
	var pat func(p *api.CPat)
	pat = func(p *api.CPat) {
		if p.Kind == api.PVar {
			l = append(l, p.Id)
		}
		for i := range p.L {
			pat(&p.L[i])
		}
	}
	var visit func(c *api.Core)
	visit = func(c *api.Core) {
		if c.Kind == api.KHandle {
			l = append(l, c.Id)
		}
		for _, g := range c.Funs {
			l = append(l, g.Id)
		}
		for i := range c.Ways {
			pat(&c.Ways[i].P)
		}
		inside(c, visit)
	}
	visit(&f.E)
	return l
}

// P11.2: variables keep their numbers: each of p's, but those that a KFix binds, is bound in one function; in others it is a parameter at most.
func TestVariablesKeepTheirNumbers(t *testing.T) {
	typed(t, 51, 500, func(_ *author, src string, p api.Prog) {
		x := Defun(p)
		c := paired(t, src, p, x)
		in := map[int]int{} // in how many functions a variable is bound, but as a parameter that is handed on
		note := func(f *api.FFun, from int) {
			for i, id := range boundIn(f) {
				if i >= from {
					in[id]++
				}
			}
		}
		note(&api.FFun{E: x.Main}, 0)
		for i := range x.Funs {
			f := &x.Funs[i]
			from := len(f.Params)
			if from > 0 && c.own[f.Params[from-1].Id] == f {
				from--
			}
			note(f, from)
		}
		for id := range c.m.vars {
			want := 1
			if c.m.named[id] != nil {
				want = 0
			}
			if in[id] != want {
				t.Fatal(src, id, in[id], want)
			}
		}
	})
}
