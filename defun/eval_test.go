package defun

import (
	"fmt"
	"regexp"
	"strconv"
	"strings"

	"bellows/api"
	"bellows/word"
)

// A value is an int64, a string, a []any (a tuple), a *con, a closure, a *any (a cell), a []*any (an array). Where it isn't what it should be, Go panics: the core is stuck.
type con struct {
	name string
	args []any
}

type closure func(any) any

// known is what variables are, the innermost first.
type known struct {
	id    int
	v     any
	outer *known
}

func (k *known) with(id int, v any) *known { return &known{id, v, k} }

func (k *known) get(id int) any {
	for ; k != nil; k = k.outer {
		if k.id == id {
			return k.v
		}
	}
	panic("a variable that isn't known")
}

// thrown is an exception on its way, outOfFuel the end of a run that is too long.
type thrown struct{ con *con }
type outOfFuel struct{}

// runner is what a run does outside, how many cores it may still work out, and the functions that may be called.
type runner struct {
	in, out []byte
	fuel    int
	funs    map[int]*api.FFun
}

// outcome is how a run ended, and what was put out.
type outcome struct{ end, out string }

// runFirst works a first-order program out.
func runFirst(x api.FProg, in string, fuel int) outcome {
	funs := map[int]*api.FFun{}
	for i := range x.Funs {
		funs[x.Funs[i].Id] = &x.Funs[i]
	}
	return run(x.Main, funs, in, fuel)
}

// run works a core out.
func run(c api.Core, funs map[int]*api.FFun, in string, fuel int) (o outcome) {
	r := &runner{in: []byte(in), fuel: fuel, funs: funs}
	defer func() {
		o.out = string(r.out)
		switch x := recover().(type) {
		case nil:
		case thrown:
			o.end = "raised " + shown(x.con)
		case outOfFuel:
			o.end = "no fuel"
		default:
			o.end = fmt.Sprint("stuck: ", x)
		}
	}()
	return outcome{end: "done " + shown(r.core(&c, nil))}
}

// shown is a value, as far as it can be told from another one: what stands for functions is one.
func shown(v any) string {
	switch x := v.(type) {
	case int64:
		return strconv.FormatInt(x, 10)
	case string:
		return strconv.Quote(x)
	case []any:
		return "(" + joined(x, ", ", shown) + ")"
	case *con:
		if strings.HasPrefix(x.name, "fn@") {
			break
		}
		return x.name + joined(x.args, "", func(v any) string { return " " + shown(v) })
	case *any:
		return "ref " + shown(*x)
	case []*any:
		return "array " + strconv.Itoa(len(x))
	}
	return "fn"
}

func (r *runner) each(l []api.Core, k *known) []any {
	return each(l, func(c *api.Core) any { return r.core(c, k) })
}

func (r *runner) core(c *api.Core, k *known) any {
	if r.fuel--; r.fuel < 0 {
		panic(outOfFuel{})
	}
	switch c.Kind {
	case api.KInt:
		return c.N
	case api.KText:
		return c.Name
	case api.KVar:
		return k.get(c.Id)
	case api.KCon:
		return &con{c.Name, r.each(c.L, k)}
	case api.KApp:
		l := r.each(c.L, k)
		return l[0].(closure)(l[1])
	case api.KFn:
		return closure(func(x any) any { return r.core(&c.L[0], k.with(c.Id, x)) })
	case api.KCall:
		return r.call(c, k)
	case api.KTuple:
		return r.each(c.L, k)
	case api.KRaise:
		panic(thrown{r.core(&c.L[0], k).(*con)})
	case api.KPrim:
		return r.prim(c.Name, r.each(c.L, k))
	case api.KLet:
		return r.core(&c.L[0], k.with(c.Funs[0].Id, r.core(&c.Funs[0].E, k)))
	case api.KFix:
		return r.core(&c.L[0], r.fix(c, k))
	case api.KHandle:
		return r.handle(c, k)
	}
	v, is := r.way(c.Ways, r.core(&c.L[0], k), k)
	if !is {
		panic("no way fits")
	}
	return v
}

// call works a function out, which knows its parameters alone.
func (r *runner) call(c *api.Core, k *known) any {
	l := r.each(c.L, k)
	f := r.funs[c.Id]
	if len(l) != len(f.Params) {
		panic("another number of parameters")
	}
	var in *known
	for i, p := range f.Params {
		in = in.with(p.Id, l[i])
	}
	return r.core(&f.E, in)
}

func (r *runner) fix(c *api.Core, k *known) *known {
	all := k
	for _, f := range c.Funs {
		all = all.with(f.Id, nil)
	}
	at := all
	for i := len(c.Funs) - 1; i >= 0; i-- {
		at.v = r.core(&c.Funs[i].E, all)
		at = at.outer
	}
	return all
}

func (r *runner) handle(c *api.Core, k *known) (v any) {
	defer func() {
		x := recover()
		e, is := x.(thrown)
		if x != nil && !is {
			panic(x)
		}
		if !is {
			return
		}
		if v, is = r.way(c.Ways, e.con, k.with(c.Id, e.con)); !is {
			panic(e)
		}
	}()
	return r.core(&c.L[0], k)
}

// way is what the first way that fits gives.
func (r *runner) way(l []api.Way, v any, k *known) (any, bool) {
	for i := range l {
		if in, is := fitted(&l[i].P, v, k); is {
			return r.core(&l[i].E, in), true
		}
	}
	return nil, false
}

func fitted(p *api.CPat, v any, k *known) (*known, bool) {
	var of []any
	switch p.Kind {
	case api.PVar:
		return k.with(p.Id, v), true
	case api.PInt:
		return k, v.(int64) == p.N
	case api.PCon:
		if v.(*con).name != p.Name {
			return k, false
		}
		of = v.(*con).args
	case api.PTuple:
		of = v.([]any)
	}
	if len(p.L) != len(of) {
		panic("another number of parts")
	}
	is := true
	for i := 0; is && i < len(p.L); i++ {
		k, is = fitted(&p.L[i], of[i], k)
	}
	return k, is
}

func throw(name string) any { panic(thrown{&con{name: name}}) }

func truth(is bool) any { return &con{name: strconv.FormatBool(is)} }

func (r *runner) prim(name string, l []any) any {
	if v := reckoned(name, l); v != nil {
		return v
	}
	if v := held(name, l); v != nil {
		return v
	}
	switch name {
	case "print":
		r.out = append(r.out, l[0].(string)...)
		return []any{}
	case "putc":
		r.out = append(r.out, byte(l[0].(int64)))
		return []any{}
	case "getc":
		if len(r.in) == 0 {
			return int64(-1)
		}
		b := r.in[0]
		r.in = r.in[1:]
		return int64(b)
	}
	panic("no reckoning: " + name)
}

// reckoned is what reckonings make of numbers and texts.
func reckoned(name string, l []any) any {
	n := func(i int) int64 { return l[i].(int64) }
	s := func(i int) string { return l[i].(string) }
	divided := func(v int64, is bool) any {
		if !is {
			return throw("Div")
		}
		return v
	}
	switch name {
	case "+":
		return word.Add(n(0), n(1))
	case "-":
		return word.Sub(n(0), n(1))
	case "*":
		return word.Mul(n(0), n(1))
	case "~":
		return word.Sub(0, n(0))
	case "div":
		return divided(word.Div(n(0), n(1)))
	case "mod":
		return divided(word.Mod(n(0), n(1)))
	case "<":
		return truth(n(0) < n(1))
	case "<=":
		return truth(n(0) <= n(1))
	case ">":
		return truth(n(0) > n(1))
	case ">=":
		return truth(n(0) >= n(1))
	case "=":
		return truth(n(0) == n(1))
	case "<>":
		return truth(n(0) != n(1))
	case "^":
		if len(s(0))+len(s(1)) > api.MaxLen {
			return throw("Size")
		}
		return s(0) + s(1)
	case "size":
		return int64(len(s(0)))
	case "byte":
		if n(1) < 0 || n(1) >= int64(len(s(0))) {
			return throw("Subscript")
		}
		return int64(s(0)[n(1)])
	case "cmp":
		return int64(strings.Compare(s(0), s(1)))
	}
	return nil
}

// held is what is done with cells and arrays.
func held(name string, l []any) any {
	cell := func() *any {
		a, i := l[0].([]*any), l[1].(int64)
		if i < 0 || i >= int64(len(a)) {
			throw("Subscript")
		}
		return a[i]
	}
	switch name {
	case "ref":
		v := l[0]
		return &v
	case "!":
		return *l[0].(*any)
	case ":=":
		*l[0].(*any) = l[1]
	case "array":
		n := l[0].(int64)
		if n < 0 || n > api.MaxLen {
			throw("Size")
		}
		a := make([]*any, n)
		for i := range a {
			v := l[1]
			a[i] = &v
		}
		return a
	case "length":
		return int64(len(l[0].([]*any)))
	case "sub":
		return *cell()
	case "update":
		*cell() = l[2]
	default:
		return nil
	}
	return []any{}
}

// unmarked is what a run ended with, without what tells datatypes' instances apart.
func unmarked(end string) string { return regexp.MustCompile("@[0-9]+").ReplaceAllString(end, "") }
