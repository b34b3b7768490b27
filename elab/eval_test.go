package elab

import (
	"fmt"
	"strconv"
	"strings"

	"bellows/api"
	"bellows/word"
)

// A value is an int64, a string, a []any (a tuple), a *built, a func(any) any, a *cellOf, or a []*cellOf (an array). What isn't what it should be makes Go panic: the program is stuck.
type built struct {
	id   any // which constructor
	name string
	arg  any // nil, if it has nothing
}

type cellOf struct{ v any }

// thrown is an exception on its way, noFuel the end of a run that is too long.
type thrown struct{ m *built }
type noFuel struct{}

// run is what a program does outside, and how much of it is still to be done.
type run struct {
	in, out []byte
	fuel    int
	exn     func(name string) *built // those that reckonings throw
}

func (r *run) step() {
	if r.fuel--; r.fuel < 0 {
		panic(noFuel{})
	}
}

func (r *run) throw(name string) { panic(thrown{r.exn(name)}) }

// reckon is what a reckoning does. is makes a bool.
func (r *run) reckon(name string, l []any, is func(bool) any) any {
	num := func(i int) int64 { return l[i].(int64) }
	text := func(i int) string { return l[i].(string) }
	row := func() *cellOf {
		a, i := l[0].([]*cellOf), num(1)
		if i < 0 || i >= int64(len(a)) {
			r.throw("Subscript")
		}
		return a[i]
	}
	divided := func(by func(a, b int64) (int64, bool)) any {
		n, ok := by(num(0), num(1))
		if !ok {
			r.throw("Div")
		}
		return n
	}
	switch name {
	case "+":
		return word.Add(num(0), num(1))
	case "-":
		return word.Sub(num(0), num(1))
	case "*":
		return word.Mul(num(0), num(1))
	case "div":
		return divided(word.Div)
	case "mod":
		return divided(word.Mod)
	case "<":
		return is(num(0) < num(1))
	case "<=":
		return is(num(0) <= num(1))
	case ">":
		return is(num(0) > num(1))
	case ">=":
		return is(num(0) >= num(1))
	case "=":
		return is(num(0) == num(1))
	case "<>":
		return is(num(0) != num(1))
	case "~":
		return word.Sub(0, num(0))
	case "^":
		if len(text(0))+len(text(1)) > api.MaxLen {
			r.throw("Size")
		}
		return text(0) + text(1)
	case ":=", "!", "ref", "array", "length", "sub", "update":
		return r.store(name, l, row)
	}
	return r.outside(name, l, num, text)
}

func (r *run) store(name string, l []any, row func() *cellOf) any {
	switch name {
	case ":=":
		l[0].(*cellOf).v = l[1]
	case "!":
		return l[0].(*cellOf).v
	case "ref":
		return &cellOf{l[0]}
	case "array":
		n := l[0].(int64)
		if n < 0 || n > api.MaxLen {
			r.throw("Size")
		}
		var a []*cellOf
		for range n {
			a = append(a, &cellOf{l[1]})
		}
		return a
	case "length":
		return int64(len(l[0].([]*cellOf)))
	case "sub":
		return row().v
	case "update":
		row().v = l[2]
	}
	return []any{}
}

func (r *run) outside(name string, l []any, num func(int) int64, text func(int) string) any {
	switch name {
	case "print":
		r.out = append(r.out, text(0)...)
	case "putc":
		r.out = append(r.out, byte(num(0)))
	case "getc":
		if len(l) != 0 {
			panic("getc of something")
		}
		if len(r.in) == 0 {
			return int64(-1)
		}
		b := r.in[0]
		r.in = r.in[1:]
		return int64(b)
	case "size":
		return int64(len(text(0)))
	case "byte":
		if num(1) < 0 || num(1) >= int64(len(text(0))) {
			r.throw("Subscript")
		}
		return int64(text(0)[num(1)])
	case "cmp":
		return int64(strings.Compare(text(0), text(1)))
	default:
		panic("no reckoning: " + name)
	}
	return []any{}
}

// shown is a value, as far as it can be told from another one.
func shown(v any) string {
	switch x := v.(type) {
	case int64:
		return strconv.FormatInt(x, 10)
	case string:
		return strconv.Quote(x)
	case []any:
		return "(" + rows(x, ", ", shown) + ")"
	case *built:
		name, _, _ := strings.Cut(x.name, "#")
		if x.arg == nil {
			return name
		}
		return name + " " + shown(x.arg)
	case *cellOf:
		return "ref " + shown(x.v)
	case []*cellOf:
		return "array of " + strconv.Itoa(len(x))
	}
	return "fn"
}

// ran is how a run ended.
type ran struct {
	out string
	end string
}

func (r *run) all(do func() any) (x ran) {
	defer func() {
		switch p := recover().(type) {
		case nil:
		case thrown:
			x = ran{string(r.out), "raised " + shown(p.m)}
		case noFuel:
			x = ran{string(r.out), "no fuel"}
		default:
			x = ran{string(r.out), fmt.Sprint("stuck: ", p)}
		}
	}()
	v := do()
	return ran{string(r.out), "done " + shown(v)}
}

// evalCore is what a core does.
func evalCore(c api.Core, in string, fuel int) ran {
	r := &run{in: []byte(in), fuel: fuel, exn: func(name string) *built { return &built{name, name, nil} }}
	return r.all(func() any { return r.core(&c, map[int]any{}) })
}

// with is what is known, with one thing more.
func withVar(vars map[int]any, id int, v any) map[int]any {
	m := map[int]any{id: v}
	for k, x := range vars {
		m[k] = x
	}
	return m
}

func (r *run) cores(l []api.Core, vars map[int]any) []any {
	all := []any{}
	for i := range l {
		all = append(all, r.core(&l[i], vars))
	}
	return all
}

func (r *run) core(c *api.Core, vars map[int]any) any {
	r.step()
	switch c.Kind {
	case api.KInt:
		return c.N
	case api.KText:
		return c.Name
	case api.KVar:
		v, is := vars[c.Id]
		if !is {
			panic("a variable that isn't known")
		}
		return v
	case api.KCon:
		m := &built{id: c.Name, name: c.Name}
		for _, v := range r.cores(c.L, vars) {
			m.arg = v
		}
		return m
	case api.KApp:
		l := r.cores(c.L, vars)
		return l[0].(func(any) any)(l[1])
	case api.KFn:
		return func(x any) any { return r.core(&c.L[0], withVar(vars, c.Id, x)) }
	case api.KTuple:
		return r.cores(c.L, vars)
	case api.KRaise:
		panic(thrown{r.core(&c.L[0], vars).(*built)})
	case api.KPrim:
		return r.reckon(c.Name, r.cores(c.L, vars), func(is bool) any {
			name := strconv.FormatBool(is)
			return &built{id: name, name: name}
		})
	case api.KLet:
		return r.core(&c.L[0], withVar(vars, c.Funs[0].Id, r.core(&c.Funs[0].E, vars)))
	case api.KFix:
		in := withVar(vars, -1, nil)
		for i := range c.Funs {
			in[c.Funs[i].Id] = r.core(&c.Funs[i].E, in)
		}
		return r.core(&c.L[0], in)
	case api.KCase:
		v := r.core(&c.L[0], vars)
		x, is := r.coreWays(c.Ways, v, vars)
		if !is {
			panic("no way fits")
		}
		return x
	case api.KHandle:
		return r.coreHandle(c, vars)
	}
	panic("no core")
}

func (r *run) coreHandle(c *api.Core, vars map[int]any) any {
	v, m := r.caught(func() any { return r.core(&c.L[0], vars) })
	if m == nil {
		return v
	}
	x, is := r.coreWays(c.Ways, m, withVar(vars, c.Id, m))
	if !is {
		panic(thrown{m})
	}
	return x
}

// caught is what is done, or what it throws.
func (r *run) caught(do func() any) (v any, m *built) {
	defer func() {
		if p := recover(); p != nil {
			x, is := p.(thrown)
			if !is {
				panic(p)
			}
			m = x.m
		}
	}()
	return do(), nil
}

func (r *run) coreWays(l []api.Way, v any, vars map[int]any) (any, bool) {
	for i := range l {
		in := withVar(vars, -1, nil)
		if coreFits(&l[i].P, v, in) {
			return r.core(&l[i].E, in), true
		}
	}
	return nil, false
}

func coreFits(p *api.CPat, v any, in map[int]any) bool {
	switch p.Kind {
	case api.PVar:
		in[p.Id] = v
		return true
	case api.PInt:
		return v.(int64) == p.N
	case api.PCon:
		m := v.(*built)
		return m.id == p.Name && (len(p.L) == 0 || coreFits(&p.L[0], m.arg, in))
	case api.PTuple:
		l := v.([]any)
		if len(l) != len(p.L) {
			panic("a tuple of another length")
		}
		for i := range p.L {
			if !coreFits(&p.L[i], l[i], in) {
				return false
			}
		}
	}
	return true
}
