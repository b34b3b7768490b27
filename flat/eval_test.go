package flat

import (
	"fmt"
	"strconv"
	"strings"

	"bellows/api"
	"bellows/word"
)

// A value of a core is an int64, a string, a []any (a tuple), a *made, a *any (a cell), a []*any (an array). Where it isn't what it should be, Go panics: the core is stuck.
type made struct {
	name string
	args []any
}

// known is what variables are, the innermost first.
type known struct {
	id    int
	v     any
	outer *known
}

func (k *known) with(id int, v any) *known { return &known{id, v, k} }

func (k *known) get(id int) any {
	for ; k != nil; k = k.outer {
		if k.id == id {
			return k.v
		}
	}
	panic("a variable that isn't known")
}

// thrown is an exception on its way, outOfFuel the end of a run that is too long.
type thrown struct{ v any }
type outOfFuel struct{}

// world is what a run does outside, and how many cores it may still work out.
type world struct {
	in, out []byte
	fuel    int
}

// runner runs first-order programs.
type runner struct {
	world
	funs map[int]*api.FFun
}

// outcome is how a run ended, and what was put out.
type outcome struct{ end, out string }

// ended is how a run ended, whose value is told by shown.
func (w *world) ended(do func() any, shown func(v any, is bool) string) (o outcome) {
	defer func() {
		switch x := recover().(type) {
		case nil:
		case thrown:
			o.end = "raised " + shown(x.v, true)
		case outOfFuel:
			o.end = "no fuel"
		default:
			o.end = fmt.Sprint("stuck: ", x)
		}
		o.out = string(w.out)
	}()
	return outcome{end: "done " + shown(do(), false)}
}

// runFirst works a first-order program out.
func runFirst(p api.FProg, in string, fuel int) outcome {
	r := &runner{world: world{in: []byte(in), fuel: fuel}, funs: map[int]*api.FFun{}}
	for i := range p.Funs {
		r.funs[p.Funs[i].Id] = &p.Funs[i]
	}
	return r.ended(func() any { return r.core(&p.Main, nil) }, func(v any, _ bool) string { return shown(v) })
}

// shown is a value, as far as it is told.
func shown(v any) string {
	switch x := v.(type) {
	case int64:
		return strconv.FormatInt(x, 10)
	case string:
		return strconv.Quote(x)
	case []any:
		return "(" + joined(x, ", ", shown) + ")"
	case *made:
		return x.name + joined(x.args, "", func(v any) string { return " " + shown(v) })
	case *any:
		return "ref" // it may have itself
	case []*any:
		return "array " + strconv.Itoa(len(x))
	}
	panic("no value")
}

func (r *runner) each(l []api.Core, k *known) []any {
	return each(l, func(c *api.Core) any { return r.core(c, k) })
}

// step is a core more.
func (w *world) step() {
	if w.fuel--; w.fuel < 0 {
		panic(outOfFuel{})
	}
}

func (r *runner) core(c *api.Core, k *known) any {
	r.step()
	switch c.Kind {
	case api.KInt:
		return c.N
	case api.KText:
		return c.Name
	case api.KVar:
		return k.get(c.Id)
	case api.KCon:
		return &made{c.Name, r.each(c.L, k)}
	case api.KCall:
		return r.call(c, k)
	case api.KTuple:
		return r.each(c.L, k)
	case api.KRaise:
		panic(thrown{r.core(&c.L[0], k)})
	case api.KPrim:
		return r.prim(c.Name, r.each(c.L, k))
	case api.KLet:
		return r.core(&c.L[0], k.with(c.Funs[0].Id, r.core(&c.Funs[0].E, k)))
	case api.KHandle:
		return r.handle(c, k)
	}
	v, is := r.way(c.Ways, r.core(&c.L[0], k), k)
	if !is {
		panic("no way fits")
	}
	return v
}

// call works a function out, which knows its parameters alone.
func (r *runner) call(c *api.Core, k *known) any {
	l := r.each(c.L, k)
	f := r.funs[c.Id]
	if len(l) != len(f.Params) {
		panic("another number of parameters")
	}
	var in *known
	for i, p := range f.Params {
		in = in.with(p.Id, l[i])
	}
	return r.core(&f.E, in)
}

func (r *runner) handle(c *api.Core, k *known) (v any) {
	defer func() {
		x := recover()
		e, is := x.(thrown)
		if x != nil && !is {
			panic(x)
		}
		if !is {
			return
		}
		if v, is = r.way(c.Ways, e.v, k.with(c.Id, e.v)); !is {
			panic(e)
		}
	}()
	return r.core(&c.L[0], k)
}

// way is what the first way that fits gives.
func (r *runner) way(l []api.Way, v any, k *known) (any, bool) {
	for i := range l {
		if in, is := fitted(&l[i].P, v, k); is {
			return r.core(&l[i].E, in), true
		}
	}
	return nil, false
}

func fitted(p *api.CPat, v any, k *known) (*known, bool) {
	var of []any
	switch p.Kind {
	case api.PVar:
		return k.with(p.Id, v), true
	case api.PInt:
		return k, v.(int64) == p.N
	case api.PCon:
		if v.(*made).name != p.Name {
			return k, false
		}
		of = v.(*made).args
	case api.PTuple:
		of = v.([]any)
	}
	if len(p.L) != len(of) {
		panic("another number of parts")
	}
	is := true
	for i := 0; is && i < len(p.L); i++ {
		k, is = fitted(&p.L[i], of[i], k)
	}
	return k, is
}

func (r *runner) prim(name string, l []any) any {
	v, is := r.reckoned(name, l, func(name string) { panic(thrown{&made{name: name}}) })
	if !is {
		v = r.held(name, l)
	}
	switch x := v.(type) {
	case bool:
		return &made{name: strconv.FormatBool(x)}
	case nil:
		return []any{}
	}
	return v
}

// reckoned is what reckonings make of numbers and texts; nil is what there is to be told of nothing.
func (w *world) reckoned(name string, l []any, throw func(name string)) (any, bool) {
	n := func(i int) int64 { return l[i].(int64) }
	s := func(i int) string { return l[i].(string) }
	divided := func(v int64, is bool) int64 {
		if !is {
			throw("Div")
		}
		return v
	}
	switch name {
	case "+":
		return word.Add(n(0), n(1)), true
	case "-":
		return word.Sub(n(0), n(1)), true
	case "*":
		return word.Mul(n(0), n(1)), true
	case "~":
		return word.Sub(0, n(0)), true
	case "div":
		return divided(word.Div(n(0), n(1))), true
	case "mod":
		return divided(word.Mod(n(0), n(1))), true
	case "<":
		return n(0) < n(1), true
	case "<=":
		return n(0) <= n(1), true
	case ">":
		return n(0) > n(1), true
	case ">=":
		return n(0) >= n(1), true
	case "=":
		return n(0) == n(1), true
	case "<>":
		return n(0) != n(1), true
	case "^":
		if len(s(0))+len(s(1)) > api.MaxLen {
			throw("Size")
		}
		return s(0) + s(1), true
	case "size":
		return int64(len(s(0))), true
	case "byte":
		if n(1) < 0 || n(1) >= int64(len(s(0))) {
			throw("Subscript")
		}
		return int64(s(0)[n(1)]), true
	case "cmp":
		return int64(strings.Compare(s(0), s(1))), true
	case "print":
		w.out = append(w.out, s(0)...)
		return nil, true
	case "putc":
		w.out = append(w.out, byte(n(0)))
		return nil, true
	case "getc":
		return w.read(), true
	}
	return nil, false
}

// read is the next byte of what is put in.
func (w *world) read() int64 {
	if len(w.in) == 0 {
		return -1
	}
	b := w.in[0]
	w.in = w.in[1:]
	return int64(b)
}

// held is what is done with cells and arrays.
func (r *runner) held(name string, l []any) any {
	throw := func(name string) { panic(thrown{&made{name: name}}) }
	cell := func() *any {
		a, i := l[0].([]*any), l[1].(int64)
		if i < 0 || i >= int64(len(a)) {
			throw("Subscript")
		}
		return a[i]
	}
	switch name {
	case "ref":
		v := l[0]
		return &v
	case "!":
		return *l[0].(*any)
	case ":=":
		*l[0].(*any) = l[1]
	case "array":
		n := l[0].(int64)
		if n < 0 || n > api.MaxLen {
			throw("Size")
		}
		a := make([]*any, n)
		for i := range a {
			v := l[1]
			a[i] = &v
		}
		return a
	case "length":
		return int64(len(l[0].([]*any)))
	case "sub":
		return *cell()
	case "update":
		*cell() = l[2]
	default:
		panic("no reckoning: " + name)
	}
	return nil
}
