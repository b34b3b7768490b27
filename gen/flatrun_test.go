package gen

import (
	"fmt"
	"strings"

	"bellows/api"
	"bellows/word"
)

// A value of a flat expression is an int64, or an object.
type object struct {
	shape  int
	fields []any
	text   string
}

// known is what names are, the innermost first.
type known struct {
	n     name
	v     any
	outer *known
}

func (k *known) with(n name, v any) *known { return &known{n, v, k} }

func (k *known) get(n name) any {
	for ; k != nil; k = k.outer {
		if k.n == n {
			return k.v
		}
	}
	panic("a name that isn't known")
}

// label is what is done at one, and what is known there.
type label struct {
	id    int
	join  *api.Flat
	known *known
	last  bool // what is done there gives the function's answer
	outer *label
}

// thrown is an exception on its way, outOfFuel the end of a run that is too long.
type thrown struct{ v any }
type outOfFuel struct{}

// outcome is how a run ended, what was put out, and how much it took.
type outcome struct {
	kind  int
	exn   string
	out   []byte
	exprs int // expressions that were worked out
	moves int // what jumps may move
	bytes int // that print put out, and one more each time
	heap  int // the most words that were held at a time
}

// runner runs flat programs by the words of the chapter.
type runner struct {
	*reader
	outcome
	funs map[int]*api.FlatFun
	in   []byte
	fuel int
	held [][]any // what is needed in functions that wait
}

// runFlat works a flat program out.
func runFlat(x api.FlatProg, in string, fuel int) (o outcome) {
	r := &runner{reader: newReader(x), funs: map[int]*api.FlatFun{}, in: []byte(in), fuel: fuel}
	for i := range x.Funs {
		r.funs[x.Funs[i].Id] = &x.Funs[i]
		r.need(&x.Funs[i].E, names{}, true)
	}
	r.need(&x.Main, names{}, true)
	defer func() {
		v := recover()
		switch v := v.(type) {
		case nil:
		case thrown:
			r.kind, r.exn = api.Raised, r.told(v.v)
		case outOfFuel:
			r.kind = api.NoFuel
		default:
			panic(v)
		}
		o = r.outcome
	}()
	r.flat(&x.Main, nil, nil, true)
	r.kind = api.Done
	return
}

// told is an exception's name.
func (r *runner) told(v any) string {
	if o, is := v.(*object); is {
		return r.x.Shapes[o.shape].Name
	}
	if n := v.(int64); n >= 0 && n < int64(len(r.x.Names)) {
		return r.x.Names[n]
	}
	return ""
}

// flat is an expression's value; last: it is the function's answer.
func (r *runner) flat(e *api.Flat, k *known, labels *label, last bool) any {
	if r.exprs++; r.exprs > r.fuel {
		panic(outOfFuel{})
	}
	switch e.Kind {
	case api.LInt:
		return e.N
	case api.LVar:
		return k.get(e.Id)
	case api.LLet:
		return r.flat(&e.L[1], k.with(e.Id, r.flat(&e.L[0], k, labels, false)), labels, last)
	case api.LSwitch:
		return r.branch(e, k, labels, last)
	case api.LJoin:
		return r.flat(&e.L[1], k, &label{e.Id, e, k, last, labels}, last)
	case api.LHandle:
		return r.handle(e, k, labels, last)
	}
	l, k := r.parts(e, k, labels)
	switch e.Kind {
	case api.LRaise:
		panic(thrown{l[0]})
	case api.LCall:
		return r.call(e, l, k, last)
	case api.LJump:
		return r.jump(e, labels, l)
	}
	return r.made(e, l, k)
}

// parts are worked out from the left to the right.
func (r *runner) parts(e *api.Flat, k *known, labels *label) ([]any, *known) {
	var l []any
	for i := range e.L {
		v := r.flat(&e.L[i], k, labels, false)
		l = append(l, v)
		k = k.with(&e.L[i], v)
	}
	return l, k
}

func (r *runner) call(e *api.Flat, l []any, k *known, last bool) any {
	if !last {
		n := len(r.held)
		r.held = append(r.held, r.needed(e, k))
		defer func() { r.held = r.held[:n] }()
	}
	f := r.funs[e.Id]
	var in *known
	for i, p := range f.Params {
		in = in.with(p.Id, l[i])
	}
	return r.flat(&f.E, in, nil, true)
}

// needed is what is needed behind an expression.
func (r *runner) needed(e *api.Flat, k *known) []any {
	var l []any
	for n := range r.behind[e] {
		l = append(l, k.get(n))
	}
	return l
}

func (r *runner) jump(e *api.Flat, labels *label, l []any) any {
	for labels.id != e.Id {
		labels = labels.outer
	}
	k := labels.known
	for i, p := range labels.join.Params {
		k = k.with(p.Id, l[i])
	}
	r.moves += len(l) + len(l)/2
	return r.flat(&labels.join.L[0], k, labels.outer, labels.last)
}

func (r *runner) branch(e *api.Flat, k *known, labels *label, last bool) any {
	arms, n := e.Nums, int64(0)
	v := r.flat(&e.L[0], k, labels, false)
	o, is := v.(*object)
	if is {
		arms, n = e.Shapes, int64(o.shape)
	} else {
		n = v.(int64)
	}
	for i := range arms {
		if arms[i].N == n {
			return r.flat(&arms[i].E, k, labels, last)
		}
	}
	return r.flat(&e.L[1], k, labels, last)
}

// handle takes what is thrown in the call, not ahead of it.
func (r *runner) handle(e *api.Flat, k *known, labels *label, last bool) (v any) {
	r.exprs++
	l, in := r.parts(&e.L[0], k, labels)
	n := len(r.held)
	defer func() {
		x := recover()
		t, is := x.(thrown)
		if x != nil && !is {
			panic(x)
		}
		if is {
			r.held = r.held[:n]
			v = r.flat(&e.L[1], k.with(e.Id, t.v), labels, last)
		}
	}()
	return r.call(&e.L[0], l, in, false)
}

// fresh is a new object: it and what is held must have room.
func (r *runner) fresh(e *api.Flat, k *known, o *object, read ...any) any {
	met := map[*object]bool{}
	words := r.words(o)
	var open []any
	for _, l := range append(r.held, r.needed(e, k), read) {
		open = append(open, l...)
	}
	for len(open) > 0 {
		o, is := open[len(open)-1].(*object)
		open = open[:len(open)-1]
		if is && !met[o] {
			met[o] = true
			words += r.words(o)
			open = append(open, o.fields...)
		}
	}
	r.heap = max(r.heap, words)
	return o
}

// words are how many an object takes.
func (r *runner) words(o *object) int { return 1 + len(o.fields) + (len(o.text)+7)/8 }

func (r *runner) made(e *api.Flat, l []any, k *known) any {
	switch e.Kind {
	case api.LText:
		return r.fresh(e, k, &object{text: e.Name})
	case api.LNew:
		return r.fresh(e, k, &object{shape: int(e.N), fields: l}, l...)
	case api.LField:
		return l[0].(*object).fields[e.N]
	case api.LSet:
		l[0].(*object).fields[e.N] = l[1]
		return int64(0)
	case api.LArray:
		n := l[0].(int64)
		if n < 0 || n > api.MaxLen {
			panic(thrown{int64(api.ExnSize)})
		}
		o := &object{shape: int(e.N)}
		for range n {
			o.fields = append(o.fields, l[1])
		}
		return r.fresh(e, k, o, l[1])
	case api.LPrim:
		return r.prim(e, l, k)
	}
	panic(fmt.Sprint("a kind: ", e.Kind))
}

func truth(is bool) int64 {
	if is {
		return 1
	}
	return 0
}

func (r *runner) prim(e *api.Flat, l []any, k *known) any {
	n := func(i int) int64 { return l[i].(int64) }
	s := func(i int) string { return l[i].(*object).text }
	exact := func(v int64, is bool) int64 {
		if !is {
			panic(thrown{int64(api.ExnDiv)})
		}
		return v
	}
	within := func(i int64, n int) int64 {
		if i < 0 || i >= int64(n) {
			panic(thrown{int64(api.ExnSubscript)})
		}
		return i
	}
	switch e.Name {
	case "+":
		return word.Add(n(0), n(1))
	case "-":
		return word.Sub(n(0), n(1))
	case "*":
		return word.Mul(n(0), n(1))
	case "div":
		return exact(word.Div(n(0), n(1)))
	case "mod":
		return exact(word.Mod(n(0), n(1)))
	case "<":
		return truth(n(0) < n(1))
	case "<=":
		return truth(n(0) <= n(1))
	case ">":
		return truth(n(0) > n(1))
	case ">=":
		return truth(n(0) >= n(1))
	case "=":
		return truth(n(0) == n(1))
	case "<>":
		return truth(n(0) != n(1))
	case "^":
		if len(s(0))+len(s(1)) > api.MaxLen {
			panic(thrown{int64(api.ExnSize)})
		}
		return r.fresh(e, k, &object{text: s(0) + s(1)})
	case "size":
		return int64(len(s(0)))
	case "byte":
		return int64(s(0)[within(n(1), len(s(0)))])
	case "cmp":
		return int64(strings.Compare(s(0), s(1)))
	case "print":
		r.out = append(r.out, s(0)...)
		r.bytes += len(s(0)) + 1
	case "putc":
		r.out = append(r.out, byte(n(0)))
	case "getc":
		if len(r.in) == 0 {
			return int64(-1)
		}
		c := r.in[0]
		r.in = r.in[1:]
		return int64(c)
	case "length":
		return int64(len(l[0].(*object).fields))
	case "sub":
		a := l[0].(*object).fields
		return a[within(n(1), len(a))]
	case "update":
		a := l[0].(*object).fields
		a[within(n(1), len(a))] = l[2]
	}
	return int64(0)
}
