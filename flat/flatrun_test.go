package flat

import (
	"fmt"
	"strconv"

	"bellows/api"
)

// A value of a flat expression is an int64, a string, an *object.
type object struct {
	shape  int
	fields []any
}

// label is what is done at one, and what is known there.
type label struct {
	id    int
	join  *api.Flat
	known *known
	outer *label
}

// flatRunner runs flat programs; each value must be of its expression's type.
type flatRunner struct {
	world
	x    api.FlatProg
	funs map[int]*api.FlatFun
}

// runFlat works a flat program out; shown tells what it ends with.
func runFlat(x api.FlatProg, in string, fuel int, shown func(v any, exception bool) string) outcome {
	r := &flatRunner{world: world{in: []byte(in), fuel: fuel}, x: x, funs: map[int]*api.FlatFun{}}
	for i := range x.Funs {
		r.funs[x.Funs[i].Id] = &x.Funs[i]
	}
	return r.ended(func() any { return r.flat(&x.Main, nil, nil) }, shown)
}

func must(is bool, what ...any) {
	if !is {
		panic(fmt.Sprint(what...))
	}
}

// fits: may a value stand where a type is needed?
func (r *flatRunner) fits(v any, ty int) bool {
	t := r.x.Types[ty]
	switch x := v.(type) {
	case int64:
		return t.Imm
	case string:
		return len(t.Shapes) > 0 && t.Shapes[0] == 0
	case *object:
		for _, s := range t.Shapes {
			if s == x.shape {
				return true
			}
		}
	}
	return false
}

func (r *flatRunner) flat(e *api.Flat, k *known, labels *label) any {
	r.step()
	v := r.value(e, k, labels)
	must(r.fits(v, e.Ty), "not of its type: ", e.Kind, " ", v)
	return v
}

func (r *flatRunner) value(e *api.Flat, k *known, labels *label) any {
	sub := func(i int) any { return r.flat(&e.L[i], k, labels) }
	switch e.Kind {
	case api.LInt:
		return e.N
	case api.LText:
		return e.Name
	case api.LVar:
		return k.get(e.Id)
	case api.LLet:
		v := sub(0)
		return r.flat(&e.L[1], k.with(e.Id, v), labels)
	case api.LSwitch:
		return r.branch(e, k, labels)
	case api.LJoin:
		return r.flat(&e.L[1], k, &label{e.Id, e, k, labels})
	case api.LHandle:
		return r.handle(e, k, labels)
	}
	var l []any
	for i := range e.L {
		l = append(l, sub(i))
	}
	switch e.Kind {
	case api.LRaise:
		panic(thrown{l[0]})
	case api.LPrim:
		return r.prim(e, l)
	case api.LCall:
		f := r.funs[e.Id]
		v := r.flat(&f.E, r.params(nil, f.Params, l), nil)
		must(r.fits(v, f.Result), "a function's answer")
		return v
	case api.LJump:
		return r.jump(e, labels, l)
	}
	return r.object(e, l)
}

// params are what is called with, or jumped with.
func (r *flatRunner) params(k *known, params []api.Slot, l []any) *known {
	must(len(params) == len(l), "another number of parameters")
	for i, p := range params {
		must(r.fits(l[i], p.Ty), "a parameter")
		k = k.with(p.Id, l[i])
	}
	return k
}

func (r *flatRunner) jump(e *api.Flat, labels *label, l []any) any {
	for labels.id != e.Id {
		labels = labels.outer
	}
	return r.flat(&labels.join.L[0], r.params(labels.known, labels.join.Params, l), labels.outer)
}

// object does what is done with records and arrays.
func (r *flatRunner) object(e *api.Flat, l []any) any {
	of := func(kind int) *object {
		x := l[0].(*object)
		must(r.x.Shapes[x.shape].Kind == kind, "an object of another kind")
		return x
	}
	switch e.Kind {
	case api.LNew:
		s := r.x.Shapes[e.N]
		must(s.Kind == api.Record && len(s.Fields) == len(l), "a record")
		for i, v := range l {
			must(r.fits(v, s.Fields[i]), "a field")
		}
		return &object{int(e.N), l}
	case api.LField:
		return of(api.Record).fields[e.N]
	case api.LSet:
		x := of(api.Record)
		must(r.fits(l[1], r.x.Shapes[x.shape].Fields[e.N]), "a field that is set")
		x.fields[e.N] = l[1]
		return int64(0)
	case api.LArray:
		return r.array(e, l)
	}
	panic("a kind: " + strconv.Itoa(e.Kind))
}

func (r *flatRunner) array(e *api.Flat, l []any) any {
	n, s := l[0].(int64), r.x.Shapes[e.N]
	if n < 0 || n > api.MaxLen {
		panic(thrown{int64(api.ExnSize)})
	}
	must(s.Kind == api.Array && r.fits(l[1], s.Fields[0]), "an array")
	x := &object{shape: int(e.N)}
	for range n {
		x.fields = append(x.fields, l[1])
	}
	return x
}

func (r *flatRunner) branch(e *api.Flat, k *known, labels *label) any {
	must(e.L[0].Kind == api.LVar, "what is looked at is no variable")
	arms, n := e.Nums, int64(0)
	switch x := k.get(e.L[0].Id).(type) {
	case int64:
		n = x
	case *object:
		arms, n = e.Shapes, int64(x.shape)
	}
	for i := range arms {
		if arms[i].N == n {
			return r.flat(&arms[i].E, k, labels)
		}
	}
	if _, is := k.get(e.L[0].Id).(int64); is && len(e.L) == 2 {
		return r.flat(&e.L[1], k, labels)
	}
	panic("no arm")
}

func (r *flatRunner) handle(e *api.Flat, k *known, labels *label) (v any) {
	must(e.L[0].Kind == api.LCall, "what is handled is no call")
	defer func() {
		x := recover()
		t, is := x.(thrown)
		if x != nil && !is {
			panic(x)
		}
		if is {
			v = r.flat(&e.L[1], k.with(e.Id, t.v), labels)
		}
	}()
	return r.flat(&e.L[0], k, labels)
}

func (r *flatRunner) prim(e *api.Flat, l []any) any {
	throw := func(name string) {
		panic(thrown{map[string]any{"Div": int64(api.ExnDiv), "Subscript": int64(api.ExnSubscript), "Size": int64(api.ExnSize)}[name]})
	}
	v, is := r.reckoned(e.Name, l, throw)
	if !is {
		v = r.element(e.Name, l, throw)
	}
	switch x := v.(type) {
	case bool:
		if x {
			return int64(1)
		}
		return int64(0)
	case nil:
		return int64(0)
	}
	return v
}

func (r *flatRunner) element(name string, l []any, throw func(name string)) any {
	x := l[0].(*object)
	s := r.x.Shapes[x.shape]
	must(s.Kind == api.Array, "no array")
	if name == "length" {
		return int64(len(x.fields))
	}
	i := l[1].(int64)
	if i < 0 || i >= int64(len(x.fields)) {
		throw("Subscript")
	}
	switch name {
	case "sub":
		return x.fields[i]
	case "update":
		must(r.fits(l[2], s.Fields[0]), "an element that is set")
		x.fields[i] = l[2]
		return nil
	}
	panic("no reckoning: " + name)
}
