package defun

import (
	"strconv"

	"bellows/api"
)

// class is the functions that may come to one place; t is their datatype.
type class struct {
	at     *place
	t      api.T
	funs   []*function
	called bool
	caller int // the number of the function that calls them, if anything does
}

// newName is one that no text can give, since fn is a word of the language.
func newName(number int) string { return "fn@" + strconv.Itoa(number) }

// con is the constructor that stands for a function.
func (fn *function) con() string { return newName(fn.number) }

// class is that of a place.
func (w *writer) class(at *place) *class {
	at = at.last()
	k := w.classes[at]
	if k == nil {
		k = &class{at: at, t: api.T{Kind: api.XCon, Name: newName(w.number())}}
		w.classes[at] = k
		w.list = append(w.list, k)
	}
	return k
}

// calling is the number of the function that calls those of a class.
func (w *writer) calling(k *class) int {
	if !k.called {
		k.called, k.caller = true, w.number()
	}
	return k.caller
}

// data is a class's datatype.
func (w *writer) data(k *class) api.Data {
	d := api.Data{Name: k.t.Name}
	for _, fn := range k.funs {
		c := api.DataCon{Name: fn.con()}
		if has := packed(w.variables(fn.knows), tuple); len(has) > 0 {
			c.Has, c.Arg = true, has[0].T
		}
		d.Cons = append(d.Cons, c)
	}
	return d
}

// caller is the function that calls those of a class.
func (w *writer) caller(k *class) api.FFun {
	at, typ := k.at, k.at.typ
	of := w.newVariable(k.t)
	with := w.newVariable(w.typeAt(w.flow.with(at), w.flow.part(typ, 0)))
	answer := w.typeAt(w.flow.answer(at), w.flow.part(typ, 1))
	e := api.Core{Kind: api.KCase, T: answer, L: []api.Core{of}}
	for _, fn := range k.funs {
		e.Ways = append(e.Ways, w.way(fn, of, with, answer))
	}
	if len(k.funs) == 0 {
		e = matchRaised(answer)
	}
	return api.FFun{Id: k.caller, Params: each([]api.Core{of, with}, param), Result: answer, E: e}
}

// way is what is done where of is a value that stands for fn.
func (w *writer) way(fn *function, of, with api.Core, answer api.T) api.Way {
	vars := each(w.variables(fn.knows), func(v *api.Core) api.Core { return w.newVariable(v.T) })
	p := api.CPat{Kind: api.PCon, Name: fn.con(), T: of.T, L: packed(each(vars, patOf), tuplePat)}
	return api.Way{P: p, E: api.Core{Kind: api.KCall, Id: fn.number, T: answer, L: append(vars, with)}}
}

func (w *writer) newVariable(t api.T) api.Core {
	return api.Core{Kind: api.KVar, Id: w.number(), T: t}
}

func param(v *api.Core) api.Param { return api.Param{Id: v.Id, T: v.T} }

func patOf(v *api.Core) api.CPat { return api.CPat{Kind: api.PVar, Id: v.Id, T: v.T} }

func matchRaised(t api.T) api.Core {
	match := api.Core{Kind: api.KCon, Name: "Match", T: exn()}
	return api.Core{Kind: api.KRaise, T: t, L: []api.Core{match}}
}

func exn() api.T { return api.T{Kind: api.XCon, Name: "exn"} }

// packed is nothing, the one, or a tuple of them.
func packed[E any](l []E, tuple func(l []E) E) []E {
	if len(l) < 2 {
		return l
	}
	return []E{tuple(l)}
}

func tuple(l []api.Core) api.Core {
	t := tupleT(each(l, func(c *api.Core) api.T { return c.T }))
	return api.Core{Kind: api.KTuple, T: t, L: l}
}

func tuplePat(l []api.CPat) api.CPat {
	t := tupleT(each(l, func(p *api.CPat) api.T { return p.T }))
	return api.CPat{Kind: api.PTuple, T: t, L: l}
}

func tupleT(l []api.T) api.T { return api.T{Kind: api.XTup, L: l} }
