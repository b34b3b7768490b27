package parse

import (
	"slices"
	"strings"

	"bellows/api"
)

func (w *writer) dec(d *api.Dec) {
	switch d.Kind {
	case api.DVal:
		w.add("val ")
		w.pat(&d.P)
		w.add(" = ")
		w.exp(&d.E)
	case api.DFun:
		w.add("fun ")
		each(w, " and ", d.Funs, w.fun)
	case api.DData:
		w.add("datatype ")
		w.params(d.Params)
		w.add(d.Name, " = ")
		each(w, " | ", d.Cons, w.con)
	case api.DExn:
		w.add("exception ")
		each(w, " | ", d.Cons, w.con)
	}
}

// fun writes a function with as many patterns ahead of its = as may stand there.
func (w *writer) fun(f *api.Fun) {
	w.add(f.Name)
	e := &f.E
	for e.Kind == api.EFn && len(e.Cases) == 1 {
		w.add(" ")
		w.atpat(&e.Cases[0].P)
		e = &e.Cases[0].E
	}
	w.add(" = ")
	w.exp(e)
}

func (w *writer) params(l []string) {
	switch len(l) {
	case 0:
	case 1:
		w.add(l[0], " ")
	default:
		w.add("(", strings.Join(l, ", "), ") ")
	}
}

func (w *writer) con(c *api.Con) {
	w.add(c.Name)
	if c.Has {
		w.add(" of ")
		w.ty(&c.Ty)
	}
}

func (w *writer) pat(p *api.Pat) {
	switch p.Kind {
	case api.PAny:
		w.add("_")
	case api.PVar:
		w.add(p.Name)
	case api.PInt:
		w.number(p.N)
	case api.PCon:
		w.add(p.Name)
		for i := range p.L {
			w.add(" ")
			w.atpat(&p.L[i])
		}
	case api.PTuple:
		w.add("(")
		each(w, ", ", p.L, w.pat)
		w.add(")")
	}
}

func (w *writer) atpat(p *api.Pat) {
	w.bracketed(p.Kind == api.PCon && len(p.L) > 0, func() { w.pat(p) })
}

func (w *writer) ty(t *api.Ty) {
	switch t.Kind {
	case api.TCon:
		w.args(t.L)
		w.add(t.Name)
	case api.TArrow:
		w.arrow(t.L)
	case api.TTuple:
		each(w, " * ", t.L, func(part *api.Ty) { w.tyBut(part, api.TArrow, api.TTuple) })
	default:
		w.add(t.Name)
	}
}

// arrow needs no brackets to the right of the sign.
func (w *writer) arrow(l []api.Ty) {
	for i := range l {
		if i == 0 {
			w.tyBut(&l[i], api.TArrow)
			continue
		}
		w.add(" -> ")
		w.ty(&l[i])
	}
}

func (w *writer) args(l []api.Ty) {
	switch len(l) {
	case 0:
	case 1:
		w.tyBut(&l[0], api.TArrow, api.TTuple)
		w.add(" ")
	default:
		w.add("(")
		each(w, ", ", l, w.ty)
		w.add(") ")
	}
}

// tyBut writes a type, those of some kinds in brackets.
func (w *writer) tyBut(t *api.Ty, kinds ...int) {
	w.bracketed(slices.Contains(kinds, t.Kind), func() { w.ty(t) })
}

// bracketed writes something, in brackets if it needs them.
func (w *writer) bracketed(needs bool, write func()) {
	if !needs {
		write()
		return
	}
	w.add("(")
	write()
	w.add(")")
}
