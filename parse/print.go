package parse

import (
	"strconv"
	"strings"

	"bellows/api"
	"bellows/lex"
)

// Print: P8.4.
func Print(e api.Exp) string {
	var w writer
	w.exp(&e)
	return w.String()
}

// writer writes what stands by itself wherever an atom may stand: all else is in brackets. Of expressions that no text is read as it writes what parts they have.
type writer struct{ strings.Builder }

func (w *writer) add(parts ...string) {
	for _, s := range parts {
		w.WriteString(s)
	}
}

// number writes those below 0 as patterns have them.
func (w *writer) number(n int64) {
	w.add(strings.Replace(strconv.FormatInt(n, 10), "-", "~", 1))
}

// each writes what is in a list, with signs between two.
func each[F any](w *writer, sign string, l []F, part func(*F)) {
	for i := range l {
		if i > 0 {
			w.add(sign)
		}
		part(&l[i])
	}
}

func (w *writer) exp(e *api.Exp) {
	switch {
	case e.Kind == api.EInt:
		w.number(e.N)
	case e.Kind == api.EText:
		w.add(lex.Print([]api.Token{{Kind: api.TokText, Text: e.Name}}))
	case e.Kind == api.EVar, e.Kind == api.ECon:
		w.add(e.Name)
	case e.Kind == api.ELet:
		w.let(e)
	case e.Kind == api.EPrim && len(e.L) == 1:
		w.add(e.Name)
		w.exp(&e.L[0])
	default:
		w.add("(")
		w.inside(e)
		w.add(")")
	}
}

// inside writes what stands in brackets.
func (w *writer) inside(e *api.Exp) {
	switch e.Kind {
	case api.EApp:
		each(w, " ", e.L, w.exp)
	case api.EFn:
		w.add("fn ")
		w.match(e)
	case api.ECase:
		w.add("case ")
		each(w, " ", e.L, w.exp)
		w.add(" of ")
		w.match(e)
	case api.ETuple:
		each(w, ", ", e.L, w.exp)
	case api.ERaise:
		w.add("raise ")
		each(w, " ", e.L, w.exp)
	case api.EHandle:
		each(w, " ", e.L, w.exp)
		w.add(" handle ")
		w.match(e)
	case api.EPrim:
		each(w, " "+e.Name+" ", e.L, w.exp)
	}
}

func (w *writer) match(e *api.Exp) {
	each(w, " | ", e.Cases, func(c *api.Case) {
		w.pat(&c.P)
		w.add(" => ")
		w.exp(&c.E)
	})
}

func (w *writer) let(e *api.Exp) {
	w.add("let ")
	for i := range e.Decs {
		w.dec(&e.Decs[i])
		w.add(" ")
	}
	w.add("in ")
	each(w, "; ", e.L, w.exp)
	w.add(" end")
}
