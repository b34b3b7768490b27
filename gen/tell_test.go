package gen

import (
	"bellows/api"
	"fmt"
	"strconv"
	"strings"
)

// teller writes flat programs by names of its own, in the order in which they stand first, so that it doesn't matter which ones they have: a, b, .. are variables, L1, L2, .. labels, f1, f2, .. functions, S1, S2, .. shapes.
type teller struct {
	x      api.FlatProg
	names  map[string]string
	counts map[string]int
	order  []int // shapes, as they are named
}

// toldFlat is what Main is, then the functions, then the shapes that they mention: what their fields are, # a number, $ a text.
func toldFlat(x api.FlatProg) string {
	w := &teller{x: x, names: map[string]string{}, counts: map[string]int{}}
	parts := []string{w.flat(x.Main)}
	for _, f := range x.Funs {
		parts = append(parts, w.name("f", f.Id)+"("+joined(f.Params, ", ", w.slot)+"): "+w.ty(f.Result)+" = "+w.flat(f.E))
	}
	for i := 0; i < len(w.order); i++ {
		s := x.Shapes[w.order[i]]
		parts = append(parts, w.shape(w.order[i])+[]string{"", " = (", " = array (", " = bytes ("}[s.Kind]+joined(s.Fields, ", ", w.ty)+")"+s.Name)
	}
	return strings.Join(parts, "; ")
}

func (w *teller) name(first string, n int) string {
	key := first + strconv.Itoa(n)
	if w.names[key] == "" {
		w.counts[first]++
		w.names[key] = first + strconv.Itoa(w.counts[first])
		if first == "S" {
			w.order = append(w.order, n)
		}
	}
	return w.names[key]
}

func (w *teller) v(id int) string {
	n, _ := strconv.Atoi(w.name("v", id)[1:])
	return string(rune('a'+(n-1)%26)) + strings.Repeat("'", (n-1)/26)
}

func (w *teller) shape(n int) string { return w.name("S", n) }

func (w *teller) slot(v api.Slot) string { return w.v(v.Id) + ": " + w.ty(v.Ty) }

// ty is a type: # is numbers, $ texts.
func (w *teller) ty(n int) string {
	var l []string
	if t := w.x.Types[n]; t.Imm {
		l = append(l, "#")
	}
	for _, s := range w.x.Types[n].Shapes {
		if s == 0 {
			l = append(l, "$")
		} else {
			l = append(l, w.shape(s))
		}
	}
	return strings.Join(l, "|")
}

func (w *teller) parts(l []api.Flat) string { return "(" + joined(l, ", ", w.flat) + ")" }

func (w *teller) flat(e api.Flat) string {
	switch e.Kind {
	case api.LInt:
		return strconv.FormatInt(e.N, 10)
	case api.LText:
		return strconv.Quote(e.Name)
	case api.LVar:
		return w.v(e.Id)
	case api.LLet:
		return "let " + w.v(e.Id) + " = " + w.flat(e.L[0]) + " in " + w.flat(e.L[1])
	case api.LNew:
		return w.shape(int(e.N)) + w.parts(e.L)
	case api.LField:
		return w.flat(e.L[0]) + "." + strconv.FormatInt(e.N, 10)
	case api.LSet:
		return w.flat(e.L[0]) + "." + strconv.FormatInt(e.N, 10) + " := " + w.flat(e.L[1])
	case api.LArray:
		return "array " + w.shape(int(e.N)) + w.parts(e.L)
	case api.LPrim:
		return "`" + e.Name + w.parts(e.L)
	case api.LSwitch:
		return w.branch(e)
	case api.LCall:
		return w.name("f", e.Id) + w.parts(e.L)
	case api.LRaise:
		return "raise " + w.flat(e.L[0])
	case api.LHandle:
		return "handle " + w.flat(e.L[0]) + " " + w.v(e.Id) + " => " + w.flat(e.L[1])
	case api.LJoin:
		return w.name("L", e.Id) + "(" + joined(e.Params, ", ", w.slot) + ") = " + w.flat(e.L[0]) + " in " + w.flat(e.L[1])
	case api.LJump:
		return w.name("L", e.Id) + w.parts(e.L)
	}
	return fmt.Sprintf("%+v", e)
}

func (w *teller) branch(e api.Flat) string {
	var l []string
	for _, a := range e.Nums {
		l = append(l, strconv.FormatInt(a.N, 10)+": "+w.flat(a.E))
	}
	for _, a := range e.Shapes {
		l = append(l, w.shape(int(a.N))+": "+w.flat(a.E))
	}
	for _, x := range e.L[1:] {
		l = append(l, "else: "+w.flat(x))
	}
	return "switch " + w.flat(e.L[0]) + " {" + strings.Join(l, "; ") + "}"
}
