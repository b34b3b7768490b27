package defun

import (
	"fmt"
	"strconv"
	"strings"
	"testing"

	"bellows/api"
	"bellows/elab"
	"bellows/mono"
	"bellows/parse"
)

// written is what Mono answers of a text that has types, and not too many instances.
func written(t testing.TB, src string) api.Prog {
	t.Helper()
	e, f, at := parse.Parse(src)
	if f != api.OK {
		t.Fatalf("Parse(%s): %d, %d", short(src), f, at)
	}
	p, f, at := elab.Elab(e)
	if f != api.OK {
		t.Fatalf("Elab(%s): %d, %d", short(src), f, at)
	}
	q, f := mono.Mono(p, api.MaxCap)
	if f != api.OK {
		t.Fatalf("Mono(%s): %d", short(src), f)
	}
	return q
}

// short keeps what is told of a long text short.
func short(s string) string {
	if len(s) > 3000 {
		s = s[:3000] + " .."
	}
	return "\"" + s + "\""
}

// joined are the parts of a list, with a sign between two.
func joined[E any](l []E, sign string, told func(E) string) string {
	var parts []string
	for _, x := range l {
		parts = append(parts, told(x))
	}
	return strings.Join(parts, sign)
}

// toldT writes a type out.
func toldT(t api.T) string {
	switch t.Kind {
	case api.XCon:
		return t.Name + toldRow(t.L)
	case api.XFun:
		return "(" + joined(t.L, " -> ", toldT) + ")"
	case api.XTup:
		return "(" + joined(t.L, ", ", toldT) + ")"
	}
	return fmt.Sprintf("%+v", t)
}

func toldRow(l []api.T) string {
	if len(l) == 0 {
		return ""
	}
	return "[" + joined(l, ", ", toldT) + "]"
}

// teller writes programs by names of its own, in the order in which they stand first, so that it doesn't matter which ones they have: a, b, .. are variables; f1, f2, .. functions; C1, C2, .. datatypes of classes, K1, K2, .. their constructors; what else is marked in p is @1, @2, ..
type teller struct {
	vars, marks, classes, cons map[string]string
	funs                       map[int]string
	order                      []int
}

func newTeller() *teller {
	return &teller{map[string]string{}, map[string]string{}, map[string]string{}, map[string]string{}, map[int]string{}, nil}
}

// toldProg is a program: what Main is, then the functions in the order in which they are called first, then those that nothing calls, then the datatypes of classes.
func toldProg(p api.Prog, x api.FProg) string {
	w := newTeller()
	for _, d := range x.Datas[len(p.Datas):] {
		w.classes[d.Name] = ""
		for _, c := range d.Cons {
			w.cons[c.Name] = ""
		}
	}
	parts := []string{w.core(x.Main)}
	for i := 0; ; i++ {
		if i == len(w.order) && !w.more(x) {
			break
		}
		for _, f := range x.Funs {
			if f.Id == w.order[i] {
				parts = append(parts, w.fun(f))
			}
		}
	}
	for i := range x.Datas[len(p.Datas):] {
		for _, d := range x.Datas[len(p.Datas):] {
			if w.t(api.T{Kind: api.XCon, Name: d.Name}) == "C"+strconv.Itoa(i+1) {
				parts = append(parts, w.data(d))
			}
		}
	}
	return strings.Join(parts, "; ")
}

// more adds a function that nothing has called.
func (w *teller) more(x api.FProg) bool {
	for _, f := range x.Funs {
		if w.funs[f.Id] == "" {
			w.call(f.Id)
			return true
		}
	}
	return false
}

func renamed(names map[string]string, of, first string, count int) string {
	if names[of] == "" {
		names[of] = first + strconv.Itoa(count)
	}
	return names[of]
}

func told(names map[string]string) int {
	n := 0
	for _, s := range names {
		if s != "" {
			n++
		}
	}
	return n
}

func (w *teller) v(id int) string {
	s := strconv.Itoa(id)
	if w.vars[s] == "" {
		n := len(w.vars)
		w.vars[s] = string(rune('a'+n%26)) + strings.Repeat("'", n/26)
	}
	return w.vars[s]
}

func (w *teller) call(id int) string {
	if w.funs[id] == "" {
		w.order = append(w.order, id)
		w.funs[id] = "f" + strconv.Itoa(len(w.order))
	}
	return w.funs[id]
}

func (w *teller) name(s string) string {
	if _, is := w.classes[s]; is {
		return renamed(w.classes, s, "C", told(w.classes)+1)
	}
	if _, is := w.cons[s]; is {
		return renamed(w.cons, s, "K", told(w.cons)+1)
	}
	name, mark, is := strings.Cut(s, "@")
	if !is {
		return s
	}
	return name + "@" + renamed(w.marks, mark, "", len(w.marks)+1)
}

func (w *teller) t(t api.T) string {
	var with func(t api.T) api.T
	with = func(t api.T) api.T {
		t.Name = w.name(t.Name)
		t.L = each(t.L, func(x *api.T) api.T { return with(*x) })
		return t
	}
	return toldT(with(t))
}

func (w *teller) data(d api.Data) string {
	return strings.TrimSpace(w.name(d.Name) + " = " + joined(d.Cons, " | ", func(c api.DataCon) string {
		if c.Has {
			return w.name(c.Name) + " of " + w.t(c.Arg)
		}
		return w.name(c.Name)
	}))
}

func (w *teller) fun(f api.FFun) string {
	return w.call(f.Id) + "(" + joined(f.Params, ", ", func(p api.Param) string { return w.v(p.Id) + ": " + w.t(p.T) }) + "): " + w.t(f.Result) + " = " + w.core(f.E)
}

func (w *teller) core(c api.Core) string {
	switch c.Kind {
	case api.KLet:
		return "let " + joined(c.Funs, " and ", w.bound) + " in " + joined(c.L, " ", w.core)
	case api.KInt:
		return strconv.FormatInt(c.N, 10)
	case api.KText:
		return strconv.Quote(c.Name)
	case api.KVar:
		return w.v(c.Id)
	case api.KCon:
		return w.name(c.Name) + w.parts(c.L)
	case api.KCall:
		return w.call(c.Id) + "(" + joined(c.L, ", ", w.core) + ")"
	case api.KTuple:
		return "(" + joined(c.L, ", ", w.core) + ")"
	case api.KRaise:
		return "raise" + w.parts(c.L)
	case api.KPrim:
		return "`" + c.Name + w.parts(c.L)
	case api.KCase:
		return "case" + w.parts(c.L) + w.ways(c.Ways)
	case api.KHandle:
		return "handle" + w.parts(c.L) + " " + w.v(c.Id) + w.ways(c.Ways)
	}
	return fmt.Sprintf("%+v", c)
}

func (w *teller) parts(l []api.Core) string {
	if len(l) == 0 {
		return ""
	}
	return "(" + joined(l, ", ", w.core) + ")"
}

func (w *teller) bound(f api.CoreFun) string {
	return w.v(f.Id) + ": " + w.t(f.T) + " = " + w.core(f.E)
}

func (w *teller) ways(l []api.Way) string {
	return " {" + joined(l, "; ", func(x api.Way) string { return w.pat(x.P) + " => " + w.core(x.E) }) + "}"
}

func (w *teller) pat(p api.CPat) string {
	switch p.Kind {
	case api.PAny:
		return "_"
	case api.PVar:
		return w.v(p.Id)
	case api.PInt:
		return strconv.FormatInt(p.N, 10)
	case api.PCon:
		if len(p.L) == 0 {
			return w.name(p.Name)
		}
		return w.name(p.Name) + "(" + joined(p.L, ", ", w.pat) + ")"
	case api.PTuple:
		return "(" + joined(p.L, ", ", w.pat) + ")"
	}
	return fmt.Sprintf("%+v", p)
}
