package mono

import (
	"fmt"
	"slices"
	"strconv"
	"strings"
	"testing"

	"bellows/api"
	"bellows/elab"
	"bellows/parse"
)

// elaborated is what Elab answers of a text that has types.
func elaborated(t testing.TB, src string) api.Prog {
	t.Helper()
	e, f, at := parse.Parse(src)
	if f != api.OK {
		t.Fatalf("Parse(%s): %d, %d", short(src), f, at)
	}
	p, f, at := elab.Elab(e)
	if f != api.OK {
		t.Fatalf("Elab(%s): %d, %d", short(src), f, at)
	}
	return p
}

// short keeps what is told of a long text short.
func short(s string) string {
	if len(s) > 2000 {
		s = s[:2000] + " .."
	}
	return "\"" + s + "\""
}

// joined are the parts of a list, with a sign between two.
func joined[E any](l []E, sign string, told func(E) string) string {
	var parts []string
	for _, x := range l {
		parts = append(parts, told(x))
	}
	return strings.Join(parts, sign)
}

// toldT writes a type out.
func toldT(t api.T) string {
	switch t.Kind {
	case api.XVar:
		return "'" + strconv.Itoa(t.N)
	case api.XCon:
		return t.Name + toldRow(t.L)
	case api.XFun:
		return "(" + joined(t.L, " -> ", toldT) + ")"
	case api.XTup:
		return "(" + joined(t.L, ", ", toldT) + ")"
	}
	return fmt.Sprintf("%+v", t)
}

func toldRow(l []api.T) string {
	if len(l) == 0 {
		return ""
	}
	return "[" + joined(l, ", ", toldT) + "]"
}

// teller writes programs by names of its own, so that it doesn't matter which numbers they have: a, b, .. of variables, A, B, .. of datatypes' instances, in the order in which they stand first.
type teller struct{ vars, marks map[string]string }

func newTeller() teller { return teller{map[string]string{}, map[string]string{}} }

// toldProg is a program without its exceptions and bool. In which order the others stand doesn't matter.
func toldProg(p api.Prog) string {
	w := newTeller()
	main := w.core(p.Main)
	l := each(p.Datas[2:], func(d *api.Data) string { return w.data(*d) })
	slices.Sort(l)
	return strings.Join(append(l, main), "; ")
}

// toldMain is what a program does.
func toldMain(p api.Prog) string { return newTeller().core(p.Main) }

func renamed(names map[string]string, of string, first byte) string {
	if names[of] == "" {
		names[of] = string(rune(int(first) + len(names)))
	}
	return names[of]
}

func (w teller) v(id int) string { return renamed(w.vars, strconv.Itoa(id), 'a') }

// name is that of an instance, or of a constructor.
func (w teller) name(s string) string {
	name, mark, is := strings.Cut(s, "@")
	if !is {
		return s
	}
	return name + "@" + renamed(w.marks, mark, 'A')
}

func (w teller) t(t api.T) string {
	var with func(t api.T) api.T
	with = func(t api.T) api.T {
		t.Name = w.name(t.Name)
		t.L = each(t.L, func(x *api.T) api.T { return with(*x) })
		return t
	}
	return toldT(with(t))
}

func (w teller) data(d api.Data) string {
	return w.name(d.Name) + " = " + joined(d.Cons, " | ", func(c api.DataCon) string {
		if c.Has {
			return w.name(c.Name) + " of " + w.t(c.Arg)
		}
		return w.name(c.Name)
	})
}

func (w teller) core(c api.Core) string {
	switch c.Kind {
	case api.KLet:
		return "let " + joined(c.Funs, " and ", w.fun) + " in " + joined(c.L, " ", w.core)
	case api.KFix:
		return "fix " + joined(c.Funs, " and ", w.fun) + " in " + joined(c.L, " ", w.core)
	case api.KInt:
		return strconv.FormatInt(c.N, 10)
	case api.KText:
		return strconv.Quote(c.Name)
	case api.KVar:
		return w.v(c.Id) + toldRow(c.Inst)
	case api.KCon:
		return w.name(c.Name) + toldRow(c.Inst) + w.parts(c.L)
	case api.KApp:
		return "app" + w.parts(c.L)
	case api.KFn:
		return "fn " + w.v(c.Id) + w.parts(c.L)
	case api.KTuple:
		return "(" + joined(c.L, ", ", w.core) + ")"
	case api.KRaise:
		return "raise" + w.parts(c.L)
	case api.KPrim:
		return "`" + c.Name + w.parts(c.L)
	case api.KCase:
		return "case" + w.parts(c.L) + w.ways(c.Ways)
	case api.KHandle:
		return "handle" + w.parts(c.L) + " " + w.v(c.Id) + w.ways(c.Ways)
	}
	return fmt.Sprintf("%+v", c)
}

func (w teller) parts(l []api.Core) string {
	if len(l) == 0 {
		return ""
	}
	return "(" + joined(l, ", ", w.core) + ")"
}

func (w teller) fun(f api.CoreFun) string {
	gen := ""
	if len(f.Gen) > 0 {
		gen = fmt.Sprint(f.Gen)
	}
	return w.v(f.Id) + gen + ": " + w.t(f.T) + " = " + w.core(f.E)
}

func (w teller) ways(l []api.Way) string {
	return " {" + joined(l, "; ", func(x api.Way) string { return w.pat(x.P) + " => " + w.core(x.E) }) + "}"
}

func (w teller) pat(p api.CPat) string {
	switch p.Kind {
	case api.PAny:
		return "_"
	case api.PVar:
		return w.v(p.Id)
	case api.PInt:
		return strconv.FormatInt(p.N, 10)
	case api.PCon:
		if len(p.L) == 0 {
			return w.name(p.Name)
		}
		return w.name(p.Name) + "(" + joined(p.L, ", ", w.pat) + ")"
	case api.PTuple:
		return "(" + joined(p.L, ", ", w.pat) + ")"
	}
	return fmt.Sprintf("%+v", p)
}
