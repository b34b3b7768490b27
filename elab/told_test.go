package elab

import (
	"fmt"
	"strconv"
	"strings"
	"testing"

	"bellows/api"
	"bellows/parse"
)

// rows are the parts of a list, with a sign between two.
func rows[F any](l []F, sign string, told func(F) string) string {
	var parts []string
	for _, x := range l {
		parts = append(parts, told(x))
	}
	return strings.Join(parts, sign)
}

// toldT writes a type with the numbers of its variables.
func toldT(t api.T) string {
	parts := rows(t.L, ", ", toldT)
	switch t.Kind {
	case api.XVar:
		return "'" + strconv.Itoa(t.N)
	case api.XCon:
		if len(t.L) > 0 {
			return t.Name + "<" + parts + ">"
		}
		return t.Name
	case api.XFun:
		return "(" + rows(t.L, "->", toldT) + ")"
	case api.XTup:
		return "{" + parts + "}"
	}
	return fmt.Sprintf("%+v", t)
}

// told writes a core, in a way of its own, without the types that each has.
func told(c api.Core) string { return teller{}.core(c) }

// toldTyped writes each core, each pattern with its type.
func toldTyped(c api.Core) string { return teller{types: true}.core(c) }

type teller struct{ types bool }

func (w teller) of(s string, t api.T) string {
	if w.types {
		return s + ":" + toldT(t)
	}
	return s
}

func inst(l []api.T) string {
	if len(l) == 0 {
		return ""
	}
	return "<" + rows(l, ", ", toldT) + ">"
}

func (w teller) core(c api.Core) string { return w.of(w.inside(c), c.T) }

func (w teller) inside(c api.Core) string {
	parts := rows(c.L, ", ", w.core)
	ways := rows(c.Ways, " | ", func(x api.Way) string { return w.pat(x.P) + " => " + w.core(x.E) })
	funs := rows(c.Funs, " and ", w.fun)
	id := "v" + strconv.Itoa(c.Id)
	switch c.Kind {
	case api.KInt:
		return strconv.FormatInt(c.N, 10)
	case api.KText:
		return strconv.Quote(c.Name)
	case api.KVar:
		return id + inst(c.Inst)
	case api.KCon:
		if len(c.L) == 0 {
			return c.Name + inst(c.Inst)
		}
		return c.Name + inst(c.Inst) + "(" + parts + ")"
	case api.KApp:
		return "app(" + parts + ")"
	case api.KFn:
		return "fn " + id + "(" + parts + ")"
	case api.KCase:
		return "case(" + parts + " of " + ways + ")"
	case api.KLet:
		return "let(" + funs + " in " + parts + ")"
	case api.KFix:
		return "fix(" + funs + " in " + parts + ")"
	case api.KTuple:
		return "{" + parts + "}"
	case api.KRaise:
		return "raise(" + parts + ")"
	case api.KHandle:
		return "handle(" + parts + " by " + id + " of " + ways + ")"
	case api.KPrim:
		return "`" + c.Name + "(" + parts + ")"
	}
	return fmt.Sprintf("%+v", c)
}

func (w teller) fun(f api.CoreFun) string {
	s := "v" + strconv.Itoa(f.Id)
	if len(f.Gen) > 0 {
		s += "<" + rows(f.Gen, ", ", func(n int) string { return "'" + strconv.Itoa(n) }) + ">"
	}
	return w.of(s, f.T) + " = " + w.core(f.E)
}

func (w teller) pat(p api.CPat) string {
	parts := rows(p.L, ", ", w.pat)
	s := ""
	switch p.Kind {
	case api.PAny:
		s = "_"
	case api.PVar:
		s = "v" + strconv.Itoa(p.Id)
	case api.PInt:
		s = strconv.FormatInt(p.N, 10)
	case api.PCon:
		s = p.Name
		if len(p.L) > 0 {
			s += "(" + parts + ")"
		}
	case api.PTuple:
		s = "{" + parts + "}"
	default:
		s = fmt.Sprintf("%+v", p)
	}
	return w.of(s, p.T)
}

func toldData(d api.Data) string {
	vars := rows(d.Vars, ", ", func(n int) string { return "'" + strconv.Itoa(n) })
	return vars + " " + d.Name + " = " + rows(d.Cons, " | ", func(c api.DataCon) string {
		if c.Has {
			return c.Name + " of " + toldT(c.Arg)
		}
		return c.Name
	})
}

// read is the program of a text that has one.
func read(t testing.TB, src string) api.Exp {
	t.Helper()
	e, f, at := parse.Parse(src)
	if f != api.OK {
		t.Fatalf("Parse(%s): %d, %d", short(src), f, at)
	}
	return e
}

// elaborated is what Elab answers of a text that has types, which must be sound.
func elaborated(t testing.TB, src string) api.Prog {
	t.Helper()
	p, f, at := Elab(read(t, src))
	if f != api.OK || at != 0 {
		t.Fatalf("%s: %d, %d", short(src), f, at)
	}
	sound(t, src, p)
	return p
}

// has looks that a text has that type.
func has(t testing.TB, want string, texts ...string) {
	t.Helper()
	for _, src := range texts {
		if got := Type(elaborated(t, src)); got != want {
			t.Errorf("%s: %s, want %s", short(src), got, want)
		}
	}
}

// writes looks which core a text is written as.
func writes(t testing.TB, src, want string) {
	t.Helper()
	if got := told(elaborated(t, src).Main); got != want {
		t.Errorf("%s:\n%s, want\n%s", short(src), got, want)
	}
}

// refuses looks that there are an error, its place, and no program.
func refuses(t testing.TB, want api.Errno, place int, src string) {
	t.Helper()
	p, f, at := Elab(read(t, src))
	if f != want || at != place || p.Datas != nil || told(p.Main) != told(api.Core{}) {
		t.Errorf("%s: %d, %d, want %d, %d; %s", short(src), f, at, want, place, told(p.Main))
	}
}

// illTyped looks that texts are refused for their types.
func illTyped(t testing.TB, texts ...string) {
	t.Helper()
	for _, src := range texts {
		refuses(t, api.ErrType, 0, src)
	}
}

// unknownAt looks that a text is refused for its names: an @ stands ahead of the place.
func unknownAt(t testing.TB, texts ...string) {
	t.Helper()
	for _, src := range texts {
		before, behind, _ := strings.Cut(src, "@")
		refuses(t, api.ErrScope, len(before), before+behind)
	}
}

// short keeps what is told of a long text short.
func short(s string) string {
	if len(s) > 400 {
		s = s[:400] + " .."
	}
	return "\"" + s + "\""
}
