package parse

import (
	"fmt"
	"reflect"
	"strconv"
	"strings"
	"testing"

	"bellows/api"
)

// rows are the parts of a list, with a sign between two.
func rows[F any](l []F, sign string, told func(F) string) string {
	var parts []string
	for _, x := range l {
		parts = append(parts, told(x))
	}
	return strings.Join(parts, sign)
}

// told writes an expression with all places, in a way of its own: kind@place[parts].
func told(e api.Exp) string {
	at := "@" + strconv.Itoa(e.At)
	parts := rows(e.L, " ", told)
	ways := rows(e.Cases, " | ", func(c api.Case) string { return toldPat(c.P) + "=>" + told(c.E) })
	switch e.Kind {
	case api.EInt:
		return strconv.FormatInt(e.N, 10) + at
	case api.EText:
		return strconv.Quote(e.Name) + at
	case api.EVar, api.ECon:
		return e.Name + at
	case api.EApp:
		return "app" + at + "[" + parts + "]"
	case api.EFn:
		return "fn" + at + "[" + ways + "]"
	case api.ECase:
		return "case" + at + "[" + parts + " of " + ways + "]"
	case api.ELet:
		return "let" + at + "[" + rows(e.Decs, " ", toldDec) + " in " + parts + "]"
	case api.ETuple:
		return "tuple" + at + "[" + parts + "]"
	case api.ERaise:
		return "raise" + at + "[" + parts + "]"
	case api.EHandle:
		return "handle" + at + "[" + parts + " of " + ways + "]"
	case api.EPrim:
		return e.Name + at + "[" + parts + "]"
	}
	return fmt.Sprintf("%+v", e)
}

func toldPat(p api.Pat) string {
	at := "@" + strconv.Itoa(p.At)
	parts := rows(p.L, " ", toldPat)
	switch p.Kind {
	case api.PAny:
		return "_" + at
	case api.PVar:
		return p.Name + at
	case api.PInt:
		return strconv.FormatInt(p.N, 10) + at
	case api.PCon:
		if len(p.L) == 0 {
			return p.Name + at
		}
		return p.Name + at + "[" + parts + "]"
	case api.PTuple:
		return "tuple" + at + "[" + parts + "]"
	}
	return fmt.Sprintf("%+v", p)
}

func toldTy(t api.Ty) string {
	at := "@" + strconv.Itoa(t.At)
	parts := rows(t.L, " ", toldTy)
	switch t.Kind {
	case api.TVar:
		return t.Name + at
	case api.TCon:
		if len(t.L) == 0 {
			return t.Name + at
		}
		return t.Name + at + "[" + parts + "]"
	case api.TArrow:
		return "arrow" + at + "[" + parts + "]"
	case api.TTuple:
		return "tuple" + at + "[" + parts + "]"
	}
	return fmt.Sprintf("%+v", t)
}

func toldDec(d api.Dec) string {
	at := "@" + strconv.Itoa(d.At)
	cons := rows(d.Cons, " | ", func(c api.Con) string {
		s := c.Name + "@" + strconv.Itoa(c.At)
		if c.Has {
			s += " of " + toldTy(c.Ty)
		}
		return s
	})
	switch d.Kind {
	case api.DVal:
		return "val" + at + "[" + toldPat(d.P) + " = " + told(d.E) + "]"
	case api.DFun:
		return "fun" + at + "[" + rows(d.Funs, " and ", func(f api.Fun) string { return f.Name + "@" + strconv.Itoa(f.At) + " = " + told(f.E) }) + "]"
	case api.DData:
		return "data" + at + "[" + strings.Join(d.Params, " ") + " " + d.Name + " = " + cons + "]"
	case api.DExn:
		return "exn" + at + "[" + cons + "]"
	}
	return fmt.Sprintf("%+v", d)
}

// bare is an expression of which all parts are zero, but those that its kind has: what is no part of a form must be zero.
func bare(e api.Exp) api.Exp {
	b := api.Exp{Kind: e.Kind, At: e.At}
	switch e.Kind {
	case api.EInt:
		b.N = e.N
	case api.EText, api.EVar, api.ECon:
		b.Name = e.Name
	case api.EPrim:
		b.Name, b.L = e.Name, bares(e.L, bare)
	case api.EApp, api.ETuple, api.ERaise:
		b.L = bares(e.L, bare)
	case api.EFn:
		b.Cases = bares(e.Cases, bareCase)
	case api.ECase, api.EHandle:
		b.L, b.Cases = bares(e.L, bare), bares(e.Cases, bareCase)
	case api.ELet:
		b.L, b.Decs = bares(e.L, bare), bares(e.Decs, bareDec)
	}
	return b
}

// bares is a new list, nil if it is empty.
func bares[F any](l []F, bare func(F) F) []F {
	var m []F
	for _, x := range l {
		m = append(m, bare(x))
	}
	return m
}

func bareCase(c api.Case) api.Case { return api.Case{P: barePat(c.P), E: bare(c.E)} }

func barePat(p api.Pat) api.Pat {
	b := api.Pat{Kind: p.Kind, At: p.At}
	switch p.Kind {
	case api.PVar:
		b.Name = p.Name
	case api.PInt:
		b.N = p.N
	case api.PCon:
		b.Name, b.L = p.Name, bares(p.L, barePat)
	case api.PTuple:
		b.L = bares(p.L, barePat)
	}
	return b
}

func bareDec(d api.Dec) api.Dec {
	b := api.Dec{Kind: d.Kind, At: d.At}
	switch d.Kind {
	case api.DVal:
		b.P, b.E = barePat(d.P), bare(d.E)
	case api.DFun:
		b.Funs = bares(d.Funs, func(f api.Fun) api.Fun { return api.Fun{Name: f.Name, At: f.At, E: bare(f.E)} })
	case api.DData:
		b.Name, b.Params, b.Cons = d.Name, bares(d.Params, strings.Clone), bares(d.Cons, bareCon)
	case api.DExn:
		b.Cons = bares(d.Cons, bareCon)
	}
	return b
}

func bareCon(c api.Con) api.Con {
	if !c.Has {
		return api.Con{Name: c.Name, At: c.At}
	}
	return api.Con{Name: c.Name, At: c.At, Has: true, Ty: bareTy(c.Ty)}
}

func bareTy(t api.Ty) api.Ty {
	return api.Ty{Kind: t.Kind, At: t.At, Name: t.Name, L: bares(t.L, bareTy)}
}

// emptied is an expression with nil for empty lists.
func emptied(v reflect.Value) {
	switch v.Kind() {
	case reflect.Struct:
		for i := range v.NumField() {
			emptied(v.Field(i))
		}
	case reflect.Slice:
		if v.Len() == 0 {
			v.SetZero()
		}
		for i := range v.Len() {
			emptied(v.Index(i))
		}
	}
}

// alike: are they the same with all places, nil and empty lists being one?
func alike(a, b api.Exp) bool {
	a, b = copied(a), copied(b)
	emptied(reflect.ValueOf(&a).Elem())
	emptied(reflect.ValueOf(&b).Elem())
	return reflect.DeepEqual(a, b)
}

// copied shares no list with e.
func copied(e api.Exp) api.Exp {
	var c api.Exp
	copyInto(reflect.ValueOf(&c).Elem(), reflect.ValueOf(e))
	return c
}

func copyInto(to, from reflect.Value) {
	switch from.Kind() {
	case reflect.Struct:
		for i := range from.NumField() {
			copyInto(to.Field(i), from.Field(i))
		}
	case reflect.Slice:
		if from.IsNil() {
			return
		}
		to.Set(reflect.MakeSlice(from.Type(), from.Len(), from.Len()))
		for i := range from.Len() {
			copyInto(to.Index(i), from.Index(i))
		}
	default:
		to.Set(from)
	}
}

// places calls for each place.
func places(v reflect.Value, do func(at reflect.Value)) {
	switch v.Kind() {
	case reflect.Struct:
		for i := range v.NumField() {
			if v.Type().Field(i).Name == "At" {
				do(v.Field(i))
			}
			places(v.Field(i), do)
		}
	case reflect.Slice:
		for i := range v.Len() {
			places(v.Index(i), do)
		}
	}
}

// shifted is e, all of it standing by places further on.
func shifted(e api.Exp, by int) api.Exp {
	e = copied(e)
	places(reflect.ValueOf(&e).Elem(), func(at reflect.Value) { at.SetInt(at.Int() + int64(by)) })
	return e
}

// read is the program of a text that has one.
func read(t testing.TB, src string) api.Exp {
	t.Helper()
	e, f, at := Parse(src)
	if f != api.OK || at != 0 {
		t.Fatalf("Parse(%s): %d, %d", short(src), f, at)
	}
	if !alike(e, bare(e)) {
		t.Errorf("Parse(%s) = %+v: parts that are none of its kinds", short(src), e)
	}
	return e
}

// is holds a text's program against what is wanted, places and all.
func is(t testing.TB, src, want string) {
	t.Helper()
	if got := told(read(t, src)); got != want {
		t.Errorf("Parse(%s) = %s, want %s", short(src), got, want)
	}
}

// same looks that all these texts are the same program.
func same(t testing.TB, first string, others ...string) {
	t.Helper()
	a := read(t, first)
	for _, src := range others {
		if b := read(t, src); !Same(a, b) || !Same(b, a) {
			t.Errorf("%s is %s, %s is %s", first, Print(a), src, Print(b))
		}
	}
}

// differ looks that no two of these texts are the same program.
func differ(t testing.TB, l ...string) {
	t.Helper()
	for i, src := range l {
		for _, other := range l[:i] {
			if Same(read(t, src), read(t, other)) {
				t.Errorf("%s and %s are the same", src, other)
			}
		}
	}
}

// refuses looks that there are an error, its place, and no program.
func refuses(t testing.TB, src string, want api.Errno, place int) {
	t.Helper()
	e, f, at := Parse(src)
	if f != want || at != place || !reflect.DeepEqual(e, api.Exp{}) {
		t.Errorf("Parse(%s) = %+v, %d, %d, want %d, %d", short(src), e, f, at, want, place)
	}
}

// short keeps what is told of a long text short.
func short(s string) string {
	if len(s) > 300 {
		s = s[:300] + " .."
	}
	return "\"" + s + "\""
}
