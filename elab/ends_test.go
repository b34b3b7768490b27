package elab

import (
	"reflect"
	"slices"
	"strings"
	"testing"

	"bellows/api"
	"bellows/parse"
)

// answers looks that a call answers, with nothing beside an error.
func answers(t *testing.T, e api.Exp) {
	t.Helper()
	p, f, at := Elab(e)
	q, g, to := Elab(e)
	if f != g || at != to || Type(p) != Type(q) {
		t.Fatalf("%+v: %d, %d, then %d, %d", e, f, at, g, to)
	}
	if f == api.OK && at != 0 || f != api.OK && !reflect.DeepEqual(p, api.Prog{}) || f != api.ErrScope && at != 0 {
		t.Fatalf("%+v: %d, %d", e, f, at)
	}
}

// P5: of any expressions, most of which no text is read as, there is an answer.
func TestAnyExpressionsEnd(t *testing.T) {
	c := &chance{seed: 70}
	for range 60000 {
		var e api.Exp
		c.fill(&e, 4)
		answers(t, e)
	}
}

// parts calls for each part of a thing.
func parts(v reflect.Value, do func(v reflect.Value)) {
	do(v)
	switch v.Kind() {
	case reflect.Struct:
		for i := range v.NumField() {
			parts(v.Field(i), do)
		}
	case reflect.Slice:
		for i := range v.Len() {
			parts(v.Index(i), do)
		}
	}
}

// P5: expressions that have been read, with some part changed.
func TestChangedExpressionsEnd(t *testing.T) {
	c := &chance{seed: 71}
	g := newMaker(71)
	for n := range 1500 {
		src := g.loose(nil, 6)
		if n%8 == 0 {
			src = g.program(60)
		}
		for range 10 {
			e, f, _ := parse.Parse(src)
			if f != api.OK {
				break
			}
			for range 1 + c.below(3) {
				var all []reflect.Value
				parts(reflect.ValueOf(&e).Elem(), func(v reflect.Value) { all = append(all, v) })
				v := oneOf(c, all)
				if v.Kind() == reflect.Slice && v.Len() > 0 && c.below(2) == 0 {
					v.Set(v.Slice(0, v.Len()-1))
				} else {
					c.fillIn(v, c.below(4))
				}
			}
			answers(t, e)
		}
	}
}

func num(n int64) api.Exp                 { return api.Exp{Kind: api.EInt, N: n} }
func exps(kind int, l ...api.Exp) api.Exp { return api.Exp{Kind: kind, L: l} }
func fnOf(p api.Pat, e api.Exp) api.Exp {
	return api.Exp{Kind: api.EFn, Cases: []api.Case{{P: p, E: e}}}
}
func letOf(d api.Dec, e api.Exp) api.Exp {
	return api.Exp{Kind: api.ELet, Decs: []api.Dec{d}, L: []api.Exp{e}}
}

// deepest are expressions that go in as deep as promises hold, by one of their lists, or parts.
func deepest(n int) map[string]api.Exp {
	grow := func(in func(e api.Exp) api.Exp) api.Exp {
		e := num(0)
		for range n {
			e = in(e)
		}
		return e
	}
	x, px, all := api.Exp{Kind: api.EVar, Name: "x"}, api.Pat{Kind: api.PVar, Name: "x"}, api.Pat{Kind: api.PAny}
	none := api.Exp{Kind: api.ECon, Name: "Nil"}
	pat, one := all, all
	ty, arrow, tuple := api.Ty{Kind: api.TCon, Name: "int"}, api.Ty{Kind: api.TCon, Name: "int"}, api.Ty{Kind: api.TCon, Name: "int"}
	for range n {
		pat = api.Pat{Kind: api.PTuple, L: []api.Pat{pat, all}}
		one = api.Pat{Kind: api.PCon, Name: "Cons", L: []api.Pat{one}}
		ty = api.Ty{Kind: api.TCon, Name: "list", L: []api.Ty{ty}}
		arrow = api.Ty{Kind: api.TArrow, L: []api.Ty{arrow, {Kind: api.TCon, Name: "int"}}}
		tuple = api.Ty{Kind: api.TTuple, L: []api.Ty{{Kind: api.TCon, Name: "int"}, tuple}}
	}
	con := func(t api.Ty) api.Exp {
		return letOf(api.Dec{Kind: api.DExn, Cons: []api.Con{{Name: "E", Has: true, Ty: t}}}, api.Exp{Kind: api.ECon, Name: "E"})
	}
	val := func(p api.Pat, e api.Exp) api.Dec { return api.Dec{Kind: api.DVal, P: p, E: e} }
	fun := func(e api.Exp) api.Dec { return api.Dec{Kind: api.DFun, Funs: []api.Fun{{Name: "x", E: e}}} }
	m := map[string]api.Exp{
		"handled": grow(func(e api.Exp) api.Exp {
			return api.Exp{Kind: api.EHandle, L: []api.Exp{e}, Cases: []api.Case{{P: px, E: num(1)}}}
		}),
		"handling": grow(func(e api.Exp) api.Exp {
			return api.Exp{Kind: api.EHandle, L: []api.Exp{num(1)}, Cases: []api.Case{{P: px, E: e}}}
		}),
		"case": grow(func(e api.Exp) api.Exp {
			return api.Exp{Kind: api.ECase, L: []api.Exp{num(1)}, Cases: []api.Case{{P: px, E: e}}}
		}),
		"cased": grow(func(e api.Exp) api.Exp {
			return api.Exp{Kind: api.ECase, L: []api.Exp{e}, Cases: []api.Case{{P: px, E: x}}}
		}),
		"fn":      grow(func(e api.Exp) api.Exp { return fnOf(px, e) }),
		"val":     grow(func(e api.Exp) api.Exp { return letOf(val(px, e), x) }),
		"val fn":  grow(func(e api.Exp) api.Exp { return letOf(val(px, fnOf(px, e)), x) }),
		"val any": grow(func(e api.Exp) api.Exp { return letOf(val(all, e), num(1)) }),
		"fun":     grow(func(e api.Exp) api.Exp { return letOf(fun(fnOf(px, e)), x) }),
		"in val":  grow(func(e api.Exp) api.Exp { return letOf(val(px, exps(api.ETuple, num(1), none)), e) }),
		"in fun":  grow(func(e api.Exp) api.Exp { return letOf(fun(fnOf(px, x)), e) }),
		"in any":  grow(func(e api.Exp) api.Exp { return letOf(val(all, num(1)), e) }),
		"in":      grow(func(e api.Exp) api.Exp { return exps(api.ELet, e) }),
		"tuple":   grow(func(e api.Exp) api.Exp { return exps(api.ETuple, e, none) }),
		"pairs":   grow(func(e api.Exp) api.Exp { return exps(api.ETuple, num(1), e) }),
		"called":  grow(func(e api.Exp) api.Exp { return exps(api.EApp, fnOf(px, x), e) }),
		"list": grow(func(e api.Exp) api.Exp {
			if e.Kind == api.EInt {
				e = none
			}
			return exps(api.EApp, api.Exp{Kind: api.ECon, Name: "Cons"}, exps(api.ETuple, num(1), e))
		}),
		"calling": fnOf(px, grow(func(e api.Exp) api.Exp {
			if e.Kind == api.EInt {
				e = x
			}
			return exps(api.EApp, e, num(1))
		})),
		"ref":   grow(func(e api.Exp) api.Exp { return exps(api.EApp, api.Exp{Kind: api.EVar, Name: "ref"}, e) }),
		"minus": grow(func(e api.Exp) api.Exp { return api.Exp{Kind: api.EPrim, Name: "~", L: []api.Exp{e}} }),
		"raise": grow(func(e api.Exp) api.Exp { return exps(api.ERaise, e) }),
		"pat":   fnOf(pat, num(1)), "con": fnOf(one, num(1)), "pat val": letOf(val(pat, num(1)), num(1)),
		"ty": con(ty), "arrow": con(arrow), "tuple ty": con(tuple),
	}
	for kind := range 14 {
		m["kind "+string(rune('a'+kind))] = grow(func(e api.Exp) api.Exp { return api.Exp{Kind: kind, Name: "x", L: []api.Exp{e}} })
	}
	return m
}

// P5: expressions that go in as deep as promises hold.
func TestDeepestExpressionsEnd(t *testing.T) {
	for name, e := range deepest(1 << 16) {
		p, f, at := Elab(e)
		if f == api.OK && at != 0 || f != api.OK && p.Datas != nil {
			t.Error(name, f, at)
		}
		Type(p)
	}
	typ, pat := xtup(), pany()
	for range 1 << 16 {
		typ, pat = xfun(typ, xcon("list", xvar(1))), ptup(pat, pany())
	}
	if Covers(api.Prog{}, typ, pats(pat)) || len(typeOf(typ)) < 1<<16 {
		t.Error("deepest types and patterns")
	}
}

// Rule 7: types that have very many parts, where these are the same.
func TestTypesOfManySameParts(t *testing.T) {
	for _, src := range []string{
		"val x = (1, 1) " + strings.Repeat("val x = (x, x) ", 300) + "in 1",
		"val x = (1, 1) " + strings.Repeat("val y = (x, x) val x = (y, y) val _ = [x, (y, y)] ", 100) + "in 1",
		"val x = ref [] " + strings.Repeat("val x = (x, x) ", 300) + "in 1",
		"val x = (1, 1) val y = (1, 1) " + strings.Repeat("val x = (x, x) val y = (y, y) ", 100) + "in [x, y]; 1",
		"fun f x = let " + strings.Repeat("val x = (x, x) ", 200) + "in x end in (f 1; f \"\"; 1)",
		"fn x => let " + strings.Repeat("val x = (x, x) ", 200) + "val f = fn y => (x, y) in (f 1; f \"\"; 1) end",
	} {
		if p, f, at := Elab(read(t, src)); f != api.OK || at != 0 || p.Main.T.Kind == 0 {
			t.Error(short(src), f, at)
		}
	}
	illTyped(t, "fn x => let "+strings.Repeat("val x = (x, x) ", 200)+"in x x end")
}

// P5: texts of MaxTokens tokens.
func TestLongTextsEnd(t *testing.T) {
	for _, part := range []string{"1; ", "f ", "val x = fn y => (x, y) ", "fun f x = f x ", "datatype t = A ", "datatype 'a t = A of 'a t ", "exception E of int ", "val x = [1] ", "x :: ", "1 + ", "true andalso ", "1 := ", "! ", "~ "} {
		n := 1
		for n < 4000 {
			src := strings.Repeat(part, n)
			for _, s := range []string{"val x = 1 fun f y = y " + src + "in 1", src + "1", "fn x => fn f => " + src + "x", "fun x y = y " + src + "in x"} {
				if e, f, _ := parse.Parse(s); f == api.OK && n < 400 {
					Elab(e)
				}
			}
			n *= 3
		}
	}
}

// copied shares no list with the other.
func copied(to, from reflect.Value) {
	switch from.Kind() {
	case reflect.Struct:
		for i := range from.NumField() {
			copied(to.Field(i), from.Field(i))
		}
	case reflect.Slice:
		if from.IsNil() {
			return
		}
		to.Set(reflect.MakeSlice(from.Type(), from.Len(), from.Len()))
		for i := range from.Len() {
			copied(to.Index(i), from.Index(i))
		}
	default:
		to.Set(from)
	}
}

func copyOf[E any](x E) E {
	var c E
	copied(reflect.ValueOf(&c).Elem(), reflect.ValueOf(x))
	return c
}

// roomy gives each list spare room, in which nothing stands.
func roomy(v reflect.Value) {
	parts(v, func(v reflect.Value) {
		if v.Kind() == reflect.Slice {
			room := reflect.MakeSlice(v.Type(), v.Len(), v.Len()+2)
			reflect.Copy(room, v)
			v.Set(room)
		}
	})
}

// stays looks that nothing stands in spare room.
func stays(t *testing.T, v reflect.Value) {
	t.Helper()
	parts(v, func(v reflect.Value) {
		if v.Kind() == reflect.Slice {
			for i := v.Len(); i < v.Cap(); i++ {
				if !v.Slice(0, v.Cap()).Index(i).IsZero() {
					t.Fatal("spare room was used")
				}
			}
		}
	})
}

// cleared makes all parts of a thing's lists zero, those that stand in others first.
func cleared(x any) {
	var all []reflect.Value
	parts(reflect.ValueOf(x).Elem(), func(v reflect.Value) { all = append(all, v) })
	for _, v := range slices.Backward(all) {
		if v.Kind() == reflect.Slice {
			for i := range v.Len() {
				v.Index(i).SetZero()
			}
		}
	}
}

// Rules 4 and 6: what is handed in is not changed, spare room included, nor shared; the same is answered again.
func TestAnswersAreNewAndArgumentsStay(t *testing.T) {
	g := newMaker(72)
	for n := range 400 {
		src := g.loose(nil, 6)
		if n%4 == 0 {
			src = g.program(40)
		}
		e, f, _ := parse.Parse(src)
		if f != api.OK {
			continue
		}
		roomy(reflect.ValueOf(&e).Elem())
		before := copyOf(e)
		p, f, _ := Elab(e)
		stays(t, reflect.ValueOf(&e).Elem())
		if !reflect.DeepEqual(copyOf(e), before) {
			t.Fatal(src)
		}
		if f != api.OK {
			continue
		}
		kept := copyOf(p)
		q, _, _ := Elab(e)
		if !reflect.DeepEqual(p, q) {
			t.Fatal(src, "isn't the same again")
		}
		cleared(&q)
		if !reflect.DeepEqual(p, kept) || !reflect.DeepEqual(copyOf(e), before) {
			t.Fatal(src, "shares lists")
		}
		roomy(reflect.ValueOf(&p).Elem())
		Type(p)
		stays(t, reflect.ValueOf(&p).Elem())
	}
}

// Rule 4, of Covers.
func TestCoversLeavesItsArguments(t *testing.T) {
	p, _ := covering(t)
	c := &chance{seed: 73}
	for range 3000 {
		typ := c.randomT(2)
		l := pats(c.randomPat(p.Datas, typ, 3), c.randomPat(p.Datas, typ, 3), c.randomPat(p.Datas, typ, 3))
		for _, x := range []any{&p, &typ, &l} {
			roomy(reflect.ValueOf(x).Elem())
		}
		q, u, m := copyOf(p), copyOf(typ), copyOf(l)
		if Covers(p, typ, l) != Covers(q, u, m) || !reflect.DeepEqual(p, q) || !reflect.DeepEqual(typ, u) || !reflect.DeepEqual(l, m) {
			t.Fatal(toldT(typ))
		}
		for _, x := range []any{&p, &typ, &l} {
			stays(t, reflect.ValueOf(x).Elem())
		}
	}
}

// P5: Covers of anything.
func TestCoversOfAnything(t *testing.T) {
	c := &chance{seed: 74}
	for range 20000 {
		var p api.Prog
		var typ api.T
		var l []api.CPat
		c.fill(&p, 4)
		c.fill(&typ, 4)
		c.fill(&l, 5)
		if Covers(p, typ, l) != Covers(p, typ, l) || Covers(p, typ, nil) || !Covers(p, typ, pats(pany())) {
			t.Fatal(p, typ, l)
		}
	}
}
