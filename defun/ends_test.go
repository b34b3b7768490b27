package defun

import (
	"math"
	"reflect"
	"runtime/debug"
	"slices"
	"strings"
	"testing"

	"bellows/api"
	"bellows/elab"
	"bellows/parse"
)

// answers looks that Defun answers, the same again.
func answers(t *testing.T, p api.Prog) {
	t.Helper()
	if x, y := Defun(p), Defun(p); !reflect.DeepEqual(x, y) {
		t.Fatalf("%+v", p)
	}
}

// fill makes up any thing, most of which nothing answers.
func (c *chance) fill(to any, depth int) { c.fillIn(reflect.ValueOf(to).Elem(), depth) }

func (c *chance) fillIn(v reflect.Value, depth int) {
	switch v.Kind() {
	case reflect.Struct:
		for i := range v.NumField() {
			c.fillIn(v.Field(i), depth)
		}
	case reflect.Slice:
		if depth <= 0 || c.below(3) > 0 {
			v.SetZero()
			return
		}
		n := c.below(4)
		v.Set(reflect.MakeSlice(v.Type(), n, n))
		for i := range n {
			c.fillIn(v.Index(i), depth-1)
		}
	case reflect.Int, reflect.Int64:
		v.SetInt(oneOf[int64](c, 0, 0, 1, 1, 2, 3, 3, 3, 4, 5, 5, 6, 6, 7, 8, 9, 9, 10, 12, 12, 13, -1, math.MinInt64, math.MaxInt64))
	case reflect.String:
		v.SetString(oneOf(c, "", "x", "A", "+", "!", "Cons", "Nil", "true", "list", "int", "ref", "t", "bool", "exn", "a@1", "fn@1"))
	case reflect.Bool:
		v.SetBool(c.below(2) == 0)
	}
}

// P5: any programs.
func TestAnyProgramsEnd(t *testing.T) {
	c := &chance{seed: 70}
	for range 60000 {
		var p api.Prog
		c.fill(&p, 5)
		answers(t, p)
	}
}

// P5: any programs of kinds that have functions, with few types and few numbers, so that they often meet.
func TestAnyFunctionsEnd(t *testing.T) {
	c := &chance{seed: 71}
	num := xcon("int")
	ring := xfun(num, num)
	types := []api.T{num, xtup(), xfun(num, num), xfun(xfun(num, num), num), xfun(num, num, num), xtup(xfun(num, num), num), xfun(xtup(ring, ring), ring), {Kind: api.XFun}, {Kind: api.XFun, L: []api.T{num}}, xvar(1), {}}
	var core func(depth int) api.Core
	var pat func(depth int) api.CPat
	pat = func(depth int) api.CPat {
		p := api.CPat{Kind: 1 + c.below(5), Id: c.below(6), T: oneOf(c, types...)}
		for range c.below(max(depth, 1)) {
			p.L = append(p.L, pat(depth-1))
		}
		return p
	}
	core = func(depth int) api.Core {
		k := api.Core{Kind: oneOf(c, api.KVar, api.KVar, api.KApp, api.KApp, api.KFn, api.KCase, api.KLet, api.KFix, api.KTuple, api.KHandle, api.KPrim, api.KRaise, api.KCall), Id: c.below(6), T: oneOf(c, types...)}
		if depth <= 0 {
			return k
		}
		for range c.below(4) {
			k.L = append(k.L, core(depth-1))
		}
		for range c.below(3) {
			k.Ways = append(k.Ways, api.Way{P: pat(2), E: core(depth - 1)})
		}
		for range c.below(3) {
			k.Funs = append(k.Funs, api.CoreFun{Id: c.below(6), T: oneOf(c, types...), E: core(depth - 1)})
		}
		return k
	}
	for range 20000 {
		answers(t, api.Prog{Main: core(4)})
	}
}

// parts calls for each part of a thing.
func parts(v reflect.Value, do func(v reflect.Value)) {
	do(v)
	switch v.Kind() {
	case reflect.Struct:
		for i := range v.NumField() {
			parts(v.Field(i), do)
		}
	case reflect.Slice:
		for i := range v.Len() {
			parts(v.Index(i), do)
		}
	}
}

// P5: what Mono answers, with some parts changed.
func TestChangedProgramsEnd(t *testing.T) {
	t.Parallel()
	typed(t, 72, 400, func(g *author, src string, p api.Prog) {
		if len(src) > 2500 {
			return
		}
		for range 4 {
			q := copyOf(p)
			for range 1 + g.below(3) {
				var all []reflect.Value
				parts(reflect.ValueOf(&q).Elem(), func(v reflect.Value) { all = append(all, v) })
				v := all[g.below(len(all))]
				if v.Kind() == reflect.Slice && v.Len() > 0 && g.below(2) == 0 {
					v.Set(v.Slice(0, v.Len()-1))
				} else {
					g.fillIn(v, g.below(4))
				}
			}
			answers(t, q)
		}
	})
}

// P5: what Elab answers, with its type variables.
func TestProgramsWithTypeVariablesEnd(t *testing.T) {
	g := &author{chance: chance{seed: 73}}
	for range 300 {
		e, f, _ := parse.Parse(g.program(100))
		if f == api.OK {
			p, _, _ := elab.Elab(e)
			answers(t, p)
		}
	}
}

func varOf(id int, t api.T) api.Core { return api.Core{Kind: api.KVar, Id: id, T: t} }

func fnOf(id int, from api.T, e api.Core) api.Core {
	return api.Core{Kind: api.KFn, Id: id, T: xfun(from, e.T), L: []api.Core{e}}
}

// P5: functions that are called with themselves, so that their types have no end, if they are taken for what comes to them.
func TestFunctionsOfThemselvesEnd(t *testing.T) {
	num := xcon("int")
	for _, typ := range []api.T{xfun(num, num), xfun(xfun(num, num), num), xfun(num, xfun(num, num)), xfun(xfun(xfun(num, num), num), xfun(xfun(num, num), num))} {
		x := varOf(1, typ)
		own := api.Core{Kind: api.KApp, T: typ, L: []api.Core{x, x}}
		f := api.Core{Kind: api.KFn, Id: 1, T: typ, L: []api.Core{own}}
		app := api.Core{Kind: api.KApp, T: typ, L: []api.Core{f, f}}
		answers(t, api.Prog{Main: app})
		g := f
		g.Id = 2
		answers(t, api.Prog{Main: api.Core{Kind: api.KApp, T: typ, L: []api.Core{app, g}}})
		answers(t, api.Prog{Main: api.Core{Kind: api.KFix, T: typ, Funs: []api.CoreFun{{Id: 1, T: typ, E: f}, {Id: 2, T: typ, E: g}}, L: []api.Core{own}}})
		answers(t, api.Prog{Main: api.Core{Kind: api.KLet, T: typ, Funs: []api.CoreFun{{Id: 1, T: typ, E: app}}, L: []api.Core{own}}})
	}
}

const deep = 1 << 16

func bindOf(kind, id int, e, rest api.Core) api.Core {
	return api.Core{Kind: kind, T: rest.T, Funs: []api.CoreFun{{Id: id, T: e.T, E: e}}, L: []api.Core{rest}}
}

// params are how many parameters functions have: how many functions have that many.
func params(x api.FProg) map[int]int {
	l := map[int]int{}
	for _, f := range x.Funs {
		l[len(f.Params)]++
	}
	return l
}

// P5, P11.2: functions within functions, as deep as promises hold.
func TestDeepestFunctions(t *testing.T) {
	defer debug.SetGCPercent(debug.SetGCPercent(100))
	num := xcon("int")
	plus := func(l ...api.Core) api.Core { return api.Core{Kind: api.KPrim, Name: "+", T: num, L: l} }
	fns := func(c api.Core) api.FProg {
		for id := range deep {
			c = fnOf(deep-1-id, num, c)
		}
		return Defun(api.Prog{Main: c})
	}
	// Nothing, the outermost one's, and one's from the middle, is known by those within.
	for _, v := range []struct{ id, with int }{{deep - 1, 0}, {0, deep - 1}, {deep / 2, deep/2 - 1}} {
		x := fns(plus(varOf(v.id, num), varOf(deep-1, num)))
		if l := params(x); len(x.Funs) != deep || len(x.Datas) != deep || l[2] != v.with || l[1] != deep-v.with {
			t.Error(v, len(x.Funs), len(x.Datas), l)
		}
	}
	one := api.Core{Kind: api.KInt, N: 1, T: num}
	app := func(id int, x api.Core) api.Core {
		return api.Core{Kind: api.KApp, T: num, L: []api.Core{varOf(id, xfun(num, num)), x}}
	}
	// In each of these functions is the next one, at last all are called: f0 knows x, and so do all.
	var calls []api.Core
	for id := range deep {
		calls = append(calls, app(2*id, one))
	}
	c := plus(varOf(-1, num), api.Core{Kind: api.KTuple, T: num, L: calls})
	for id := deep - 1; id >= 0; id-- {
		c = bindOf(api.KFix, 2*id, fnOf(2*id+1, num, c), one)
	}
	x := Defun(api.Prog{Main: bindOf(api.KLet, -1, one, c)})
	if l := params(x); len(x.Funs) != deep || len(x.Datas) != 0 || l[2] != deep {
		t.Error("fix within fix", len(x.Funs), len(x.Datas), l)
	}
	// Behind each of these is the next one, which calls it.
	c = app(2*(deep-1), one)
	for id := deep - 1; id > 0; id-- {
		c = bindOf(api.KFix, 2*id, fnOf(2*id+1, num, app(2*(id-1), varOf(2*id+1, num))), c)
	}
	c = bindOf(api.KFix, 0, fnOf(1, num, plus(varOf(-1, num), varOf(1, num))), c)
	x = Defun(api.Prog{Main: bindOf(api.KLet, -1, one, c)})
	if l := params(x); len(x.Funs) != deep || len(x.Datas) != 0 || l[2] != deep {
		t.Error("fix behind fix", len(x.Funs), len(x.Datas), l)
	}
	c = varOf(-1, num)
	for id := range deep {
		c = api.Core{Kind: api.KHandle, Id: id, T: num, L: []api.Core{c}, Ways: []api.Way{{P: api.CPat{Kind: api.PAny, T: xcon("exn")}, E: one}}}
	}
	x = Defun(api.Prog{Main: bindOf(api.KLet, -1, one, c)})
	if l := params(x); len(x.Funs) != deep || l[1] != deep {
		t.Error("handle within handle", len(x.Funs), l)
	}
}

// P5: programs, types and patterns that go in as deep as promises hold.
func TestDeepestProgramsEnd(t *testing.T) {
	defer debug.SetGCPercent(debug.SetGCPercent(100))
	num := xcon("int")
	one := api.Core{Kind: api.KInt, T: num}
	fun := fnOf(1<<20, num, one)
	way := func(c api.Core) []api.Way {
		return []api.Way{{P: api.CPat{Kind: api.PAny, T: num}, E: c}}
	}
	for name, in := range map[string]func(c api.Core) api.Core{
		"tuple": func(c api.Core) api.Core { return api.Core{Kind: api.KTuple, T: num, L: []api.Core{c, fun}} },
		"case":  func(c api.Core) api.Core { return api.Core{Kind: api.KCase, T: c.T, L: []api.Core{one}, Ways: way(c)} },
		"cased": func(c api.Core) api.Core { return api.Core{Kind: api.KCase, T: num, L: []api.Core{c}, Ways: way(one)} },
		"handle": func(c api.Core) api.Core {
			return api.Core{Kind: api.KHandle, T: c.T, L: []api.Core{one}, Ways: way(c)}
		},
		"let in": func(c api.Core) api.Core { return bindOf(api.KLet, 1, fun, c) },
		"let of": func(c api.Core) api.Core { return bindOf(api.KLet, 1, c, fun) },
		"fix in": func(c api.Core) api.Core { return bindOf(api.KFix, 1, fun, c) },
		"fix of": func(c api.Core) api.Core { return bindOf(api.KFix, 1, c, fun) },
		"app of": func(c api.Core) api.Core { return api.Core{Kind: api.KApp, T: c.T, L: []api.Core{c, one}} },
		"app to": func(c api.Core) api.Core { return api.Core{Kind: api.KApp, T: num, L: []api.Core{fun, c}} },
		"case fn": func(c api.Core) api.Core {
			return api.Core{Kind: api.KCase, T: fun.T, L: []api.Core{c}, Ways: way(fun)}
		},
	} {
		for _, c := range []api.Core{one, fun} {
			for range deep {
				c = in(c)
			}
			if x := Defun(api.Prog{Main: c}); x.Main.Kind == 0 {
				t.Error(name)
			}
		}
	}
	typ, pat := xfun(num, num), api.CPat{Kind: api.PVar, Id: 1, T: xfun(num, num)}
	for i := range deep {
		typ = []api.T{xtup(typ, num), xfun(typ, num), xfun(num, typ), xcon("ref", typ)}[i%4]
		pat = api.CPat{Kind: api.PTuple, T: typ, L: []api.CPat{pat}}
	}
	f := fnOf(2, typ, fnOf(3, xtup(typ, typ), varOf(2, typ)))
	k := api.Core{Kind: api.KCase, T: typ, L: []api.Core{f}, Ways: []api.Way{{P: pat, E: varOf(1, typ)}}}
	p := api.Prog{Datas: []api.Data{{Name: "t", Cons: []api.DataCon{{Name: "A", Has: true, Arg: typ}}}}, Main: k}
	if x := Defun(p); len(x.Funs) != 2 {
		t.Error("types and patterns", len(x.Funs))
	}
}

// Rule 7: types that have very many parts, where these are the same.
func TestTypesOfManySameParts(t *testing.T) {
	for _, src := range []string{
		"fun id x = x in " + strings.Repeat("id ", 300) + "1",
		"fun twice f x = f (f x) in " + strings.Repeat("twice ", 300) + "(fn x => x + 1) 1",
		"val x = fn y => y + 1 " + strings.Repeat("val x = (x, x) ", 200) + "in x",
		"val x = fn y => y + 1 " + strings.Repeat("val x = fn z => (x z, x z) ", 100) + "in x",
		"val x = fn y => y + 1 " + strings.Repeat("val x = fn z => (z + 1; (x, x)) ", 100) + "in x",
		"fun f x = " + strings.Repeat("let val x = fn y => (y + 1; (x, [x])) in ", 18) + "x" + strings.Repeat(" end", 18) + " in f 1",
	} {
		p := written(t, src)
		if x := Defun(p); len(x.Funs) == 0 {
			t.Error(short(src))
		}
	}
}

// P11.1: many functions of one class, and many classes.
func TestManyFunctionsOfSeveralClasses(t *testing.T) {
	src := "fun a f = f 1 in (" + strings.Repeat("a (fn x => x + 1), ", 200) + strings.Repeat("a (fn x => (\"\"; x)), ", 100) + "1)"
	c := checked(t, src)
	if len(c.x.Datas) != len(c.p.Datas)+1 || len(c.x.Datas[len(c.p.Datas)].Cons) != 300 {
		t.Error(len(c.x.Datas))
	}
	src = "(" + strings.Repeat("(fn x => x + 1) 1, ", 300) + "1)"
	c = checked(t, src)
	if len(c.x.Datas) != len(c.p.Datas)+300 || len(c.x.Funs) != 600 {
		t.Error(len(c.x.Datas), len(c.x.Funs))
	}
}

// copiedTo shares no list with the other.
func copiedTo(to, from reflect.Value) {
	switch from.Kind() {
	case reflect.Struct:
		for i := range from.NumField() {
			copiedTo(to.Field(i), from.Field(i))
		}
	case reflect.Slice:
		if from.IsNil() {
			return
		}
		to.Set(reflect.MakeSlice(from.Type(), from.Len(), from.Len()))
		for i := range from.Len() {
			copiedTo(to.Index(i), from.Index(i))
		}
	default:
		to.Set(from)
	}
}

func copyOf[E any](x E) E {
	var c E
	copiedTo(reflect.ValueOf(&c).Elem(), reflect.ValueOf(x))
	return c
}

// cleared makes all parts of a thing's lists zero, those that stand in others first.
func cleared(x any) {
	var all []reflect.Value
	parts(reflect.ValueOf(x).Elem(), func(v reflect.Value) { all = append(all, v) })
	for _, v := range slices.Backward(all) {
		if v.Kind() == reflect.Slice {
			for i := range v.Len() {
				v.Index(i).SetZero()
			}
		}
	}
}

// Rules 4 and 6: what is handed in is not changed, spare room included, nor shared; the same is answered again.
func TestAnswersAreNewAndArgumentsStay(t *testing.T) {
	typed(t, 74, 300, func(_ *author, src string, p api.Prog) {
		p = copyOf(p)
		parts(reflect.ValueOf(&p).Elem(), func(v reflect.Value) { // each list has room, in which nothing stands
			if v.Kind() == reflect.Slice {
				room := reflect.MakeSlice(v.Type(), v.Len(), v.Len()+2)
				reflect.Copy(room, v)
				v.Set(room)
			}
		})
		before := copyOf(p)
		x := Defun(p)
		kept := copyOf(x)
		y := Defun(p)
		if !reflect.DeepEqual(copyOf(p), before) || !reflect.DeepEqual(x, y) {
			t.Fatal(src)
		}
		parts(reflect.ValueOf(&p).Elem(), func(v reflect.Value) {
			if v.Kind() != reflect.Slice {
				return
			}
			for i := v.Len(); i < v.Cap(); i++ {
				if !v.Slice(0, v.Cap()).Index(i).IsZero() {
					t.Fatal(src, "spare room was used")
				}
			}
		})
		for _, other := range []any{&y, &p} {
			cleared(other)
			if !reflect.DeepEqual(x, kept) {
				t.Fatal(src, "shares lists")
			}
		}
	})
}

// Rule 3: nil and empty lists are one.
func TestEmptyListsAreNone(t *testing.T) {
	typed(t, 75, 200, func(_ *author, src string, p api.Prog) {
		x := Defun(p)
		q := copyOf(p)
		parts(reflect.ValueOf(&q).Elem(), func(v reflect.Value) {
			if v.Kind() == reflect.Slice && v.Len() == 0 {
				v.Set(reflect.MakeSlice(v.Type(), 0, 3))
			}
		})
		if y := Defun(q); toldProg(p, x) != toldProg(q, y) {
			t.Fatal(src)
		}
	})
}
