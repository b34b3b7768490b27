package mono

import (
	"math"
	"reflect"
	"slices"
	"strings"
	"testing"

	"bellows/api"
)

// answers looks that the calls answer, the same again, with nothing beside an error.
func answers(t *testing.T, p api.Prog) {
	t.Helper()
	n := Instances(p)
	if n < 0 || n > api.MaxCap+1 || n != Instances(p) {
		t.Fatalf("%+v: %d", p, n)
	}
	for _, most := range []int{-1, n - 1, n, math.MaxInt} {
		q, f := Mono(p, most)
		if want := n > min(max(most, 0), api.MaxCap); want != (f == api.ErrMany) || want && !reflect.DeepEqual(q, api.Prog{}) || !want && f != api.OK {
			t.Fatalf("%d of %d: %d", most, n, f)
		}
	}
}

// fill makes up any thing, most of which nothing answers.
func (c *chance) fill(to any, depth int) { c.fillIn(reflect.ValueOf(to).Elem(), depth) }

func (c *chance) fillIn(v reflect.Value, depth int) {
	switch v.Kind() {
	case reflect.Struct:
		for i := range v.NumField() {
			c.fillIn(v.Field(i), depth)
		}
	case reflect.Slice:
		if depth <= 0 || c.below(3) > 0 {
			v.SetZero()
			return
		}
		n := c.below(4)
		v.Set(reflect.MakeSlice(v.Type(), n, n))
		for i := range n {
			c.fillIn(v.Index(i), depth-1)
		}
	case reflect.Int, reflect.Int64:
		v.SetInt(oneOf[int64](c, 0, 0, 1, 1, 2, 3, 4, 5, 7, 8, 9, 9, 10, 12, 13, -1, math.MinInt64, math.MaxInt64))
	case reflect.String:
		v.SetString(oneOf(c, "", "x", "A", "+", "Cons", "Nil", "true", "list", "list", "int", "ref", "t", "bool", "exn", "a@1"))
	case reflect.Bool:
		v.SetBool(c.below(2) == 0)
	}
}

// P5: any programs.
func TestAnyProgramsEnd(t *testing.T) {
	c := &chance{seed: 70}
	for range 40000 {
		var p api.Prog
		c.fill(&p, 4)
		answers(t, p)
	}
}

// parts calls for each part of a thing.
func parts(v reflect.Value, do func(v reflect.Value)) {
	do(v)
	switch v.Kind() {
	case reflect.Struct:
		for i := range v.NumField() {
			parts(v.Field(i), do)
		}
	case reflect.Slice:
		for i := range v.Len() {
			parts(v.Index(i), do)
		}
	}
}

// P5: what Elab answers, with some parts changed.
func TestChangedProgramsEnd(t *testing.T) {
	t.Parallel()
	typed(71, 300, func(g *author, src string, p api.Prog) {
		if len(src) > 1500 {
			return
		}
		for range 4 {
			q := copyOf(p)
			for range 1 + g.below(3) {
				var all []reflect.Value
				parts(reflect.ValueOf(&q).Elem(), func(v reflect.Value) { all = append(all, v) })
				v := all[g.below(len(all))]
				if v.Kind() == reflect.Slice && v.Len() > 0 && g.below(2) == 0 {
					v.Set(v.Slice(0, v.Len()-1))
				} else {
					g.fillIn(v, g.below(4))
				}
			}
			answers(t, q)
		}
	})
}

func varOf(id int, inst ...api.T) api.Core {
	return api.Core{Kind: api.KVar, Id: id, T: xcon("int"), Inst: inst}
}

func letOf(kind int, f api.CoreFun, rest api.Core) api.Core {
	return api.Core{Kind: kind, T: xcon("int"), Funs: []api.CoreFun{f}, L: []api.Core{rest}}
}

// P5: functions that call themselves at other rows, so that there is no end of instances.
func TestFunctionsAtEverOtherRowsEnd(t *testing.T) {
	a := xvar(0)
	for _, more := range []api.T{xcon("list", a), xtup(a, a), xfun(a, xcon("ref", a)), xtup(a, xtup(a, xtup(a, a))), xcon("none", a, xcon("p", a))} {
		f := api.CoreFun{Id: 1, Gen: []int{0}, T: a, E: api.Core{Kind: api.KTuple, T: a, L: []api.Core{varOf(1, more), varOf(1, xtup(more, more))}}}
		p := api.Prog{Main: letOf(api.KFix, f, varOf(1, xcon("int")))}
		if Instances(p) != api.MaxCap+1 {
			t.Error(toldT(more))
		}
		answers(t, p)
		q := api.Prog{Main: letOf(api.KLet, f, varOf(1, xcon("int")))}
		answers(t, q)
	}
	f := api.CoreFun{Id: 1, Gen: []int{0}, T: a}
	f.E = letOf(api.KFix, api.CoreFun{Id: 2, Gen: []int{1}, T: a, E: api.Core{Kind: api.KTuple, L: []api.Core{varOf(1, xtup(a, xvar(1))), varOf(2, xtup(xvar(1), a))}}}, varOf(2, a))
	answers(t, api.Prog{Main: letOf(api.KFix, f, varOf(1, xcon("int")))})
}

// P5: datatypes that stand within themselves at ever other rows.
func TestDatatypesAtEverOtherRowsEnd(t *testing.T) {
	a := xvar(0)
	for _, more := range []api.T{xcon("t", xcon("t", a)), xcon("t", xtup(a, a)), xtup(xcon("t", xcon("ref", a)), xcon("t", xcon("array", a))), xcon("u", xcon("u", a, a), a)} {
		p := api.Prog{
			Datas: []api.Data{{Name: "t", Vars: []int{0}, Cons: []api.DataCon{conAt("A", more)}}, {Name: "u", Vars: []int{0, 1}, Cons: []api.DataCon{conAt("B", xcon("u", xcon("t", a), xvar(1)))}}},
			Main:  api.Core{Kind: api.KCon, Name: "A", T: xcon("t", xcon("int")), Inst: []api.T{xcon("int")}},
		}
		if Instances(p) != api.MaxCap+1 {
			t.Error(toldT(more), Instances(p))
		}
		answers(t, p)
	}
}

// P5: programs that go in as deep as promises hold.
func TestDeepestProgramsEnd(t *testing.T) {
	const deep = 1 << 16
	num := api.Core{Kind: api.KInt, T: xcon("int")}
	way := func(c api.Core) []api.Way { return []api.Way{{E: c}} }
	of := func(kind int, ways []api.Way, l ...api.Core) api.Core {
		return api.Core{Kind: kind, Id: 1, L: l, Ways: ways}
	}
	bind := func(c api.Core) api.CoreFun { return api.CoreFun{Id: 1, E: c} }
	in := map[string]func(c api.Core) api.Core{
		"fn":      func(c api.Core) api.Core { return of(api.KFn, nil, c) },
		"tuple":   func(c api.Core) api.Core { return of(api.KTuple, nil, num, c) },
		"case":    func(c api.Core) api.Core { return of(api.KCase, way(c), num) },
		"cased":   func(c api.Core) api.Core { return of(api.KCase, way(num), c) },
		"handled": func(c api.Core) api.Core { return of(api.KHandle, way(num), c) },
		"handle":  func(c api.Core) api.Core { return of(api.KHandle, way(c), num) },
		"let in":  func(c api.Core) api.Core { return letOf(api.KLet, bind(num), c) },
		"let of":  func(c api.Core) api.Core { return letOf(api.KLet, bind(c), num) },
		"let one": func(c api.Core) api.Core { return letOf(api.KLet, bind(c), varOf(1)) },
		"fix in":  func(c api.Core) api.Core { return letOf(api.KFix, bind(num), c) },
		"fix of":  func(c api.Core) api.Core { return letOf(api.KFix, bind(c), num) },
		"fix one": func(c api.Core) api.Core { return letOf(api.KFix, bind(c), varOf(1)) },
		"gen one": func(c api.Core) api.Core {
			f := bind(c)
			f.Gen = []int{0}
			return letOf(api.KFix, f, varOf(1, xcon("int")))
		},
	}
	for name, in := range in {
		c := num
		for range deep {
			c = in(c)
		}
		p := api.Prog{Main: c}
		if n, one := Instances(p), strings.HasSuffix(name, "one"); one != (n == api.MaxCap+1) || !one && n != 0 {
			t.Error(name, n)
		}
		Mono(p, api.MaxCap)
	}
	typ, pat := xcon("int"), api.CPat{Kind: api.PAny}
	for range deep {
		typ, pat = xcon("p", typ), api.CPat{Kind: api.PTuple, L: []api.CPat{pat}}
	}
	p := api.Prog{Datas: []api.Data{{Name: "t", Cons: []api.DataCon{conAt("A", typ)}}}, Main: api.Core{Kind: api.KCase, T: typ, Inst: []api.T{typ}, Ways: []api.Way{{P: pat}}}}
	p.Main.L = []api.Core{varOf(1, typ), {Kind: api.KCon, Name: "A", T: xcon("t")}}
	if q, f := Mono(p, api.MaxCap); f != api.OK || len(q.Datas) != 1 || Instances(p) != 1 {
		t.Error("types and patterns", f)
	}
	p.Datas = append(p.Datas, api.Data{Name: "p", Vars: []int{0}})
	if Instances(p) != api.MaxCap+1 {
		t.Error("datatypes' types")
	}
}

// Rule 7: types that have very many parts, where these are the same.
func TestTypesOfManySameParts(t *testing.T) {
	doubled := strings.Repeat("val x = (x, x) ", 200)
	for src, n := range map[string]int{
		"val x = (1, 1) " + doubled + "in 1":                                              2,
		"val x = (1, 1) " + doubled + "in x":                                              2 + 201,
		"val x = (1, 1) " + doubled + "in [x]":                                            2 + 201 + 1,
		"val x = ref [] " + doubled + "in x":                                              2 + 201 + 1,
		"fun f x = let " + doubled + "in x end in (f 1; f \"\"; 1)":                       2 + 402,
		"fun f x = x fun g x = let " + doubled + "in f x end in (g 1; g \"\"; 1)":         2 + 404,
		"fun g x = let " + doubled + "in let fun f y = (y, x) in f x end end in (g 1; 1)": 2 + 202,
	} {
		p := elaborated(t, src)
		if got := Instances(p); got != n {
			t.Error(short(src), got, n)
		}
		if _, f := Mono(p, n); f != api.OK {
			t.Error(short(src), f)
		}
	}
}

// copiedTo shares no list with the other.
func copiedTo(to, from reflect.Value) {
	switch from.Kind() {
	case reflect.Struct:
		for i := range from.NumField() {
			copiedTo(to.Field(i), from.Field(i))
		}
	case reflect.Slice:
		if from.IsNil() {
			return
		}
		to.Set(reflect.MakeSlice(from.Type(), from.Len(), from.Len()))
		for i := range from.Len() {
			copiedTo(to.Index(i), from.Index(i))
		}
	default:
		to.Set(from)
	}
}

func copyOf[E any](x E) E {
	var c E
	copiedTo(reflect.ValueOf(&c).Elem(), reflect.ValueOf(x))
	return c
}

// cleared makes all parts of a thing's lists zero, those that stand in others first.
func cleared(x any) {
	var all []reflect.Value
	parts(reflect.ValueOf(x).Elem(), func(v reflect.Value) { all = append(all, v) })
	for _, v := range slices.Backward(all) {
		if v.Kind() == reflect.Slice {
			for i := range v.Len() {
				v.Index(i).SetZero()
			}
		}
	}
}

// Rules 4 and 6: what is handed in is not changed, spare room included, nor shared; the same is answered again.
func TestAnswersAreNewAndArgumentsStay(t *testing.T) {
	typed(72, 300, func(_ *author, src string, p api.Prog) {
		p = copyOf(p)
		parts(reflect.ValueOf(&p).Elem(), func(v reflect.Value) { // each list has room, in which nothing stands
			if v.Kind() == reflect.Slice {
				room := reflect.MakeSlice(v.Type(), v.Len(), v.Len()+2)
				reflect.Copy(room, v)
				v.Set(room)
			}
		})
		before := copyOf(p)
		q, _ := Mono(p, api.MaxCap)
		kept := copyOf(q)
		r, _ := Mono(p, api.MaxCap)
		if Instances(p); !reflect.DeepEqual(copyOf(p), before) || !reflect.DeepEqual(r, q) {
			t.Fatal(src)
		}
		parts(reflect.ValueOf(&p).Elem(), func(v reflect.Value) {
			if v.Kind() != reflect.Slice {
				return
			}
			for i := v.Len(); i < v.Cap(); i++ {
				if !v.Slice(0, v.Cap()).Index(i).IsZero() {
					t.Fatal(src, "spare room was used")
				}
			}
		})
		for _, x := range []any{&r, &p} {
			cleared(x)
			if !reflect.DeepEqual(q, kept) {
				t.Fatal(src, "shares lists")
			}
		}
	})
}
