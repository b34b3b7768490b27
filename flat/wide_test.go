package flat

import (
	"math"
	"runtime/debug"
	"slices"
	"strconv"
	"strings"
	"testing"

	"bellows/api"
)

const deep = 1 << 16

func number1() api.Core { return api.Core{Kind: api.KInt, N: 1, T: xcon("int")} }

func varOf(id int, t api.T) api.Core { return api.Core{Kind: api.KVar, Id: id, T: t} }

func caseOf(e api.Core, ways ...api.Way) api.Core {
	return api.Core{Kind: api.KCase, T: xcon("int"), L: []api.Core{e}, Ways: ways}
}

func anyPat(t api.T) api.CPat { return api.CPat{Kind: api.PAny, T: t} }

func intPat(n int64) api.CPat { return api.CPat{Kind: api.PInt, N: n, T: xcon("int")} }

func tuplePat(l ...api.CPat) api.CPat {
	return api.CPat{Kind: api.PTuple, T: xtup(each(l, func(p *api.CPat) api.T { return p.T })...), L: l}
}

func conPat(name string, t api.T, l ...api.CPat) api.CPat {
	return api.CPat{Kind: api.PCon, Name: name, T: t, L: l}
}

// basic are the datatypes that each program has.
func basic(more ...api.Data) []api.Data {
	return append([]api.Data{
		{Name: "exn", Cons: []api.DataCon{{Name: "Match"}, {Name: "Div"}, {Name: "Subscript"}, {Name: "Size"}}},
		{Name: "bool", Cons: []api.DataCon{{Name: "false"}, {Name: "true"}}},
	}, more...)
}

// P5: cores that go in as deep as promises hold.
func TestDeepestProgramsEnd(t *testing.T) {
	defer debug.SetGCPercent(debug.SetGCPercent(100))
	num, one := xcon("int"), number1()
	way := func(c api.Core) api.Way { return api.Way{P: anyPat(num), E: c} }
	data := api.Data{Name: "t", Cons: []api.DataCon{{Name: "A", Has: true, Arg: xtup(num, num)}, {Name: "B", Has: true, Arg: num}}}
	for name, in := range map[string]func(c api.Core) api.Core{
		"tuple": func(c api.Core) api.Core { return api.Core{Kind: api.KTuple, T: xtup(num, num), L: []api.Core{c, one}} },
		"case":  func(c api.Core) api.Core { return caseOf(one, way(c)) },
		"cased": func(c api.Core) api.Core { return caseOf(c, way(one)) },
		"handle": func(c api.Core) api.Core {
			return api.Core{Kind: api.KHandle, T: num, L: []api.Core{one}, Ways: []api.Way{way(c)}}
		},
		"let in": func(c api.Core) api.Core {
			return api.Core{Kind: api.KLet, T: num, Funs: []api.CoreFun{{Id: 1, T: num, E: one}}, L: []api.Core{c}}
		},
		"let of": func(c api.Core) api.Core {
			return api.Core{Kind: api.KLet, T: num, Funs: []api.CoreFun{{Id: 1, T: num, E: c}}, L: []api.Core{one}}
		},
		"con": func(c api.Core) api.Core { return api.Core{Kind: api.KCon, Name: "B", T: xcon("t"), L: []api.Core{c}} },
		"con of a tuple": func(c api.Core) api.Core {
			return api.Core{Kind: api.KCon, Name: "A", T: xcon("t"), L: []api.Core{c}}
		},
		"call":  func(c api.Core) api.Core { return api.Core{Kind: api.KCall, Id: 3, T: num, L: []api.Core{c}} },
		"raise": func(c api.Core) api.Core { return api.Core{Kind: api.KRaise, T: num, L: []api.Core{c}} },
		"prim":  func(c api.Core) api.Core { return api.Core{Kind: api.KPrim, Name: "~", T: num, L: []api.Core{c}} },
	} {
		c := one
		for range deep {
			c = in(c)
		}
		if x := Flatten(api.FProg{Datas: basic(data), Main: c}); sizeOf(&x.Main) < deep {
			t.Error(name)
		}
	}
}

// P5, P12.1: types, patterns and datatypes within one another, as deep as promises hold.
func TestDeepestTypesEnd(t *testing.T) {
	defer debug.SetGCPercent(debug.SetGCPercent(100))
	num := xcon("int")
	typ, pat := num, api.CPat{Kind: api.PVar, Id: 1, T: num}
	for i := range deep {
		typ = []api.T{xtup(typ, num), xcon("array", typ), xtup(num, typ), xcon("ref", typ)}[i%4]
	}
	x := Flatten(api.FProg{Datas: basic(), Main: varOf(1, typ)})
	if len(x.Shapes) != deep+1 || len(x.Types) != deep+2 {
		t.Error("types", len(x.Shapes), len(x.Types))
	}
	list := api.Data{Name: "t", Cons: []api.DataCon{{Name: "N"}, {Name: "A", Has: true, Arg: xcon("t")}}}
	typ = num
	pair := pat
	for range deep {
		pat = conPat("A", xcon("t"), pat)
		typ = xtup(typ, num)
		pair = api.CPat{Kind: api.PTuple, T: typ, L: []api.CPat{pair, anyPat(num)}}
	}
	way := func(p api.CPat) api.Way { return api.Way{P: p, E: number1()} }
	x = Flatten(api.FProg{Datas: basic(list), Main: caseOf(varOf(2, xcon("t")), way(pat), way(anyPat(xcon("t"))))})
	if n := sizeOf(&x.Main); n < 3*deep {
		t.Error("constructors", n)
	}
	x = Flatten(api.FProg{Datas: basic(), Main: caseOf(varOf(2, typ), way(pair))})
	if n := sizeOf(&x.Main); n < 3*deep {
		t.Error("tuples", n)
	}
}

// P12.1: chains and rings of datatypes.
func TestLongestChainsOfDatatypes(t *testing.T) {
	name := func(i int) string { return "t" + strconv.Itoa(i) }
	for _, last := range []api.T{xcon("int"), xcon(name(0)), xcon(name(deep / 2))} {
		var datas []api.Data
		for i := range deep {
			next := xcon(name(i + 1))
			if i == deep-1 {
				next = last
			}
			datas = append(datas, api.Data{Name: name(i), Cons: []api.DataCon{{Name: "A" + name(i), Has: true, Arg: next}}})
		}
		x := Flatten(api.FProg{Datas: basic(datas...), Main: varOf(1, xcon(name(0)))})
		n := map[string]int{"int": 0, name(0): deep, name(deep / 2): deep / 2}[last.Name]
		if len(x.Shapes) != n+1 {
			t.Error(last, len(x.Shapes))
		}
		if (x.Main.Ty == 0) != (n == 0) {
			t.Error(last, x.Main.Ty)
		}
	}
}

// P12.4: very many ways.
func TestManyWays(t *testing.T) {
	defer debug.SetGCPercent(debug.SetGCPercent(100))
	var ints, cons []api.Way
	d := api.Data{Name: "t"}
	for i := range deep {
		ints = append(ints, api.Way{P: intPat(int64(deep - i)), E: number1()})
		c := api.DataCon{Name: "C" + strconv.Itoa(i), Has: i%2 == 0, Arg: xcon("int")}
		d.Cons = append(d.Cons, c)
		p := conPat(c.Name, xcon("t"))
		if c.Has {
			p.L = []api.CPat{intPat(int64(i))}
		}
		cons = append(cons, api.Way{P: p, E: number1()})
	}
	ints, cons = append(ints, api.Way{P: anyPat(xcon("int")), E: number1()}), append(cons, api.Way{P: anyPat(xcon("t")), E: number1()})
	for _, c := range []api.Core{caseOf(varOf(1, xcon("int")), ints...), caseOf(varOf(1, xcon("t")), cons...)} {
		x := Flatten(api.FProg{Datas: basic(d), Main: c})
		e := &x.Main.L[1]
		for range deep + 1 {
			if e.Kind != api.LJoin {
				t.Fatal(e.Kind)
			}
			e = &e.L[1]
		}
		if e.Kind != api.LSwitch || len(e.Nums)+len(e.Shapes) != deep || !slices.IsSortedFunc(e.Nums, func(a, b api.Arm) int { return int(a.N - b.N) }) {
			t.Error(e.Kind, len(e.Nums), len(e.Shapes))
		}
	}
}

// P12.4: a pattern of very many parts, and very many of few.
func TestWidePatterns(t *testing.T) {
	num := xcon("int")
	var l []api.CPat
	for i := range deep {
		l = append(l, []api.CPat{intPat(1), {Kind: api.PVar, Id: i, T: num}, anyPat(num)}[i%3])
	}
	p := tuplePat(l...)
	x := Flatten(api.FProg{Datas: basic(), Main: caseOf(varOf(-1, p.T), api.Way{P: p, E: number1()}, api.Way{P: anyPat(p.T), E: number1()})})
	if n := sizeOf(&x.Main); n < 2*deep {
		t.Error(n)
	}
	var ways []api.Way
	for i := range deep {
		p := tuplePat(anyPat(num), intPat(int64(i)))
		if i%2 == 0 {
			p = tuplePat(intPat(int64(i)), anyPat(num))
		}
		ways = append(ways, api.Way{P: p, E: number1()})
	}
	x = Flatten(api.FProg{Datas: basic(), Main: caseOf(varOf(-1, xtup(num, num)), ways...)})
	if n := sizeOf(&x.Main); n < 2*deep {
		t.Error(n)
	}
}

// P5, P12.6: very many parts of which each way asks some, so that ways to what is known are without end.
func TestManyWideWays(t *testing.T) {
	g := &chance{seed: 81}
	num := xcon("int")
	for _, n := range []int{5, 20, 60, 200} {
		var ways []api.Way
		for i := range n {
			var l []api.CPat
			for range n {
				l = append(l, oneOf(g, anyPat(num), anyPat(num), anyPat(num), intPat(0), intPat(1)))
			}
			ways = append(ways, api.Way{P: tuplePat(l...), E: api.Core{Kind: api.KInt, N: int64(i), T: num}})
		}
		last := api.Way{P: anyPat(ways[0].P.T), E: api.Core{Kind: api.KInt, N: -1, T: num}}
		k := caseOf(varOf(0, last.P.T), append(ways, last)...)
		f := api.FFun{Id: 1 << 20, Params: []api.Param{{Id: 0, T: last.P.T}}, Result: num, E: k}
		fits := 0
		var all []api.Core
		for i := range min(60, 6000/n) {
			v := api.Core{Kind: api.KTuple, T: last.P.T}
			for j := range n { // values that a way fits, or nearly
				m := int64(g.below(2))
				if p := ways[i%n].P.L[j]; p.Kind == api.PInt && g.below(2*n) > 0 {
					m = p.N
				}
				v.L = append(v.L, api.Core{Kind: api.KInt, N: m, T: num})
			}
			all = append(all, api.Core{Kind: api.KCall, Id: f.Id, T: num, L: []api.Core{v}})
		}
		p := api.FProg{Datas: basic(), Funs: []api.FFun{f}, Main: api.Core{Kind: api.KTuple, T: xtup(slices.Repeat([]api.T{num}, len(all))...), L: all}}
		x := Flatten(p)
		sound(t, "wide ways", x)
		c := &pairing{model: newModel(p), p: p, x: x, shapes: map[int]string{}}
		for _, e := range append(slices.Clone(x.Main.L), x.Main) {
			if e.Kind == api.LCall {
				e = e.L[0]
				c.shapes[int(e.N)] = toldT(last.P.T)
			} else {
				c.shapes[int(e.N)] = toldT(p.Main.T)
			}
		}
		o := does(t, "wide ways", c, "")
		for _, s := range strings.Split(o.end, ", ") {
			if s != "-1" {
				fits++
			}
		}
		if fits < 10 {
			t.Error(n, o.end)
		}
	}
}

// P12.3: numbers at their ends stay what they are.
func TestGreatestNumbers(t *testing.T) {
	for _, n := range []int64{0, 1, -1, math.MaxInt64, math.MinInt64, 1<<62 - 1, -1 << 62} {
		x := Flatten(api.FProg{Datas: basic(), Main: caseOf(api.Core{Kind: api.KInt, N: n, T: xcon("int")}, api.Way{P: intPat(n), E: api.Core{Kind: api.KInt, N: n, T: xcon("int")}}, api.Way{P: anyPat(xcon("int")), E: number1()})})
		if e := x.Main.L[1]; x.Main.L[0].N != n || e.L[0].N != n || e.L[1].L[1].Nums[0].N != n {
			t.Error(n)
		}
	}
	for _, id := range []int{math.MaxInt, math.MinInt} {
		answers(t, api.FProg{Datas: basic(), Main: caseOf(varOf(id, xcon("int")), api.Way{P: intPat(1), E: varOf(id, xcon("int"))})})
	}
}

// Rule 7: types that have very many parts, where these are the same.
func TestTypesOfManySameParts(t *testing.T) {
	for _, src := range []string{
		"val x = 1 " + strings.Repeat("val x = (x, x) ", 200) + "in x",
		"datatype 'a t = A of 'a * 'a | B val x = 1 " + strings.Repeat("val x = A (x, x) ", 200) + "in x",
		"datatype 'a t = A of 'a * 'a val x = 1 " + strings.Repeat("val x = A (x, x) ", 200) + "in case x of A (y, _) => y",
		"val x = fn y => y + 1 " + strings.Repeat("val x = fn z => (z + 1; (x, x)) ", 100) + "in x",
	} {
		if x := Flatten(written(t, src)); len(x.Shapes) < 50 || len(x.Shapes) > 500 {
			t.Error(short(src), len(x.Shapes))
		}
	}
}
