package flat

import (
	"testing"

	"bellows/api"
)

// asTold looks that programs become what is told of them.
func asTold(t *testing.T, rows [][2]string) {
	t.Helper()
	for _, v := range rows {
		p := written(t, v[0])
		x := Flatten(p)
		if s := toldFlat(x); s != v[1] {
			t.Errorf("%s: %s, not %s", v[0], s, v[1])
		}
		paired(t, v[0], p, x, nil)
		sound(t, v[0], x)
	}
}

// P12.3, P12.1: each core by itself, and what stands where.
func TestCoresBecomeFlat(t *testing.T) {
	asTold(t, [][2]string{
		{"1", "1"},
		{"~5", "`-(0, 5)"},
		{"\"a\"", "\"a\""},
		{"()", "0"},
		{"(1, \"a\")", "S1(1, \"a\"); S1 = (#, $)"},
		{"((1, 2), (3, 4))", "S1(S2(1, 2), S2(3, 4)); S1 = (S2, S2); S2 = (#, #)"},
		{"((1, 2), (3, \"\"))", "S1(S2(1, 2), S3(3, \"\")); S1 = (S2, S3); S2 = (#, #); S3 = (#, $)"},
		{"(1, (), 2)", "S1(1, 0, 2); S1 = (#, #, #)"},
		{"true", "1"},
		{"raise Div", "raise 1"},
		{"raise Size", "raise 3"},
		{"datatype 'a opt = None | Some of 'a in None", "0"},
		{"datatype 'a opt = None | Some of 'a in Some 1", "S1(1); S1 = (#)"},
		{"datatype 'a opt = None | Some of 'a in Some (1, 2)", "S1(1, 2); S1 = (#, #)"},
		{"datatype 'a opt = None | Some of 'a in Some (1, (2, 3))", "S1(1, S2(2, 3)); S1 = (#, S2); S2 = (#, #)"},
		{"datatype 'a opt = None | Some of 'a in Some ()", "S1(0); S1 = (#)"},
		{"datatype 'a opt = None | Some of 'a in Some (Some None)", "S1(S2(0)); S1 = (#|S2); S2 = (#|S3); S3 = (#)"},
		{"datatype 'a opt = None | Some of 'a val x = (1, 2) in Some x", "let a = S1(1, 2) in let b = a in S2(b.0, b.1); S1 = (#, #); S2 = (#, #)"},
		{"datatype 'a opt = None | Some of 'a val x = (1, 2) in (Some x, x)", "let a = S1(1, 2) in S2(let b = a in S3(b.0, b.1), a); S1 = (#, #); S2 = (#|S3, S1); S3 = (#, #)"},
		{"datatype t = A of int in A 5", "5"},
		{"datatype t = A of int * int in A (5, 6)", "S1(5, 6); S1 = (#, #)"},
		{"datatype t = A of int * int val x = (1, 2) in (A x, x)", "let a = S1(1, 2) in S2(a, a); S1 = (#, #); S2 = (S1, S1)"},
		{"datatype t = A of t list in A [A []]", "S1(S2(S1(0), 0)); S1 = (#|S2); S2 = (S1, #|S2)"},
		{"datatype t = A in A", "0"},
		{"datatype 'a b = B of 'a datatype t = A of t b | C in A (B C)", "S1(S2(0)); S1 = (S2); S2 = (#|S1)"},
		{"datatype 'a b = B of 'a datatype t = A of t b list in A []", "S1(0); S1 = (#|S2); S2 = (S3, #|S2); S3 = (S1)"},
		{"datatype 'a b = B of 'a * 'a | N datatype t = A of t b in A N", "S1(0); S1 = (#|S2); S2 = (S1, S1)"},
		{"datatype 'a b = B of 'a datatype t = A of int b in A (B 3)", "3"},
		{"datatype t = A | B of int | C | D of int * int | E in (A, B 1, C, D (1, 2), E)", "S1(0, S2(1), 1, S3(1, 2), 2); S1 = (#|S2|S3, #|S2|S3, #|S2|S3, #|S2|S3, #|S2|S3); S2 = (#); S3 = (#, #)"},
		{"exception A exception B of int exception A of int * int exception C in (A, B 1, A, C)", "S1(0, S2(1), 1, 5); f1(a: S3): #|S2|S4 = let b = a in S4(b.0, b.1); f2(c: S3): #|S2|S4 = let d = c in S4(d.0, d.1); S1 = (#, #|S2|S4, #, #|S2|S4); S2 = (#)B; S3 = (#, #); S4 = (#, #)A"},
		{"exception A exception B of int in B 2", "S1(2); S1 = (#)B"},
		{"exception Div exception Match of int in (Div, Match 1)", "S1(4, S2(1)); S1 = (#|S2, #|S2); S2 = (#)Match"},
		{"datatype t = A of exn exception E of t in (A Div, E (A Size))", "S1(S2(1), S3(S2(3))); S1 = (S2, #|S3); S2 = (#|S3); S3 = (S2)E"},
		{"datatype t = A of exn exception E of int in (A Div, E 1)", "S1(1, S2(1)); S1 = (#|S2, #|S2); S2 = (#)E"},
		{"ref 1", "S1(1); S1 = (#)"},
		{"ref (1, 2)", "S1(S2(1, 2)); S1 = (S2); S2 = (#, #)"},
		{"(ref 1, ref 2, ref \"a\", ref (ref 1))", "S1(S2(1), S2(2), S3(\"a\"), S4(S2(1))); S1 = (S2, S2, S3, S4); S2 = (#); S3 = ($); S4 = (S2)"},
		{"!(ref 1)", "S1(1).0; S1 = (#)"},
		{"val r = ref 1 in r := 2", "let a = S1(1) in a.0 := 2; S1 = (#)"},
		{"array (3, 4)", "array S1(3, 4); S1 = array (#)"},
		{"(array (3, (1, 2)), array (1, \"\"), array (2, (3, 4)))", "S1(array S2(3, S3(1, 2)), array S4(1, \"\"), array S2(2, S3(3, 4))); S1 = (S2, S4, S2); S2 = array (S3); S3 = (#, #); S4 = array ($)"},
		{"~ (size \"a\")", "`-(0, `size(\"a\"))"},
		{"1 + 2 * 3 div 4 mod 5 - 6", "`-(`+(1, `mod(`div(`*(2, 3), 4), 5)), 6)"},
		{"(1 < 2, 1 <= 2, 1 > 2, 1 >= 2, 1 = 2, 1 <> 2)", "S1(`<(1, 2), `<=(1, 2), `>(1, 2), `>=(1, 2), `=(1, 2), `<>(1, 2)); S1 = (#, #, #, #, #, #)"},
		{"\"a\" ^ \"b\"", "`^(\"a\", \"b\")"},
		{"print \"a\"", "`print(\"a\")"},
		{"putc 65", "`putc(65)"},
		{"getc ()", "`getc()"},
		{"size \"a\"", "`size(\"a\")"},
		{"byte (\"a\", 0)", "`byte(\"a\", 0)"},
		{"cmp (\"a\", \"b\")", "`cmp(\"a\", \"b\")"},
		{"length (array (1, 2))", "`length(array S1(1, 2)); S1 = array (#)"},
		{"sub (array (1, 2), 0)", "`sub(array S1(1, 2), 0); S1 = array (#)"},
		{"sub (array (1, \"\"), 0)", "`sub(array S1(1, \"\"), 0); S1 = array ($)"},
		{"update (array (1, 2), 0, 5)", "`update(array S1(1, 2), 0, 5); S1 = array (#)"},
		{"val x = 1 in x + x", "let a = 1 in `+(a, a)"},
		{"val x = [] in [x, [1]]", "let a = 0 in S1(a, S1(S2(1, 0), 0)); S1 = (#|S2, #|S1); S2 = (#, #|S2)"},
		{"fun f x = x + 1 in f 2", "f1(2); f1(a: #): # = let b = a in L1(c: #) = `+(c, 1) in L1(b)"},
		{"fun f x = fn y => x + y in f 1 2", "f1(f2(1), 2); f3(a: #, b: #): # = let c = b in L1(d: #) = `+(a, d) in L1(c); f2(e: #): # = let f = e in L2(a: #) = a in L2(f); f1(g: #, h: #): # = let i = g in L3(j: #) = f3(j, h) in L3(i)"},
		{"if 1 < 2 then 3 else 4", "let a = `<(1, 2) in L1() = 3 in L2() = 4 in switch a {0: L2(); 1: L1()}"},
		{"(1 div 0) handle Div => 2", "handle f1() a => L1() = 2 in switch a {1: L1(); else: raise a}; f1(): # = `div(1, 0)"},
		{"(1 div 0) handle Div => 2 | Size => 3", "handle f1() a => L1() = 2 in L2() = 3 in switch a {1: L1(); 3: L2(); else: raise a}; f1(): # = `div(1, 0)"},
		{"exception A of int * int exception B in (raise A (1, 2)) handle A (x, y) => x + y | B => 4", "handle f1() a => L1(b: #, c: #) = `+(b, c) in L2() = 4 in switch a {4: L2(); S1: let d = a.0 in let e = a.1 in L1(d, e); else: raise a}; f1(): # = raise S1(1, 2); S1 = (#, #)A"},
		{"exception A of int exception B in (raise B) handle A 3 => 1", "handle f1() a => L1() = 1 in switch a {S1: let b = a.0 in switch b {3: L1(); else: raise a}; else: raise a}; f1(): # = raise 4; S1 = (#)A"},
		{"1 handle e => raise e", "handle f1() a => L1(b: #) = raise b in L1(a); f1(): # = 1"},
		{"1 handle _ => 2", "handle f1() a => L1() = 2 in L1(); f1(): # = 1"},
		{"putc 1; putc 2", "let a = `putc(1) in L1() = `putc(2) in L1()"},
		{"(putc 1; 2) + (putc 3; 4)", "`+(let a = `putc(1) in L1() = 2 in L1(), let b = `putc(3) in L2() = 4 in L2())"},
		{"(putc 1, [putc 2, putc 3])", "S1(`putc(1), S2(`putc(2), S2(`putc(3), 0))); S1 = (#, #|S2); S2 = (#, #|S2)"},
	})
}

// P12.3: a function for each, in their order, with its number.
func TestFunctionsStayInOrder(t *testing.T) {
	num, text := xcon("int"), xcon("string")
	one := api.Core{Kind: api.KInt, N: 1, T: num}
	p := api.FProg{Datas: written(t, "1").Datas, Main: api.Core{Kind: api.KCall, Id: 9, T: text}, Funs: []api.FFun{
		{Id: 9, Result: text, E: api.Core{Kind: api.KText, Name: "a", T: text}},
		{Id: 4, Params: []api.Param{{Id: 1, T: num}, {Id: 2, T: text}}, Result: num, E: one},
		{Id: 7, Params: []api.Param{{Id: 3, T: xtup(num, text)}}, Result: xtup(num, text), E: api.Core{Kind: api.KVar, Id: 3, T: xtup(num, text)}},
	}}
	x := Flatten(p)
	paired(t, "three functions", p, x, nil)
	sound(t, "three functions", x)
	if len(x.Funs) != 3 || x.Funs[0].Id != 9 || x.Funs[1].Id != 4 || x.Funs[2].Id != 7 || x.Main.Kind != api.LCall || x.Main.Id != 9 || x.Main.Ty != 1 {
		t.Errorf("%+v", x)
	}
	if f := x.Funs[1]; len(f.Params) != 2 || f.Params[0] != (api.Slot{Id: 1, Ty: 0}) || f.Params[1] != (api.Slot{Id: 2, Ty: 1}) || f.Result != 0 {
		t.Errorf("%+v", f)
	}
}

// greatest are programs in which the greatest number stands at one place alone.
func greatest(n int) map[string]api.FProg {
	num := xcon("int")
	main := func(c api.Core) api.FProg { return api.FProg{Datas: basic(), Main: c} }
	pair := api.Core{Kind: api.KTuple, T: xtup(num, num), L: []api.Core{number1(), number1()}}
	apart := func(id int) api.Core {
		return caseOf(pair, api.Way{P: tuplePat(intPat(1), api.CPat{Kind: api.PVar, Id: id, T: num}), E: varOf(id, num)}, api.Way{P: anyPat(pair.T), E: number1()})
	}
	f := api.FFun{Id: 0, Result: num, E: apart(1), Params: []api.Param{{Id: n, T: num}}}
	call := api.Core{Kind: api.KCall, Id: 0, T: num, L: []api.Core{number1()}}
	way := []api.Way{{P: anyPat(xcon("exn")), E: apart(1)}}
	let := api.Core{Kind: api.KLet, T: num, Funs: []api.CoreFun{{Id: n, T: num, E: number1()}}, L: []api.Core{apart(1)}}
	none := api.FFun{Id: 0, Result: num, E: number1()}
	call0 := api.Core{Kind: api.KCall, Id: 0, T: num}
	return map[string]api.FProg{
		"a pattern's variable": main(apart(n)),
		"a parameter":          {Datas: basic(), Funs: []api.FFun{f}, Main: call},
		"a let":                main(let),
		"a handle":             {Datas: basic(), Funs: []api.FFun{none}, Main: api.Core{Kind: api.KHandle, Id: n, T: num, L: []api.Core{call0}, Ways: way}},
	}
}

// P12.4: variables that are bound to parts are others than all of the program, whichever has the greatest number.
func TestNewVariablesAreOthers(t *testing.T) {
	for n := range 12 {
		for name, p := range greatest(n + 2) {
			x := Flatten(p)
			paired(t, name, p, x, nil)
			sound(t, name, x)
		}
	}
}

// P12.5: a variable has the same number in several functions, where it may have been bound to less than its type.
func TestVariablesOfSeveralFunctions(t *testing.T) {
	num := xcon("int")
	list := xcon("l")
	data := api.Data{Name: "l", Cons: []api.DataCon{{Name: "N"}, {Name: "C", Has: true, Arg: xtup(num, list)}}}
	x := varOf(1, list)
	nothing := api.Core{Kind: api.KCon, Name: "N", T: list}
	call := api.Core{Kind: api.KCall, Id: 2, T: list, L: []api.Core{x}}
	f := api.FFun{Id: 2, Params: []api.Param{{Id: 1, T: list}}, Result: list, E: x}
	let := api.Core{Kind: api.KLet, T: list, Funs: []api.CoreFun{{Id: 1, T: list, E: nothing}}, L: []api.Core{call}}
	g := api.FFun{Id: 3, Result: list, E: let}
	for _, funs := range [][]api.FFun{{f, g}, {g, f}} {
		p := api.FProg{Datas: basic(data), Funs: funs, Main: let}
		x := Flatten(p)
		paired(t, "two functions", p, x, nil)
		sound(t, "two functions", x)
		if e := x.Main.L[1].L[0]; e.Kind != api.LVar || e.Ty != 0 {
			t.Errorf("%+v", e)
		}
	}
}
