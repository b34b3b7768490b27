package elab

import (
	"strings"
	"testing"

	"bellows/api"
)

// P9.5: each kind of expression as a core.
func TestCores(t *testing.T) {
	writes(t, "1", "1")
	writes(t, "\"a\"", `"a"`)
	writes(t, "()", "{}")
	writes(t, "(1, \"a\", ())", `{1, "a", {}}`)
	writes(t, "fn x => x", "fn v0(case(v0 of v1 => v1))")
	writes(t, "fn 0 => 1 | x => x", "fn v0(case(v0 of 0 => 1 | v1 => v1))")
	writes(t, "fn (x, _) => x", "fn v0(case(v0 of {v1, _} => v1))")
	writes(t, "fn x => fn y => x", "fn v0(case(v0 of v1 => fn v2(case(v2 of v3 => v1))))")
	writes(t, "(fn x => x) 1", "app(fn v0(case(v0 of v1 => v1)), 1)")
	writes(t, "case 1 of ~1 => 2 | x => x", "case(1 of -1 => 2 | v0 => v0)")
	writes(t, "case [1] of x :: y => x | [] => 0", "case(Cons<int>({1, Nil<int>}) of Cons({v0, v1}) => v0 | Nil => 0)")
	writes(t, "if true then 1 else 2", "case(true of true => 1 | false => 2)")
	writes(t, "true andalso false", "case(true of true => false | false => false)")
	writes(t, "true orelse false", "case(true of true => true | false => false)")
	writes(t, "raise Div", "raise(Div)")
	writes(t, "1 handle Div => 2 | x => raise x", "handle(1 by v0 of Div => 2 | v1 => raise(v1))")
	writes(t, "1; 2", "case(1 of _ => 2)")
	writes(t, "~1 + 2 * 3", "`+(`~(1), `*(2, 3))")
	writes(t, "ref 1 := !(ref 2)", "`:=(`ref(1), `!(`ref(2)))")
	writes(t, "\"a\" ^ \"b\"", "`^(\"a\", \"b\")")
	for _, sign := range strings.Fields("+ - * div mod < <= > >= = <>") {
		writes(t, "1 "+sign+" 2", "`"+sign+"(1, 2)")
	}
}

// P9.5: each core and each pattern has its type.
func TestTypesOfCores(t *testing.T) {
	for src, want := range map[string]string{
		"fn (x, _) => x + 1":                     "fn v0(case(v0:{int, {}} of {v1:int, _:{}}:{int, {}} => `+(v1:int, 1:int):int):int):({int, {}}->int)",
		"val x = 1 in (x, \"\")":                 "let(v0:int = 1:int in {v0:int, \"\":string}:{int, string}):{int, string}",
		"val (x, y) = (1, []) in x; y":           "case({1:int, Nil<{}>:list<{}>}:{int, list<{}>} of {v0:int, v1:list<{}>}:{int, list<{}>} => case(v0:int of _:int => v1:list<{}>):list<{}>):list<{}>",
		"(raise Div) handle Match => 1 | _ => 2": "handle(raise(Div:exn):int by v0 of Match:exn => 1:int | _:exn => 2:int):int",
		"fun f x = x in f 1":                     "fix(v0<'0>:('0->'0) = fn v1(case(v1:'0 of v2:'0 => v2:'0):'0):('0->'0) in app(v0<int>:(int->int), 1:int):int):int",
		"print":                                  "fn v0(`print(v0:string):{}):(string->{})",
		"sub":                                    "fn v0(case(v0:{array<{}>, int} of {v1:array<{}>, v2:int}:{array<{}>, int} => `sub(v1:array<{}>, v2:int):{}):{}):({array<{}>, int}->{})",
		"Cons":                                   "fn v0(Cons<{}>(v0:{{}, list<{}>}):list<{}>):({{}, list<{}>}->list<{}>)",
		"fn 0 => true | _ => false":              "fn v0(case(v0:int of 0:int => true:bool | _:int => false:bool):bool):(int->bool)",
	} {
		if got := toldTyped(elaborated(t, src).Main); got != want {
			t.Errorf("%s:\n%s, want\n%s", src, got, want)
		}
	}
}

// P9.5: declarations as cores.
func TestDeclarationsAsCores(t *testing.T) {
	writes(t, "val x = 1 in x", "let(v0 = 1 in v0)")
	writes(t, "val x = raise Div in x", "let(v0 = raise(Div) in v0)")
	writes(t, "val (x) = 1 val y = x in y", "let(v0 = 1 in let(v1 = v0 in v1))")
	writes(t, "val _ = 1 in 2", "case(1 of _ => 2)")
	writes(t, "val () = () in 2", "case({} of {} => 2)")
	writes(t, "val (x, y) = (1, 2) in y", "case({1, 2} of {v0, v1} => v1)")
	writes(t, "val (x, y) = let val z = 1 in (z, z) end in x", "case(let(v2 = 1 in {v2, v2}) of {v0, v1} => v0)")
	writes(t, "let in 1 end", "1")
	writes(t, "datatype t = A exception E in 1", "1")
	writes(t, "let datatype t = A val x = A exception E in (x, E) end", "let(v0 = A in {v0, E})")
	writes(t, "val f = fn x => x in f 1", "let(v2<'0> = fn v0(case(v0 of v1 => v1)) in app(v2<int>, 1))")
	writes(t, "fun f x = f x in f 1", "fix(v0<'0, '1> = fn v1(case(v1 of v2 => app(v0<'0, '1>, v2))) in app(v0<int, {}>, 1))")
	writes(t, "fun f x y = x in 1", "fix(v0<'0, '1> = fn v1(case(v1 of v2 => fn v3(case(v3 of v4 => v2)))) in 1)")
	writes(t, "fun f x = 1 and g y = f y in g", "fix(v0<'0> = fn v2(case(v2 of v3 => 1)) and v1<'1> = fn v4(case(v4 of v5 => app(v0<'1>, v5))) in v1<{}>)")
	writes(t, "fun f x = x fun g y = f y in g 1", "fix(v0<'0> = fn v1(case(v1 of v2 => v2)) in fix(v3<'1> = fn v4(case(v4 of v5 => app(v0<'1>, v5))) in app(v3<int>, 1)))")
}

// P9.5: a fun's functions are bound each with the type variables of its own type; what of another one isn't in it is nowhere known.
func TestTypeVariablesOfFuns(t *testing.T) {
	writes(t, "fun f x = (g; 1) and g y = y in (f 1, g 2)", "fix(v0<'0> = fn v2(case(v2 of v3 => case(v1<{}> of _ => 1))) and v1<'1> = fn v4(case(v4 of v5 => v5)) in {app(v0<int>, 1), app(v1<int>, 2)})")
	writes(t, "fun f x = x and g y = (f; y + 1) in g", "fix(v0<'0> = fn v2(case(v2 of v3 => v3)) and v1 = fn v4(case(v4 of v5 => case(v0<{}> of _ => `+(v5, 1)))) in v1)")
	writes(t, "fun f x = x and g y = (f; y + 1) and h z = (z; f) in h", "fix(v0<'0> = fn v3(case(v3 of v4 => v4)) and v1 = fn v5(case(v5 of v6 => case(v0<{}> of _ => `+(v6, 1)))) and v2<'1, '2> = fn v7(case(v7 of v8 => case(v8 of _ => v0<'2>))) in v2<{}, {}>)")
	writes(t, "fun f x = g x and g x = f x in f", "fix(v0<'0, '1> = fn v2(case(v2 of v3 => app(v1<'0, '1>, v3))) and v1<'2, '3> = fn v4(case(v4 of v5 => app(v0<'2, '3>, v5))) in v0<{}, {}>)")
	writes(t, "fun f x = let fun g y = (x, y) in (g 1, g \"\") end in f ()", "fix(v0<'0> = fn v1(case(v1 of v2 => fix(v3<'1> = fn v4(case(v4 of v5 => {v2, v5})) in {app(v3<int>, 1), app(v3<string>, \"\")}))) in app(v0<{}>, {}))")
	writes(t, "fun f x = let val g = fn y => (f; x) in g 1 end in f 2", "fix(v0<'0> = fn v1(case(v1 of v2 => let(v5<'1> = fn v3(case(v3 of v4 => case(v0<'0> of _ => v2))) in app(v5<int>, 1)))) in app(v0<int>, 2))")
	writes(t, "fun f x = (ref []; x) in f", "fix(v0<'0> = fn v1(case(v1 of v2 => case(`ref(Nil<{}>) of _ => v2))) in v0<{}>)")
	writes(t, "val p = (fn x => x, fn y => y) in p", "let(v4<'0, '1> = {fn v0(case(v0 of v1 => v1)), fn v2(case(v2 of v3 => v3))} in v4<{}, {}>)")
}

// P9.5: constructors, with their datatype's type variables.
func TestConstructorsAsCores(t *testing.T) {
	ahead := "datatype 'a t = A | B of 'a | C of int * 'a exception E of int in "
	writes(t, ahead+"A", "A<{}>")
	writes(t, ahead+"B 1", "B<int>(1)")
	writes(t, ahead+"C (1, \"\")", "C<string>({1, \"\"})")
	writes(t, ahead+"B", "fn v0(B<{}>(v0))")
	writes(t, ahead+"[B, B]", "Cons<({}->t<{}>)>({fn v0(B<{}>(v0)), Cons<({}->t<{}>)>({fn v1(B<{}>(v1)), Nil<({}->t<{}>)>})})")
	writes(t, ahead+"E", "fn v0(E(v0))")
	writes(t, ahead+"(E 1, Div)", "{E(1), Div}")
	writes(t, ahead+"B (B A)", "B<t<t<{}>>>(B<t<{}>>(A<{}>))")
	writes(t, ahead+"let val c = B in c 1 end", "let(v1<'0> = fn v0(B<'0>(v0)) in app(v1<int>, 1))")
	writes(t, ahead+"let val p = (1, 2) in C p end", "let(v0 = {1, 2} in C<int>(v0))")
	writes(t, "val n = [] in 1 :: n", "let(v0<'0> = Nil<'0> in Cons<int>({1, v0<int>}))")
	writes(t, "(true, false)", "{true, false}")
}

// P9.5: variables of P9.3: called, alone, hidden.
func TestReckoningsAsCores(t *testing.T) {
	writes(t, "print \"a\"", "`print(\"a\")")
	writes(t, "putc (if true then 1 else 2)", "`putc(case(true of true => 1 | false => 2))")
	writes(t, "size (print \"a\"; \"b\")", "`size(case(`print(\"a\") of _ => \"b\"))")
	writes(t, "getc ()", "`getc()")
	writes(t, "ref ()", "`ref({})")
	writes(t, "ref (1, 2)", "`ref({1, 2})")
	writes(t, "length (array (1, 2))", "`length(`array(1, 2))")
	writes(t, "byte (\"a\", 0)", "`byte(\"a\", 0)")
	writes(t, "cmp (\"a\", \"b\")", "`cmp(\"a\", \"b\")")
	writes(t, "fn a => (sub (a, 0), update (a, 0, 1))", "fn v0(case(v0 of v1 => {`sub(v1, 0), `update(v1, 0, 1)}))")
	// called with something else
	writes(t, "getc (print \"a\")", "case(`print(\"a\") of {} => `getc())")
	writes(t, "val p = (\"a\", 0) in byte p", "let(v0 = {\"a\", 0} in case(v0 of {v1, v2} => `byte(v1, v2)))")
	writes(t, "fn p => update p", "fn v0(case(v0 of v1 => case(v1 of {v2, v3, v4} => `update(v2, v3, v4))))")
	writes(t, "array (1; (2, 3))", "case(case(1 of _ => {2, 3}) of {v0, v1} => `array(v0, v1))")
	writes(t, "fn p => cmp p", "fn v0(case(v0 of v1 => case(v1 of {v2, v3} => `cmp(v2, v3))))")
	writes(t, "fn p => sub p", "fn v0(case(v0 of v1 => case(v1 of {v2, v3} => `sub(v2, v3))))")
	// alone
	for _, name := range strings.Fields("print putc size ref length") {
		writes(t, name, "fn v0(`"+name+"(v0))")
		writes(t, "val f = "+name+" in 1", "let(v1"+strings.Repeat("<'0>", strings.Count("ref length", name))+" = fn v0(`"+name+"(v0)) in 1)")
	}
	for _, name := range strings.Fields("byte cmp array sub") {
		writes(t, name, "fn v0(case(v0 of {v1, v2} => `"+name+"(v1, v2)))")
	}
	writes(t, "update", "fn v0(case(v0 of {v1, v2, v3} => `update(v1, v2, v3)))")
	writes(t, "getc", "fn v0(case(v0 of {} => `getc()))")
	writes(t, "(print; print) \"a\"", "app(case(fn v0(`print(v0)) of _ => fn v1(`print(v1))), \"a\")")
	writes(t, "val p = print in p \"a\"", "let(v1 = fn v0(`print(v0)) in app(v1, \"a\"))")
	// hidden
	writes(t, "fun print x = x in print \"a\"", "fix(v0<'0> = fn v1(case(v1 of v2 => v2)) in app(v0<string>, \"a\"))")
	writes(t, "fn sub => sub (1, 2)", "fn v0(case(v0 of v1 => app(v1, {1, 2})))")
	writes(t, "fn getc => getc", "fn v0(case(v0 of v1 => v1))")
	writes(t, "val print = print in print \"a\"", "let(v1 = fn v0(`print(v0)) in app(v1, \"a\"))")
	writes(t, "(let val ref = 1 in ref end, ref 2)", "{let(v0 = 1 in v0), `ref(2)}")
}

// datasOf looks which datatypes a program has behind exn, bool and list, and which exceptions behind the first four.
func datasOf(t *testing.T, src, exns string, want ...string) {
	t.Helper()
	l := elaborated(t, src).Datas
	if got := strings.TrimPrefix(toldData(l[0]), " exn = Match | Div | Subscript | Size"); got != exns {
		t.Errorf("%s: %s, want %s", src, got, exns)
	}
	if got := rows(l[3:], "; ", toldData); got != strings.Join(want, "; ") {
		t.Errorf("%s: %s, want %s", src, got, want)
	}
}

// P9.5: datatypes and exceptions in the order of the text.
func TestDatas(t *testing.T) {
	datasOf(t, "1", "")
	datasOf(t, "exception E exception F of int * bool list in 1", " | E | F of {int, list<bool>}")
	datasOf(t, "datatype t = A | B of t -> int in 1", "", " t = A | B of (t->int)")
	datasOf(t, "datatype ('a, 'b) t = A of 'b * 'a | B of ('a, 'b) t list in 1", "", "'0, '1 t = A of {'1, '0} | B of list<t<'0, '1>>")
	datasOf(t, "datatype 'b t = A of 'b ref datatype 'a u = B of 'a t array in 1", "", "'0 t = A of ref<'0>", "'0 u = B of array<t<'0>>")
	datasOf(t, "val x = let datatype s = A exception E in 1 end datatype t = B exception F in let exception G datatype u = C in 2 end", " | E | F | G", " s = A", " t = B", " u = C")
	datasOf(t, "fun f x = let datatype a = A exception E in x end and g x = let datatype b = B exception F in x end datatype c = C in fn x => let datatype d = D in x end", " | E | F", " a = A", " b = B", " c = C", " d = D")
	datasOf(t, "(let datatype z = Z in 1 end, (let datatype y = Y in 1 end) + (let datatype x = X in 1 end)) handle Div => let datatype w = W in (1, 2) end", "", " z = Z", " y = Y", " x = X", " w = W")
	datasOf(t, "(let datatype a = A in fn x => x end) (let datatype b = B in case 1 of _ => let datatype c = C in 2 end | 3 => let datatype d = D in 2 end end)", "", " a = A", " b = B", " c = C", " d = D")
	datasOf(t, "exception E of int in let datatype t = A of exn exception F of t in 1 end", " | E of int | F of t", " t = A of exn")
}

// P9.5: second ones of a name, types and constructors each among themselves.
func TestSecondNames(t *testing.T) {
	datasOf(t, "datatype t = A datatype t = B of t datatype t = C of t in 1", "", " t = A", " t#1 = B of t#1", " t#2 = C of t#2")
	datasOf(t, "datatype t = A | B datatype u = B | A in 1", "", " t = A | B", " u = B#1 | A#1")
	datasOf(t, "datatype t = A exception A datatype u = A of t exception A of u in 1", " | A#1 | A#3 of u", " t = A", " u = A#2 of t")
	datasOf(t, "exception Match exception Div of int exception Match in 1", " | Match#1 | Div#1 of int | Match#2")
	datasOf(t, "datatype int = I datatype string = S of int datatype 'a ref = R of 'a ref datatype array = T datatype exn = X datatype bool = Nil | Y datatype list = true in 1", "",
		" int#1 = I", " string#1 = S of int#1", "'0 ref#1 = R of ref#1<'0>", " array#1 = T", " exn#1 = X", " bool#1 = Nil#1 | Y", " list#1 = true#1")
	datasOf(t, "datatype t = T exception T in 1", " | T#1", " t = T")
	datasOf(t, "val x = let datatype t = A in A end datatype t = A in let datatype t = A in (x, A) end", "", " t = A", " t#1 = A#1", " t#2 = A#2")
	writes(t, "val x = let datatype t = A in A end datatype t = A in let datatype t = A in (x, A) end", "let(v0 = A in {v0, A#2})")
	writes(t, "datatype t = A val x = A datatype u = A of t in fn A _ => (x, A x)", "let(v0 = A in fn v1(case(v1 of A#1(_) => {v0, A#1(v0)})))")
	writes(t, "exception Div in (1 div 0) handle Div => 1", "handle(`div(1, 0) by v0 of Div#1 => 1)")
	writes(t, "datatype t = true | false in if true then 1 else 2", "case(true#1 of true#1 => 1 | false#1 => 2)")
	writes(t, "datatype 'a t = Nil | Cons of 'a * 'a t in [1]", "Cons#1<int>({1, Nil#1<int>})")
	has(t, "(bool * t list#1 * int list)", "val a = [1] datatype 'a list = N | C of 'a datatype t = T in (1 = 2, C T, a)")
}

// P9.5: variables and type variables are numbered from 0 on, each bound once, wherever they are bound: sound looks for that.
func TestNumbers(t *testing.T) {
	p := elaborated(t, "fun f x = (fn (y, 0) => y | (z, _) => z) and g x = print val h = fn x => (1 handle Div => 2 | e => 3) val (i, j) = (sub, [update]) in (f, g, h, i, getc, Cons, let val x = ref fun f y = (x, y) in f end)")
	var ids, gens []int
	var walk func(c api.Core)
	pat := func(p api.CPat) {}
	pat = func(p api.CPat) {
		if p.Kind == api.PVar {
			ids = append(ids, p.Id)
		}
		for _, x := range p.L {
			pat(x)
		}
	}
	walk = func(c api.Core) {
		if c.Kind == api.KFn || c.Kind == api.KHandle {
			ids = append(ids, c.Id)
		}
		for _, f := range c.Funs {
			ids, gens = append(ids, f.Id), append(gens, f.Gen...)
			walk(f.E)
		}
		for _, x := range c.L {
			walk(x)
		}
		for _, w := range c.Ways {
			pat(w.P)
			walk(w.E)
		}
	}
	walk(p.Main)
	for what, l := range map[string][]int{"variables": ids, "type variables": gens} {
		there := map[int]bool{}
		for _, n := range l {
			there[n] = true
			if n < 0 || n >= len(l) {
				t.Error(what, n)
			}
		}
		if len(there) != len(l) || len(l) < 5 {
			t.Error(what, l)
		}
	}
}
