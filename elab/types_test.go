package elab

import (
	"strings"
	"testing"

	"bellows/api"
)

// P9.2: what is bound with type variables of its own may be of several types, what is bound without of one.
func TestValsOfValues(t *testing.T) {
	// of values
	for _, v := range []string{"fn x => x", "(fn x => x)", "f", "g"} {
		has(t, "(int * string)", "fun f x = x val g = f val h = "+v+" in (h 1, h \"\")")
	}
	has(t, "(int list * string list)", "val n = [] in (1 :: n, \"\" :: n)", "val n = Nil in (1 :: n, \"\" :: n)")
	has(t, "(int list list * string list list)", "val n = [[]] in ([1] :: n, [\"\"] :: n)")
	has(t, "(int list * string list)", "val (n) = [] in (1 :: n, \"\" :: n)")
	has(t, "(int t * string t)", "datatype 'a t = A of 'a val c = A in (c 1, c \"\")")
	has(t, "(int u * string u)", "datatype 'a t = A of 'a datatype 'a u = B of 'a list t | C of 'a val c = B (A []) val f = fn y => case y of B _ => y | C _ => y in (case c of B _ => f c | C x => C (x + 1), case c of B _ => f c | C x => C (x ^ \"\"))")
	has(t, "((int list * int) * (string list * int))", "val p = ([], 1) in (case p of (l, n) => (1 :: l, n), case p of (l, n) => (\"\" :: l, n))")
	has(t, "(int * string)", "val p = (fn x => x, ()) in (case p of (f, _) => f 1, case p of (f, _) => f \"\")")
	has(t, "(int ref * string ref)", "val r = ref in (r 1, r \"\")")
	has(t, "(int * string)", "val s = sub in (s (array (1, 1), 0), s (array (1, \"\"), 0))")
	has(t, "(int * string)", "val f = fn x => raise x in (f Div + 1, f Div ^ \"\")")
	// of others
	illTyped(t, "val f = (fn x => x) (fn x => x) in (f 1, f \"\")",
		"val r = ref [] in (r := [1]; r := [\"\"])",
		"val r = ref (fn x => x) in (!r 1, !r \"\")",
		"val a = array (1, []) in (update (a, 0, [1]); update (a, 0, [\"\"]))",
		"val n = if true then [] else [] in (1 :: n, \"\" :: n)",
		"val n = case 1 of _ => [] in (1 :: n, \"\" :: n)",
		"val n = let in [] end in (1 :: n, \"\" :: n)",
		"val n = let val x = 1 in [] end in (1 :: n, \"\" :: n)",
		"val n = (1; []) in (1 :: n, \"\" :: n)",
		"val n = raise Div in (n + 1, n ^ \"\")",
		"val n = ([] handle _ => []) in (1 :: n, \"\" :: n)",
		"val n = [ref []] in ((case n of r :: _ => r := [1] | _ => ()), (case n of r :: _ => r := [\"\"] | _ => ()))",
		"val n = ([], raise Div) in (case n of (l, _) => (1 :: l, \"\" :: l))",
		"datatype 'a t = A of 'a * int val c = A ([], 1 + 1) in (case c of A (l, _) => 1 :: l, case c of A (l, _) => \"\" :: l)",
		"datatype 'a t = A of 'a * int val c = A ([], ~1) in (case c of A (l, _) => 1 :: l, case c of A (l, _) => \"\" :: l)",
		"fun f x = [] val n = f 1 in (1 :: n, \"\" :: n)")
	has(t, "int list", "datatype 'a t = A of 'a * int val c = A ([], ~1) in case c of A (l, _) => 1 :: l")
}

// P9.2: other patterns bind without, even of values.
func TestValsOfOtherPatterns(t *testing.T) {
	illTyped(t, "val (f, _) = (fn x => x, 1) in (f 1, f \"\")", "val (n, m) = ([], 1) in (1 :: n, \"\" :: n)", "datatype 'a t = A of 'a val A n = A [] in (1 :: n, \"\" :: n)")
	has(t, "(int * int list)", "val (f, n) = (fn x => x, []) in (f 1, 2 :: n)")
	has(t, "(int * string)", "val _ = fn x => x val (f) = fn x => x in (f 1, f \"\")")
	has(t, "int", "val _ = [] in 1")
}

// P9.2: type variables that stand around aren't bound.
func TestWhatStandsAround(t *testing.T) {
	illTyped(t, "fn x => let val y = x in (y + 1, y ^ \"\") end", "fn x => let val f = fn y => x in (f 1 + 1, f 1 ^ \"\") end", "fun f x = let fun g y = x in (g 1 + 1, g 1 ^ \"\") end in 1",
		"fn f => (f 1, f \"\")", "case fn x => x of f => (f 1, f \"\")", "(fn f => (f 1, f \"\")) (fn x => x)", "val r = ref [] in let val s = r in (s := [1]; s := [\"\"]) end",
		"fn x => let val p = (x, fn y => y) in case p of (a, f) => (a + 1, a ^ \"\") end", "fn x => let fun g y = [x, y] in (g 1, g \"\") end",
		"fn x => let val c = [x] in (1 :: c, \"\" :: c) end", "fn x => fn y => let val f = fn z => (if true then y else x) in (f 1 + 1, f 1 ^ \"\") end")
	has(t, "(int -> ((int * int) * (int * string)))", "fn x => let fun g y = (x + 1, y) in (g 1, g \"\") end")
	has(t, "(() -> ((() * int) * (() * string)))", "fn x => let val g = fn y => (x, y) in (g 1, g \"\") end")
	has(t, "(int * string)", "fun f x = let fun g y = (y, x) val a = g 1 val b = g \"\" in case a of (_, y) => y end in (f 1, f \"\")")
	has(t, "((int * int) * (int * string))", "fun f x = let fun g y = (y, x) in case g \"\" of (_, _) => g 1 end in (f 1, f \"\")")
	has(t, "int list ref", "val r = ref [] in let val s = r in (s := [1]; r) end", "val r = ref [] val f = fn x => r in (f 1 := [2]; f \"\"; r)")
}

// P9.2: within its own declaration a fun is as it is, behind it it may be of several types.
func TestFuns(t *testing.T) {
	has(t, "(int * string)", "fun id x = x in (id 1, id \"\")", "fun f x = g x and g x = x in (f 1, g \"\")", "fun f x = x and g y = f y in (g 1, f \"\")", "fun f x = if true then x else f x in (f 1, f \"\")")
	illTyped(t, "fun f x = (f 1; f \"\"; x) in 1", "fun f x = x and g y = (f 1, f \"\") in 1", "fun f x = g 1 and g x = (f \"\"; x) in f \"\" ^ f \"\"", "fun f x = (fn y => f) in 1", "fun f x = f in 1", "fun f x y = f y in 1", "fun f x = x and g y = (f y; f (y, y)) in 1")
	has(t, "(int * int)", "fun f x = g 1 and g x = (f \"\"; x) in (f \"\", g 2)")
	has(t, "(int * (int list * string list))", "fun len l = case l of [] => 0 | _ :: r => 1 + len r fun rev l m = case l of [] => m | x :: r => rev r (x :: m) in (len [1] + len [\"\"], (rev [1] [], rev [\"\"] []))")
	has(t, "((int -> int) * (string -> int))", "fun f x = (g; 1) and g y = y in (fn n => f n + g n, fn s => (g (s ^ \"\"); f s))")
	has(t, "bool", "fun even n = if n = 0 then true else odd (n - 1) and odd n = if n = 0 then false else even (n - 1) in even 3")
	has(t, "(int list * string list)", "fun map f l = case l of [] => [] | x :: r => f x :: map f r in (map size [\"\"], map (fn n => \"\") [1])")
	has(t, "((int -> (string -> (int * string))) * (string -> (int -> (int * string))))", "fun curry f x y = f (x, y) fun swap (x, y) = (y, x) in (fn x => fn y => curry (fn (a, b) => (a + 1, b ^ \"\")) x y, fn x => curry (fn p => case swap p of (a, b) => (a + 1, b ^ \"\")) x)")
}

// P9.2: both ways of a case, of a handle have one type; raise has any; what is raised and handled is an exn.
func TestWays(t *testing.T) {
	illTyped(t, "case 1 of 0 => 1 | _ => \"\"", "case 1 of 0 => 1 | true => 1 | _ => 2", "fn 0 => 1 | _ => \"\"", "fn 0 => 1 | (x, y) => 2 | _ => 3", "if 1 then 2 else 3", "if true then 1 else \"\"", "1 andalso true", "true orelse 1",
		"1 handle _ => \"\"", "1 handle 0 => 1", "1 handle (x, y) => 1", "1 handle x => x", "1 handle Div => 1 | Match => \"\"", "raise 1", "raise fn x => x", "1 + (raise \"\")", "case [] of [] => 1 | true => 2 | _ => 3", "fn x => case x of 0 => x | _ => true",
		"case (1, 2) of (x, y, z) => 1", "case (1, 2) of x :: y => 1 | _ => 2", "val (x, y) = 1 in 1", "val (x, y) = (1, 2, 3) in 1", "val () = 1 in 1", "fn () => 1 | _ => 2 | 0 => 3")
	has(t, "int", "(raise Div) + 1", "if true then raise Div else 1", "(raise Div) handle Div => 1", "1 handle Div => raise Match", "case raise Div of 0 => 1 | _ => raise Match", "1 handle e => (case e of Div => 1 | _ => 2)", "let exception E of int in (raise E 1) handle E n => n end")
	has(t, "string", "(raise Div) ^ (raise Match)", "(raise raise Div) ^ \"\"", "((raise Div) (raise Match)) ^ \"\"", "if raise Div then \"\" else raise Match")
	has(t, "()", "raise Div", "raise raise Div", "(raise Div) handle Div => raise Div", "val x = raise Div in x", "()")
	has(t, "(exn -> ())", "fn x => raise x", "fn Div => raise Match | x => raise x", "fun f x = raise x in f")
	has(t, "exn", "Div", "(raise Div) handle e => e", "let exception E of int in E 1 end")
}

// P9.2: applications, tuples, functions, and a variable of a type that is nowhere known at the end.
func TestApplicationsAndTuples(t *testing.T) {
	illTyped(t, "1 2", "\"\" 1", "(fn x => x + 1) true", "(fn (x, y) => x) 1", "fn x => x x", "(1, 2) 3", "true 1", "Div 1", "Nil 1", "() ()", "fun f x = x in f 1 2", "fn x => (x 1, x \"\")", "fn f => f f", "fun f x = x f in 1", "[1, \"\"]", "1 :: 2", "1 :: [\"\"]", "[[1], 2]", "fn x => x :: x", "fn (x, y) => (x y, y x)", "val x = fn f => f (f, f) in x")
	has(t, "(() -> ())", "fn x => x", "fun f x = x in f", "fun f x = f x in f", "fn x => let val y = x in y end")
	has(t, "() list", "[]", "Nil", "val x = [] in x", "val x = ref [] in !x")
	has(t, "((() -> ()) -> (() -> ()))", "fn f => fn x => f x", "fn f => fn x => f (f x)")
	has(t, "((int -> int) -> (int -> int))", "fn f => fn x => f (x + f x)")
	has(t, "(int * (string * bool) * ())", "(1, (\"\", true), ())")
	has(t, "((() * ()) -> (() * ()))", "fn (x, y) => (y, x)", "fn p => case p of (x, y) => (x, y)")
	has(t, "((int -> string) list -> int)", "fn l => case l of f :: _ => size (f 1) | [] => 0")
	has(t, "int list list", "[[1], [], 2 :: []]")
	has(t, "() list ref", "val r = ref [] in r", "ref []")
	has(t, "(int ref * int list ref)", "val r = ref [] val n = ref 1 in (r := [!n]; (n, r))")
}

// P9.3: the types of reckonings: of signs, of variables that are called with as many as they need, with something else, and alone.
func TestReckonings(t *testing.T) {
	for _, sign := range []string{"+", "-", "*", "div", "mod"} {
		has(t, "int", "1 "+sign+" 2")
		has(t, "(int -> (int -> int))", "fn x => fn y => x "+sign+" y")
		illTyped(t, "\"\" "+sign+" 1", "1 "+sign+" \"\"", "(1 "+sign+" 2) ^ \"\"", "1 "+sign+" true", "() "+sign+" 1", "(1 "+sign+" 1) 1")
	}
	for _, sign := range []string{"<", "<=", ">", ">=", "=", "<>"} {
		has(t, "bool", "1 "+sign+" 2")
		has(t, "(int -> (int -> bool))", "fn x => fn y => x "+sign+" y")
		illTyped(t, "\"\" "+sign+" \"\"", "1 "+sign+" \"\"", "true "+sign+" 1", "(1 "+sign+" 2) + 1", "() "+sign+" ()", "Nil "+sign+" Nil")
	}
	has(t, "string", "\"a\" ^ \"b\"")
	has(t, "(string -> (string -> string))", "fn x => fn y => x ^ y")
	illTyped(t, "1 ^ \"\"", "\"\" ^ 1", "(\"\" ^ \"\") + 1", "~ \"\"", "~ true", "(~ 1) ^ \"\"", "1 := 2", "ref 1 := \"\"", "(ref 1 := 1) + 1", "! 1", "!(ref 1) ^ \"\"", "! array (1, 1)", "array (1, 1) := 1")
	has(t, "int", "~ 1", "~ ~ 1", "!(ref 1)", "! ! (ref (ref 1))")
	has(t, "(int -> int)", "fn x => ~ x")
	has(t, "()", "ref 1 := 2", "ref \"\" := \"\"", "ref (ref 1) := ref 2")
	has(t, "(() ref -> (() -> ()))", "fn x => fn y => x := y")
	has(t, "(() ref -> ())", "fn x => ! x")
	has(t, "(int ref -> int)", "fn x => ! x + 1")
	for _, x := range []struct{ name, of, typ string }{
		{"print", "\"a\"", "(string -> ())"}, {"putc", "65", "(int -> ())"}, {"getc", "()", "(() -> int)"}, {"size", "\"a\"", "(string -> int)"},
		{"byte", "(\"a\", 0)", "((string * int) -> int)"}, {"cmp", "(\"a\", \"b\")", "((string * string) -> int)"}, {"ref", "()", "(() -> () ref)"},
		{"array", "(1, ())", "((int * ()) -> () array)"}, {"length", "(array (1, ()))", "(() array -> int)"}, {"sub", "(array (1, ()), 0)", "((() array * int) -> ())"},
		{"update", "(array (1, ()), 0, ())", "((() array * int * ()) -> ())"},
	} {
		has(t, x.typ, x.name, "fn x => "+x.name+" x", "val f = "+x.name+" in f", "fn x => let val p = x in "+x.name+" p end")
		typ := Type(elaborated(t, x.name+" "+x.of))
		has(t, typ, "val p = "+x.of+" in "+x.name+" p", "(fn f => f "+x.of+") "+x.name, x.name+" (if true then "+x.of+" else raise Div)", "val f = "+x.name+" in f "+x.of)
		if x.name != "ref" {
			illTyped(t, x.name+" true", x.name+" (true, true)")
		}
		illTyped(t, x.name+" (1, 2, 3, 4) + \"\"", x.name+" + 1", "("+x.name+" "+x.of+") true true", "case "+x.name+" of 0 => 1 | _ => 2")
	}
	illTyped(t, "print 1", "putc \"\"", "getc 1", "getc (1, 2)", "getc \"\"", "size 1", "size (\"\", 1)", "byte \"\"", "byte (1, \"\")", "byte (\"\", 1, 2)", "byte ((\"\", 1), 1)", "cmp (\"\", 1)", "cmp (1, \"\")", "cmp \"\"", "cmp ()", "array 1", "array (\"\", 1)", "array (1, 2, 3)", "array ()", "length 1", "length (ref 1)", "length [1]",
		"sub (1, 2)", "sub (array (1, 1), \"\")", "sub (array (1, 1))", "sub (array (1, 1), 0) ^ \"\"", "update (array (1, 1), 0, \"\")", "update (array (1, 1), 0)", "update (array (1, 1), (0, 1))", "update (array (1, 1), 0, 1) + 1", "update (ref 1, 0, 1)", "putc 1 + 1", "print \"\" + 1", "getc () ^ \"\"", "print print")
}

// P9.3: of any type, where there is an 'a.
func TestReckoningsOfAnyType(t *testing.T) {
	has(t, "(int ref * string ref * (int * bool) ref * () ref)", "(ref 1, ref \"\", ref (1, true), ref ())")
	has(t, "(int array * string list array)", "(array (1, 2), array (1, [\"\"]))")
	has(t, "(int * (string * ()))", "(sub (array (1, 2), 0), sub (array (1, (\"\", ())), 0))")
	has(t, "(int * int)", "(length (array (1, 2)), length (array (1, \"\")))")
	has(t, "(() * ())", "(update (array (1, 1), 0, 1), update (array (1, \"\"), 0, \"\"))")
	has(t, "(int * string)", "(!(ref 1), !(ref \"\"))")
	has(t, "int list array", "val a = array (1, []) in (update (a, 0, [1]); a)")
	has(t, "(int -> int) ref", "val r = ref (fn x => x) in (r := (fn x => x + 1); r)")
}

// P9.2: vals and funs in one another, as many as a text may have.
func TestFunsInOneAnother(t *testing.T) {
	n := api.MaxNest - 1
	has(t, "(int * string)", "fun f x = "+strings.Repeat("let fun f x = ", n)+"x"+strings.Repeat(" in f x end", n)+" in (f 1, f \"\")")
	has(t, "(int * string)", "fun f x = "+strings.Repeat("let fun f y = ", n)+"x"+strings.Repeat(" in f 1 end", n)+" in (f 1, f \"\")")
	n = api.MaxNest/2 - 1
	has(t, "(int * string)", "val f = fn x => "+strings.Repeat("let val f = fn x => ", n)+"x"+strings.Repeat(" in f x end", n)+" in (f 1, f \"\")")
	refuses(t, api.ErrType, 0, "fun f x = "+strings.Repeat("let fun g y = ", 2*n)+"x + 1"+strings.Repeat(" in g 1 end", 2*n)+" in (f 1, f \"\")")
}
