package parse

import (
	"fmt"
	"strings"
	"testing"

	"bellows/api"
)

// P8.1, P8.2: the chapter's examples.
func TestExamples(t *testing.T) {
	is(t, "1 + 2 * 3", "+@0[1@0 *@4[2@4 3@8]]")
	is(t, "fun f x = x in f 1", "let@0[fun@0[f@4 = fn@4[x@6=>x@10]] in app@15[f@15 1@17]]")
	refuses(t, "val x = ", api.ErrParse, 8)
	is(t, "f x y", "app@0[app@0[f@0 x@2] y@4]")
	is(t, "x :: y :: z", "app@0[Cons@0 tuple@0[x@0 app@5[Cons@5 tuple@5[y@5 z@10]]]]")
}

// P8.2: atoms of one token.
func TestAtoms(t *testing.T) {
	is(t, "5", "5@0")
	is(t, "0", "0@0")
	is(t, " 4611686018427387903", "4611686018427387903@1")
	is(t, `"a\n"`, `"a\n"@0`)
	is(t, `""`, `""@0`)
	is(t, `"let"`, `"let"@0`)
	is(t, `f "("`, `app@0[f@0 "("@2]`)
	is(t, "x", "x@0")
	is(t, "  x'_1 ", "x'_1@2")
	is(t, "A", "A@0")
	is(t, "true", "true@0")
	is(t, "false", "false@0")
	is(t, "ref", "ref@0")
}

// P8.2: brackets, tuples and what is in a row.
func TestBrackets(t *testing.T) {
	is(t, "()", "tuple@0[]")
	is(t, " ( )", "tuple@1[]")
	is(t, "(x)", "x@1")
	is(t, "((x))", "x@2")
	is(t, "(())", "tuple@1[]")
	is(t, "(1, 2)", "tuple@0[1@1 2@4]")
	is(t, "(1, 2, 3)", "tuple@0[1@1 2@4 3@7]")
	is(t, "((1, 2), 3)", "tuple@0[tuple@1[1@2 2@5] 3@9]")
	is(t, "((1, 2))", "tuple@1[1@2 2@5]")
	is(t, "(fn x => x, raise y, if a then b else c)", "tuple@0[fn@1[x@4=>x@9] raise@12[y@18] case@21[a@24 of true@21=>b@31 | false@21=>c@38]]")
	is(t, "(1; 2)", "let@1[val@1[_@1 = 1@1] in 2@4]")
	is(t, "(1; 2; 3)", "let@1[val@1[_@1 = let@1[val@1[_@1 = 1@1] in 2@4]] in 3@7]")
	is(t, "(1; (2; 3))", "let@1[val@1[_@1 = 1@1] in let@5[val@5[_@5 = 2@5] in 3@8]]")
	is(t, "((a); b)", "let@2[val@2[_@2 = a@2] in b@6]")
	is(t, "((1; 2), 3)", "tuple@0[let@2[val@2[_@2 = 1@2] in 2@5] 3@9]")
	is(t, "1; 2", "let@0[val@0[_@0 = 1@0] in 2@3]")
	is(t, "fn x => 1; 2", "let@0[val@0[_@0 = fn@0[x@3=>1@8]] in 2@11]")
}

// P8.2: what stands between [ and ].
func TestLists(t *testing.T) {
	is(t, "[]", "Nil@0")
	is(t, " [ ]", "Nil@1")
	is(t, "[1]", "app@0[Cons@0 tuple@0[1@1 Nil@0]]")
	is(t, "[1, 2]", "app@0[Cons@0 tuple@0[1@1 app@0[Cons@0 tuple@0[2@4 Nil@0]]]]")
	is(t, "[[], [x]]", "app@0[Cons@0 tuple@0[Nil@1 app@0[Cons@0 tuple@0[app@5[Cons@5 tuple@5[x@6 Nil@5]] Nil@0]]]]")
	is(t, "[raise x, 1 handle _ => 2]", "app@0[Cons@0 tuple@0[raise@1[x@7] app@0[Cons@0 tuple@0[handle@10[1@10 of _@19=>2@24] Nil@0]]]]")
	same(t, "[1, 2, 3]", "1 :: 2 :: 3 :: []", "1 :: [2, 3]", "Cons (1, Cons (2, Cons (3, Nil)))", "1 :: (2 :: (3 :: Nil))")
}

// P8.2: what is called stands on the left.
func TestCalls(t *testing.T) {
	is(t, "f x", "app@0[f@0 x@2]")
	is(t, "f x y z", "app@0[app@0[app@0[f@0 x@2] y@4] z@6]")
	is(t, "f (x y)", "app@0[f@0 app@3[x@3 y@5]]")
	is(t, "(f) x", "app@1[f@1 x@4]")
	is(t, "(f x) y", "app@1[app@1[f@1 x@3] y@6]")
	is(t, "f ()", "app@0[f@0 tuple@2[]]")
	is(t, "f[]", "app@0[f@0 Nil@1]")
	is(t, "f let in x end y", "app@0[app@0[f@0 let@2[ in x@9]] y@15]")
	is(t, "1 2", "app@0[1@0 2@2]")
	is(t, `"a" A true`, `app@0[app@0["a"@0 A@4] true@6]`)
	is(t, "f !x ~y", "app@0[app@0[f@0 !@2[x@3]] ~@5[y@6]]")
	is(t, "!f x", "app@0[!@0[f@1] x@3]")
	is(t, "~f x", "app@0[~@0[f@1] x@3]")
	is(t, "!(f x)", "!@0[app@2[f@2 x@4]]")
	is(t, "A 1 2", "app@0[app@0[A@0 1@2] 2@4]")
}

// P8.2: signs ahead of one.
func TestUnary(t *testing.T) {
	is(t, "!x", "!@0[x@1]")
	is(t, "~5", "~@0[5@1]")
	is(t, " ~ 5", "~@1[5@3]")
	is(t, "!!x", "!@0[!@1[x@2]]")
	is(t, "~!~x", "~@0[!@1[~@2[x@3]]]")
	is(t, "~1 + ~2", "+@0[~@0[1@1] ~@5[2@6]]")
	is(t, "1 - ~1", "-@0[1@0 ~@4[1@5]]")
	is(t, "!x := !y", ":=@0[!@0[x@1] !@6[y@7]]")
	is(t, "~[1]", "~@0[app@1[Cons@1 tuple@1[1@2 Nil@1]]]")
	is(t, "!let in x end", "!@0[let@1[ in x@8]]")
}

// P8.1: what is repeated to the left, each sign behind each of its level.
func TestSignsToTheLeft(t *testing.T) {
	for _, level := range [][]string{{"+", "-", "^"}, {"*", "div", "mod"}} {
		for _, a := range level {
			for _, b := range level {
				src := "x " + a + " y " + b + " z"
				is(t, src, fmt.Sprintf("%s@0[%s@0[x@0 y@%d] z@%d]", b, a, strings.Index(src, "y"), strings.Index(src, "z")))
				same(t, src, "(x "+a+" y) "+b+" z")
				differ(t, src, "x "+a+" (y "+b+" z)")
			}
		}
	}
	same(t, "a + b - c ^ d", "((a + b) - c) ^ d")
	same(t, "a * b div c mod d", "((a * b) div c) mod d")
	same(t, "a andalso b andalso c", "(a andalso b) andalso c")
	differ(t, "a andalso b andalso c", "a andalso (b andalso c)")
	same(t, "a orelse b orelse c", "(a orelse b) orelse c")
	differ(t, "a orelse b orelse c", "a orelse (b orelse c)")
	same(t, "f; g; h", "(f; g); h", "((f; g); h)")
	differ(t, "f; g; h", "f; (g; h)")
}

// P8.1: what is repeated to the right.
func TestSignsToTheRight(t *testing.T) {
	is(t, "x := y := z", ":=@0[x@0 :=@5[y@5 z@10]]")
	same(t, "x := y := z", "x := (y := z)")
	differ(t, "x := y := z", "(x := y) := z")
	same(t, "x :: y :: z", "x :: (y :: z)")
	differ(t, "x :: y :: z", "(x :: y) :: z")
	is(t, "(x :: y) :: z", "app@1[Cons@1 tuple@1[app@1[Cons@1 tuple@1[x@1 y@6]] z@12]]")
}

// P8.1: signs that stand once: = <> < <= > >=.
func TestSignsThatStandOnce(t *testing.T) {
	signs := []string{"=", "<>", "<", "<=", ">", ">="}
	for _, a := range signs {
		is(t, "x "+a+" y", fmt.Sprintf("%s@0[x@0 y@%d]", a, len(a)+3))
		for _, b := range signs {
			refuses(t, "x "+a+" y "+b+" z", api.ErrParse, len("x y  ")+len(a))
			read(t, "(x "+a+" y) "+b+" z")
			read(t, "x "+a+" (y "+b+" z)")
			same(t, "x "+a+" y := z "+b+" w", "(x "+a+" y) := (z "+b+" w)")
		}
	}
}

// P8.1: the levels, from the one that holds least to the one that holds most: each holds less than each behind it, on both sides.
func TestLevels(t *testing.T) {
	levels := [][]string{{"orelse"}, {"andalso"}, {":="}, {"=", "<>", "<", "<=", ">", ">="}, {"::"}, {"+", "-", "^"}, {"*", "div", "mod"}, {""}}
	for i, low := range levels {
		for _, high := range levels[i+1:] {
			for _, a := range low {
				for _, b := range high {
					same(t, "x "+a+" y "+b+" z", "x "+a+" (y "+b+" z)")
					same(t, "x "+b+" y "+a+" z", "(x "+b+" y) "+a+" z")
					same(t, "x "+b+" y "+a+" z "+b+" w", "(x "+b+" y) "+a+" (z "+b+" w)")
					differ(t, "x "+a+" y "+b+" z", "(x "+a+" y) "+b+" z")
				}
			}
		}
		for _, a := range low {
			same(t, "!x "+a+" ~y", "(!x) "+a+" (~y)")
			same(t, "x "+a+" y; z "+a+" w", "(x "+a+" y); (z "+a+" w)")
			same(t, "x "+a+" y handle z => v "+a+" w", "(x "+a+" y) handle z => (v "+a+" w)")
			same(t, "if x "+a+" y then x "+a+" z else y "+a+" z", "if (x "+a+" y) then (x "+a+" z) else (y "+a+" z)")
			same(t, "raise x "+a+" y", "raise (x "+a+" y)")
			same(t, "fn x => x "+a+" y", "fn x => (x "+a+" y)")
		}
	}
}

// P8.2: andalso, orelse.
func TestAndOr(t *testing.T) {
	is(t, "a andalso b", "case@0[a@0 of true@0=>b@10 | false@0=>false@0]")
	is(t, "a orelse b", "case@0[a@0 of true@0=>true@0 | false@0=>b@9]")
	is(t, " a orelse b andalso c", "case@1[a@1 of true@1=>true@1 | false@1=>case@10[b@10 of true@10=>c@20 | false@10=>false@10]]")
	is(t, "a andalso b andalso c", "case@0[case@0[a@0 of true@0=>b@10 | false@0=>false@0] of true@0=>c@20 | false@0=>false@0]")
	is(t, "a orelse b orelse c", "case@0[case@0[a@0 of true@0=>true@0 | false@0=>b@9] of true@0=>true@0 | false@0=>c@18]")
	is(t, "(a) andalso b", "case@1[a@1 of true@1=>b@12 | false@1=>false@1]")
	same(t, "a andalso b", "case a of true => b | false => false", "if a then b else false")
	same(t, "a orelse b", "case a of true => true | false => b", "if a then true else b")
}

// P8.2: if, case, fn, raise, handle, and how far each goes.
func TestWordsAhead(t *testing.T) {
	is(t, "if a then b else c", "case@0[a@3 of true@0=>b@10 | false@0=>c@17]")
	is(t, "case a of x => b", "case@0[a@5 of x@10=>b@15]")
	is(t, "case a of | x => b", "case@0[a@5 of x@12=>b@17]")
	is(t, "case a of 1 => b | _ => c", "case@0[a@5 of 1@10=>b@15 | _@19=>c@24]")
	is(t, "fn x => x", "fn@0[x@3=>x@8]")
	is(t, "fn | x => x", "fn@0[x@5=>x@10]")
	is(t, "fn 1 => 2 | x => 3", "fn@0[1@3=>2@8 | x@12=>3@17]")
	is(t, "fn x => fn y => x", "fn@0[x@3=>fn@8[y@11=>x@16]]")
	is(t, "raise x", "raise@0[x@6]")
	is(t, "raise raise x", "raise@0[raise@6[x@12]]")
	is(t, "a handle x => b", "handle@0[a@0 of x@9=>b@14]")
	is(t, "a handle | x => b | y => c", "handle@0[a@0 of x@11=>b@16 | y@20=>c@25]")
	is(t, "(a) handle x => b", "handle@1[a@1 of x@11=>b@16]")
	same(t, "a handle x => b handle y => c | z => d", "a handle x => (b handle y => c | z => d)")
	same(t, "raise a handle x => b", "raise (a handle x => b)")
	same(t, "fn x => a handle y => b", "fn x => (a handle y => b)")
	same(t, "if a then b else c handle x => d", "if a then b else (c handle x => d)")
	same(t, "if a handle x => b then c handle y => d else e", "if (a handle x => b) then (c handle y => d) else e")
	same(t, "if a then if b then c else d else e", "if a then (if b then c else d) else e")
	same(t, "case a of x => case b of y => c | z => d", "case a of x => (case b of y => c | z => d)")
	differ(t, "case a of x => case b of y => c | z => d", "case a of x => (case b of y => c) | z => d")
	same(t, "fn x => fn y => a | z => b", "fn x => (fn y => a | z => b)")
	same(t, "case case a of x => b of y => c", "case (case a of x => b) of y => c")
	same(t, "case fn x => a of y => b", "case (fn x => a) of y => b")
	same(t, "a + b orelse c handle x => d", "((a + b) orelse c) handle x => d")
	same(t, "case a of x => b; c", "(case a of x => b); c")
	same(t, "raise a; b", "(raise a); b")
	same(t, "if a then b else c; d", "(if a then b else c); d")
	same(t, "a handle x => b; c", "(a handle x => b); c")
}

// P8.2: let, and a program with declarations ahead.
func TestLets(t *testing.T) {
	is(t, "let in x end", "let@0[ in x@7]")
	is(t, " let val x = 1 in x end", "let@1[val@5[x@9 = 1@13] in x@18]")
	is(t, "let val x = 1 val y = 2 in x; y end", "let@0[val@4[x@8 = 1@12] val@14[y@18 = 2@22] in let@27[val@27[_@27 = x@27] in y@30]]")
	is(t, "val x = 1 in x", "let@0[val@0[x@4 = 1@8] in x@13]")
	is(t, " val x = 1 val y = 2 in x; y", "let@1[val@1[x@5 = 1@9] val@11[y@15 = 2@19] in let@24[val@24[_@24 = x@24] in y@27]]")
	is(t, "let val x = let in 1 end in x end", "let@0[val@4[x@8 = let@12[ in 1@19]] in x@28]")
	is(t, "(let in x end)", "let@1[ in x@8]")
	is(t, "let in f end x", "app@0[let@0[ in f@7] x@13]")
	same(t, "val x = 1 in x", "let val x = 1 in x end", "(let val x = 1 in x end)")
	same(t, "a; b", "let val _ = a in b end", "val _ = a in b")
	differ(t, "x", "let in x end")
	same(t, "val x = fn y => 1 | z => 2 val w = 3 in x", "val x = (fn y => 1 | z => 2) val w = 3 in x")
	same(t, "val x = a = b in x", "val x = (a = b) in x")
}

// P8.2: val, fun.
func TestValsAndFuns(t *testing.T) {
	is(t, "val (x, y) = z in x", "let@0[val@0[tuple@4[x@5 y@8] = z@13] in x@18]")
	is(t, "val A x = z in x", "let@0[val@0[A@4[x@6] = z@10] in x@15]")
	is(t, "val x :: _ = z in x", "let@0[val@0[Cons@4[tuple@4[x@4 _@9]] = z@13] in x@18]")
	is(t, "fun f x y = z in f", "let@0[fun@0[f@4 = fn@4[x@6=>fn@4[y@8=>z@12]]] in f@17]")
	is(t, "fun f () = 1 and g A ~1 = 2 in f", "let@0[fun@0[f@4 = fn@4[tuple@6[]=>1@11] and g@17 = fn@17[A@19=>fn@17[-1@21=>2@26]]] in f@31]")
	is(t, "fun f (A x) [y] _ 5 = z in f", "let@0[fun@0[f@4 = fn@4[A@7[x@9]=>fn@4[Cons@12[tuple@12[y@13 Nil@12]]=>fn@4[_@16=>fn@4[5@18=>z@22]]]]] in f@27]")
	is(t, "fun f x = 1 fun g y = 2 in f", "let@0[fun@0[f@4 = fn@4[x@6=>1@10]] fun@12[g@16 = fn@16[y@18=>2@22]] in f@27]")
	same(t, "fun f x y = z in f", "fun f x = fn y => z in f")
	differ(t, "fun f A x = z in f", "fun f (A x) = z in f")
	same(t, "fun f x = a handle y => b and g z = c in f", "fun f x = (a handle y => b) and g z = c in f")
	same(t, "fun f x = x = y in f", "fun f x = (x = y) in f")
}

// P8.2: datatype, exception.
func TestDatatypesAndExceptions(t *testing.T) {
	is(t, "datatype t = A in 1", "let@0[data@0[ t = A@13] in 1@18]")
	is(t, "datatype t = A | B of int | C in 1", "let@0[data@0[ t = A@13 | B@17 of int@22 | C@28] in 1@33]")
	is(t, "datatype 'a t = A of 'a in 1", "let@0[data@0['a t = A@16 of 'a@21] in 1@27]")
	is(t, "datatype ('a) t = A in 1", "let@0[data@0['a t = A@18] in 1@23]")
	is(t, "datatype ('a, 'b, 'c) t = A in 1", "let@0[data@0['a 'b 'c t = A@26] in 1@31]")
	is(t, "datatype t = true | Nil of t in 1", "let@0[data@0[ t = true@13 | Nil@20 of t@27] in 1@32]")
	is(t, "exception E in 1", "let@0[exn@0[E@10] in 1@15]")
	is(t, "exception E of int exception F in 1", "let@0[exn@0[E@10 of int@15] exn@19[F@29] in 1@34]")
	is(t, "let datatype t = A exception E of t in A end", "let@0[data@4[ t = A@17] exn@19[E@29 of t@34] in A@39]")
	same(t, "datatype 'a t = A in 1", "datatype ('a) t = A in 1")
}

// P8.2: types.
func TestTypes(t *testing.T) {
	for src, want := range map[string]string{
		"int":                          "int@0",
		"'a":                           "'a@0",
		"(int)":                        "int@1",
		"(('a))":                       "'a@2",
		"int list":                     "list@0[int@0]",
		"'a list":                      "list@0['a@0]",
		"int list ref array":           "array@0[ref@0[list@0[int@0]]]",
		"(int) list":                   "list@1[int@1]",
		"(int list) ref":               "ref@1[list@1[int@1]]",
		"(int, 'a) t":                  "t@0[int@1 'a@6]",
		"(int, 'a, b) t":               "t@0[int@1 'a@6 b@10]",
		"(int, 'a) t list":             "list@0[t@0[int@1 'a@6]]",
		"((int, 'a) t, b) u":           "u@0[t@1[int@2 'a@7] b@14]",
		"(int * b, a -> b) t":          "t@0[tuple@1[int@1 b@7] arrow@10[a@10 b@15]]",
		"int * string":                 "tuple@0[int@0 string@6]",
		"int * string * int":           "tuple@0[int@0 string@6 int@15]",
		"(int * string) * int":         "tuple@1[tuple@1[int@1 string@7] int@17]",
		"int * (string * int)":         "tuple@0[int@0 tuple@7[string@7 int@16]]",
		"int list * b":                 "tuple@0[list@0[int@0] b@11]",
		"a * int list":                 "tuple@0[a@0 list@4[int@4]]",
		"(a * b) list":                 "list@1[tuple@1[a@1 b@5]]",
		"a -> b":                       "arrow@0[a@0 b@5]",
		"a -> b -> c":                  "arrow@0[a@0 arrow@5[b@5 c@10]]",
		"(a -> b) -> c":                "arrow@1[arrow@1[a@1 b@6] c@12]",
		"a * b -> c * d":               "arrow@0[tuple@0[a@0 b@4] tuple@9[c@9 d@13]]",
		"a * (b -> c) * d":             "tuple@0[a@0 arrow@5[b@5 c@10] d@15]",
		"(a -> b) list":                "list@1[arrow@1[a@1 b@6]]",
		"a list -> b ref":              "arrow@0[list@0[a@0] ref@10[b@10]]",
		"(int, a) t -> b":              "arrow@0[t@0[int@1 a@6] b@14]",
		"(int, a) t * b":               "tuple@0[t@0[int@1 a@6] b@13]",
		"((int)) list * (('a)) -> (b)": "arrow@2[tuple@2[list@2[int@2] 'a@17] b@26]",
	} {
		ahead := "exception E of "
		e := shifted(read(t, ahead+src+" in 1"), -len(ahead))
		if got := toldTy(e.Decs[0].Cons[0].Ty); got != want {
			t.Errorf("%s: %s, want %s", src, got, want)
		}
	}
}

// P8.2: patterns.
func TestPatterns(t *testing.T) {
	for src, want := range map[string]string{
		"_":                    "_@0",
		"x":                    "x@0",
		"5":                    "5@0",
		"0":                    "0@0",
		"~5":                   "-5@0",
		"~ 5":                  "-5@0",
		"~0":                   "0@0",
		"A":                    "A@0",
		"true":                 "true@0",
		"A x":                  "A@0[x@2]",
		"A _":                  "A@0[_@2]",
		"A 1":                  "A@0[1@2]",
		"A ~1":                 "A@0[-1@2]",
		"A B":                  "A@0[B@2]",
		"A ()":                 "A@0[tuple@2[]]",
		"A (B x)":              "A@0[B@3[x@5]]",
		"A (x, y)":             "A@0[tuple@2[x@3 y@6]]",
		"A [x]":                "A@0[Cons@2[tuple@2[x@3 Nil@2]]]",
		"A []":                 "A@0[Nil@2]",
		"()":                   "tuple@0[]",
		"(x)":                  "x@1",
		"((A x))":              "A@2[x@4]",
		"(x, y)":               "tuple@0[x@1 y@4]",
		"(x, (y, _), 1)":       "tuple@0[x@1 tuple@4[y@5 _@8] 1@12]",
		"[]":                   "Nil@0",
		"[x]":                  "Cons@0[tuple@0[x@1 Nil@0]]",
		"[x, 1]":               "Cons@0[tuple@0[x@1 Cons@0[tuple@0[1@4 Nil@0]]]]",
		"[A x, y :: z]":        "Cons@0[tuple@0[A@1[x@3] Cons@0[tuple@0[Cons@6[tuple@6[y@6 z@11]] Nil@0]]]]",
		"x :: y":               "Cons@0[tuple@0[x@0 y@5]]",
		"x :: y :: z":          "Cons@0[tuple@0[x@0 Cons@5[tuple@5[y@5 z@10]]]]",
		"(x :: y) :: z":        "Cons@1[tuple@1[Cons@1[tuple@1[x@1 y@6]] z@12]]",
		"A x :: B":             "Cons@0[tuple@0[A@0[x@2] B@7]]",
		"A :: B y":             "Cons@0[tuple@0[A@0 B@5[y@7]]]",
		"~1 :: 2 :: []":        "Cons@0[tuple@0[-1@0 Cons@6[tuple@6[2@6 Nil@11]]]]",
		"(x, y) :: _":          "Cons@0[tuple@0[tuple@0[x@1 y@4] _@10]]",
		"(A)":                  "A@1",
		"~4611686018427387903": "-4611686018427387903@0",
	} {
		ahead := "fn "
		e := shifted(read(t, ahead+src+" => 1"), -len(ahead))
		if got := toldPat(e.Cases[0].P); got != want {
			t.Errorf("%s: %s, want %s", src, got, want)
		}
		same(t, "fn "+src+" => 1", "fn | ("+src+") => 1")
		same(t, "case 1 of _ => 2 | "+src+" => 1", "case 1 of _ => 2 | ("+src+") => 1")
		same(t, "1 handle "+src+" => 1", "1 handle ("+src+") => 1")
		same(t, "val "+src+" = 1 in 1", "val ("+src+") = 1 in 1")
		same(t, "fun f ("+src+") x = 1 in 1", "fun f ("+src+") = fn x => 1 in 1")
		same(t, "fn "+src+" => 1 | [("+src+"), A ("+src+")] => 2", "fn ("+src+") => 1 | ["+src+", A(("+src+"))] => 2")
	}
}
