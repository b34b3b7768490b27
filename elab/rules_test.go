package elab

import (
	"strings"
	"testing"

	"bellows/api"
)

// P9.4: a type's name has as many types as it needs.
func TestHowManyTypesANameNeeds(t *testing.T) {
	for _, ty := range []string{"int int", "int string", "int exn", "int bool", "list", "ref", "array", "(int, int) list", "(int, int) ref", "(int, string) array", "list list", "int t", "(int, int) t", "u", "(int, int) u", "v", "int v", "(int, int, int) v", "int -> list", "string * ref", "(int -> u) list", "(int, list) v"} {
		ahead := "datatype t = T datatype 'a u = U datatype ('a, 'b) v = V "
		illTyped(t, ahead+"datatype w = W of "+ty+" in 1", ahead+"exception E of "+ty+" in 1", ahead+"datatype 'a w = W | X of int * ("+ty+") in 1", "fn x => let "+ahead+"exception E of "+ty+" in 1 end")
	}
	for _, ty := range []string{"int", "int list", "int ref", "int array", "t", "t u", "(int, t) v", "(t u, (int, int -> t) v) v", "int -> string -> t", "(int * t) list * t u", "exn", "bool", "string"} {
		has(t, "int", "datatype t = T datatype 'a u = U datatype ('a, 'b) v = V datatype w = W of "+ty+" exception E of "+ty+" in 1")
	}
}

// P9.4: in its constructors' types a datatype stands with its Params alone, in their order.
func TestDatatypesAreRegular(t *testing.T) {
	illTyped(t, "datatype 'a t = A of int t in 1", "datatype 'a t = A of 'a t t in 1", "datatype 'a t = A of ('a * 'a) t in 1", "datatype 'a t = A of 'a list t in 1", "datatype 'a t = A of 'a t list t in 1",
		"datatype ('a, 'b) t = A of ('b, 'a) t in 1", "datatype ('a, 'b) t = A of ('a, 'a) t in 1", "datatype ('a, 'b) t = A of ('a, int) t in 1", "datatype ('a, 'b) t = A of ('a, 'b) t | B of (('a, 'b) t, 'b) t in 1",
		"datatype 'a t = A | B of 'a | C of int * (string -> int t) in 1", "datatype 'a u = B datatype 'a t = A of 'a u t in 1", "datatype 'a t = A of (int t) list in 1", "let datatype 'a t = A of int t in 1 end",
		"datatype t = A of int t in 1", "datatype 'a t = A of t in 1", "datatype 'a list = N | C of 'a * int list in 1", "datatype 'a t = A of ('a -> 'a) t in 1", "datatype 'a t = A of 'a datatype 'a t = B of int t in 1")
	has(t, "int", "datatype 'a t = A of 'a t in 1", "datatype t = A of t in 1", "datatype ('a, 'b) t = A of ('a, 'b) t in 1", "datatype 'a t = A of 'a t list in 1", "datatype 'a t = A of 'a t -> 'a t in 1", "datatype 'a t = A of 'a t * 'a t ref | B of 'a in 1",
		"datatype 'a t = A of 'a datatype 'a u = B of int t | C of ('a u) t in 1", "datatype 'a t = A of 'a exception E of int t in 1", "datatype 'a u = U of 'a datatype 'a t = A of ('a t) u | B of (int * 'a t) u in 1", "datatype 'a t = A of 'a in let datatype u = B of int t in 1 end", "datatype 'a list = N | C of 'a * 'a list in 1")
	has(t, "int tree", "datatype 'a tree = Leaf | Node of 'a tree * 'a * 'a tree fun add x t = case t of Leaf => Node (Leaf, x, Leaf) | Node (l, y, r) => if x < y then Node (add x l, y, r) else Node (l, y, add x r) in add 1 (add 2 Leaf)")
	has(t, "int rose", "datatype 'a rose = Rose of 'a * 'a rose list in Rose (1, [Rose (2, [])])")
}

// P9.4: a constructor that has something stands with it in a pattern, one that has nothing without.
func TestWhatConstructorsHaveInPatterns(t *testing.T) {
	ahead := "datatype t = A | B of int | C of int * int exception E exception F of int in "
	illTyped(t, ahead+"fn A x => 1 | _ => 2", ahead+"fn B => 1 | _ => 2", ahead+"fn C => 1 | _ => 2", ahead+"fn (A, B) => 1 | _ => 2", ahead+"fn (A _, _) => 1 | _ => 2", ahead+"1 handle E x => 1", ahead+"1 handle F => 1", ahead+"1 handle Div () => 1",
		"fn Nil x => 1 | _ => 2", "fn Cons => 1 | _ => 2", "fn true x => 1 | _ => 2", "fn false () => 1 | _ => 2", "val Cons = [] in 1", "val true () = true in 1", ahead+"fn B (x, y) => 1 | _ => 2", ahead+"fn C x => x + 1 | _ => 2", ahead+"fn C (x, y, z) => 1 | _ => 2", ahead+"fn B true => 1 | _ => 2", "fn x :: 1 => 1 | _ => 2")
	has(t, "(t -> int)", ahead+"fn A => 1 | B x => x | C (x, y) => x + y", ahead+"fn B x => x | C _ => 1 | A => 2", ahead+"fn C p => (case p of (x, _) => x) | _ => 1")
	has(t, "int", ahead+"1 handle E => 2 | F x => x")
}

// P9.4: constructors alone are functions of what they have, and nothing is put to those that have nothing.
func TestWhatConstructorsHaveInExpressions(t *testing.T) {
	ahead := "datatype 'a t = A | B of 'a | C of int * 'a exception F of int in "
	illTyped(t, ahead+"A 1", ahead+"B + 1", ahead+"C 1", ahead+"C (\"\", 1)", ahead+"C (1, 2, 3)", ahead+"B 1 2", ahead+"F \"\"", ahead+"raise F", "Nil ()", "Cons 1", "true ()", "Match 1", ahead+"B :: [A]", ahead+"[B 1, B \"\"]")
	has(t, "(int t * (() -> () t) * ((int * ()) -> () t) * (int -> exn))", ahead+"(B 1, B, C, F)")
	has(t, "((() * () list) -> () list)", "Cons")
	has(t, "(int list * string list)", "val c = Cons in (c (1, []), c (\"\", []))")
	has(t, "int t list", ahead+"let fun map f l = case l of [] => [] | x :: r => f x :: map f r in map B [1, 2] end")
	has(t, "int t t t", ahead+"B (B (B 1))", ahead+"B (C (1, B 2))")
}

// everyForm are programs in which patterns of a type stand in each form whose ways must be exhaustive.
func everyForm(ways string) []string {
	return []string{
		"fn " + ways,
		"fn x => case x of " + ways,
		"fn x => (fn " + ways + ") x",
		"val f = fn " + ways + " in 1",
		"fun f x = case x of " + ways + " in 1",
		"fun f x = (fn " + ways + ") x in 1",
		"1 handle _ => (fn x => case x of " + ways + "; 2)",
		"val x = (1, [fn " + ways + "]) in 1",
		"if true then 1 else let val f = fn " + ways + " in 2 end",
	}
}

// P9.4: ways that aren't exhaustive, in each form.
func TestWaysThatAreNotExhaustive(t *testing.T) {
	ahead := "datatype u = M | N of bool datatype t = A | B of int | C of u * u datatype 'a o = None | Some of 'a exception E of int in "
	for _, ways := range []string{
		"0 => 1", "0 => 1 | 1 => 2 | ~1 => 3", "4611686018427387903 => 1", "(0, x) => 1", "(x, 0) => 1 | (0, x) => 2", "(0, 0) => 1 | (0, _) => 2", "[0] => 1 | [] => 2 | _ :: _ :: _ => 3", "x :: 0 :: y => 1 | _ :: [] => 2 | [] => 3",
		"Div => 1", "Div => 1 | Match => 2 | Subscript => 3 | Size => 4", "E _ => 1", "E x => 1 | Div => 2", "(Div, x) => 1", "E 0 => 1 | E _ => 2 | Match => 3 | Div => 4 | Subscript => 5 | Size => 6",
		"true => 1", "false => 1", "(true, _) => 1 | (false, true) => 2", "(true, true) => 1 | (false, false) => 2", "(true, _) => 1 | (_, true) => 2", "(true, true) => 1 | (true, false) => 2 | (false, true) => 3",
		"[] => 1", "x :: y => 1", "[x] => 1", "[] => 1 | [x] => 2", "[] => 1 | [x] => 2 | [x, y] => 3", "[] => 1 | x :: [] => 2 | x :: y :: [] => 3", "[] => 1 | true :: _ => 2", "[] => 1 | [_] => 2 | _ :: true :: _ => 3 | _ :: false :: true :: _ => 4",
		"A => 1", "A => 1 | B _ => 2", "B _ => 1 | C _ => 2", "A => 1 | B 0 => 2 | C _ => 3", "A => 1 | B _ => 2 | C (M, _) => 3", "A => 1 | B _ => 2 | C (M, _) => 3 | C (N true, _) => 4", "A => 1 | B _ => 2 | C (M, _) => 3 | C (N true, _) => 4 | C (N false, N _) => 5", "A => 1 | B _ => 2 | C (M, N true) => 3 | C (N _, _) => 4 | C (M, M) => 5",
		"None => 1", "Some _ => 1", "None => 1 | Some None => 2", "None => 1 | Some (Some None) => 2 | Some None => 3", "Some A => 1 | None => 2", "None => 1 | Some (x, true) => 2", "(None, Some _) => 1 | (Some _, None) => 2 | (None, None) => 3",
		"(A, M) => 1 | (B _, _) => 2 | (C _, _) => 3", "((A, _), _) => 1 | ((B _, _), _) => 2 | ((C _, x), true) => 3",
	} {
		for _, form := range everyForm(ways) {
			illTyped(t, ahead+inside(form))
		}
		if !strings.Contains(ways, "|") {
			p, _, _ := strings.Cut(ways, " => ")
			illTyped(t, ahead+"let fun f ("+p+") = 1 in 1 end", ahead+"let fun f x ("+p+") y = 1 in 1 end", ahead+"fn x => let val ("+p+") = x in 1 end", ahead+"let fun g x = x and f ("+p+") = 1 in 1 end")
		}
	}
	illTyped(t, "val 0 = 0 in 1", "val true = true in 1", "val [] = [] in 1", "val x :: y = [1] in x", "val [x, y] = [1, 2] in x", "val (0, x) = (0, 1) in x", "val Div = Div in 1", "fun f 0 = 1 in f", "fun f [] = 1 in f", "fun f true = 1 in f", "fun f x 0 = 1 in f", "case 1 of 0 => 1", "case [] of [] => 0", "case \"a\" of 0 => 1", "if 1 then 2 else 3")
}

// P9.4: ways that are exhaustive, with types that the patterns don't take apart.
func TestWaysThatAreExhaustive(t *testing.T) {
	ahead := "datatype u = M | N of bool datatype t = A | B of int | C of u * u datatype 'a o = None | Some of 'a datatype v = V of int datatype e = L of e exception E of int in "
	for _, ways := range []string{
		"x => 1", "_ => 1", "0 => 1 | _ => 2", "0 => 1 | x => 2 | 1 => 3", "(0, _) => 1 | (_, 0) => 2 | _ => 3", "Div => 1 | x => 2", "E 0 => 1 | _ => 2", "() => 1", "(x, y) => 1", "((x, _), ()) => 1",
		"true => 1 | false => 2", "false => 1 | true => 2 | true => 3", "(true, _) => 1 | (false, true) => 2 | (false, false) => 3", "(true, true) => 1 | (_, false) => 2 | (false, _) => 3",
		"[] => 1 | _ :: _ => 2", "x :: y => 1 | Nil => 2", "[] => 1 | [x] => 2 | x :: y :: z => 3", "[] => 1 | [true] => 2 | false :: _ => 3 | true :: _ :: _ => 4", "[0] => 1 | x :: _ => 2 | [] => 3",
		"A => 1 | B _ => 2 | C _ => 3", "A => 1 | B 0 => 2 | B n => 3 | C (M, x) => 4 | C (N true, _) => 5 | C (_, M) => 6 | C (_, N _) => 7", "C (M, M) => 1 | C (M, N _) => 2 | C (N true, _) => 3 | C (N false, _) => 4 | A => 5 | B _ => 6",
		"None => 1 | Some None => 2 | Some (Some x) => 3", "(None, Some _) => 1 | (Some _, None) => 2 | (None, None) => 3 | (Some x, Some y) => 4", "V x => 1", "V 0 => 1 | V _ => 2", "L x => 1", "L (L x) => 1", "L (L (L _)) => 1 | L (L _) => 2",
		"[None] => 1 | [Some A] => 2 | [Some (B _)] => 3 | [Some (C _)] => 4 | [] => 5 | _ :: _ :: _ => 6",
	} {
		for _, form := range everyForm(ways) {
			elaborated(t, ahead+inside(form))
		}
		if !strings.Contains(ways, "|") {
			p, _, _ := strings.Cut(ways, " => ")
			elaborated(t, ahead+"let fun f ("+p+") = 1 in 1 end")
			elaborated(t, ahead+"let fun f x ("+p+") y = 1 in 1 end")
			elaborated(t, ahead+"fn x => let val ("+p+") = x in 1 end")
		}
	}
	for _, p := range []string{"x", "_"} { // values that patterns can't name
		has(t, "int", "case \"a\" of "+p+" => 1", "case ref 1 of "+p+" => 1", "case array (1, 1) of "+p+" => 1", "case fn x => x of "+p+" => 1")
	}
	has(t, "(string -> int)", "fn x => size x")
}

// P9.4: of a handle no way needs to fit.
func TestHandlesNeedNotBeExhaustive(t *testing.T) {
	has(t, "int", "1 handle Div => 2", "exception E of int * bool in 1 handle E (0, true) => 2", "1 handle Match => 2 | Size => 3", "1 handle Div => 1 | _ => 2", "1 handle x => 2")
	illTyped(t, "1 handle Div => (case 1 of 0 => 2)", "(case 1 of 0 => 2) handle _ => 1", "1 handle x => (fn Div => 1) x", "(fn 0 => 1) 0 handle Match => 2")
}

// P9.4: of two errors ErrScope, wherever it stands, goes ahead.
func TestNamesAreAskedFirst(t *testing.T) {
	for _, wrong := range []string{"1 + true", "case 1 of 0 => 1", "fn x => x x", "let datatype 'a t = A of int t in 1 end", "let datatype t = A of int int in 1 end", "fn true x => 1", "[1, \"\"]", "1 2", "1 handle 1 => 2"} {
		illTyped(t, wrong, "("+wrong+"; "+wrong+")")
		unknownAt(t, "("+wrong+"; @x)", "(@x; "+wrong+")", "let val y = "+wrong+" in @A end", "let fun f (x, @x) = y in ("+wrong+") end", "let fun f y = ("+wrong+") and @f x = 1 in 1 end", "(let datatype t = A of @u in 1 end; ("+wrong+"))", "(("+wrong+") (fn (@B, x, x) => 1))")
	}
	unknownAt(t, "datatype t = A of (int, @'a) list in 1", "datatype 'a t = A of @u t in 1", "fn true @A => 1", "fn (true x, @x) => 1", "fn Nil (@A, B) => 1")
	refuses(t, api.ErrType, 0, "   1 + true")
}
