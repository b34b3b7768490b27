package flat

import (
	"regexp"
	"testing"
)

// unmarked is what a run ended with, without what tells datatypes' instances apart.
func unmarked(end string) string { return regexp.MustCompile("@[0-9]+").ReplaceAllString(end, "") }

// P12.6: what programs put out, and how they end, by hand: before and behind Flatten.
func TestWhatProgramsDo(t *testing.T) {
	for src, want := range map[string]outcome{
		"putc 65": {"done ()", "A"},
		"fun f n = if n = 0 then () else (putc (64 + n); f (n - 1)) in f 3":       {"done ()", "CBA"},
		"fun twice f x = f (f x) in twice (fn n => n + 1) 0":                      {"done 2", ""},
		"(1 div 0) handle Div => 2":                                               {"done 2", ""},
		"1 div 0":                                                                 {"raised Div", ""},
		"fun loop n = loop (n + 1) in loop 0":                                     {"no fuel", ""},
		"case [1, 2] of [] => 0 | x :: _ => x":                                    {"done 1", ""},
		"datatype 'a opt = None | Some of 'a in Some (1, 2)":                      {"done Some (1, 2)", ""},
		"datatype t = A of int in case A 5 of A n => (n, A n)":                    {"done (5, A 5)", ""},
		"datatype t = A | B of int | C | D of int * int in [A, B 1, C, D (2, 3)]": {"done Cons (A, Cons (B 1, Cons (C, Cons (D (2, 3), Nil))))", ""},
		"exception A of int * int in raise A (1, 2)":                              {"raised A (1, 2)", ""},
		"exception A of int * int fun f x = x in raise (f (A (f (1, 2))))":        {"raised A (1, 2)", ""},
		"exception A exception A of int in (raise A 1) handle Div => 3":           {"raised A#1 1", ""},
		"exception A exception B in ((raise A) handle B => 1) handle A => 2":      {"done 2", ""},
		"exception A of int in (raise A 3) handle A 1 => 1 | A 2 => 2":            {"raised A 3", ""},
		"exception A of int in (raise A 3) handle A 1 => 1 | A n => n | Div => 5": {"done 3", ""},
		"(raise Subscript) handle Match => 1 | Size => 2":                         {"raised Subscript", ""},
		"sub (array (3, 4), 3)":                                                   {"raised Subscript", ""},
		"array (0 - 1, 4); ()":                                                    {"raised Size", ""},
		"(1 < 2, 2 < 1, 1 = 1, 1 <> 1, 1 >= 2, 2 <= 2, 3 > 2)":                    {"done (true, false, true, false, false, true, true)", ""},
		"~ (~ 5 - 3)": {"done 8", ""},
		"val r = ref 1 in (r := !r + 1; r := !r * 10; !r)":                            {"done 20", ""},
		"val r = ref (1, 2) val s = r in (r := (3, 4); !s)":                           {"done (3, 4)", ""},
		"val a = array (2, \"x\") in (update (a, 1, \"y\"); sub (a, 0) ^ sub (a, 1))": {"done \"xy\"", ""},

		// What is done first stays first.
		"(putc 65, (putc 66, putc 67), putc 68)":                                              {"done ((), ((), ()), ())", "ABCD"},
		"[putc 65, putc 66]; putc 67":                                                         {"done ()", "ABC"},
		"datatype 'a o = S of 'a | N in S (putc 65, (putc 66; 1)); putc 67":                   {"done ()", "ABC"},
		"datatype 'a o = S of 'a | N fun f x = (putc 67; x) in S (f (putc 65, (putc 66; 1)))": {"done S ((), 1)", "ABC"},
		"(putc 65; 7) div (putc 66; 0)":                                                       {"raised Div", "AB"},
		"(putc 65; ref 1) := (putc 66; 2)":                                                    {"done ()", "AB"},
		"update ((putc 65; array (1, 1)), (putc 66; 5), (putc 67; 2))":                        {"raised Subscript", "ABC"},
		"array ((putc 65; 0 - 1), (putc 66; 1)); ()":                                          {"raised Size", "AB"},
		"(1 div 0, putc 65)":                                                                  {"raised Div", ""},
		"case (putc 65, putc 66) of (a, b) => putc 67":                                        {"done ()", "ABC"},
		"val r = ref 1 in (!r, (r := 2; !r), !r)":                                             {"done (1, 2, 2)", ""},
		"val x = (putc 65; 1) val y = (putc 66; 2) in (putc 67; x + y)":                       {"done 3", "ABC"},

		// Ways: the first one that fits.
		"fun f x = case x of (0, _) => 1 | (_, 0) => 2 | (1, n) => n | (n, _) => n in (f (0, 0), f (5, 0), f (1, 9), f (8, 7), f (0, 5))":                                                                                  {"done (1, 2, 9, 8, 1)", ""},
		"datatype t = L | N of t * int * t fun f x = case x of N (L, a, N (_, b, _)) => a * 10 + b | N (N _, a, L) => a | L => 0 | _ => 7 in (f L, f (N (L, 1, N (L, 2, L))), f (N (L, 3, L)), f (N (N (L, 1, L), 4, L)))": {"done (0, 12, 7, 4)", ""},
		"datatype 'a o = N | S of 'a fun f x = case x of S (1, b) => (b, b) | S p => p | N => (0, 0) in (f N, f (S (1, 2)), f (S (3, 4)))":                                                                                 {"done ((0, 0), (2, 2), (3, 4))", ""},
		"fun f x = case x of [] => 0 | [a] => a | [a, b] => a * 10 + b | a :: b :: c :: _ => c in (f [], f [1], f [1, 2], f [1, 2, 3], f [1, 2, 4, 5])":                                                                    {"done (0, 1, 12, 3, 4)", ""},
		"fun f s = case s of (t, 1) => t ^ t | (t, _) => t in (f (\"a\", 1), f (\"a\", 2))":                                                                                                                                {"done (\"aa\", \"a\")", ""},
		"fun f x = case x of 4611686018427387903 => 1 | 0 => 2 | _ => 3 in (f 4611686018427387903, f 0, f (0 - 1), f (4611686018427387903 + 1))":                                                                           {"done (1, 2, 3, 3)", ""},
	} {
		p := written(t, src)
		c := paired(t, src, p, Flatten(p), nil)
		sound(t, src, c.x)
		o := does(t, src, c, "abc")
		if o.end = unmarked(o.end); o != want {
			t.Errorf("%s: %q", src, o)
		}
	}
}
