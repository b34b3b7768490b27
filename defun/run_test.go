package defun

import "testing"

// P11.4: what programs put out, and how they end, by hand: before and behind Defun.
func TestWhatProgramsDo(t *testing.T) {
	for src, want := range map[string]outcome{
		"putc 65": {"done ()", "A"},
		"fun f n = if n = 0 then () else (putc (64 + n); f (n - 1)) in f 3": {"done ()", "CBA"},
		"fun twice f x = f (f x) in twice (fn n => n + 1) 0":                {"done 2", ""},
		"fun id x = x in (id 1, id true)":                                   {"done (1, true)", ""},
		"(1 div 0) handle Div => 2":                                         {"done 2", ""},
		"fun loop n = loop (n + 1) in loop 0":                               {"no fuel", ""},

		// What is done first stays first: the function, then what it is called with.
		"(putc 65; fn x => putc 68) (putc 66; putc 67)":                           {"done ()", "ABCD"},
		"fun f x y = putc 68 in (putc 65; f (putc 66)) (putc 67)":                 {"done ()", "ABCD"},
		"fun f x = (putc 66; fn y => putc 68) in f (putc 65) (putc 67)":           {"done ()", "ABCD"},
		"((putc 65; fn x => x), (putc 66; fn x => x), putc 67); ()":               {"done ()", "ABC"},
		"val f = (putc 65; fn x => (putc 67; x)) in (putc 66; f 1 + f 2)":         {"done 3", "ABCC"},
		"val f = let val a = (putc 65; 1) in fn x => (putc 66; x + a) end in f 1": {"done 2", "AB"},
		"(raise Div) (putc 65)":         {"raised Div", ""},
		"(fn x => putc 65) (raise Div)": {"raised Div", ""},
		"(print \"a\"; fn x => raise Size) (print \"b\"; 1) handle Size => print \"c\"": {"done ()", "abc"},

		// What functions know is what it was where they were made.
		"fun f x = fn y => x * 10 + y val g = f 1 val h = f 2 in (g 3, h 4, g 5)":                                                    {"done (13, 24, 15)", ""},
		"fun f x y z w = x * 1000 + y * 100 + z * 10 + w in (f 1 2 3 4, f 5 6 7 8)":                                                  {"done (1234, 5678)", ""},
		"val r = ref 1 val f = fn x => (r := !r + x; !r) in (f 1, f 10, !r)":                                                         {"done (2, 12, 12)", ""},
		"fun new () = let val r = ref 0 in fn () => (r := !r + 1; !r) end val a = new () val b = new () in (a (), a (), b (), a ())": {"done (1, 2, 1, 3)", ""},
		"fun f n = let fun g m = if m = 0 then n else f (m - 1) in if n = 0 then 5 else g (n - 1) + g 0 end in f 3":                  {"done 5", ""},
		"fun f n k = if n = 0 then k 0 else f (n - 1) (fn x => k (x * 10 + n)) in f 4 (fn x => x)":                                   {"done 1234", ""},
		"val x = 1 fun f y = let val x = 2 fun g z = x * 100 + y * 10 + z in g end in (f 3 4, x)":                                    {"done (234, 1)", ""},

		// Functions in tuples, constructors, refs and arrays.
		"case (fn x => x + 1, fn x => x * 2) of (f, g) => (f 5, g 5, f (g 5), g (f 5))":                                                            {"done (6, 10, 11, 12)", ""},
		"fun map f l = case l of [] => [] | x :: r => f x :: map f r in map (fn f => f 3) [fn x => x + 1, fn x => x * 2, fn x => 0]":               {"done Cons (4, Cons (6, Cons (0, Nil)))", ""},
		"datatype t = A of int -> int | B in ((fn A f => f 1 | B => 0) (A (fn x => x + 5)), (fn A f => f 1 | B => 0) B)":                           {"done (6, 0)", ""},
		"val r = ref (fn x => x) fun f n = if n = 0 then 1 else n * !r (n - 1) in (r := f; f 5)":                                                   {"done 120", ""},
		"val a = array (3, fn x => 0) in (update (a, 1, fn x => x + 1); update (a, 2, fn x => x + 2); (sub (a, 0) 7, sub (a, 1) 7, sub (a, 2) 7))": {"done (0, 8, 9)", ""},
		"datatype d = D of d -> int fun f x = case x of D g => 3 in f (D f)":                                                                       {"done 3", ""},
		"datatype d = D of d -> int fun f x = case x of D g => g x in f (D f)":                                                                     {"no fuel", ""},
		"datatype d = D of (d -> int -> int) in case D (fn d => fn n => if n = 0 then 7 else case d of D f => f d (n - 1)) of D f => f (D f) 4":    {"done 7", ""},

		// Functions that are thrown, handlers.
		"exception E of int -> int in ((raise E (fn x => x + 1)) handle E f => f 4)":                                         {"done 5", ""},
		"exception E of int -> int fun f x = raise E (fn y => x * y) in (f 3 handle E g => g 4) + (f 5 handle E g => g 6)":   {"done 42", ""},
		"exception E of int -> int in raise E (fn x => x)":                                                                   {"raised E fn", ""},
		"val y = 1 + 1 in (putc 65; y div 0) handle Div => (putc 66; y)":                                                     {"done 2", "AB"},
		"fun f n = (if n = 0 then raise Div else f (n - 1)) handle Div => (putc (65 + n); raise Div) in f 3 handle Div => 9": {"done 9", "ABCD"},
		"(((raise Match) handle Div => 1) handle Match => 2) + 10":                                                           {"done 12", ""},
		"((1 div 0) handle Match => 1) handle Size => 2":                                                                     {"raised Div", ""},
		"val f = (fn x => x + 1) handle Div => (fn x => x) in f 1":                                                           {"done 2", ""},
		"((raise Size) handle Size => fn x => x + 1) 5":                                                                      {"done 6", ""},
		"val a = 1 + 1 val f = fn x => x + a in (let val b = f a in (b div 0; b) end) handle Div => f (f a) | x => raise x":  {"done 6", ""},
		"fun g h = (h ()) handle Div => 1 | Match => 2 in (g (fn () => 1 div 0), g (fn () => raise Match), g (fn () => 3))":  {"done (1, 2, 3)", ""},

		// Several functions at one place.
		"fun f n = if n mod 2 = 0 then fn x => x + n else fn x => x - n in (f 1 10, f 2 10, f 3 10)":                                               {"done (9, 12, 7)", ""},
		"fun comp f g x = f (g x) in comp (comp (fn x => x + 1) (fn x => x * 2)) (fn x => x - 3) 10":                                               {"done 15", ""},
		"fun id x = x in id id id (fn x => x + 1) (id 1)":                                                                                          {"done 2", ""},
		"fun even n = n = 0 orelse odd (n - 1) and odd n = n <> 0 andalso even (n - 1) in ([even, odd]; if even 4 then odd else even) 3":           {"done true", ""},
		"fun fold f a l = case l of [] => a | x :: r => fold f (f (a, x)) r in fold (fn (f, x) => fn y => f (y * 10 + x)) (fn y => y) [1, 2, 3] 4": {"done 4321", ""},

		// Reckonings as functions.
		"fun a f x = f x in (a size \"abc\", a print \"d\", a (fn x => putc x) 65, a getc (), !(a ref 5), a length (array (4, 0)))": {"done (3, (), (), 97, 5, 4)", "dA"},
		"datatype 'a o = None | Some of 'a fun map f l = case l of [] => [] | x :: r => f x :: map f r in map Some [1, 2]":          {"done Cons (Some@7 1, Cons (Some@7 2, Nil))", ""},
	} {
		c := checked(t, src)
		want.end = unmarked(want.end)
		for _, got := range []outcome{run(c.p.Main, nil, "ab", 4000), runFirst(c.x, "ab", 20000)} {
			if got.end = unmarked(got.end); got != want {
				t.Errorf("%s: %q, want %q", src, got, want)
			}
		}
	}
}
