package mono

import (
	"strings"
	"testing"

	"bellows/api"
)

// P10.6: what programs put out, and how they end, by hand: before and behind Mono.
func TestWhatProgramsDo(t *testing.T) {
	for src, want := range map[string]outcome{
		"putc 65": {"done ()", "A"},
		"fun f n = if n = 0 then () else (putc (64 + n); f (n - 1)) in f 3": {"done ()", "CBA"},
		"val x = (putc 65; 1) in 2":                                         {"done 2", "A"},
		"val x = (putc 65; 1) in (x, x)":                                    {"done (1, 1)", "A"},
		"val x = (putc 65; fn y => y) in (x 1, x 2)":                        {"done (1, 2)", "A"},
		"val x = putc 65 val y = putc 66 val z = putc 67 in y":              {"done ()", "ABC"},
		"val x = raise Div in 2":                                            {"raised Div", ""},
		"val x = fn y => raise Div in 2":                                    {"done 2", ""},
		"val f = fn x => (putc 65; x) in (f 1, f \"\", f 2)":                {"done (1, \"\", 2)", "AAA"},
		"fun f x = (putc 65; x) in (f 1, f \"\", f 2)":                      {"done (1, \"\", 2)", "AAA"},
		"val r = ref 1 fun f x = (r := !r + 1; x) in (f 1; f \"\"; !r)":     {"done 3", ""},
		"fun f x = let val r = ref x in (r := x; r) end in (f 1, f \"\")":   {"done (ref 1, ref \"\")", ""},
		"fun f x = let val r = (putc 65; x) in 1 end in (f 1, f \"\")":      {"done (1, 1)", "AA"},
		"val n = [] in (1 :: n, \"\" :: n)":                                 {"done (Cons (1, Nil), Cons (\"\", Nil))", ""},
		"fun map f l = case l of [] => [] | x :: r => f x :: map f r in (map (fn x => x + 1) [1, 2], map (fn x => [x]) [\"a\"])":                    {"done (Cons (2, Cons (3, Nil)), Cons (Cons (\"a\", Nil), Nil))", ""},
		"datatype 'a t = A | B of 'a * 'a t fun len t = case t of A => 0 | B (_, r) => 1 + len r in (len (B (1, A)), len (B (A, B (A, A))), len A)": {"done (1, 2, 0)", ""},
		"exception E of int exception E of int in (raise E 1) handle E x => x + 1":                                                                  {"done 2", ""},
		"fun f x = ((raise x) handle Div => 1) in (f Div; f Match)":                                                                                 {"raised Match", ""},
		"fun even n = if n = 0 then true else odd (n - 1) and odd n = if n = 0 then false else even (n - 1) in (even 4, odd 4)":                     {"done (true, false)", ""},
		"(getc (), getc (), getc ())":                {"done (97, 98, -1)", ""},
		"fun loop x = loop x in (loop 1; loop \"\")": {"no fuel", ""},
	} {
		p := elaborated(t, src)
		q := checked(t, src, Instances(p))
		if got := run(p.Main, "ab", 4000); got != want {
			t.Errorf("%s: %q, want %q", src, got, want)
		}
		if got := run(q.Main, "ab", 4000); got != want {
			t.Errorf("what %s is written as: %q, want %q", src, got, want)
		}
	}
}

// does looks that an answer does what its program does, as far as that is known.
func does(t *testing.T, src string, p, q api.Prog, in string) outcome {
	t.Helper()
	a := run(p.Main, in, 2000)
	b := run(q.Main, in, 20000) // each step of p's is at most a few of q's: a KLet may be several
	if a.end == "no fuel" {
		if !strings.HasPrefix(b.out, a.out) {
			t.Fatalf("%s: %q, %q", src, a, b)
		}
	} else if a != b || strings.HasPrefix(a.end, "stuck") {
		t.Fatalf("%s: %q, %q", src, a, b)
	}
	return a
}
