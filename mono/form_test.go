package mono

import (
	"strings"
	"testing"

	"bellows/api"
)

// P10.2: what has no type variables stays as it is, but for numbers: each kind of core, each kind of pattern.
func TestWhatStaysAsItIs(t *testing.T) {
	for _, src := range []string{
		"7", "\"a text\"", "()", "(1, \"\", true)", "fn x => (x, x)", "(fn x => x + 1) 2", "raise Div", "Match",
		"fn x => case x of 0 => 1 | ~3 => 2 | _ => 3",
		"fn (x, (y, _)) => (y, x)", "fn true => 1 | false => 2",
		"1 handle Div => 2 | Size => 3 | x => raise x",
		"exception E of int * string in (raise E (1, \"\")) handle E (x, y) => (print y; x)",
		"datatype t = A | B of t * int in case B (A, 1) of A => 1 | B (B _, 2) => 3 | B (x, y) => y",
		"datatype t = A of int -> t | B in A (fn x => B)",
		"(print \"a\"; putc 65; getc (); size \"\"; byte (\"\", 0); cmp (\"\", \"\"))",
		"val x = ref 1 in (x := !x + 1; !x)",
		"val x = array (3, \"\") in (update (x, 1, sub (x, 0) ^ \"\"); length x)",
		"(1 + 2 - 3 * 4 div 5 mod 6, 1 < 2, 1 <= 2, 1 > 2, 1 >= 2, 1 = 2, 1 <> 2, ~ 1)",
		"val x = 1 + 1 val y = x fun f z = if z = 0 then x + y else g (z - 1) and g z = f z in (f 1, g 2)",
	} {
		p := elaborated(t, src)
		q := checked(t, src, Instances(p))
		if got, want := toldMain(q), toldMain(p); got != want {
			t.Errorf("%s:\n%s, want\n%s", src, got, want)
		}
	}
}

// P10.2: a KLet of several is several KLets, a KFix one, with a function for each instance.
func TestWhatHasSeveralInstances(t *testing.T) {
	uses := ""
	for i, more := range []string{"f 1", "f \"\"", "f ()", "f f"} { // that f is reached at () as well, and at () -> ()
		n := i + 1
		uses += ", " + more
		q := checked(t, "val f = fn x => x in (1"+uses+")", 2+n).Main
		got := 0
		for ; q.Kind == api.KLet; q = q.L[0] {
			got++
		}
		if got != n || q.Kind != api.KTuple {
			t.Error(uses, got)
		}
		if q := checked(t, "fun f x = x in (1"+uses+")", 2+n).Main; q.Kind != api.KFix || len(q.Funs) != n || q.L[0].Kind != api.KTuple {
			t.Error(uses, len(q.Funs))
		}
	}
	q := checked(t, "val x = (fn y => y, []) fun f y = case x of (g, l) => g y in (f 1, f \"\")", 7).Main
	if q.Kind != api.KLet || q.L[0].Kind != api.KLet || q.L[0].L[0].Kind != api.KFix || len(q.L[0].L[0].Funs) != 2 {
		t.Error(newTeller().core(q))
	}
}

// P10.2: a datatype's type is its instance's name alone, wherever it stands.
func TestTypesOfDatatypes(t *testing.T) {
	writes(t, 2, "fun f x = [x] in f 1", "list@A = Nil@A | Cons@A of (int, list@A); fix a: (int -> list@A) = fn b(case(b) {c => Cons@A((c, Nil@A))}) in app(a, 1)")
	writes(t, 2, "datatype ('a, 'b) t = A of 'b | B of 'a list ref * int array in B (ref [\"\"], array (0, 1)); fn x => x",
		"list@B = Nil@B | Cons@B of (string, list@B); t@A = A@A of () | B@A of (ref[list@B], array[int]); case(B@A((`ref(Cons@B((\"\", Nil@B))), `array(0, 1)))) {_ => fn a(case(a) {b => b})}")
	writes(t, 1, "fn [x] => x + 1 | _ => 2", "list@A = Nil@A | Cons@A of (int, list@A); fn a(case(a) {Cons@A((b, Nil@A)) => `+(b, 1); _ => 2})")
	writes(t, 1, "datatype t = A in fn A => A", "t = A; fn a(case(a) {A => A})")
	q := checked(t, "fn (x, l) => case l of [] => [(x, 1)] | _ => l", 3)
	if s := toldT(q.Main.T); strings.Count(s, "@") != 2 || strings.Contains(s, "[") {
		t.Error(s)
	}
}

// P10.2: in each copy type variables are what its row says, also of what is around it.
func TestTypesInEachCopy(t *testing.T) {
	writes(t, 2, "fun f x = let fun g y = (y, x) in g 1 end in f \"\"",
		"fix a: (string -> (int, string)) = fn b(case(b) {c => fix d: (int -> (int, string)) = fn e(case(e) {f => (f, c)}) in app(d, 1)}) in app(a, \"\")")
	writes(t, 2, "fun f x y = x fun g x = f x x in g 1",
		"fix a: (int -> (int -> int)) = fn b(case(b) {c => fn d(case(d) {e => c})}) in fix f: (int -> int) = fn g(case(g) {h => app(app(a, h), h)}) in app(f, 1)")
	writes(t, 1, "fun f x = case x of (y, z) => fn w => (w, y) in f (1, \"\") ()",
		"fix a: ((int, string) -> (() -> ((), int))) = fn b(case(b) {c => case(c) {(d, e) => fn f(case(f) {g => (g, d)})}}) in app(app(a, (1, \"\")), ())")
	writes(t, 1, "fun f x = (x handle Div => x | y => raise y) in f 1", "fix a: (int -> int) = fn b(case(b) {c => handle(c) d {Div => c; e => raise(e)}}) in app(a, 1)")
}
