package elab

import (
	"strings"
	"testing"

	"bellows/api"
)

// P9.1: variables, constructors, types that aren't known, in each form; the place is the name's.
func TestUnknownNames(t *testing.T) {
	unknownAt(t, "@x", "@A", "(1, @x)", "(@x, y)", "@f 1", "print @x", "@f x", "@A x", "Cons @x",
		"fn x => @y", "fn 0 => @x | _ => y", "case @x of y => z", "case 1 of x => @y", "raise @x", "@x handle y => z", "1 handle x => @y",
		"1 + @x", "@x + y", "~ @x", "! @x", "@x := 1", "1 :: @x", "[1, @x, y]", "if @a then b else c", "if true then @b else c", "if true then 1 else @c",
		"@a andalso b", "true andalso @b", "true orelse @b", "@a; b", "1; @b", "1; 2; @x", "\"\" ^ @x",
		"val x = @y in z", "val x = 1 in @y", "val (x, @A) = y in z", "val @A y = 1 in 1", "val (x, y) = @z in 1",
		"fun f x = @y in 1", "fun f x = x and g y = @z in 1", "fun f 0 = @x and g 0 = y in 1", "fun f (@A) = x in 1", "fun f x (@A y) = x in 1",
		"datatype t = A of @u in 1", "datatype t = A of int * @u in 1", "datatype t = A of int -> @u in 1", "datatype t = A | B of @u | C of v in 1",
		"exception E of @u in 1", "exception E of int * string -> @u in 1",
		"fn @A => 1", "fn (x, @A) => 1", "fn x :: @A => 1", "fn [x, @A y] => 1", "fn Cons (@A, B) => 1", "case 1 of @A => x", "1 handle @A => x", "fn @A (x, x) => 1")
}

// P9.1: of a type its arguments are looked at ahead of its name, which is told where the form begins.
func TestUnknownTypes(t *testing.T) {
	unknownAt(t, "datatype t = A of @int u in 1", "datatype t = A of (@u) v in 1", "datatype t = A of (@int * string) u in 1",
		"datatype t = A of @(int, string) u in 1", "datatype t = A of (int, @u) v in 1", "datatype t = A of @int u v in 1", "datatype t = A of @int list u in 1",
		"datatype 'a t = A of @'b in 1", "datatype 'a t = A of 'a * @'b in 1", "datatype t = A of @'a in 1", "datatype 'a t = A of @'b u in 1", "datatype ('a, 'b) t = A of ('b, @'c) t in 1",
		"exception E of @'a in 1", "exception E of int -> @'a in 1", "datatype 'a t = A exception E of @'a in 1", "exception E of @'a u in 1")
	has(t, "int", "datatype ('a, 'b) t = A of 'b * 'a * ('a, 'b) t in 1", "exception E of exn * (int -> string) list in 1")
}

// P9.1: names that stand twice.
func TestNamesThatStandTwice(t *testing.T) {
	unknownAt(t, "fn (x, @x) => 1", "fn (x, (y, (@x, y))) => 1", "fn (x, y, @y, x) => 1", "fn x :: @x => 1", "fn [x, y, @x] => 1", "case 1 of (x, @x) => y", "1 handle (x, @x) => 1",
		"val (x, @x) = y in 1", "val x :: @x = y in 1", "fun f (x, @x) = y in 1", "fun f x (y, @y) = z in 1", "fn Cons (x, @x) => 1",
		"fun f x = 1 and @f x = 2 in 1", "fun f x = 1 and g x = 1 and h x = 1 and @g x = y in z",
		"@datatype ('a, 'a) t = A in 1", "1; let @datatype ('a, 'b, 'a) t = A of u in 1 end", "datatype t = A | @A in 1", "datatype t = A | B of int | C | @B | A in 1")
	has(t, "((int * int) * int)", "fun f x y x = (x, y) in (f 1 2 3, 4)")
	has(t, "int", "case 1 of 0 => 0 | x => x", "(fn x => case x of x => x) 1", "fun f x = 1 fun f x = 2 in f 0", "datatype t = A datatype u = A in 1", "datatype 'a t = A datatype 'a u = B of 'a in 1", "exception A exception A in 1", "val x = 1 val x = 2 in x")
}

// P9.1: what is told is the first in the order of the text, of whatever kind.
func TestTheFirstOfTwo(t *testing.T) {
	unknownAt(t, "fun f x = @y and f x = 1 in 1", "fun f x = 1 and @f x = y in 1", "datatype t = A of @u | A in 1", "datatype t = A | @A of u in 1", "@datatype ('a, 'a) t = A of 'b in 1",
		"val (x, @x) = y in z", "val (x, @A) = B in 1", "val x = @y val (z, z) = 1 in 1", "fn (x, @x) => y", "fn (@A, x, x) => y", "fn (x, @x, A) => y", "fn x => @y | (x, x) => 1", "fn (x, @x) => 1 | y => z",
		"(@x handle A => y)", "(1 handle @A => y)", "case @x of A => y", "case 1 of @A => y", "(@f (fn (x, x) => 1))", "exception E of @u exception F of v in x", "datatype t = A of (@'a, v) u in 1", "@A B", "@A x", "@x A", "(1; @x; A)")
	refuses(t, api.ErrScope, 4, "(1, x)")
}

// P9.1: where each is known, and where no more.
func TestWhereNamesAreKnown(t *testing.T) {
	has(t, "int", "val x = 1 in x", "let val x = 1 in x end", "val x = 1 val y = x in y", "val x = 1 in let val y = x in y end", "fun f x = g x and g x = 1 in f 2",
		"fun f x = if x = 0 then 0 else f (x - 1) in f 2", "(fn x => x) 1", "case 1 of x => x", "case (1, 2) of (x, y) => x", "val (x, y) = (1, 2) in x",
		"datatype t = A of t | B in case A B of A _ => 1 | B => 2", "exception E of int in (raise E 1) handle E x => x | _ => 0")
	unknownAt(t, "val x = @x in x", "val (x, y) = (1, @x) in x", "(let val x = 1 in x end; @x)", "let val x = @y val y = 1 in x end", "(let fun f x = x in f end, @f)", "(fn x => x) @x", "(case 1 of x => x, @x)",
		"case 1 of 0 => 1 | x => @y | y => 2", "case @x of x => x", "(1 handle x => 2; @x)", "fun f x = x and g y = @x in 1", "fun f x = @g x fun g x = x in 1", "fun f x = @y val y = 1 in 1",
		"(let datatype t = A in 1 end; @A)", "let datatype t = A in 1 end; let datatype u = B of @t in 1 end", "(let exception E in 1 end; @E)", "val x = @A datatype t = A in 1", "datatype t = A of @u datatype u = B in 1", "exception E of @t datatype t = A in 1",
		"val x = let val y = 1 in y end in @y", "val x = let datatype t = A in 1 end datatype u = B of @t in 1", "fun f x = let exception E in x end in raise @E", "fn (x, y) => 1 | z => @x")
}

// P9.1: what is declared further in hides what has the same name, till the end of its part.
func TestWhatHidesWhat(t *testing.T) {
	has(t, "string", "val x = 1 in let val x = \"\" in x end", "val x = 1 val x = \"\" in x", "fun f x = 1 val f = \"\" in f", "val x = 1 in (fn x => x) \"\"", "val x = 1 in case \"\" of x => x",
		"val x = 1 fun x y = \"\" in x 1", "val x = 1 in (let val x = \"\" in x end)", "fun f f = f in f \"\"", "val x = 1 in let fun g x = x in g \"\" end", "val x = 1 val x = let val x = x + 1 in \"\" end in x",
		"datatype t = A of int datatype u = A of string in case A \"\" of A x => x", "exception E of int exception E of string in (raise E \"\") handle E x => x | _ => \"\"",
		"datatype t = E of int exception E of string in (raise E \"\") ^ \"\"", "val print = \"\" in print", "val print = fn x => x in print \"\"", "fun size x = \"\" in size 1", "(fn getc => getc) \"\"", "case \"\" of ref => ref")
	has(t, "int", "val x = 1 in (let val x = \"\" in x end; x)", "val x = 1 in ((fn x => x) \"\"; x)", "val x = 1 in (case \"\" of x => x; x)", "fun f x = 1 in (let val f = \"\" in f end; f 0)",
		"datatype t = A of int in (let datatype u = A of string in 1 end; case A 1 of A x => x)", "(let val size = 1 in size end; size \"\")", "val x = 1 in (1 handle x => 2; x)")
	has(t, "(int#1 -> int)", "datatype int = I in fn I => 1")
	has(t, "(int#1 -> int#1)", "datatype int = I of int in fn I x => x")
	has(t, "t#1 t", "datatype 'a t = A of 'a in let datatype t = B in A B end")
	has(t, "(t * t#1)", "datatype t = A in (A, let datatype t = A in A end)")
	illTyped(t, "datatype bool = T | F in if T then 1 else 2", "datatype t = true | false in if 1 = 1 then 1 else 2", "datatype t = Nil in [1]", "datatype t = A of int datatype u = A of string in A 1", "exception E of int exception E of string in raise E 1", "val print = 1 in print \"\"", "val x = \"\" in let val x = 1 in x ^ x end", "datatype t = A of int val x = A datatype t = B of t in B (x 1)")
	has(t, "int", "datatype t = true | false in if true then 1 else 2", "datatype t = Nil | Cons of int * t in case [1, 2] of [] => 0 | x :: _ => x", "datatype t = Cons of (int * int) in case 1 :: 2 of x :: y => x + y")
}

// P9.1: what there is to begin with.
func TestWhatThereIsToBeginWith(t *testing.T) {
	p := elaborated(t, "1")
	if got := rows(p.Datas, "; ", toldData); got != " exn = Match | Div | Subscript | Size;  bool = false | true; '0 list = Nil | Cons of {'0, list<'0>}" {
		t.Error(got)
	}
	has(t, "(exn * exn * exn * exn * bool * bool)", "(Match, Div, Subscript, Size, true, false)")
	has(t, "int", "datatype t = A of int * string * exn * bool * int ref * int array * int list in 1", "exception E of int * string * exn * bool * int ref * int array * int list in 1")
	for _, name := range strings.Fields("print putc getc size byte cmp ref array length sub update") {
		elaborated(t, name)
		elaborated(t, "fn x => "+name)
	}
	for _, name := range strings.Fields("int string exn bool list") {
		unknownAt(t, "@"+name)
	}
	for _, name := range strings.Fields("Some None Ref Array Overflow Bind Empty Int List") {
		unknownAt(t, "@"+name)
	}
	for _, name := range strings.Fields("real char unit option word order print size") {
		unknownAt(t, "exception E of @"+name+" in 1")
	}
}
