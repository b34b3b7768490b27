package mono

import "testing"

// P10.1, P10.4: a variable at no row, at one, at several.
func TestVariablesAtRows(t *testing.T) {
	counts(t, 0, "1", "fn x => x", "fun f x = x in 1", "val f = fn x => x in 1", "val n = [] in 1", "fun f x = x fun g x = f x in 1")
	counts(t, 1, "fun f x = x in f", "fun f x = x in f 1", "fun f x = x in (f 1, f 2)", "fun f x = x in (f 1, f (f 2), fn y => f y + 1)", "val f = fn x => x in (f 1, f 2)")
	counts(t, 2,
		"fun f x = x in (f 1, f 2, f ())",
		"fun id x = x in (id 1, id \"a\")",
		"val id = fn x => x in (id 1, id \"a\")",
		"fun id x = x in (id 1, id true)",
		"fun id x = x in id id 1",
		"fun f x = x in fn y => (f y, f 1)",
		"fun f x = x fun g x = f x in g 1",
		"fun f x = x val g = f in g 1",
	)
	counts(t, 3, "fun id x = x in (id 1, id \"a\", id ())", "fun id x = x in id id id 1")
	counts(t, 4,
		"fun f x y = x in (f 1 2, f 1 \"\", f \"\" 1, f \"\" \"\")",
		"fun f x = x fun g x = f x in (g 1, g \"\")",
		"fun f x = x fun g x = (f x, f 1) in (g 1, g \"\")",
		"val n = [] in (1 :: n, \"\" :: n)",
		"fun f x = x fun g x = f x fun h x = g x val k = h in k 1",
	)
	counts(t, 5, "fun f x = x fun g x = (f x, f 1) in (g \"\", g ())")
}

// P10.1: one that is bound without type variables is one instance, if it is reached.
func TestVariablesWithoutTypeVariables(t *testing.T) {
	counts(t, 0, "val x = 1 in 2", "fun f n = n + 1 in 2", "fn y => let val x = y in y end")
	counts(t, 1,
		"val x = 1 in x",
		"val x = 1 in (x, x, fn y => x)",
		"val x = 1 + 1 in (x, x)",
		"fun f n = n + 1 in (f 1, f 2)",
		"fn y => let val x = y in x end",
		"fn y => let val x = (y, 1 + 1) in (x, x) end",
		"fun f n = if n = 0 then 1 else f (n - 1) in f 3",
		"val x = ref 1 in (x := 2; !x)",
	)
	counts(t, 2, "val x = ref [] in x", "val x = 1 val y = x in (y, y)", "val x = 1 in let val y = x in y + y end")
}

// P10.1: one that is bound within an instance is another one in each of these.
func TestVariablesWithinInstances(t *testing.T) {
	counts(t, 2, "fun f x = let fun g y = (x, y) in g 1 end in f 1", "fun f x = let val y = 1 in y end in (f 1, f 2)")
	counts(t, 4,
		"fun f x = let fun g y = (x, y) in g 1 end in (f 1, f \"\")",
		"fun f x = let val y = 1 in y end in (f 1, f \"\")",
		"fun f x = let val y = (x, 1 + 1) in y end in (f 1, f \"\")",
		"val f = fn x => let fun g y = y in g x end in (f 1, f \"\")",
		"fun f x y = let fun g z = z in g 1 end in (f 1 1, f 1 \"\")",
	)
	counts(t, 5, "fun f x = let fun g y = (x, y) in (g 1, g x) end in (f 1, f \"\")")
	counts(t, 6, "fun f x = let fun g y = (x, y) in (g 1, g \"\") end in (f 1, f \"\")")
	counts(t, 14, "fun f x = let fun g y = let fun h z = (x, y, z) in (h 1, h \"\") end in (g 1, g \"\") end in (f 1, f \"\")")
	counts(t, 7, "fun k x = x fun f x = let fun g y = (k x, k y) in g 1 end in (f 1, f \"\", k ())")
	counts(t, 4, "fun f x = let val y = let val z = (x, 1 + 1) in z end in x end in (f 1, f \"\")")
	counts(t, 2, "val y = let val z = 1 in z end in y", "val y = (fn q => let val z = q in z end) in y")
}

// P10.1, P10.2: what is bound, a value that does nothing, and not reached, reaches nothing, and is no more there.
func TestValuesThatNothingReaches(t *testing.T) {
	for _, e := range []string{
		"1", "\"a\"", "y", "k", "[]", "[1]", "[[1], []]", "true", "Div", "E 1", "()", "(1, [2])",
		"fn z => [z]", "fn z => k [z]", "fn z => putc 1", "fn z => let val w = [z] in w end",
		"Cons", "Some", "print", "getc", "ref", "sub", "Some (1, [])", "([\"\"], (fn x => k x, (k, Some k), y))", "Some (fn x => [x])",
	} {
		writes(t, 0, "datatype 'a o = None | Some of 'a exception E of int fun k x = x val y = 1 val x = "+e+" in 2", "2")
		writes(t, 0, "datatype 'a o = None | Some of 'a exception E of int fun k x = x val y = 1 + 1 val x = "+e+" in 2", "case(`+(1, 1)) {_ => 2}")
		writes(t, 1, "datatype 'a o = None | Some of 'a exception E of int fun k x = x fun f y = let val x = "+e+" in y end in f ()",
			"fix a: (() -> ()) = fn b(case(b) {c => c}) in app(a, ())")
	}
}

// P10.1, P10.2: what is bound and does something is done, and reaches what stands in it, whether it is reached or not.
func TestWhatIsDoneAndNothingReaches(t *testing.T) {
	writes(t, 0, "val x = 1 + 1 in 2", "case(`+(1, 1)) {_ => 2}")
	writes(t, 0, "val x = (1, ~ 1) in 2", "case((1, `~(1))) {_ => 2}")
	writes(t, 1, "val x = [1 + 1] in 2", "list@A = Nil@A | Cons@A of (int, list@A); case(Cons@A((`+(1, 1), Nil@A))) {_ => 2}")
	writes(t, 0, "val x = raise Div in 2", "case(raise(Div)) {_ => 2}")
	writes(t, 0, "val x = 1 handle Div => 3 in 2", "case(handle(1) a {Div => 3}) {_ => 2}")
	writes(t, 0, "val x = case 1 of 0 => 3 | y => y in 2", "case(case(1) {0 => 3; a => a}) {_ => 2}")
	writes(t, 0, "val x = (fn y => y) 1 in 2", "case(app(fn a(case(a) {b => b}), 1)) {_ => 2}")
	writes(t, 1, "val x = let val z = 1 in z end in 2", "case(let a: int = 1 in a) {_ => 2}")
	writes(t, 0, "val x = let val z = 1 in 3 end in 2", "case(3) {_ => 2}")
	writes(t, 1, "val x = let fun f y = y in f end in 2", "case(fix a: (() -> ()) = fn b(case(b) {c => c}) in a) {_ => 2}")
	writes(t, 1, "fun f x = x val y = f 1 in 2", "fix a: (int -> int) = fn b(case(b) {c => c}) in case(app(a, 1)) {_ => 2}")
	writes(t, 0, "val x = putc 65 val y = x in 2", "case(`putc(65)) {_ => 2}")
	writes(t, 1, "val x = putc 65 val y = (x, 1 + 1) in 2", "let a: () = `putc(65) in case((a, `+(1, 1))) {_ => 2}")
	writes(t, 0, "val x = putc 65 val y = fn z => x in 2", "case(`putc(65)) {_ => 2}")
	writes(t, 0, "fn z => let val x = z () in 2 end", "fn a(case(a) {b => case(app(b, ())) {_ => 2}})")
	counts(t, 2, "fun f x = [x] val y = (f 1; 2) in 3")
	counts(t, 4, "fun f x = let val y = [x] val z = [(x, 1 + 1)] in x end in (f 1, f \"\")")
	counts(t, 4, "fun f x = let val z = let val u = (x, 1 + 1) in u end in x end in (f 1, f \"\")")
	counts(t, 2, "fun f x = let val z = let val u = (x, 1 + 1) in 1 end in x end in (f 1, f \"\")")
}

// P10.1, P10.2: a KFix has those of its functions that are instances.
func TestFunctionsThatAreInstances(t *testing.T) {
	counts(t, 0, "fun f x = x and g x = x in 1", "fun f x = g x and g x = f x in 1", "fun f x = f x in fn y => y")
	counts(t, 1, "fun f x = x and g x = x in f 1", "fun f x = x and g x = f x in f 1", "fun f x = f x in f 1", "fun f x = 1 and g x = f x and h x = g x in f ()")
	counts(t, 2, "fun f x = x and g x = x in (f 1, g 1)", "fun f x = g x and g x = f x in f 1", "fun f x = x and g x = f x in g 1", "fun f x = x and g x = x in (f 1, f ())")
	counts(t, 3, "fun f x = x and g x = x in (f 1, g 1, g \"\")", "fun f x = 1 and g x = f x and h x = g x in h ()")
	counts(t, 4, "fun f x = g x and g x = f x in (f 1, f \"\")", "fun f x = g x and g x = f x in (f 1, g \"\")")
	writes(t, 0, "fun f x = g x and g x = f x in 1", "1")
	writes(t, 1, "fun f x = g x and g x = 2 and h x = 3 in g 1", "fix a: (int -> int) = fn b(case(b) {c => 2}) in app(a, 1)")
	// What of another function's type variables isn't in its own type is () in it: g is reached at int and (), and at string and int.
	counts(t, 3, "fun f x = (g x; x) and g y = raise Div in (f 1; g \"\" + 0)")
}

// P10.1: types are reached through constructors' types, through what an XCon, a KCon has, through patterns.
func TestTypesThatAreReached(t *testing.T) {
	counts(t, 1, "[1]", "fn x => case x of 1 :: _ => 2 | _ => 3", "exception E of int list in 1", "fun f x = let exception E of int list in x end in 1",
		"val r = ref [1] in 2", "array (1, [1]); 2", "fn x => (raise x) :: []", "datatype t = A | B of int in A", "(raise Div; fn x => x) [1]")
	counts(t, 0, "datatype t = A | B of int in 1", "datatype t = A of int list in 1", "fun f x = [x] in 1", "true", "1 < 2", "raise Div", "exception E of int in 1", "ref 1", "datatype t = A fun f x = A in 1")
	counts(t, 2, "datatype t = A of int list | B in B", "datatype 'a t = A of 'a list | B in B", "exception E of string list list in 1", "[[1]]", "[(1, [2])]; [3]",
		"datatype t = A datatype u = C of t in fn C x => 1", "exception E of int list in fn E [1] => \"\" | _ => \"\"; [\"\"]")
	counts(t, 3, "datatype t = A of int list datatype u = C of t | D in D", "[[[1]]]", "([1], [\"\"], [()])", "datatype t = A of int list * string list | B in B")
	// A p has nothing, so what it is of is reached by the type alone.
	counts(t, 2, "datatype 'a p = P exception E of int list p in 1", "datatype 'a p = P in (P, [1])")
	counts(t, 3, "datatype 'a p = P datatype t = T of int list p in T P", "datatype 'a p = P datatype t = T of int list p in fn T _ => 1", "datatype 'a p = P datatype t = T of int p list in T []")
}

// P10.1: datatypes stand within themselves at other rows.
func TestDatatypesWithinThemselves(t *testing.T) {
	counts(t, 1, "datatype 'a t = A | B of 'a t in B A", "datatype t = A | B of t * t in A")
	counts(t, 2, "datatype 'a t = A of 'a t list | B of 'a in B 1", "datatype 'a t = B of 'a in B (B 1)", "datatype ('a, 'b) t = A of 'a | B of 'b in (A 1, B 1)", "datatype ('a, 'b) t = A of 'a | B of 'b in [A 1, B ()]")
	counts(t, 3, "datatype ('a, 'b) t = A of 'a datatype 'a u = U of ('a, int) t * (int, 'a) t in U (A \"\", A 1)", "datatype 'a u = U of 'a list list in U [[1]]", "datatype 'a t = B of 'a in B (B (B 1))")
	counts(t, 2, "datatype ('a, 'b) t = A of 'a datatype 'a u = U of ('a, int) t * (int, 'a) t in U (A 1, A 1)")
	counts(t, 4, "datatype 'a t = A of 'a t list | B of 'a in B (B 1)")
	counts(t, 5, "datatype 'a t = A of 'a t list | B of 'a in (B (B 1), [1])")
}
