package defun

import (
	"testing"

	"bellows/api"
)

// P11.2: a KFn that knows nothing, one variable, several: its constructor has these, its function takes them, and at last what it is called with.
func TestWhatAFunctionKnows(t *testing.T) {
	writes(t, `fn x => x + 1`,
		`K1`,
		"f1(a: int): int = case(a) {b => `+(b, 1)}",
		`C1 = K1`)
	writes(t, `val y = 1 + 1 in fn x => x + y`,
		"let a: int = `+(1, 1) in K1(a)",
		"f1(a: int, b: int): int = case(b) {c => `+(c, a)}",
		`C1 = K1 of int`)
	writes(t, `val y = 1 + 1 val z = "" ^ "" in fn x => (z; x + y)`,
		"let a: int = `+(1, 1) in let b: string = `^(\"\", \"\") in K1((b, a))",
		"f1(b: string, a: int, c: int): int = case(c) {d => case(b) {_ => `+(d, a)}}",
		`C1 = K1 of (string, int)`)
	writes(t, `val y = 1 + 1 in (fn x => x + y + y, y)`,
		"let a: int = `+(1, 1) in (K1(a), a)",
		"f1(a: int, b: int): int = case(b) {c => `+(`+(c, a), a)}",
		`C1 = K1 of int`)
	writes(t, `val y = 1 + 1 in fn x => let val y = x + 1 in y end`,
		"case(`+(1, 1)) {_ => K1}",
		"f1(a: int): int = case(a) {b => let c: int = `+(b, 1) in c}",
		`C1 = K1`)
	writes(t, `val f = fn x => x + 1 in fn y => f (f y)`,
		`let a: C1 = K1 in K2(a)`,
		"f1(b: int): int = case(b) {c => `+(c, 1)}",
		`f2(a: C1, d: int): int = case(d) {e => f3(a, f3(a, e))}`,
		`f3(f: C1, g: int): int = case(f) {K1 => f1(g)}`,
		`C1 = K1`,
		`C2 = K2 of C1`)
	writes(t, `fn (x, y) => fn z => (x, z)`,
		`K1`,
		`f1(a: (), b: ()): ((), ()) = case(b) {c => (a, c)}`,
		`f2(d: ((), ())): C1 = case(d) {(a, e) => K2(a)}`,
		`C1 = K2 of ()`,
		`C2 = K1`)
}

// P11.2: a KFn within a KFn knows what stands free in it, and the one around knows what that needs from outside.
func TestFunctionsWithinFunctions(t *testing.T) {
	writes(t, `fn x => fn y => fn z => x + y + z`,
		`K1`,
		"f1(a: int, b: int, c: int): int = case(c) {d => `+(`+(a, b), d)}",
		`f2(a: int, e: int): C1 = case(e) {b => K2((a, b))}`,
		`f3(f: int): C2 = case(f) {a => K3(a)}`,
		`C1 = K2 of (int, int)`,
		`C2 = K3 of int`,
		`C3 = K1`)
	writes(t, `fn x => fn y => fn z => z + 1`,
		`K1`,
		"f1(a: int): int = case(a) {b => `+(b, 1)}",
		`f2(c: ()): C1 = case(c) {d => K2}`,
		`f3(e: ()): C2 = case(e) {f => K3}`,
		`C1 = K2`,
		`C2 = K3`,
		`C3 = K1`)
	writes(t, `fn x => (x + 1, fn y => x, fn z => fn w => x + z)`,
		`K1`,
		`f1(a: int, b: ()): int = case(b) {c => a}`,
		"f2(a: int, d: int, e: ()): int = case(e) {f => `+(a, d)}",
		`f3(a: int, g: int): C1 = case(g) {d => K2((a, d))}`,
		"f4(h: int): (int, C2, C3) = case(h) {a => (`+(a, 1), K3(a), K4(a))}",
		`C1 = K2 of (int, int)`,
		`C2 = K3 of int`,
		`C3 = K4 of int`,
		`C4 = K1`)
}

// P11.2: functions of a KFix that are only called are no values; each knows what stands free in any of them, and what those outside need that it calls.
func TestFunctionsThatAreCalled(t *testing.T) {
	writes(t, `fun f n = f (n - 1) in f 3`,
		`f1(3)`,
		"f1(a: int): () = case(a) {b => f1(`-(b, 1))}")
	writes(t, `val a = 1 + 1 val b = 2 + 2 fun f n = g n + a and g n = f n + b in f 1`,
		"let a: int = `+(1, 1) in let b: int = `+(2, 2) in f1(a, b, 1)",
		"f1(a: int, b: int, c: int): int = case(c) {d => `+(f2(a, b, d), a)}",
		"f2(a: int, b: int, e: int): int = case(e) {f => `+(f1(a, b, f), b)}")
	writes(t, `val a = 1 + 1 fun f n = n + a fun g n = f n fun h n = g n in h 1`,
		"let a: int = `+(1, 1) in f1(a, 1)",
		`f1(a: int, b: int): int = case(b) {c => f2(a, c)}`,
		`f2(a: int, d: int): int = case(d) {e => f3(a, e)}`,
		"f3(a: int, f: int): int = case(f) {g => `+(g, a)}")
	writes(t, `val a = 1 + 1 fun f x = let fun g y = if y = 0 then x else f (y - 1) in g x + a end in f 1`,
		"let a: int = `+(1, 1) in f1(a, 1)",
		"f1(a: int, b: int): int = case(b) {c => `+(f2(c, a, c), a)}",
		"f2(c: int, a: int, d: int): int = case(d) {e => case(`=(e, 0)) {true => c; false => f1(a, `-(e, 1))}}")
	writes(t, `fun f x y = x + y in f 1 2`,
		`f1(f2(1), 2)`,
		`f1(a: C1, b: int): int = case(a) {K1(c) => f3(c, b)}`,
		`f2(d: int): C1 = case(d) {e => K1(e)}`,
		"f3(e: int, f: int): int = case(f) {g => `+(e, g)}",
		`C1 = K1 of int`)
}

// P11.2: functions of a KFix that are values, too, also within themselves.
func TestFunctionsOfAFixAsValues(t *testing.T) {
	writes(t, `fun f n = f (n - 1) in f`,
		`K1`,
		"f1(a: int): () = case(a) {b => f1(`-(b, 1))}",
		`C1 = K1`)
	writes(t, `fun f n = f (n - 1) in (f 1, f)`,
		`(f1(1), K1)`,
		"f1(a: int): () = case(a) {b => f1(`-(b, 1))}",
		`C1 = K1`)
	writes(t, `val a = 1 + 1 val b = 2 + 2 fun f n = g n + a and g n = f n + b in (f, 1)`,
		"let a: int = `+(1, 1) in let b: int = `+(2, 2) in (K1((a, b)), 1)",
		"f1(a: int, b: int, c: ()): int = case(c) {d => `+(f2(a, b, d), a)}",
		"f2(a: int, b: int, e: ()): int = case(e) {f => `+(f1(a, b, f), b)}",
		`C1 = K1 of (int, int)`)
	writes(t, `val a = 1 + 1 val b = 2 + 2 fun f n = if n = 0 then g else f (n - a) and g n = f n b in g 1`,
		"let a: int = `+(1, 1) in let b: int = `+(2, 2) in f1(b, a, 1)",
		`f1(b: int, a: int, c: int): () = case(c) {d => f2(f3(b, a, d), b)}`,
		`f2(e: C1, f: int): () = case(e) {K1((g, h)) => f1(g, h, f)}`,
		"f3(b: int, a: int, i: int): C1 = case(i) {j => case(`=(j, 0)) {true => K1((b, a)); false => f3(b, a, `-(j, a))}}",
		`C1 = K1 of (int, int)`)
	writes(t, `val a = 1 + 1 fun f n = n + a fun g n = (f, n) in g 1`,
		"let a: int = `+(1, 1) in f1(a, 1)",
		`f1(a: int, b: int): (C1, int) = case(b) {c => (K1(a), c)}`,
		"f2(a: int, d: int): int = case(d) {e => `+(e, a)}",
		`C1 = K1 of int`)
	writes(t, `val a = 1 + 1 fun f n = n + a in fn x => f x`,
		"let a: int = `+(1, 1) in K1(a)",
		"f1(a: int, b: int): int = case(b) {c => `+(c, a)}",
		`f2(a: int, d: int): int = case(d) {e => f1(a, e)}`,
		`C1 = K1 of int`)
	writes(t, `val a = 1 + 1 fun f n = n + a in fn x => f`,
		"let a: int = `+(1, 1) in K1(a)",
		"f1(a: int, b: int): int = case(b) {c => `+(c, a)}",
		`f2(a: int, d: ()): C1 = case(d) {e => K2(a)}`,
		`C1 = K2 of int`,
		`C2 = K1 of int`)
	writes(t, `datatype d = D of d -> int fun f x = case x of D g => g x in f (D f)`,
		`f1(D(K1))`,
		`f1(a: d): int = case(a) {b => case(b) {D(c) => f2(c, b)}}`,
		`f2(d: C1, e: d): int = case(d) {K1 => f1(e)}`,
		`C1 = K1`)
	writes(t, `fun id x = x in id id 1`,
		`f1(f2(K1), 1)`,
		`f1(a: C1, b: int): int = case(a) {K1 => f3(b)}`,
		`f2(c: C1): C1 = case(c) {d => d}`,
		`f3(e: int): int = case(e) {f => f}`,
		`C1 = K1`)
}

// P11.2: a KApp of what isn't a KFix's variable is a call of its class's function.
func TestCalls(t *testing.T) {
	writes(t, `(fn x => x + 1) 2`,
		`f1(K1, 2)`,
		`f1(a: C1, b: int): int = case(a) {K1 => f2(b)}`,
		"f2(c: int): int = case(c) {d => `+(d, 1)}",
		`C1 = K1`)
	writes(t, `val f = fn x => x + 1 in f (f 2)`,
		`let a: C1 = K1 in f1(a, f1(a, 2))`,
		`f1(b: C1, c: int): int = case(b) {K1 => f2(c)}`,
		"f2(d: int): int = case(d) {e => `+(e, 1)}",
		`C1 = K1`)
	writes(t, `fun f x y z = x + y + z in f 1 2 3`,
		`f1(f2(f3(1), 2), 3)`,
		`f1(a: C1, b: int): int = case(a) {K1((c, d)) => f4(c, d, b)}`,
		`f2(e: C2, f: int): C1 = case(e) {K2(g) => f5(g, f)}`,
		`f3(h: int): C2 = case(h) {i => K2(i)}`,
		"f4(i: int, j: int, k: int): int = case(k) {l => `+(`+(i, j), l)}",
		`f5(i: int, m: int): C1 = case(m) {j => K1((i, j))}`,
		`C1 = K1 of (int, int)`,
		`C2 = K2 of int`)
	writes(t, `(if true then fn x => x + 1 else fn x => x) 2`,
		`f1(case(true) {true => K1; false => K2}, 2)`,
		`f1(a: C1, b: int): int = case(a) {K1 => f2(b); K2 => f3(b)}`,
		"f2(c: int): int = case(c) {d => `+(d, 1)}",
		`f3(e: int): int = case(e) {f => f}`,
		`C1 = K1 | K2`)
	writes(t, `(raise Div) 1 + 2`,
		"`+(f1(raise(Div), 1), 2)",
		`f1(a: C1, b: int): int = raise(Match)`,
		`C1 =`)
}

// P11.2: what functions are laid into, and taken out of.
func TestFunctionsInTuplesConstructorsRefsAndArrays(t *testing.T) {
	writes(t, `[fn x => x + 1]`,
		`Cons@1((K1, Nil@1))`,
		"f1(a: int): int = case(a) {b => `+(b, 1)}",
		`C1 = K1`)
	writes(t, `(fn x => x + 1, ref (fn x => x - 1), array (2, fn x => x * 2))`,
		"(K1, `ref(K2), `array(2, K3))",
		"f1(a: int): int = case(a) {b => `+(b, 1)}",
		"f2(c: int): int = case(c) {d => `-(d, 1)}",
		"f3(e: int): int = case(e) {f => `*(f, 2)}",
		`C1 = K1 | K2 | K3`)
	writes(t, `case (fn x => x + 1, 2) of (f, y) => f y`,
		`case((K1, 2)) {(a, b) => f1(a, b)}`,
		`f1(c: C1, d: int): int = case(c) {K1 => f2(d)}`,
		"f2(e: int): int = case(e) {f => `+(f, 1)}",
		`C1 = K1`)
	writes(t, `fn (f, r) => (r := !f; 1 + sub (!r, 0) 2)`,
		`K1`,
		"f1(a: (ref[array[C1]], ref[array[C1]])): int = case(a) {(b, c) => case(`:=(c, `!(b))) {_ => `+(1, f2(`sub(`!(c), 0), 2))}}",
		`f2(d: C1, e: int): int = raise(Match)`,
		`C1 =`,
		`C2 = K1`)
	writes(t, `val r = ref (fn x => x + 1) in (r := (fn x => x); !r 2)`,
		"let a: ref[C1] = `ref(K1) in case(`:=(a, K2)) {_ => f1(`!(a), 2)}",
		`f1(b: C1, c: int): int = case(b) {K1 => f2(c); K2 => f3(c)}`,
		"f2(d: int): int = case(d) {e => `+(e, 1)}",
		`f3(f: int): int = case(f) {g => g}`,
		`C1 = K1 | K2`)
	writes(t, `exception E of (int -> int) * int in (raise E (fn x => x + 1, 2)) handle E (f, x) => f x`,
		`handle(f1()) a {E((b, c)) => f2(b, c)}`,
		`f1(): int = raise(E((K1, 2)))`,
		`f2(d: C1, e: int): int = case(d) {K1 => f3(e)}`,
		"f3(f: int): int = case(f) {g => `+(g, 1)}",
		`C1 = K1`)
}

// P11.2: datatypes of p have the types of classes, also where no function ever comes to them.
func TestDatatypesThatHaveFunctions(t *testing.T) {
	writes(t, `datatype t = A of int -> int | B of t * (t -> t) in A (fn x => x + 1)`,
		`A(K1)`,
		"f1(a: int): int = case(a) {b => `+(b, 1)}",
		`C1 = K1`,
		`C2 =`)
	writes(t, `datatype t = A of (int -> int) list | B in case A [] of A [f] => f 1 | _ => 2`,
		`case(A(Nil@1)) {A(Cons@1((a, Nil@1))) => f1(a, 1); _ => 2}`,
		`f1(b: C1, c: int): int = raise(Match)`,
		`C1 =`)
	writes(t, `datatype 'a t = A of 'a -> int in (A (fn x => x + 1), A (fn x => size x))`,
		`(A@1(K1), A@2(K2))`,
		"f1(a: int): int = case(a) {b => `+(b, 1)}",
		"f2(c: string): int = case(c) {d => `size(d)}",
		`C1 = K1`,
		`C2 = K2`)
	writes(t, `exception E of int -> int in 1`,
		`1`,
		`C1 =`)
}

// P11.2: functions that are answered by functions, cases, handlers.
func TestFunctionsThatAreAnswered(t *testing.T) {
	writes(t, `fun f x = if x then fn y => y + 1 else fn y => y in f true 2`,
		`f1(f2(true), 2)`,
		`f1(a: C1, b: int): int = case(a) {K1 => f3(b); K2 => f4(b)}`,
		`f2(c: bool): C1 = case(c) {d => case(d) {true => K1; false => K2}}`,
		"f3(e: int): int = case(e) {f => `+(f, 1)}",
		`f4(g: int): int = case(g) {h => h}`,
		`C1 = K1 | K2`)
	writes(t, `(fn f => f 1) (fn x => x + 1)`,
		`f1(K1, K2)`,
		`f1(a: C1, b: C2): int = case(a) {K1 => f2(b)}`,
		`f2(c: C2): int = case(c) {d => f3(d, 1)}`,
		`f3(e: C2, f: int): int = case(e) {K2 => f4(f)}`,
		"f4(g: int): int = case(g) {h => `+(h, 1)}",
		`C1 = K1`,
		`C2 = K2`)
	writes(t, `((fn x => x) handle Div => fn x => x + 1) 2`,
		`f1(handle(f2()) a {Div => K1}, 2)`,
		`f1(b: C1, c: int): int = case(b) {K2 => f3(c); K1 => f4(c)}`,
		`f2(): C1 = K2`,
		`f3(d: int): int = case(d) {e => e}`,
		"f4(f: int): int = case(f) {g => `+(g, 1)}",
		`C1 = K2 | K1`)
}

// P11.2: the function of a class without KFn raises Match.
func TestClassesWithoutFunctions(t *testing.T) {
	writes(t, `(raise Div) (raise Match) + 1`,
		"`+(f1(raise(Div), raise(Match)), 1)",
		`f1(a: C1, b: ()): int = raise(Match)`,
		`C1 =`)
	writes(t, `fn x => (case x of (f, g) => f (g 1) + 0)`,
		`K1`,
		"f1(a: (C1, C2)): int = case(a) {b => case(b) {(c, d) => `+(f2(c, f3(d, 1)), 0)}}",
		`f2(e: C1, f: ()): int = raise(Match)`,
		`f3(g: C2, h: int): () = raise(Match)`,
		`C1 =`,
		`C2 =`,
		`C3 = K1`)
}

// P11.2: types that are XFun stand within other types.
func TestTypesWithinTypes(t *testing.T) {
	writes(t, `fn f => f (fn x => x + 1) + 0`,
		`K1`,
		"f1(a: int): int = case(a) {b => `+(b, 1)}",
		"f2(c: C1): int = case(c) {d => `+(f3(d, K2), 0)}",
		`f3(e: C1, f: C2): int = raise(Match)`,
		`C1 =`,
		`C2 = K2`,
		`C3 = K1`)
	writes(t, `ref (ref (fn x => [fn y => x + y]))`,
		"`ref(`ref(K1))",
		"f1(a: int, b: int): int = case(b) {c => `+(a, c)}",
		`f2(d: int): list@1 = case(d) {a => Cons@1((K2(a), Nil@1))}`,
		`C1 = K1`,
		`C2 = K2 of int`)
}

// P11.2: the L of a KHandle is a call of a function of its own.
func TestHandlers(t *testing.T) {
	writes(t, `1 handle Div => 2`,
		`handle(f1()) a {Div => 2}`,
		`f1(): int = 1`)
	writes(t, `val y = 1 + 1 in (y div 0) handle Div => y | x => raise x`,
		"let a: int = `+(1, 1) in handle(f1(a)) b {Div => a; c => raise(c)}",
		"f1(a: int): int = `div(a, 0)")
	writes(t, `val y = 1 + 1 val z = 2 + 2 in (y + z + y) handle Div => y`,
		"let a: int = `+(1, 1) in let b: int = `+(2, 2) in handle(f1(a, b)) c {Div => a}",
		"f1(a: int, b: int): int = `+(`+(a, b), a)")
	writes(t, `val y = fn x => x + 1 in (y 1) handle Div => y 2`,
		`let a: C1 = K1 in handle(f1(a)) b {Div => f2(a, 2)}`,
		`f1(a: C1): int = f2(a, 1)`,
		`f2(c: C1, d: int): int = case(c) {K1 => f3(d)}`,
		"f3(e: int): int = case(e) {f => `+(f, 1)}",
		`C1 = K1`)
	writes(t, `val y = fn x => x + 1 in (y handle Div => raise Match) 3`,
		`let a: C1 = K1 in f1(handle(f2(a)) b {Div => raise(Match)}, 3)`,
		`f1(c: C1, d: int): int = case(c) {K1 => f3(d)}`,
		`f2(a: C1): C1 = a`,
		"f3(e: int): int = case(e) {f => `+(f, 1)}",
		`C1 = K1`)
	writes(t, `(fn x => x + 1) handle Div => fn x => x`,
		`handle(f1()) a {Div => K1}`,
		`f1(): C1 = K2`,
		"f2(b: int): int = case(b) {c => `+(c, 1)}",
		`f3(d: int): int = case(d) {e => e}`,
		`C1 = K2 | K1`)
	writes(t, `val a = 1 + 1 in ((a div 0) handle Div => a + 1) handle Match => 3`,
		"let a: int = `+(1, 1) in handle(f1(a)) b {Match => 3}",
		"f1(a: int): int = handle(f2(a)) c {Div => `+(a, 1)}",
		"f2(a: int): int = `div(a, 0)")
	writes(t, `1 handle Div => (2 handle Match => 3)`,
		`handle(f1()) a {Div => handle(f2()) b {Match => 3}}`,
		`f1(): int = 1`,
		`f2(): int = 2`)
	writes(t, `fun f x = (x div 0) handle Div => f (x - 1) in f 1`,
		`f1(1)`,
		"f1(a: int): int = case(a) {b => handle(f2(b)) c {Div => f1(`-(b, 1))}}",
		"f2(b: int): int = `div(b, 0)")
	writes(t, `val a = 1 + 1 fun f x = x + a in (f 1) handle Div => 2`,
		"let a: int = `+(1, 1) in handle(f1(a)) b {Div => 2}",
		`f1(a: int): int = f2(a, 1)`,
		"f2(a: int, c: int): int = case(c) {d => `+(d, a)}")
	writes(t, `fn x => (x () + 0) handle y => (raise y) handle z => 1`,
		`K1`,
		"f1(a: C1): int = `+(f2(a, ()), 0)",
		`f2(b: C1, c: ()): int = raise(Match)`,
		`f3(d: exn): int = raise(d)`,
		`f4(e: C1): int = case(e) {a => handle(f1(a)) f {d => handle(f3(d)) g {h => 1}}}`,
		`C1 =`,
		`C2 = K1`)
	writes(t, `val a = 1 + 1 in (let val b = a in b + b end) handle Div => 2`,
		"let a: int = `+(1, 1) in handle(f1(a)) b {Div => 2}",
		"f1(a: int): int = let c: int = a in `+(c, c)")
}

// P11.2: what was thrown is a variable like others, though Elab's cores take it apart by patterns alone.
func TestWhatWasThrown(t *testing.T) {
	exn, num := xcon("exn"), xcon("int")
	match := api.Core{Kind: api.KCon, Name: "Match", T: exn}
	thrown := func(id int, l api.Core, e api.Core) api.Core {
		return api.Core{Kind: api.KHandle, Id: id, T: e.T, L: []api.Core{l}, Ways: []api.Way{{P: api.CPat{Kind: api.PAny, T: exn}, E: e}}}
	}
	raise := api.Core{Kind: api.KRaise, T: exn, L: []api.Core{match}}
	fn := fnOf(6, num, varOf(5, exn))
	raise.T = fn.T
	for want, main := range map[string]api.Core{
		"handle(f1()) a {_ => K1(a)}; f1(): C1 = raise(Match); f2(a: exn, b: int): exn = a; C1 = K1 of exn":                                            thrown(5, raise, fn),
		"handle(f1()) a {_ => handle(f2(a)) b {_ => a}}; f1(): exn = Match; f2(a: exn): exn = a":                                                       thrown(5, match, thrown(7, varOf(5, exn), varOf(5, exn))),
		"K1; f1(a: exn): exn = a; f2(a: exn): exn = handle(f1(a)) b {_ => case((b, a)) {_ => b}}; f3(a: exn): exn = handle(f2(a)) c {_ => c}; C1 = K1": fnOf(1, exn, thrown(5, thrown(7, varOf(1, exn), api.Core{Kind: api.KCase, T: exn, L: []api.Core{{Kind: api.KTuple, T: xtup(exn, exn), L: []api.Core{varOf(7, exn), varOf(1, exn)}}}, Ways: []api.Way{{P: api.CPat{Kind: api.PAny, T: xtup(exn, exn)}, E: varOf(7, exn)}}}), varOf(5, exn))),
	} {
		p := api.Prog{Datas: []api.Data{{Name: "exn", Cons: []api.DataCon{{Name: "Match"}}}}, Main: main}
		x := Defun(p)
		if got := toldProg(p, x); got != want {
			t.Errorf("%s, want %s", got, want)
		}
		paired(t, want, p, x)
		sound(t, want, x)
	}
}
