package defun

import "testing"

// P11.1: programs in which no function is a value.
func TestProgramsWithoutFunctionsAsValues(t *testing.T) {
	classes(t, "",
		"1", "\"a\"", "()", "(1, [2], \"\")", "putc 65", "1 + 2 * 3", "raise Div", "1 handle Div => 2", "case [1] of x :: _ => x | [] => 0",
		"val x = 1 + 1 in x", "val r = ref 1 in (r := 2; !r)", "sub (array (3, 1), 0)", "datatype t = A of int | B in (A 1, B)",
		"fun f x = x in f 1", "fun f n = if n = 0 then 0 else f (n - 1) in f 3", "fun f (x, y) = x + y in f (1, f (2, 3))",
		"fun even n = n = 0 orelse odd (n - 1) and odd n = n <> 0 andalso even (n - 1) in even 4",
		"val y = 1 + 1 fun f x = x + y fun g x = f x in g (f 1)", "fun f x = let fun g y = (x, y) in g 1 end in (f 1, f \"\")",
		"fun f x = (x div 0) handle Div => f (x - 1) in f 1", "fun f x = raise Div in 1", "val f = fn x => x in 1",
	)
}

// P11.1: functions of one type that never come to one place.
func TestFunctionsThatNeverMeet(t *testing.T) {
	classes(t, "[1]", "fn x => 1", "(fn x => 1) 2", "val f = fn x => 1 in f", "val f = fn x => 1 in (f 2, f 3)", "[fn x => 1]", "fun f x = 1 in f", "fun f x = 1 in [f, f]",
		"fun f x = 1 in (f 2; [f, f])", "(raise Div; fn x => 1)")
	classes(t, "[1] [2]",
		"fn x => 1; fn x => 2", "((fn x => 1) 3, (fn x => 2) 3)", "val f = fn x => 1 val g = fn x => 2 in (f 3, g 3)",
		"fun a f = f 3 fun b f = f 3 in (a (fn x => 1), b (fn x => 2))", "fun f x = 1 fun g x = 2 in f; g", "fun f x = 1 and g x = 2 in f; g",
		"fun a f = f () in (a (fn x => 1), a (fn x => (2; \"\")))", // a is two instances
		"case fn x => 1 of f => case fn x => 2 of g => (f 3, g 3)", "(case 0 of 0 => (fn x => 1) | _ => raise Div); fn x => 2",
		"((fn x => 1) (); ()) handle Div => ((fn x => 2) (); ())", "fun a f = 3 in (a (fn x => 1); fn x => 2)",
		"val f = fn x => 1 in fn x => (2; f x)", "fun f x = 1 in (fn x => (2; f x)) 3 + f 4; f",
	)
	classes(t, "[1] [2] [3]", "fn x => (1; fn y => (2; fn z => 3))", "(fn x => (1; fn y => 2)) (); fn x => 3")
}

// P11.1: functions that are bound, called with, and what cases and handlers end with.
func TestFunctionsThatMeet(t *testing.T) {
	classes(t, "[1 2]",
		"if 1 = 2 then fn x => 1 else fn x => 2", "case 0 of 0 => (fn x => 1) | _ => fn x => 2", "(fn x => 1) handle Div => fn x => 2",
		"(raise Div) handle Div => (fn x => 1) | Match => fn x => 2", "val f = fn x => 1 in if true then f else fn x => 2",
		"val f = if true then fn x => 1 else fn x => 2 in f 3", "fun f x = 1 in if true then f else fn x => 2", "fun f x = 1 and g x = 2 in if true then f else g",
		"fun a f = f 3 in (a (fn x => 1), a (fn x => 2))", "fun a f = 0 in (a (fn x => 1); a (fn x => 2))",
		"fun a x = if x then fn y => 1 else fn y => 2 in a true 3", "case fn x => 1 of f => if true then f else fn x => 2",
		"fun f x = let fun g y = if true then f else fn z => 2 in 1; g 0; 0 end in f 0",
	)
	classes(t, "[1 2 3]", "case 0 of 0 => (fn x => 1) | 1 => (fn x => 2) | _ => fn x => 3", "fun f x = 1 in case 0 of 0 => f | 1 => (fn x => 2) | _ => let fun g x = 3 in g end",
		"val f = fn x => 1 val g = if true then f else fn x => 2 in if true then f else fn x => 3")
	classes(t, "[1 2] [3]", "fun a f = (3; f) in (a (fn x => 1); a (fn x => 2); a)", "fun a f = f 0 fun b f = f 0 in (a (fn x => 1), a (fn x => 2), b (fn x => 3))")
}

// P11.1: what functions answer, and what is given to them, where it isn't known which ones they are.
func TestFunctionsOfFunctions(t *testing.T) {
	classes(t, "[1 2]", "fun a x = (3; fn y => 1) in if true then a 0 else fn z => 2")
	classes(t, "[1 2] [3]", "val a = fn x => (3; fn y => 1) in if true then a 0 else fn z => 2", "val a = fn f => (3; f 0) in (a (fn x => 1), a (fn x => 2))")
	classes(t, "[1 2] [3 4]",
		"val a = if true then fn f => (3; f 0) else fn f => (4; f 0) in (a (fn x => 1), a (fn x => 2))",
		"val a = if true then fn x => (3; fn y => 1) else fn x => (4; fn y => 2) in a 0 0",
		"val a = fn f => (3; f 0 + 0) val b = fn f => (4; f 0 + 0) in (a (fn x => 1), b (fn x => 2), (if true then a else b; 0))",
		"val a = fn x => (3; x + 0; fn y => y + 1) val b = fn x => (4; x + 0; fn y => y + 2) in (a 0 0, b 0 0, (if true then a else b; 0))",
		"val a = fn f => (3; f 0 + 0) fun b f = (4; f 0 + 0) in (a (fn x => 1), b (fn x => 2), (if true then a else b; 0))",
	)
	classes(t, "[1 2] [4]", "fun a x = (3; fn y => (4; if true then fn z => 1 else fn z => 2)) in a 0 0 0")
	classes(t, "[1] [2] [3] [4]", "fun a x = (5; fn y => 1) fun b x = (6; fn y => 2) in (a 0 0, b 0 0, (3; fn x => 3), fn x => (4; \"\"))")
	classes(t, "[1 2] [3 4] [5 6]", "val a = fn f => (5; f (fn x => x + 1) + 0) val b = fn f => (6; f (fn x => x + 2) + 0) in (a (fn g => (3; g 0)), b (fn g => (4; g 0)), (if true then a else b; 0))")
	classes(t, "[1 2] [3]", "fun a x = ((3; fn y => 1) handle Div => fn y => 2) in (a 0 0; fn z => 3)", "fun a f = f 0 handle Div => f 1 in (a (fn x => 1); a (fn x => 2)); fn x => 3")
	classes(t, "[1] [2]", "fun id x = x in id (fn y => 1) 0; id (fn y => (2; \"\")) 0") // two instances of id
	classes(t, "[1 2]", "fun id x = x in id (fn y => 1) 0; id (fn y => 2) 0", "fun id x = x in if true then id (fn y => 1) else id (fn y => 2)")
}

// P11.1: what is laid into tuples, constructors, refs and arrays, and what is taken out of them.
func TestFunctionsThatAreHeld(t *testing.T) {
	classes(t, "[1 2]",
		"(fn x => 1, fn x => 2)", "[fn x => 1]; [fn x => 2]", "(fn x => 1, 0); (\"\", fn x => 2)", "ref (fn x => 1); [fn x => 2]", "array (0, fn x => 1); (0, fn x => 2)",
		"datatype t = A of int -> int in A (fn x => 1); [fn x => 2 + x]", "datatype 'a t = A of 'a in A (fn x => 1); A (0, fn x => 2)",
		"exception E of int -> int in E (fn x => 1); [fn x => 2 + x]", "datatype t = A of (int -> int) * int in A (fn x => 1, 0); [fn x => 2 + x]",
		"val r = ref (fn x => 1) in r := (fn x => 2)", "val r = array (3, fn x => 1) in update (r, 0, fn x => 2)",
		"(fn x => 1, 0); ((raise Div) := (fn x => 2))", "update (raise Div, 0, fn y => 2); [fn x => 1]",
		"case (fn x => 1, 0) of (f, _) => if true then f else fn x => 2", "case [fn x => 1] of f :: _ => (if true then f else fn x => 2) | [] => raise Div",
		"if true then !(ref (fn x => 1)) else fn x => 2", "if true then sub (array (3, fn x => 1), 0) else fn x => 2",
		"case [fn x => 1] of [] => 0 | _ => 0; if true then !(raise Div) else fn x => 2", "if true then sub (raise Div, 0) else fn x => 1; if true then !(raise Div) else fn x => 2",
		"datatype t = A of int -> int in case A (fn x => 1) of A f => if true then f else fn x => 2",
		"exception E of int -> int in (raise E (fn x => 1)) handle E f => (if true then f else fn x => 2) | _ => raise Div",
		"exception E of int -> int in (if true then raise E (fn x => 1) else 0) handle E f => f 0 | _ => 0; [fn x => 2 + x]",
	)
	classes(t, "[1] [2]", "(fn x => 1, fn x => (2; \"\"))", "[fn x => 1]; fn x => 2", "(fn x => 1, 0); ((fn x => 2) 0, 0)", "[(fn x => 1) 0]; fn x => 2", "(fn () => 1, fn 0 => 2 | _ => 3)",
		"case fn x => 1 of f => (fn x => 2, 0)", "ref (fn x => 1); case fn x => 2 of f => 0")
	classes(t, "[1 2] [3]", "case [fn f => (3; f 0 + 0)] of a :: _ => a (fn x => 1) + a (fn x => 2) | _ => 0", "(fn (f, g) => (3; f 0 + g 0)) (fn x => 1, fn x => 2)",
		"case (fn x => 1, fn x => (3; \"\")) of (f, g) => (if true then f else fn x => 2; g)")
	classes(t, "[1 2] [3 4] [5]", "[fn f => (3; f () + 0)]; case [fn f => (4; f ())] of a :: _ => (a (fn x => 1) + a (fn x => 2); fn x => 5) | _ => raise Div")
	// What a function knows isn't laid into a tuple.
	classes(t, "[1] [2] [3]", "val f = fn x => 1 in fn y => (2; f ()); [fn x => 3]", "val f = fn x => 1 val g = 1 + 1 in fn y => (2; f () + g); [fn x => 3]")
}
