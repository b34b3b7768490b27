package parse

import (
	"strings"
	"testing"

	"bellows/api"
)

// wrongAt looks that a text is refused for its form where the mark ? stands, which is none of its letters.
func wrongAt(t *testing.T, marked ...string) {
	t.Helper()
	for _, m := range marked {
		ahead, behind, _ := strings.Cut(m, "?")
		refuses(t, ahead+behind, api.ErrParse, len(ahead))
	}
}

// P8.3: no text, and texts without a token.
func TestNoText(t *testing.T) {
	wrongAt(t, "?", " ?", "\n\t ?", "(* a *)?", "(**) (**) ?")
}

// P8.3: a text that is wanting a token at its end: the place is the text's end, blanks and remarks in it.
func TestWantingAtTheEnd(t *testing.T) {
	wrongAt(t,
		"val x = ?", "val?", "val x?", "val x =?", "val x = 1?", "val x = 1 in?", "val x = 1 in 1;?",
		"fun?", "fun f?", "fun f x?", "fun f x =?", "fun f x = 1?", "fun f x = 1 and?", "fun f x = 1 and g?",
		"datatype?", "datatype 'a?", "datatype (?", "datatype ('a?", "datatype ('a,?", "datatype ('a)?", "datatype t?", "datatype t =?", "datatype t = A?", "datatype t = A of?", "datatype t = A of int?", "datatype t = A |?",
		"exception?", "exception E?", "exception E of?", "exception E of (?", "exception E of (a?", "exception E of (a,?", "exception E of (a, b?", "exception E of (a, b)?", "exception E of a *?", "exception E of a ->?",
		"if?", "if a?", "if a then?", "if a then b?", "if a then b else?",
		"case?", "case a?", "case a of?", "case a of |?", "case a of x?", "case a of x =>?", "case a of x => b |?",
		"fn?", "fn |?", "fn x?", "fn x =>?", "fn x => 1 |?", "raise?", "a handle?", "a handle x?", "a handle x =>?",
		"(?", "(a?", "(a,?", "(a, b?", "(a;?", "(a; b?", "[?", "[a?", "[a,?", "let?", "let in?", "let in a?", "let val x = 1?", "let val x = 1 in a;?",
		"!?", "~?", "a ;?", "a orelse?", "a andalso?", "a :=?", "a =?", "a <>?", "a <?", "a <=?", "a >?", "a >=?", "a ::?", "a +?", "a -?", "a ^?", "a *?", "a div?", "a mod?",
		"fn ~?", "fn (?", "fn (x?", "fn (x,?", "fn [?", "fn [x?", "fn [x,?", "fn A?", "fn A x?", "fn x ::?", "fun f (?", "fun f [?", "fun f ~?",
		"a + (* b *) ?", "a +\n?", "(a (**)?",
	)
}

// P8.3: tokens with which no program goes on, at each place of each expression.
func TestWrongInExpressions(t *testing.T) {
	for _, x := range strings.Fields(`) ] , ; = <> < <= > >= + - * ^ :: := | => -> _ 'a in end then else of handle andalso orelse div mod and`) {
		wrongAt(t, "?"+x, "( a, ?"+x, "[a, ?"+x, "fn x => ?"+x, "a + ?"+x, "a * ?"+x, "a :: ?"+x, "a := ?"+x, "a = ?"+x, "a andalso ?"+x, "a orelse ?"+x, "! ?"+x, "~ ?"+x, "if ?"+x, "if a then ?"+x, "if a then b else ?"+x, "raise ?"+x, "case ?"+x, "a; ?"+x, "val x = ?"+x, "let in ?"+x)
		if x != ")" {
			wrongAt(t, "( ?"+x)
		}
		if x != "]" {
			wrongAt(t, "[ ?"+x)
		}
	}
	for _, x := range strings.Fields(`fn case if raise`) {
		wrongAt(t, "f ?"+x, "a + ?"+x, "a * ?"+x, "a :: ?"+x, "a := ?"+x, "a = ?"+x, "a andalso ?"+x, "a orelse ?"+x, "! ?"+x, "~ ?"+x, "(a) ?"+x, "[] ?"+x)
	}
	for _, x := range strings.Fields(`val fun datatype exception`) {
		wrongAt(t, "( ?"+x, "f ?"+x, "[ ?"+x, "a; ?"+x, "a + ?"+x, "fn x => ?"+x, "if ?"+x, "a ?"+x, "val x = ?"+x, "let in ?"+x, "let in a ?"+x)
	}
	for _, x := range strings.Fields(`) ] , | => -> _ 'a in end then else of and val`) {
		wrongAt(t, "a ?"+x, "a; b ?"+x, "f a + 1 ?"+x, "let in a end ?"+x, "(a) ?"+x, "raise a ?"+x)
	}
}

// P8.3: what may not stand behind a form that is whole, or in the middle of one.
func TestWrongBehindForms(t *testing.T) {
	wrongAt(t,
		"a = b ?= c", "a < b ?> c", "a = b :: c ?= d", "(a = b ?= c)", "a := b = c ?= d", "a handle b => c = d ?= e",
		"(a; b?, c)", "(a, b?; c)", "[a?; b]", "(a?]", "[a?)", "[a, b?)", "(a,?)", "[a,?]", "(?,a)", "[?,]", "(a?", "a?)", "a?]", "a?,b", "a;?;b", "a;?", "?;a",
		"if a ?else b", "if a then b ?)", "if a then b ?;", "if a ?; b then c else d", "case a ?=> b", "case a of x ?-> b", "case a of x ?= b", "case a of ?=> b", "case a of x => a ?=> b", "case a of x => a | ?| b", "case a ?, b of x => 1",
		"fn ?=> b", "fn x ?y => 1", "fn x ?= 1", "fn x ?, y => 1", "fn A x ?y => 1", "fn (x ?y) => 1", "fn 1 ?x => 1", "fn ?'a => 1", "fn ~?x => 1", "fn ~?~1 => 1", "fn ~?(1) => 1", `fn ?"a" => 1`, "fn ?!x => 1", "fn x ?+ 1 => 1", "fn x :: ?=> 1", "fn [x?; y] => 1", "fn (x,?) => 1", "fn [x,?] => 1", "fn (?, x) => 1", "fn (A?", "fn | ?| x => 1", "fn x => 1 | ?| y => 2", "fn _ ?_ => 1", "fn x => x ?=> y", "fn ?let", "fn ?val", "fn ?fn",
		"raise ?", "raise ?;", "raise a ?)", "let ?a in 1 end", "let val x = 1 ?end", "let in ?end", "let in a ?in", "let in a; ?end", "let in a end ?end", "let ?end", "let ?let in a end", "let val x = 1?; val y = 2 in 1 end", "let val x = 1 in a ?val", "(?val x = 1 in x)",
		"val x = 1 in a ?end", "val x = 1 ?end", "val x ?_ = 1", "?in a", "?end", "?and f x = 1", "val x = 1 ?and y = 2 in x", "val x = 1 in ?val y = 2 in x", "val x = 1 in x ?in y",
		"a handle ?=> 1", "a handle x ?", "a handle x => 1 ?)", "?handle x => 1", "raise ?handle x => 1", "fn x => ?handle y => 1",
	)
}

// P8.3: in declarations.
func TestWrongInDeclarations(t *testing.T) {
	wrongAt(t,
		"val ?= 1 in 1", "val ?val", "val x ?x = 1", "val x ?in", "val x ?| y = 1", "val x ?=> 1", "val A ?, = 1", `val ?"a" = 1`, "val ?'a = 1",
		"fun ?F x = 1", "fun ?_ x = 1", "fun ?1", "fun ?(f) x = 1", "fun f ?= 1", "fun f x ?in", "fun f x ?:: y = 1", "fun f ?:: y = 1", "fun f x ?=> 1", "fun f x ?| y = 1", `fun f ?"a" = 1`, "fun f ?'a = 1", "fun f x = 1 ?| f y = 2 in f", "fun f x = 1 and ?fun g y = 2 in f", "fun f x = 1 and ?_", "fun f x = 1 and g ?=", "fun f x = 1 ?, g", "fun f x = 1 and g x = 2 ?end", "fun f (A x ?y) = 1", "fun f A ~?x = 1", "fun f ~?A = 1",
		"datatype ?T = A", "datatype ?= A", "datatype ?1", "datatype 'a ?'b t = A", "datatype 'a ?T = A", "datatype 'a ?= A", "datatype (?) t = A", "datatype (?a) t = A", "datatype ('a ?'b) t = A", "datatype ('a, ?) t = A", "datatype ('a, ?b) t = A", "datatype ('a) ?= A", "datatype ('a) ?'b t = A", "datatype ('a) ?(", "datatype t ?'a = A", "datatype t ?of int", "datatype t ?| A", "datatype t = ?| A in 1", "datatype t = ?a in 1", "datatype t = ?in 1", "datatype t = ?(A) in 1", "datatype t = A ?B in 1", "datatype t = A ?int in 1", "datatype t = A of ?in 1", "datatype t = A of ?| B in 1", "datatype t = A | ?| B in 1", "datatype t = A | ?in 1", "datatype t = A | ?b in 1", "datatype t = A ?and u = B in 1", "datatype t = A of int ?of int in 1", "datatype t = A ?, B in 1", "datatype t = A ?= B in 1", "datatype t = A ?end", "datatype t = A of int ?Int in 1",
		"exception ?e in 1", "exception ?in 1", "exception ?= E in 1", "exception E ?| F in 1", "exception E ?= F in 1", "exception E ?F in 1", "exception E ?int in 1", "exception E of ?in 1", "exception E of int ?| F in 1", "exception E of int ?end", "exception ?1", "exception ?'a",
		"val x = 1 fun f y = 2 datatype t = A exception E ?1",
	)
}

// P8.3: in types.
func TestWrongInTypes(t *testing.T) {
	for _, x := range []string{
		"?", "?A", "?1", `?"a"`, "?_", "?)", "?[a]", "?*", "?->", "?->a", "?=", "?~", "?!a", "?| a",
		"(?)", "(?in", "(?,a) t", "(a ?", "(a ?in", "(a,?) t", "(a, ?, b) t", "(a, b) ?", "(a, b) ?in", "(a, b) ?* c", "(a, b) ?-> c", "(a, b) ?'c", "(a, b) ?(", "(a, b) ?A", "((a, b) ?) t", "((a, b) ?, c) t", "(a ?; b) t", "(a ?'b)", "(a ?]",
		"a ?'b", "a ?A", "a ?1", "a ?(b)", "a ?)", "a ?]", "a ?,b", "a ?=", "a ?=>", "a ?+ b", "a ?:: b", "'a ?'b", "'a list ?'b", "(a) ?(b)", "(a) ?'b",
		"a * ?", "a * ?* b", "a * ?-> b", "a * ?in", "a * ?)", "a * ?A", "a -> ?", "a -> ?-> b", "a -> ?* b", "a -> ?in", "a -> ?)", "a -> b ?=> c", "a -> b ?)", "(a -> b?", "(a -> ?) b", "(a * ?) b",
	} {
		wrongAt(t, "exception E of "+x, "datatype t = A | B of "+x, "let exception E of "+x)
	}
}

// P8.3: lex's errors and their places, wherever a token stands with which no program goes on.
func TestErrorsOfLex(t *testing.T) {
	refuses(t, "$", api.ErrLex, 0)
	refuses(t, "a $", api.ErrLex, 2)
	refuses(t, ") ) $", api.ErrLex, 4)
	refuses(t, "1 +", api.ErrParse, 3)
	refuses(t, "1 + \"", api.ErrLex, 4)
	refuses(t, "val (* x", api.ErrLex, 4)
	refuses(t, "x : int", api.ErrLex, 2)
	refuses(t, "4611686018427387904", api.ErrLex, 0)
	refuses(t, "fn ~4611686018427387904 => 1", api.ErrLex, 4)
	refuses(t, "'", api.ErrLex, 0)
	refuses(t, strings.Repeat("(", 50)+"$", api.ErrLex, 50)
	refuses(t, strings.Repeat(" ", api.MaxText+1), api.ErrBig, 0)
	refuses(t, "$"+strings.Repeat(" ", api.MaxText), api.ErrBig, 0)
	refuses(t, strings.Repeat(") ", api.MaxTokens+1), api.ErrBig, 2*api.MaxTokens)
	refuses(t, strings.Repeat(") ", api.MaxTokens), api.ErrParse, 0)
	refuses(t, strings.Repeat(" ", api.MaxText), api.ErrParse, api.MaxText)
}

// P8.3: as many bytes, and as many tokens, as a text may have, and one more.
func TestMaxTextAndMaxTokens(t *testing.T) {
	full := strings.Repeat("f ", api.MaxTokens)
	read(t, full)
	refuses(t, full+"f", api.ErrBig, 2*api.MaxTokens)
	read(t, full+"(* f *)")
	chain := strings.Repeat("1+", api.MaxTokens/2-1) + "1"
	read(t, chain)
	read(t, "~"+chain)
	refuses(t, chain+"+", api.ErrParse, len(chain)+1)
	refuses(t, "~"+chain+"+", api.ErrBig, len(chain)+1)
	wide := strings.Repeat(" ", api.MaxText-1) + "x"
	is(t, wide, "x@16383")
	refuses(t, wide+" ", api.ErrBig, 0)
	long := strings.Repeat("a", api.MaxText)
	is(t, long, long+"@0")
	refuses(t, long+"a", api.ErrBig, 0)
	text := strings.Repeat("b", api.MaxText-2)
	is(t, `"`+text+`"`, `"`+text+`"@0`)
}
