package elab

import (
	"strings"
	"testing"

	"bellows/api"
)

// tupleOf is a pattern of n parts: a tuple, and what is in it.
func tupleOf(n int) string { return "(" + strings.Repeat("_, ", n-2) + "_)" }

// valueOf is what that fits.
func valueOf(n int) string { return "(" + strings.Repeat("1, ", n-2) + "1)" }

// listOf is a pattern of 3 * k + 1 parts.
func listOf(k int) string { return "[" + strings.Repeat("_, ", k-1) + "_]" }

// ofParts are programs in which some patterns have n parts together.
func ofParts(n int) []string {
	return []string{
		"fn " + tupleOf(n) + " => 1",
		"fn " + tupleOf(n-1) + " => 1 | _ => 2",
		"fn _ => 1 | " + tupleOf(n-1) + " => 2",
		"fn x => case x of " + tupleOf(n) + " => 1",
		"case " + valueOf(n) + " of " + tupleOf(n) + " => 1",
		"case 1 of " + strings.Repeat("1 => 1 | ", n-1) + "_ => 1",
		"case 1 of " + strings.Repeat("x => 1 | ", n-1) + "~2 => 1",
		"fn " + listOf((n-2)/3) + " => 1 | " + strings.Repeat("_ => 1 | ", (n-2)%3) + "_ => 2",
		"val " + tupleOf(n) + " = " + valueOf(n) + " in 1",
		"let val " + tupleOf(n) + " = " + valueOf(n) + " in 1 end",
		"fun f " + tupleOf(n) + " = 1 in f",
		"fun f x " + tupleOf(n) + " = 1 in f",
		"exception E of int * int in 1 handle " + strings.Repeat("E (_, _) => 1 | ", (n-1)/4) + strings.Repeat("_ => 1 | ", (n-1)%4) + "Div => 1",
		"1 handle " + strings.Repeat("x => 1 | ", n-1) + "Div => 1",
	}
}

// P9.1: patterns of 150 parts are taken, of more they are too big: of one fn, case, handle or val.
func TestPatternsOfTooManyParts(t *testing.T) {
	for n := 147; n < 150; n++ {
		for _, src := range append(ofParts(n), ofParts(150)...) {
			elaborated(t, src)
		}
		for _, src := range append(ofParts(n+10), ofParts(151)...) {
			refuses(t, api.ErrBig, 0, src)
		}
	}
}

// P9.1: each fn, case, handle and val is counted by itself, and nothing but patterns.
func TestWhatIsCountedByItself(t *testing.T) {
	big := tupleOf(150)
	has(t, "int", "val "+big+" = "+valueOf(150)+" val "+big+" = "+valueOf(150)+" in 1")
	elaborated(t, "fun f "+big+" "+big+" = 1 and g "+big+" = 2 in f")
	elaborated(t, "fn "+big+" => fn "+big+" => case "+valueOf(150)+" of "+big+" => 1")
	elaborated(t, "(1 handle _ => case "+valueOf(150)+" of "+big+" => 1)")
	elaborated(t, "("+strings.Repeat("1, ", 300)+"1)")
	elaborated(t, strings.Repeat("if true then 1 else ", 30)+"1")
	elaborated(t, strings.Repeat("true andalso ", 200)+"true")
	elaborated(t, strings.Repeat("1; ", 200)+"1")
	elaborated(t, "datatype t = A | B of ("+strings.Repeat("int * ", 200)+"int) in 1")
}

// P9.1: too big is behind all names, and ahead of all types.
func TestTooBigIsBehindNames(t *testing.T) {
	for _, src := range ofParts(151) {
		refuses(t, api.ErrBig, 0, "1 + true; ("+inside(src)+")")
		refuses(t, api.ErrBig, 0, "("+inside(src)+"); 1 + true")
		refuses(t, api.ErrBig, 0, "("+inside(src)+"); case 1 of 2 => 3")
		refuses(t, api.ErrBig, 0, "let datatype 'a t = A of int t in 1 end; ("+inside(src)+")")
		at := strings.Index("("+inside(src)+"); x", "); x") + 3
		refuses(t, api.ErrScope, at, "("+inside(src)+"); x")
		refuses(t, api.ErrScope, 0, "x; ("+inside(src)+")")
		refuses(t, api.ErrScope, 6, "fn (x,x) => ("+inside(src)+")")
	}
	refuses(t, api.ErrBig, 0, "fn ("+strings.Repeat("0, ", 149)+"0) => 1")
	refuses(t, api.ErrBig, 0, "fn (true _, "+strings.Repeat("0, ", 149)+"0) => 1")
	refuses(t, api.ErrScope, 5, "fn ( A, "+strings.Repeat("0, ", 149)+"0) => 1")
}

// inside is a program as an expression within another one.
func inside(src string) string {
	for _, word := range strings.Fields("val fun datatype exception") {
		if strings.HasPrefix(src, word+" ") {
			return "let " + src + " end"
		}
	}
	return src
}
