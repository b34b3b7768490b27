package lex

import (
	"fmt"
	"math"
	"slices"
	"strings"
	"testing"

	"bellows/api"
)

// printed holds what tokens are written as against what is wanted.
func printed(t testing.TB, want string, l ...api.Token) {
	t.Helper()
	if got := Print(l); got != want {
		t.Errorf("Print(%+v) = %s, want %s", l, got, want)
	}
}

// P7.2: no tokens, one, and more, with a blank between two.
func TestPrint(t *testing.T) {
	if got := Print(nil); got != "" {
		t.Error(got)
	}
	printed(t, "")
	printed(t, "x", name(7, "x"))
	printed(t, "val x = ~ 1", sign(0, "val"), name(4, "x"), sign(5, "="), sign(6, "~"), num(7, 1))
	printed(t, `fun f 'a Cons "a b" true =>`, sign(9, "fun"), name(0, "f"), variable(0, "'a"), con(0, "Cons"), text(0, "a b"), con(0, "true"), sign(0, "=>"))
	printed(t, `"" "" 0 0`, text(0, ""), text(0, ""), num(0, 0), num(0, 0))
}

// P7.2: where a token began is nothing to what it is written as.
func TestPrintAnyPlace(t *testing.T) {
	for _, at := range []int{math.MinInt, -1, 0, 1, 100, math.MaxInt} {
		printed(t, `a 1 "b"`, name(at, "a"), num(-at, 1), text(at, "b"))
	}
}

// P7.2: numbers, those that no text is cut into too; of a number its Text is not written.
func TestPrintNumbers(t *testing.T) {
	for _, n := range []int64{0, 1, 9, 10, 1<<62 - 1, 1 << 62, math.MaxInt64, -1, -9, -10, -1 << 62, math.MinInt64} {
		printed(t, fmt.Sprint(n), num(0, n))
		printed(t, fmt.Sprint("a ", n, " b"), name(0, "a"), num(0, n), name(0, "b"))
		printed(t, fmt.Sprint(n), api.Token{Kind: api.TokNum, N: n, Text: "five"})
	}
}

// byteAsTold is how a byte stands in a text.
func byteAsTold(c byte) string {
	switch {
	case c == '"' || c == '\\':
		return `\` + string(rune(c))
	case c == 10:
		return `\n`
	case c == 9:
		return `\t`
	case c < 32 || c >= 127:
		return fmt.Sprintf(`\%03d`, c)
	}
	return string(rune(c))
}

// P7.2: each byte of a text.
func TestPrintEachByte(t *testing.T) {
	for c, want := range map[byte]string{0: `"\000"`, 9: `"\t"`, 10: `"\n"`, 11: `"\011"`, 13: `"\013"`, 31: `"\031"`, 32: `" "`, '"': `"\""`, '\\': `"\\"`, '\'': `"'"`, '~': `"~"`, 127: `"\127"`, 128: `"\128"`, 255: `"\255"`} {
		printed(t, want, text(0, string([]byte{c})))
	}
	var all []byte
	want := `"`
	for n := range 256 {
		c := byte(n)
		printed(t, `"`+byteAsTold(c)+`"`, text(0, string([]byte{c})))
		printed(t, `"x`+byteAsTold(c)+`5"`, text(0, "x"+string([]byte{c})+"5"))
		all, want = append(all, c), want+byteAsTold(c)
	}
	printed(t, want+`"`, text(0, string(all)))
	printed(t, `"\195\164\239\191\189\226\130"`, text(0, "ä\ufffd\xe2\x82"))
}

// P7.2: of what is no number and no text its Text is written as it stands, also of tokens of no kind; its number is not.
func TestPrintOthers(t *testing.T) {
	for _, kind := range []int{math.MinInt, -1, 0, api.TokName, api.TokCon, api.TokVar, api.TokSign, 7, 8, 1 << 32, 1<<32 + 1, 1<<32 + 2, math.MaxInt} {
		for _, s := range []string{"", "a", " ", "\n", `"`, `a\`, "\xff\x00", "(*", "$", "a b"} {
			printed(t, s, api.Token{Kind: kind, Text: s})
			printed(t, "1 "+s+" "+s, num(0, 1), api.Token{Kind: kind, Text: s, N: 5}, api.Token{Kind: kind, Text: s, N: -5})
		}
	}
}

// P7.2: more tokens, and longer ones, than a text is cut into.
func TestPrintLong(t *testing.T) {
	l := slices.Repeat([]api.Token{name(0, "a")}, 2*api.MaxTokens)
	printed(t, strings.Repeat("a ", len(l)-1)+"a", l...)
	bytes := strings.Repeat("\xff", 2*api.MaxText)
	printed(t, `"`+strings.Repeat(`\255`, 2*api.MaxText)+`"`, text(0, bytes))
}

// Rule 4: what is handed in is not changed, nor is its spare room.
func TestPrintChangesNothing(t *testing.T) {
	l := []api.Token{num(5, -3), text(6, "a\n"), name(7, "b"), {Kind: 9, At: 8, Text: "c", N: 4}}
	kept := slices.Clone(l)
	Print(l[:2])
	Print(l[:0])
	Print(l)
	if !slices.Equal(l, kept) {
		t.Error(l)
	}
}
