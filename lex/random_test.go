package lex

import (
	"math/bits"
	"slices"
	"strings"
	"testing"

	"bellows/api"
)

// chance is a row of numbers, the same in each run.
type chance struct{ seed uint64 }

func (c *chance) next() uint64 {
	c.seed = c.seed*6364136223846793005 + 1442695040888963407
	return bits.RotateLeft64(c.seed, 27) ^ c.seed>>17
}

// below is a number from 0 to n - 1.
func (c *chance) below(n int) int { return int(c.next() % uint64(n)) }

// oneOf is one of a list.
func oneOf[E any](c *chance, l []E) E { return l[c.below(len(l))] }

// letters is up to most letters of which others are made.
func (c *chance) letters(of string, most int) string {
	var b []byte
	for range c.below(most + 1) {
		b = append(b, of[c.below(len(of))])
	}
	return string(b)
}

// token is one that some text is cut into.
func (c *chance) token() api.Token {
	switch c.below(8) {
	case 0:
		return num(0, int64(c.next()>>2>>c.below(62)))
	case 1:
		var b []byte
		for range c.below(6) {
			b = append(b, byte(c.next()))
		}
		return text(0, string(b))
	case 2:
		return variable(0, "'"+oneOf(c, strings.Split(inNameAsTold, ""))+c.letters(inNameAsTold, 3))
	case 3:
		return con(0, oneOf(c, strings.Split("ABCXYZ", ""))+c.letters(inNameAsTold, 4))
	case 4:
		return sign(0, oneOf(c, wordsAsTold()))
	case 5:
		return name(0, oneOf(c, strings.Split("abcxyz", ""))+oneOf(c, strings.Split(inNameAsTold, ""))+"0"+c.letters(inNameAsTold, 2))
	case 6:
		return con(0, oneOf(c, []string{"true", "false", "True", "Nil"}))
	default:
		return sign(0, oneOf(c, signsAsTold()))
	}
}

// tokens is up to most of them.
func (c *chance) tokens(most int) []api.Token {
	var l []api.Token
	for range c.below(most + 1) {
		l = append(l, c.token())
	}
	return l
}

// filling is what may stand between two tokens: blanks and remarks.
func (c *chance) filling() string {
	s := ""
	for range c.below(4) {
		s += oneOf(c, []string{" ", "\t", "\n", "\r", "(**)", "(* a *)", "(*(**)*)", "(***)", "(*)*)", "(*\"*)", "(*'$\x00\xff(* : *) *)"})
	}
	return s
}

// free are tokens with no place.
func free(l []api.Token) []api.Token {
	l = slices.Clone(l)
	for i := range l {
		l[i].At = 0
	}
	return l
}

// into looks that a text is cut into tokens, wherever they stand.
func into(t *testing.T, src string, want []api.Token) {
	t.Helper()
	l, e, at := Lex(src)
	if e != api.OK || at != 0 || !slices.Equal(free(l), free(want)) {
		t.Fatalf("Lex(%s) = %+v, %d, %d, want %+v", src, l, e, at, want)
	}
	for i, x := range l {
		if x.At < 0 || x.At >= len(src) || i > 0 && x.At <= l[i-1].At {
			t.Fatalf("Lex(%s): token %d at %d", src, i, x.At)
		}
	}
}

// told holds Lex against the chapter's words.
func told(t *testing.T, src string) ([]api.Token, api.Errno) {
	t.Helper()
	l, e, at := Lex(src)
	want, wantE, wantAt := lexAsTold(src)
	if e != wantE || at != wantAt || !slices.Equal(l, want) {
		t.Fatalf("Lex(%q) = %+v, %d, %d, want %+v, %d, %d", src, l, e, at, want, wantE, wantAt)
	}
	return l, e
}

// P7.3: what is printed is cut into the same tokens.
func TestPrintedIsCut(t *testing.T) {
	c := &chance{seed: 1}
	for range 5000 {
		l := c.tokens(20)
		src := Print(l)
		if want := printAsTold(l); src != want {
			t.Fatalf("Print(%+v) = %s, want %s", l, src, want)
		}
		into(t, src, l)
	}
}

// P7.3: also of tokens that were cut, whatever the text; and what is printed of them is the same once more.
func TestCutIsPrinted(t *testing.T) {
	c := &chance{seed: 2}
	for range 2000 {
		src := ""
		for _, x := range c.tokens(20) {
			src += Print([]api.Token{x}) + c.filling() + oneOf(c, []string{"", " "})
		}
		l, e, _ := Lex(src)
		if e != api.OK {
			continue
		}
		again := Print(l)
		into(t, again, l)
		if m, _, _ := Lex(again); Print(m) != again {
			t.Fatal(src)
		}
	}
	for n := range 256 {
		for m := range 256 {
			l := []api.Token{text(0, string([]byte{byte(n), byte(m), '0'}))}
			into(t, Print(l), l)
		}
	}
}

// P7.3: as many tokens as there may be, and a text that is as long as it may be when it is printed.
func TestPrintedIsCutAtTheEnds(t *testing.T) {
	l := slices.Repeat([]api.Token{name(0, "a"), sign(0, "=>"), num(0, 7), con(0, "B")}, api.MaxTokens/4)
	into(t, Print(l), l)
	const n = (api.MaxText - 2) / 4
	l = []api.Token{text(0, strings.Repeat("\x80", n))}
	into(t, Print(l)+"  ", l)
	into(t, Print(l), l)
	l = []api.Token{num(0, 1<<62-1), num(0, 0)}
	into(t, Print(l), l)
}

// P7.4: more blanks and remarks between tokens, ahead of them and behind them change nothing but where they stand.
func TestMoreBetween(t *testing.T) {
	c := &chance{seed: 3}
	for range 5000 {
		l := c.tokens(12)
		src, places := c.filling(), []int(nil)
		for _, x := range l {
			if len(places) > 0 {
				src += oneOf(c, []string{" ", "\n", "\t", "\r", "(**)"}) + c.filling()
			}
			places = append(places, len(src))
			src += Print([]api.Token{x})
		}
		src += c.filling()
		into(t, src, l)
		got, _, _ := Lex(src)
		for i, x := range got {
			if x.At != places[i] {
				t.Fatalf("Lex(%s): token %d at %d, want %d", src, i, x.At, places[i])
			}
		}
	}
}

// P7.4: also where nothing stands between two tokens.
func TestMoreBetweenWhereNothingIs(t *testing.T) {
	c := &chance{seed: 4}
	for range 5000 {
		src := c.letters("abA1'_=<>:-!~()[]*+\" ", 12)
		l, e, _ := Lex(src)
		if e != api.OK {
			continue
		}
		more, from := c.filling(), 0
		for _, x := range l {
			more += src[from:x.At] + c.filling()
			from = x.At
		}
		into(t, more+src[from:]+c.filling(), l)
	}
}

// P7.5: two texts with a blank between them are cut into the tokens of both.
func TestTwoTexts(t *testing.T) {
	c := &chance{seed: 5}
	both := 0
	for range 20000 {
		a, b := c.letters("abA1'_=<>:-!~()[]* ", 8), c.letters("abA1'_=<>:-!~()[]* ", 8)
		l, e, _ := Lex(a)
		m, f, _ := Lex(b)
		if e != api.OK || f != api.OK {
			continue
		}
		both++
		for i := range m {
			m[i].At += len(a) + 1
		}
		cut(t, a+" "+b, append(l, m...)...)
	}
	if both < 5000 {
		t.Error("too few", both)
	}
}

// P7.1: each text of up to three letters from among those of which tokens are made, and each of up to six from among fewer.
func TestShortTextsAgainstTheModel(t *testing.T) {
	var each func(letters, s string, most int)
	each = func(letters, s string, most int) {
		told(t, s)
		for i := 0; i < len(letters) && most > 0; i++ {
			each(letters, s+letters[i:i+1], most-1)
		}
	}
	each("az_'AZ09()[],;=<>+-*^:!|~\"\\nt \n$\x00\x7f\xff", "", 3)
	each("(*) ", "", 7)
	each("<=>:-", "", 5)
	each("\"\\01n", "", 6)
	each("a'1_", "", 5)
}

// P7.1: texts of parts in any row.
func TestAgainstTheModel(t *testing.T) {
	c := &chance{seed: 6}
	parts := append(append(wordsAsTold(), signsAsTold()...), "(*", "*)", "(*", "*)", "\"", "\"", "\\", "\\n", "\\065", "\\256", "'", "'a", " ", "\n", "x", "Y", "_", "true",
		"4611686018427387903", "4611686018427387904", "1", "0", "\xff", ":", "\"a\\\"b\"", "\"\xff\\255\"")
	good, bad := 0, 0
	for range 20000 {
		src := ""
		for range c.below(10) {
			src += oneOf(c, parts)
		}
		if _, e := told(t, src); e == api.OK {
			good++
		} else {
			bad++
		}
	}
	if good < 3000 || bad < 3000 {
		t.Error("too few", good, bad)
	}
}

// P7.1: bytes in any row, in texts and remarks too.
func TestAnyBytesAgainstTheModel(t *testing.T) {
	c := &chance{seed: 7}
	for range 20000 {
		b := make([]byte, c.below(12))
		for i := range b {
			b[i] = byte(c.next())
		}
		for _, src := range []string{string(b), "\"" + string(b) + "\"", "(*" + string(b) + "*)", "a " + string(b)} {
			told(t, src)
		}
	}
}
