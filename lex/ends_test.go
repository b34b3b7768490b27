package lex

import (
	"slices"
	"strings"
	"testing"
	"unsafe"

	"bellows/api"
)

// P5: no text makes Lex panic, and none makes it long: the slowest are those with many beginnings of what isn't ended.
func TestLongTextsEnd(t *testing.T) {
	for _, part := range []string{"(*", "*)", "(", "*", "\"", "\\", "\"\\", "\"\\0", "'", "'a ", "a", "A ", "1", "9", "1 ", ":", "::", "<", " ", "\n", "\x00", "\xff", "(* *)", "(*)", "\"a\" ", "\"\"", "_", "let "} {
		for _, n := range []int{api.MaxText - 1, api.MaxText, api.MaxText + 1} {
			src := strings.Repeat(part, n/len(part)+1)[:n]
			l, e, at := Lex(src)
			if e == api.OK && at != 0 || e != api.OK && len(l) > 0 || len(src) > api.MaxText && (e != api.ErrBig || at != 0) {
				t.Errorf("%q: %d tokens, %d, %d", part, len(l), e, at)
			}
		}
	}
}

// P5, P7.2: of any tokens there is a text, and a text of tokens is cut, or refused.
func TestAnyTokensEnd(t *testing.T) {
	c := &chance{seed: 8}
	for range 5000 {
		var l []api.Token
		for range c.below(6) {
			b := make([]byte, c.below(6))
			for i := range b {
				b[i] = byte(c.next())
			}
			l = append(l, api.Token{Kind: c.below(9) - 1, At: int(c.next()), Text: string(b), N: int64(c.next())})
		}
		src := Print(l)
		if want := printAsTold(l); src != want {
			t.Fatalf("Print(%+v) = %q, want %q", l, src, want)
		}
		told(t, src)
	}
}

// Rule 6: what a call answers hangs on its arguments alone.
func TestSameAgain(t *testing.T) {
	c := &chance{seed: 9}
	for range 1000 {
		src := c.letters("abA1'_=<>:-!~()[]* \"\\$", 12)
		l, e, at := Lex(src)
		Lex("(* " + src)
		Lex(src + " let val")
		Print(l)
		m, f, to := Lex(src)
		if e != f || at != to || !slices.Equal(l, m) || Print(l) != Print(m) {
			t.Fatal(src)
		}
	}
}

// Rule 4: an answer is new memory, and tokens keep nothing of the text that they were cut from.
func TestAnswersAreNew(t *testing.T) {
	src := "let abc = 'abc \"abc\" Abc => "
	l, _, _ := Lex(src)
	m, _, _ := Lex(src)
	kept := slices.Clone(m)
	from := uintptr(unsafe.Pointer(unsafe.StringData(src)))
	for i, x := range l {
		at := uintptr(unsafe.Pointer(unsafe.StringData(x.Text)))
		if at >= from && at < from+uintptr(len(src)) {
			t.Errorf("%s stands in the text", x.Text)
		}
		l[i] = api.Token{}
	}
	clear(l[:cap(l)])
	if !slices.Equal(m, kept) {
		t.Error(m)
	}
	cut(t, src, kept...)
}
