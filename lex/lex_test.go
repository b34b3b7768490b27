package lex

import (
	"slices"
	"strings"
	"testing"

	"bellows/api"
)

// num and what follows are tokens that stand at a place.
func num(at int, n int64) api.Token { return api.Token{Kind: api.TokNum, At: at, N: n} }

func text(at int, s string) api.Token { return api.Token{Kind: api.TokText, At: at, Text: s} }

func name(at int, s string) api.Token { return api.Token{Kind: api.TokName, At: at, Text: s} }

func con(at int, s string) api.Token { return api.Token{Kind: api.TokCon, At: at, Text: s} }

func variable(at int, s string) api.Token { return api.Token{Kind: api.TokVar, At: at, Text: s} }

func sign(at int, s string) api.Token { return api.Token{Kind: api.TokSign, At: at, Text: s} }

// cut holds what a text is cut into against what is wanted.
func cut(t testing.TB, src string, want ...api.Token) {
	t.Helper()
	l, e, at := Lex(src)
	if e != api.OK || at != 0 || !slices.Equal(l, want) {
		t.Errorf("Lex(%s) = %+v, %d, %d, want %+v", short(src), l, e, at, want)
	}
}

// refused looks that there are an error, its place, and no tokens.
func refused(t testing.TB, src string, want api.Errno, place int) {
	t.Helper()
	l, e, at := Lex(src)
	if e != want || at != place || len(l) != 0 {
		t.Errorf("Lex(%s) = %d tokens, %d, %d, want %d, %d", short(src), len(l), e, at, want, place)
	}
}

// short keeps what is told of a long text short.
func short(s string) string {
	if len(s) > 200 {
		s = s[:200] + " .."
	}
	return "\"" + s + "\""
}

// P7.1: the chapter's examples.
func TestExamples(t *testing.T) {
	cut(t, "val x=~1", sign(0, "val"), name(4, "x"), sign(5, "="), sign(6, "~"), num(7, 1))
	cut(t, "(* a (* b *) *) c", name(16, "c"))
	cut(t, `"a\065"`, text(0, "aA"))
	refused(t, "4611686018427387904", api.ErrLex, 0)
	cut(t, "a=>b", name(0, "a"), sign(1, "=>"), name(3, "b"))
	cut(t, "'a list", variable(0, "'a"), name(3, "list"))
}

// P7.1: a text with tokens of all kinds.
func TestProgram(t *testing.T) {
	cut(t, "fun f_1 (x :: _) = if x<>12 then \"no\\n\" else F'\n| y' (*all*);",
		sign(0, "fun"), name(4, "f_1"), sign(8, "("), name(9, "x"), sign(11, "::"), sign(14, "_"), sign(15, ")"), sign(17, "="),
		sign(19, "if"), name(22, "x"), sign(23, "<>"), num(25, 12), sign(28, "then"), text(33, "no\n"), sign(40, "else"), con(45, "F'"),
		sign(48, "|"), name(50, "y'"), sign(60, ";"))
	cut(t, "datatype 'a t=Nil|Cons of 'a*'a t",
		sign(0, "datatype"), variable(9, "'a"), name(12, "t"), sign(13, "="), con(14, "Nil"), sign(17, "|"), con(18, "Cons"),
		sign(23, "of"), variable(26, "'a"), sign(28, "*"), variable(29, "'a"), name(32, "t"))
}

// P7.1: no text, no tokens, and no place.
func TestNothing(t *testing.T) {
	for _, src := range []string{"", " ", "\n", " \t\n\r", "(**)", "(* a *)", " (* a *)\n(* b *) "} {
		cut(t, src)
	}
}

// P7.1: what a byte by itself is, and where it stands between tokens, and at the end of them.
func TestEachByteAlone(t *testing.T) {
	for n := range 256 {
		s := string([]byte{byte(n)})
		at := len("a ")
		switch {
		case strings.Contains(" \t\n\r", s):
			cut(t, s)
			cut(t, "a "+s+" b", name(0, "a"), name(4, "b"))
			cut(t, "a "+s, name(0, "a"))
		case strings.Contains("0123456789", s):
			cut(t, s, num(0, int64(n-'0')))
			cut(t, "a "+s+" b", name(0, "a"), num(at, int64(n-'0')), name(4, "b"))
		case strings.Contains("abcdefghijklmnopqrstuvwxyz", s):
			cut(t, s, name(0, s))
			cut(t, "a "+s+" b", name(0, "a"), name(at, s), name(4, "b"))
		case strings.Contains("ABCDEFGHIJKLMNOPQRSTUVWXYZ", s):
			cut(t, s, con(0, s))
			cut(t, "a "+s+" b", name(0, "a"), con(at, s), name(4, "b"))
		case strings.Contains("()[],;=<>+-*^!|_~", s):
			cut(t, s, sign(0, s))
			cut(t, "a "+s+" b", name(0, "a"), sign(at, s), name(4, "b"))
		default:
			refused(t, s, api.ErrLex, 0)
			refused(t, "a "+s+" b", api.ErrLex, at)
			refused(t, "a "+s, api.ErrLex, at)
			refused(t, "a "+s+" b \xff", api.ErrLex, at)
		}
	}
}

// P7.1: remarks, where they end, and which of them isn't ended.
func TestRemarks(t *testing.T) {
	cut(t, "a(**)b", name(0, "a"), name(5, "b"))
	cut(t, "a(***)b", name(0, "a"), name(6, "b"))
	cut(t, "a(*)*)b", name(0, "a"), name(6, "b"))
	cut(t, "a(*((*b*))*)c", name(0, "a"), name(12, "c"))
	cut(t, "(*(**)(**)*)b", name(12, "b"))
	cut(t, "(*(*(**)*)*)b", name(12, "b"))
	cut(t, "(**)(**)b", name(8, "b"))
	cut(t, "(**)*)", sign(4, "*"), sign(5, ")"))
	cut(t, "( *)", sign(0, "("), sign(2, "*"), sign(3, ")"))
	cut(t, "((* *))", sign(0, "("), sign(6, ")"))
	cut(t, "*(* *)*", sign(0, "*"), sign(6, "*"))
	cut(t, "(* \" *) \" (* \"", text(8, " (* "))
	cut(t, `"(*" "*)"`, text(0, "(*"), text(5, "*)"))
	cut(t, "1(**)2", num(0, 1), num(5, 2))
	cut(t, "<(**)=", sign(0, "<"), sign(5, "="))
	var all []byte
	for n := range 256 {
		all = append(all, byte(n))
	}
	cut(t, "(*"+string(all)+"*)b", name(260, "b"))
	for _, c := range []struct {
		src string
		at  int
	}{
		{"(*", 0}, {"(*)", 0}, {"(* *", 0}, {"(* )", 0}, {"a (* b", 2}, {"a (* b (* c *)", 2}, {"a (* b *) (* c (* d *)", 10},
		{"(*(**)", 0}, {"(*(*)*)", 0}, {"(* (* (*", 0}, {"(* \"*)\" (* *", 6}, {"(* * )", 0}, {" \n(*", 2}, {"1 (* $", 2},
	} {
		refused(t, c.src, api.ErrLex, c.at)
	}
}

// P7.1: remarks as deep in one another as a text has room for.
func TestDeepRemarks(t *testing.T) {
	const deep = api.MaxText / 4
	src := strings.Repeat("(*", deep) + strings.Repeat("*)", deep)
	cut(t, src)
	refused(t, src[:len(src)-1], api.ErrLex, 0)
	refused(t, "("+src[:len(src)-1], api.ErrLex, 1)
	refused(t, strings.Repeat("(*", 2*deep), api.ErrLex, 0)
	refused(t, strings.Repeat("(", 3)+strings.Repeat("(*", deep), api.ErrLex, 3)
}

// P7.1: MaxText bytes, and one more.
func TestMaxText(t *testing.T) {
	blanks := strings.Repeat(" ", api.MaxText)
	cut(t, blanks)
	refused(t, blanks+" ", api.ErrBig, 0)
	cut(t, blanks[1:]+"a", name(api.MaxText-1, "a"))
	refused(t, blanks+"a", api.ErrBig, 0)
	letters := strings.Repeat("a", api.MaxText)
	cut(t, letters, name(0, letters))
	refused(t, letters+"a", api.ErrBig, 0)
	cut(t, `"`+letters[2:]+`"`, text(0, letters[2:]))
	refused(t, `"`+letters[1:]+`"`, api.ErrBig, 0)
	noughts := strings.Repeat("0", api.MaxText)
	cut(t, noughts[1:]+"7", num(0, 7))
	refused(t, noughts+"7", api.ErrBig, 0)
	refused(t, noughts[19:]+"4611686018427387904", api.ErrLex, 0)
	refused(t, "$"+blanks[1:], api.ErrLex, 0)
	refused(t, blanks[1:]+"$", api.ErrLex, api.MaxText-1)
	refused(t, "$"+blanks, api.ErrBig, 0)
	refused(t, strings.Repeat("(", api.MaxText+1), api.ErrBig, 0)
	refused(t, strings.Repeat("$", 1<<20), api.ErrBig, 0)
}

// P7.1: MaxTokens tokens, and one more.
func TestMaxTokens(t *testing.T) {
	full := strings.Repeat("( ", api.MaxTokens)
	end := len(full)
	var want []api.Token
	for i := range api.MaxTokens {
		want = append(want, sign(2*i, "("))
	}
	for _, tail := range []string{"", " \n", "(* a *)", " (* ) *) "} {
		cut(t, full+tail, want...)
	}
	for _, tail := range []string{"a", "1", "'a", "A", "\"a\"", "let", "=>", "a $", "a 4611686018427387904", "a (*", "a \"", "( ( ("} {
		refused(t, full+tail, api.ErrBig, end)
		refused(t, full+" (* a *)\n"+tail, api.ErrBig, end+9)
	}
	for _, tail := range []string{"$", ":", "'", "\"", "\"\n\"", `"\q"`, "4611686018427387904", "(*", "(*)", "$ a"} {
		refused(t, full+tail, api.ErrLex, end)
		refused(t, full+"\t"+tail, api.ErrLex, end+1)
	}
	refused(t, "$ "+full+"(", api.ErrLex, 0)
	refused(t, full[2:]+"$ (", api.ErrLex, end-2)
	refused(t, strings.Repeat("(", api.MaxText), api.ErrBig, api.MaxTokens)
}

// P7.1: of several errors the one that is met first.
func TestFirstError(t *testing.T) {
	refused(t, "a $ \"", api.ErrLex, 2)
	refused(t, "\" $", api.ErrLex, 0)
	refused(t, "a (* $ \"", api.ErrLex, 2)
	refused(t, "9999999999999999999999 $", api.ErrLex, 0)
	refused(t, "a ' $", api.ErrLex, 2)
	refused(t, "(* $ *) a : \"", api.ErrLex, 10)
	refused(t, "\"$\" (* $ *) $", api.ErrLex, 12)
}
