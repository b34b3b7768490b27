package asm

import (
	"fmt"
	"reflect"
	"slices"
	"strings"
	"testing"

	"bellows/api"
	"bellows/code"
)

// refused: Read answers ErrCode and that line, and no image.
func refused(t testing.TB, s string, line int) {
	t.Helper()
	m, e, at := Read(s)
	if e != api.ErrCode || at != line || !reflect.DeepEqual(m, api.Image{}) {
		t.Errorf("%.200q: %d, %d, want the line %d; %+v", s, e, at, line, m)
	}
}

// right has lines of each kind that are right, as parts: each a letter of the kind, the word, and for each part one that is right.
func right() [][]string {
	l := [][]string{
		{"t", "type", "1", "(1 2)"},
		{"s", "shape", "3", "(1 2)", `"a b"`},
		{"g", "string", `"a b"`},
		{"n", "name", `"a b"`},
		{"f", "func", "(1 2)", "3", "4"},
		{"b", "block", "(1 2)"},
		{"m", "main", "3"},
		{"e", "exn", "3"},
	}
	for i, uses := range usesAsTold {
		x := []string{"i", wordsAsTold[i]}
		for _, letter := range uses {
			x = append(x, map[bool]string{true: "(1 2)", false: "3"}[strings.ContainsRune("LMl", letter)])
		}
		l = append(l, x)
	}
	return l
}

// around is what may stand ahead of a line of a kind, and behind it.
func around(kind string) (string, string) {
	switch kind {
	case "t", "s", "g", "n", "f":
		return "", behind
	case "b":
		return "func () 0 0\n", behind
	case "i":
		return ahead, behind
	case "m":
		return ahead, "exn 0\n"
	default:
		return ahead + "main 0\n", ""
	}
}

// lineRefused: a line that is none, where the right one stands as it should.
func lineRefused(t *testing.T, kind, line string) {
	t.Helper()
	front, back := around(kind)
	refused(t, front+line+"\n"+back, strings.Count(front, "\n")+1)
}

// P14.3: what these tests are made of is right.
func TestRightLines(t *testing.T) {
	for _, l := range right() {
		front, back := around(l[0])
		s := front + strings.Join(l[1:], " ") + "\n" + back
		if got := written(t, taken(t, s)); got != s {
			t.Errorf("%q is written %q", s, got)
		}
	}
}

// P14.3: other blanks: none, two, others, ahead, behind.
func TestOtherBlanks(t *testing.T) {
	for _, l := range right() {
		line := strings.Join(l[1:], " ")
		for _, blank := range []string{"  ", "\t", "\r", "\v", "\f", "", "\u00a0", " \t", ","} {
			for i := 2; i < len(l); i++ {
				lineRefused(t, l[0], strings.Join(l[1:i], " ")+blank+strings.Join(l[i:], " "))
			}
			if blank != "" {
				lineRefused(t, l[0], blank+line)
				lineRefused(t, l[0], line+blank)
			}
		}
		lineRefused(t, l[0], " "+line)
		lineRefused(t, l[0], line+" ")
	}
}

// P14.3: more parts, fewer, and in another order.
func TestOtherParts(t *testing.T) {
	for _, l := range right() {
		for i := 2; i <= len(l); i++ {
			for _, more := range []string{"3", "()", "(1 2)", `""`, "-", "x"} {
				lineRefused(t, l[0], strings.Join(slices.Insert(slices.Clone(l), i, more)[1:], " "))
			}
			if i == len(l) {
				break
			}
			lineRefused(t, l[0], strings.Join(slices.Delete(slices.Clone(l), i, i+1)[1:], " "))
			for j := i + 1; j < len(l); j++ {
				other := slices.Clone(l)
				other[i], other[j] = other[j], other[i]
				if kindsOf(l[i]) != kindsOf(l[j]) {
					lineRefused(t, l[0], strings.Join(other[1:], " "))
				}
			}
		}
		lineRefused(t, l[0], l[1])
		lineRefused(t, l[0], strings.Join(l[2:], " "))
	}
}

// kindsOf says which parts are numbers, lists and texts.
func kindsOf(part string) string {
	switch part[0] {
	case '(':
		return "list"
	case '"':
		return "text"
	default:
		return "number"
	}
}

// otherParts are such as are none of a kind.
var otherParts = map[string][]string{
	"number": {
		"", "+1", "+0", "-0", "00", "01", "-01", "007", "-", "--1", "+", "1.", "1.0", "1e3", "0x1", "0b1", "0o7", "1_000", "1,000", "(1)", "()", `"1"`, "'1'", "a", "nil", "1a", "a1",
		"9223372036854775808", "-9223372036854775809", "9223372036854775817", "18446744073709551615", "18446744073709551616", "18446744073709551617", "-18446744073709551616",
		"99999999999999999999", "100000000000000000000000000000000000000000", "-100000000000000000000000000000000000000000", "\uff11", "\u0661", "1\x00", "\x001", "\xff", "1\r",
	},
	"list": {
		"", "(", ")", "( )", "( 1 2)", "(1 2 )", "( 1 2 )", "(1  2)", "(1\t2)", "(\t1 2)", "(1 2\t)", "(1\u00a02)", "(1", "1)", "1", "0", "-1", "1 2", "(1 2", "1 2)", "(1,2)", "(1, 2)", "[1 2]", "{1 2}", "((1 2))", "(1 (2))", "(1 2))", "((1 2)", "(1)(2)", "(1) (2)", ")1 2(", "()()",
		"(+1)", "(-0)", "(00)", "(01)", "(1 02)", "(-)", "(a)", "(1.0)", "(0x1)", `("1")`, `""`, "(1 9223372036854775808)", "(-9223372036854775809 1)", "(99999999999999999999)", "(1;2)", "(1\x002)", "(1 2)\r",
	},
	"text": {
		"", `"`, `"a`, `a"`, "a", "a b", "''", "'a'", "`a`", `"a"b"`, `"a" "b"`, `"""`, `""""`, `"\"`, `"\\\"`, `"a\"`, `"\065"`, `"\097"`, `"\032"`, `"\034"`, `"\092"`, `"\126"`, `"\009"`, `"\010"`, `"\256"`, `"\999"`, `"\1"`, `"\12"`, `"\1a2"`,
		`"\a"`, `"\r"`, `"\0"`, `"\x41"`, `"\N"`, `"\T"`, `"\ "`, `"\'"`, `"\u0041"`, `"\10"`, `"\-01"`, `"\+01"`, "\"\t\"", "\"\r\"", "\"\x00\"", "\"\x1f\"", "\"\x7f\"", "\"\x80\"", "\"\xff\"", "\"\u00e4\"", `"a""`, `()`, `(1)`, `1`, `"a")`, `"\:00"`, `"\2:0"`, `"\20:"`, `"\/00"`,
	},
}

// P14.3: a part that is none of its kind, in each line, at each place.
func TestPartsThatAreNone(t *testing.T) {
	for _, l := range right() {
		for i := 2; i < len(l); i++ {
			for _, part := range otherParts[kindsOf(l[i])] {
				line := slices.Clone(l)
				line[i] = part
				lineRefused(t, l[0], strings.Join(line[1:], " "))
			}
		}
	}
	for _, imm := range []string{"2", "-1", "3", "10", "11", "true", "false", "yes", "255", "256", "4294967297"} {
		lineRefused(t, "t", "type "+imm+" ()")
	}
}

// P14.3: a word that is none, or is written otherwise.
func TestWordsThatAreNone(t *testing.T) {
	for _, l := range right() {
		rest := strings.Join(l[1:], " ")[len(l[1]):]
		for _, word := range []string{"", "x", strings.ToUpper(l[1]), strings.ToUpper(l[1][:1]) + l[1][1:], l[1] + "s", l[1][1:], l[1][:len(l[1])-1], l[1] + l[1], "Op" + l[1], "\"" + l[1] + "\"", l[1] + ":", "#" + l[1], "halt", "nop", "0", "1", "17", "types", "int", "data", "exception", "\xff", l[1] + "\x00"} {
			lineRefused(t, l[0], word+rest)
		}
	}
	for _, line := range []string{"", " ", "\r", "\t", "#", "// type 1 ()", "(* *)", "type 1 () (* *)", "BEL1", "\x00", "\ufefftype 1 ()"} {
		for _, kind := range []string{"t", "b", "i", "m", "e"} {
			lineRefused(t, kind, line)
		}
	}
}

// kindLines is a line of each kind.
var kindLines = map[rune]string{
	't': "type 1 ()\n", 's': "shape 3 () \"\"\n", 'g': "string \"\"\n", 'n': "name \"\"\n", 'f': "func () 0 0\n",
	'b': "block ()\n", 'i': "return 0\n", 'm': "main 0\n", 'e': "exn 0\n", 'x': "x\n",
}

// lined is the text of lines of some kinds.
func lined(kinds string) string {
	s := ""
	for _, k := range kinds {
		s += kindLines[k]
	}
	return s
}

// P14.3: lines that may not come behind those ahead, and lines that are wanting, by hand.
func TestOrderByHand(t *testing.T) {
	for kinds, line := range map[string]int{
		"me": 0, "tme": 0, "ttssggnnffme": 0, "fbibbiiffbbme": 0, "sgnfme": 0, "gme": 0, "nfme": 0, "tfbme": 0, "snme": 0,
		"": 1, "t": 2, "ttt": 4, "tsgnfbi": 8, "m": 2, "fbim": 5, "fb": 3,
		"stme": 2, "gsme": 2, "ngme": 2, "fnme": 2, "gtme": 2, "fbime": 0, "ffbinme": 5, "fbtme": 3, "fbgme": 3, "fbisme": 4,
		"bme": 1, "tbme": 2, "nbme": 2, "ime": 1, "nime": 2, "fime": 2, "fbffime": 5, "fbfime": 4, "tsgnime": 5,
		"em": 1, "e": 1, "te": 2, "fbie": 4, "mm": 2, "mme": 2, "mt": 2, "mf": 2, "mb": 2, "mi": 2, "fbimie": 5, "fbmbe": 4,
		"mee": 3, "met": 3, "mes": 3, "mem": 3, "meme": 3, "mef": 3, "meb": 3, "mei": 3, "mex": 3, "fbimeme": 6,
		"x": 1, "xme": 1, "txme": 2, "tsgnxme": 5, "fxme": 2, "fbxme": 3, "fbixme": 4, "mxe": 2, "tx": 2, "xt": 1, "stx": 2, "xst": 1,
	} {
		if line == 0 {
			if got := written(t, taken(t, lined(kinds))); got != lined(kinds) {
				t.Errorf("%s: %q", kinds, got)
			}
			continue
		}
		refused(t, lined(kinds), line)
	}
}

// P14.3: all orders of up to five lines, by the chapter's words.
func TestAllOrders(t *testing.T) {
	var from func(kinds string)
	good := 0
	from = func(kinds string) {
		if held(t, lined(kinds)) {
			good++
		}
		if len(kinds) == 5 || !orderAsTold.MatchString(kinds) {
			return
		}
		for k := range kindLines {
			from(kinds + string(k))
		}
	}
	from("")
	if good < 50 {
		t.Error("too few are an image's:", good)
	}
}

// held holds what Read answers against the chapter's words: is there an image?
func held(t testing.TB, s string) bool {
	t.Helper()
	m, e, at := Read(s)
	want, f, to := readAsTold(s)
	if e != f || at != to || !code.Same(m, want) || e != api.OK && !reflect.DeepEqual(m, api.Image{}) {
		t.Fatalf("%q: %d, %d, want %d, %d; %+v, want %+v", s, e, at, f, to, m, want)
	}
	if e == api.OK && (code.Check(m) != api.OK || written(t, m) != s) {
		t.Fatalf("%q is not what it is written as", s)
	}
	return e == api.OK
}

// P14.3: each beginning of a text: its last line, if that isn't ended, or the one that is wanting.
func TestBeginnings(t *testing.T) {
	for _, m := range append(images(3, 60), whole(), api.Image{}) {
		s := written(t, m)
		for i := range s {
			refused(t, s[:i], strings.Count(s[:i], "\n")+1)
		}
	}
}

// P14.3: the last line without a line feed is told, if no one ahead is, also where it would be wrong anyhow, or what is ahead is whole.
func TestLastLineWithoutEnd(t *testing.T) {
	refused(t, "", 1)
	refused(t, "x", 1)
	refused(t, "type 1 ()", 1)
	refused(t, "exn 0", 1)
	refused(t, "main 0", 1)
	refused(t, "main 0\nexn 0", 2)
	refused(t, "main 0\nexn 0\r\n", 2)
	refused(t, "main 0\r\nexn 0\r\n", 1)
	refused(t, "main 0\rexn 0\r", 1)
	refused(t, "main 0\nexn 0\nexn 0", 3)
	refused(t, "main 0\nexn 0\n ", 3)
	refused(t, "main 0\nexn 0\n\x00", 3)
	refused(t, "type 1 ()\nmain 0", 2)
	refused(t, "x\nmain 0", 1)
	refused(t, "\n", 1)
	refused(t, "\n\n", 1)
	refused(t, "main 0\n\nexn 0\n", 2)
	refused(t, "\nmain 0\nexn 0\n", 1)
	refused(t, "main 0\nexn 0\n\n", 3)
	refused(t, "main 0\nexn 0\n\n\n", 3)
	for _, l := range right() {
		front, _ := around(l[0])
		refused(t, front+strings.Join(l[1:], " "), strings.Count(front, "\n")+1)
	}
}

// P14.3: of several lines that can't be, the first one is told.
func TestFirstOfSeveral(t *testing.T) {
	refused(t, "type 1 ()\ntype 2 ()\ntype 3 ()\nmain 0\nexn 0\n", 2)
	refused(t, "shape 3 () \"\"\ntype 1 ()\ntype 2 ()\n", 2)
	refused(t, "type 2 ()\nshape 3 () \"\"\ntype 1 ()\n", 1)
	refused(t, "func () 0 0\nblock ()\nconst 0 00\nconst 0 0 0\nblock\n", 3)
	refused(t, "main 0\nmain 01\nexn 0", 2)
	refused(t, "main 00\nmain 0\nexn 0\n", 1)
	many := strings.Repeat("type 1 ()\n", 3000)
	refused(t, many+"type 2 ()\n"+many+behind, 3001)
	refused(t, many+many, 6001)
}

// limit is a thing of which an image may have most, and a text with n of it.
type limit struct {
	name string
	most int
	text func(n int) string
}

// limits are all that chapter 4 names.
func limits() []limit {
	rep := strings.Repeat
	list := func(n int) string { return "(" + strings.TrimPrefix(rep(" 7", n), " ") + ")" }
	code := func(line string) string { return ahead + "in 0\n" + line + "\n" + behind }
	return []limit{
		{"types", 1024, func(n int) string { return rep("type 0 ()\n", n) + behind }},
		{"shapes", 512, func(n int) string { return rep("shape 0 () \"\"\n", n) + behind }},
		{"strings", 256, func(n int) string { return rep("string \"\"\n", n) + behind }},
		{"names", 256, func(n int) string { return rep("name \"\"\n", n) + behind }},
		{"functions", 1024, func(n int) string { return rep("func () 0 0\n", n) + behind }},
		{"shapes of a type", 512, func(n int) string { return "type 1 " + list(n) + "\n" + behind }},
		{"fields", 200, func(n int) string { return "shape 1 " + list(n) + " \"\"\n" + behind }},
		{"bytes of a string", 16384, func(n int) string { return "string \"" + rep("a", n) + "\"\n" + behind }},
		{"bytes of a string that are written long", 16384, func(n int) string { return "string \"" + rep(`\255`, n) + "\"\n" + behind }},
		{"bytes of a name", 16384, func(n int) string { return "name \"" + rep(`\n`, n) + "\"\n" + behind }},
		{"bytes of a shape's name", 16384, func(n int) string { return "shape 1 () \"" + rep(`\\`, n) + "\"\n" + behind }},
		{"slots", 200, func(n int) string { return fmt.Sprintf("func () 0 %d\n", n) + behind }},
		{"params", 200, func(n int) string { return "func " + list(n) + " 0 0\n" + behind }},
		{"blocks", 2000, func(n int) string { return "func () 0 0\n" + rep("block ()\n", n) + behind }},
		{"In", 200, func(n int) string { return "func () 0 0\nblock " + list(n) + "\n" + behind }},
		{"L of new", 1024, func(n int) string { return code("new 0 0 " + list(n) + " ()") }},
		{"L of call", 1024, func(n int) string { return code("call 0 0 0 0 " + list(n) + " ()") }},
		{"L of switch", 1024, func(n int) string { return code("switch 0 " + list(n) + " () 0") }},
		{"M of switch", 1024, func(n int) string { return code("switch 0 () " + list(n) + " 0") }},
		{"L of tail", 1024, func(n int) string { return code("tail 0 " + list(n)) }},
		{"Live of text", 200, func(n int) string { return code("text 0 0 " + list(n)) }},
		{"Live of new", 200, func(n int) string { return code("new 0 0 () " + list(n)) }},
		{"Live of array", 200, func(n int) string { return code("array 0 0 0 0 " + list(n)) }},
		{"Live of cat", 200, func(n int) string { return code("cat 0 0 0 " + list(n)) }},
		{"Live of call", 200, func(n int) string { return code("call 0 0 0 0 () " + list(n)) }},
		{"instructions of a block", 20000, func(n int) string { return ahead + rep("in 0\n", n) + behind }},
		{"instructions of two functions", 20000, func(n int) string {
			return ahead + rep("in 0\n", 12345) + ahead + rep("out 0\n", n-12345) + behind
		}},
	}
}

// P14.3: what only Check finds is told at no line; a line that can't be is told ahead of that.
func TestOnlyCheck(t *testing.T) {
	for _, c := range limits() {
		s := c.text(c.most)
		if got := written(t, taken(t, s)); got != s {
			t.Errorf("%d %s: %.200q is written %.200q", c.most, c.name, s, got)
		}
		for _, n := range []int{c.most + 1, c.most + 2, 2*c.most + 1} {
			s = c.text(n)
			if m, e, at := Read(s); e != api.ErrCode || at != 0 || !reflect.DeepEqual(m, api.Image{}) {
				t.Errorf("%d %s: %d, %d", n, c.name, e, at)
			}
			count := strings.Count(s, "\n")
			refused(t, s+"exn 0\n", count+1)
			refused(t, s[:len(s)-1], count)
			refused(t, strings.TrimSuffix(s, "exn 0\n"), count)
			refused(t, strings.TrimSuffix(s, behind)+"main 0x\nexn 0\n", count-1)
		}
	}
}

// sized is the text of an image, of n bytes: some 2^20.
func sized(n int) string {
	full := "string \"" + strings.Repeat("a", api.MaxText) + "\"\n"
	s := strings.Repeat(full, 63)
	front := "string \""
	back := "\"\n" + behind
	return s + front + strings.Repeat("b", n-len(s)-len(front)-len(back)) + back
}

// P14.3: a text of 2^20 bytes is read, and one of a byte more isn't, whatever it has.
func TestMostBytes(t *testing.T) {
	const most = 1 << 20
	for _, n := range []int{most - 1, most} {
		s := sized(n)
		if len(s) != n || written(t, taken(t, s)) != s {
			t.Error(n, len(s))
		}
	}
	for _, c := range []struct {
		s    string
		line int
	}{
		{strings.Repeat("x", most), 1},
		{strings.Repeat("\n", most), 1},
		{strings.Repeat(" ", most), 1},
		{strings.Repeat("type 1 ()\n", most/10+1)[:most], most/10 + 1},
		{"type 1 (" + strings.Repeat("1 ", most)[:most-8], 1},
		{"type 1 " + strings.Repeat("(", most-7), 1},
		{"string \"" + strings.Repeat("\\", most-8), 1},
		{"main 0\nexn " + strings.Repeat("0", most-12) + "\n", 2},
		{sized(most-2) + "x\n", 67},
		{sized(most + 1)[:most], 66},
	} {
		if len(c.s) != most {
			t.Fatal(len(c.s))
		}
		refused(t, c.s, c.line)
		for _, s := range []string{c.s + "x", c.s + "\n", "x" + c.s, c.s + c.s} {
			bigRefused(t, s)
		}
	}
	for _, n := range []int{most + 1, most + 2, most + 5000} {
		bigRefused(t, sized(n))
	}
}

// bigRefused: Read answers ErrBig and no line, and no image.
func bigRefused(t *testing.T, s string) {
	t.Helper()
	if m, e, at := Read(s); e != api.ErrBig || at != 0 || !reflect.DeepEqual(m, api.Image{}) {
		t.Errorf("%d bytes: %d, %d", len(s), e, at)
	}
}
