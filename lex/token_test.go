package lex

import (
	"fmt"
	"strings"
	"testing"

	"bellows/api"
)

// P7.1: numbers, the greatest one, and those behind it.
func TestNumbers(t *testing.T) {
	for _, c := range []struct {
		src string
		n   int64
	}{
		{"0", 0}, {"7", 7}, {"10", 10}, {"00", 0}, {"007", 7}, {"1234567890", 1234567890}, {"4611686018427387903", 1<<62 - 1},
		{"4611686018427387899", 1<<62 - 5}, {"0004611686018427387903", 1<<62 - 1}, {"4611686018427387894", 1<<62 - 10},
		{"999999999999999999", 999999999999999999}, {"3999999999999999999", 3999999999999999999},
		{strings.Repeat("0", 1000) + "12", 12},
	} {
		cut(t, c.src, num(0, c.n))
	}
	for _, src := range []string{
		"4611686018427387904", "4611686018427387905", "4611686018427387913", "4611686018427387910", "4611686018427388000", "4999999999999999999", "5000000000000000000",
		"9223372036854775807", "9223372036854775808", "9999999999999999999", "18446744073709551615", "18446744073709551616", "18446744073709551617",
		"46116860184273879030", "92233720368547758080", "99999999999999999999", "0004611686018427387904", "340282366920938463463374607431768211456",
		strings.Repeat("9", 1000), strings.Repeat("0", 50) + strings.Repeat("1", 20), "4611686018427387904a",
	} {
		refused(t, src, api.ErrLex, 0)
		refused(t, " a"+"+"+src, api.ErrLex, 3)
	}
}

// P7.1: where a number ends.
func TestNumbersEnd(t *testing.T) {
	cut(t, "12ab", num(0, 12), name(2, "ab"))
	cut(t, "12Ab", num(0, 12), con(2, "Ab"))
	cut(t, "1'a", num(0, 1), variable(1, "'a"))
	cut(t, "1_2", num(0, 1), sign(1, "_"), num(2, 2))
	cut(t, "0x1", num(0, 0), name(1, "x1"))
	cut(t, "~1", sign(0, "~"), num(1, 1))
	cut(t, "-1", sign(0, "-"), num(1, 1))
	cut(t, "1-1", num(0, 1), sign(1, "-"), num(2, 1))
	cut(t, `1"2"3`, num(0, 1), text(1, "2"), num(4, 3))
	cut(t, "1 2", num(0, 1), num(2, 2))
	cut(t, "if1then", name(0, "if1then"))
	refused(t, "1.5", api.ErrLex, 1)
}

// P7.1: each byte in a text, as it stands.
func TestEachByteInATextAsItStands(t *testing.T) {
	for n := range 256 {
		c := string([]byte{byte(n)})
		src := "a \"x" + c + "y\" b"
		switch {
		case n < 32:
			refused(t, src, api.ErrLex, 2)
		case n == '"':
			refused(t, src, api.ErrLex, 6)
			cut(t, "a \"x"+c+"y", name(0, "a"), text(2, "x"), name(5, "y"))
		case n == '\\':
			refused(t, src, api.ErrLex, 2)
		default:
			cut(t, src, name(0, "a"), text(2, "x"+c+"y"), name(8, "b"))
			cut(t, `"`+c+`"`, text(0, c))
		}
	}
}

// P7.1: each byte behind a backslash.
func TestEachByteBehindABackslash(t *testing.T) {
	for n := range 256 {
		c := string([]byte{byte(n)})
		src := "a \"x\\" + c + "y\" b"
		meant := map[int]string{'n': "\n", 't': "\t", '\\': "\\", '"': "\""}[n]
		if meant == "" {
			refused(t, src, api.ErrLex, 2)
			continue
		}
		cut(t, src, name(0, "a"), text(2, "x"+meant+"y"), name(9, "b"))
		cut(t, `"\`+c+`"`, text(0, meant))
		cut(t, `"\`+c+`065"`, text(0, meant+"065"))
	}
}

// P7.1: each number of three digits behind a backslash; a fourth digit is a letter of its own.
func TestEachNumberInAText(t *testing.T) {
	for n := range 1000 {
		src := fmt.Sprintf(`a "x\%03dy" b`, n)
		if n > 255 {
			refused(t, src, api.ErrLex, 2)
			continue
		}
		c := string([]byte{byte(n)})
		cut(t, src, name(0, "a"), text(2, "x"+c+"y"), name(11, "b"))
		cut(t, fmt.Sprintf(`"\%03d"`, n), text(0, c))
		cut(t, fmt.Sprintf(`"\%03d5"`, n), text(0, c+"5"))
	}
}

// P7.1: fewer than three digits behind a backslash, whatever byte stands in the place of one.
func TestDigitsWanting(t *testing.T) {
	for n := range 256 {
		if n >= '0' && n <= '9' {
			continue
		}
		c := string([]byte{byte(n)})
		if !strings.Contains(`nt\"`, c) {
			refused(t, `"\`+c+`65 "`, api.ErrLex, 0)
		}
		refused(t, `"\0`+c+`5 "`, api.ErrLex, 0)
		refused(t, `"\06`+c+` "`, api.ErrLex, 0)
	}
	for _, src := range []string{`"\6"`, `"\65"`, `"\06"`, `"\0\"`, `"\06\"`, `"\ 65"`, `"\+65"`, `"\-65"`, `"\0x4"`} {
		refused(t, src, api.ErrLex, 0)
	}
}

// P7.1: texts that aren't ended, wherever they leave off.
func TestTextsNotEnded(t *testing.T) {
	whole := `"a\n\t\\\"\065\255 b"`
	cut(t, whole, text(0, "a\n\t\\\"A\xff b"))
	for n := 1; n < len(whole); n++ {
		refused(t, whole[:n], api.ErrLex, 0)
		refused(t, "(* \" *) f "+whole[:n], api.ErrLex, 10)
		refused(t, whole[:n]+"\n\"", api.ErrLex, 0)
	}
	cut(t, `""`, text(0, ""))
	cut(t, `"a""b"`, text(0, "a"), text(3, "b"))
	refused(t, `"a" "`, api.ErrLex, 4)
	refused(t, `"a"b"`, api.ErrLex, 4)
	cut(t, `f"a"g`, name(0, "f"), text(1, "a"), name(4, "g"))
	cut(t, "\"\x7f\xc3\xa4\xff\"", text(0, "\x7f\xc3\xa4\xff"))
}

// inNameAsTold are the letters of a name.
const inNameAsTold = "abcdefghijklmnopqrstuvwxyzABCDEFGHIJKLMNOPQRSTUVWXYZ0123456789_'"

// P7.1: type variables: each byte behind the mark.
func TestTypeVariables(t *testing.T) {
	for n := range 256 {
		c := string([]byte{byte(n)})
		if !strings.Contains(inNameAsTold, c) {
			refused(t, "'"+c, api.ErrLex, 0)
			refused(t, "a '"+c, api.ErrLex, 2)
			continue
		}
		cut(t, "'"+c, variable(0, "'"+c))
		cut(t, "'"+c+"=", variable(0, "'"+c), sign(2, "="))
		cut(t, "['a"+c+"]", sign(0, "["), variable(1, "'a"+c), sign(4, "]"))
	}
	refused(t, "'", api.ErrLex, 0)
	refused(t, "a '", api.ErrLex, 2)
}

// P7.1: names and constructors: each byte at the front, and behind it.
func TestNames(t *testing.T) {
	for n := range 256 {
		c := string([]byte{byte(n)})
		if !strings.Contains(inNameAsTold, c) {
			continue
		}
		cut(t, "x"+c, name(0, "x"+c))
		cut(t, "X"+c, con(0, "X"+c))
		cut(t, "xx"+c+"y z", name(0, "xx"+c+"y"), name(5, "z"))
		cut(t, "Xx"+c+"y z", con(0, "Xx"+c+"y"), name(5, "z"))
	}
	cut(t, "a'b", name(0, "a'b"))
	cut(t, "a 'b", name(0, "a"), variable(2, "'b"))
	cut(t, "'a'b", variable(0, "'a'b"))
	cut(t, "_a", sign(0, "_"), name(1, "a"))
	cut(t, "_'a", sign(0, "_"), variable(1, "'a"))
	cut(t, "a_", name(0, "a_"))
	cut(t, "__", sign(0, "_"), sign(1, "_"))
	cut(t, "aB", name(0, "aB"))
	cut(t, "Ab", con(0, "Ab"))
	refused(t, "\xc3\xa4", api.ErrLex, 0)
	refused(t, "a\xc3\xa4", api.ErrLex, 1)
	long := strings.Repeat("a'_Z9", 1000)
	cut(t, long, name(0, long))
}

// wordsAsTold are the words that are signs.
func wordsAsTold() []string {
	return strings.Fields("let val fun and in end if then else case of fn datatype exception raise handle andalso orelse div mod")
}

// P7.1: words that are signs or constructors; with a letter more, or less, or with great ones, they are not.
func TestWords(t *testing.T) {
	signs := map[string]bool{}
	for _, w := range wordsAsTold() {
		signs[w] = true
	}
	if len(signs) != 20 {
		t.Fatal(len(signs))
	}
	is := func(at int, w string) api.Token {
		switch {
		case signs[w]:
			return sign(at, w)
		case w == "true" || w == "false":
			return con(at, w)
		}
		return name(at, w)
	}
	for _, w := range append(wordsAsTold(), "true", "false", "ref", "list", "int", "not", "print", "getc", "nil", "open", "rec", "do", "as", "op") {
		cut(t, w, is(0, w))
		cut(t, w+" "+w, is(0, w), is(len(w)+1, w))
		cut(t, "("+w+")", sign(0, "("), is(1, w), sign(len(w)+1, ")"))
		for _, c := range inNameAsTold {
			cut(t, w+string(c), is(0, w+string(c)))
		}
		for n := 1; n < len(w); n++ {
			cut(t, w[:n], is(0, w[:n]))
		}
		cut(t, strings.ToUpper(w[:1])+w[1:], con(0, strings.ToUpper(w[:1])+w[1:]))
		cut(t, strings.ToUpper(w), con(0, strings.ToUpper(w)))
		cut(t, w[:1]+strings.ToUpper(w[1:]), is(0, w[:1]+strings.ToUpper(w[1:])))
		cut(t, "'"+w, variable(0, "'"+w))
		cut(t, "x"+w, name(0, "x"+w))
		cut(t, "1"+w, num(0, 1), is(1, w))
	}
}

// signsAsTold are the signs that are no words.
func signsAsTold() []string {
	return strings.Fields("( ) [ ] , ; = <> < <= > >= + - * ^ :: := ! | => -> _ ~")
}

// P7.1: each sign, and with a blank ahead and behind.
func TestSigns(t *testing.T) {
	if len(signsAsTold()) != 24 {
		t.Fatal(len(signsAsTold()))
	}
	for _, s := range signsAsTold() {
		cut(t, s, sign(0, s))
		cut(t, " "+s+" ", sign(1, s))
		cut(t, "a"+s+"b", func() []api.Token {
			if s == "_" {
				return []api.Token{name(0, "a_b")}
			}
			return []api.Token{name(0, "a"), sign(1, s), name(1+len(s), "b")}
		}()...)
		for _, o := range signsAsTold() {
			cut(t, s+" "+o, sign(0, s), sign(len(s)+1, o))
		}
	}
}

// P7.1: of signs that begin with one another the longest.
func TestLongestSigns(t *testing.T) {
	for _, c := range []struct {
		src  string
		want string
	}{
		{"==", "= ="}, {"==>", "= =>"}, {"=>>", "=> >"}, {"=>=", "=> ="}, {"=<", "= <"}, {"=<=", "= <="}, {"=<>", "= <>"},
		{"<=>", "<= >"}, {"<=>=", "<= >="}, {"<>=", "<> ="}, {"<>=>", "<> =>"}, {"<<>", "< <>"}, {"<<=", "< <="}, {"<==", "<= ="}, {"<->", "< ->"}, {"<-", "< -"}, {"<:=", "< :="},
		{">>=", "> >="}, {">=>", ">= >"}, {">==", ">= ="}, {">=", ">="}, {"><", "> <"}, {">->", "> ->"}, {"> =", "> ="},
		{"--", "- -"}, {"-->", "- ->"}, {"->>", "-> >"}, {"->=", "-> ="}, {"->-", "-> -"}, {"->>=", "-> >="},
		{"::::", ":: ::"}, {":::=", ":: :="}, {":=:=", ":= :="}, {":==", ":= ="}, {":=>", ":= >"}, {"::=", ":: ="}, {"::=>", ":: =>"}, {"::>=", ":: >="},
		{"!!~~", "! ! ~ ~"}, {"||", "| |"}, {"^^", "^ ^"}, {"*)", "* )"}, {"**", "* *"}, {"()", "( )"}, {"(=*)", "( = * )"}, {"[]", "[ ]"}, {"_=>_", "_ => _"}, {"++", "+ +"}, {";;,", "; ; ,"},
		{"= >", "= >"}, {"< >", "< >"}, {"- >", "- >"}, {"< =", "< ="},
	} {
		l, e, at := Lex(c.src)
		var parts []string
		for _, x := range l {
			parts = append(parts, x.Text)
			if x.Kind != api.TokSign || !strings.HasPrefix(c.src[x.At:], x.Text) {
				t.Errorf("%s: %+v", c.src, x)
			}
		}
		if got := strings.Join(parts, " "); e != api.OK || at != 0 || got != c.want {
			t.Errorf("Lex(%s) = %s, %d, %d, want %s", c.src, got, e, at, c.want)
		}
	}
	for src, at := range map[string]int{":": 0, "a:b": 1, ": :": 0, ": =": 0, ":::": 2, "::: ": 2, ":>": 0, "=:": 1, ":=:": 2, "::: =": 2, "a : int": 2, "<:>": 1} {
		refused(t, src, api.ErrLex, at)
	}
}
