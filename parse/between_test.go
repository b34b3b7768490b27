package parse

import (
	"reflect"
	"strings"
	"testing"

	"bellows/api"
	"bellows/lex"
)

// filling is what may stand between two tokens.
func (c *chance) filling() string {
	s := ""
	for range c.below(4) {
		s += oneOf(c, []string{" ", "\t", "\n", "\r", "(**)", "(* val *)", "(*(* ) *)*)", "(*\"*)"})
	}
	return s
}

// P8.6: blanks and remarks change nothing but where things stand; where, is told by the tokens.
func TestBlanksAndRemarks(t *testing.T) {
	m := newMaker(30)
	for n := range 4000 {
		l := m.program(5 + n%50)
		if n%3 == 0 {
			l = m.spoilt(l)
		}
		plain, filled := "", m.filling()
		to := map[int]int{}
		for _, w := range l {
			to[len(plain)] = len(filled)
			plain += w + " "
			filled += w + oneOf(m.chance, []string{" ", "\n", "(**)"}) + m.filling()
		}
		to[len(plain)] = len(filled)
		a, f, at := Parse(plain)
		b, g, place := Parse(filled)
		if len(l) == 0 {
			to[0] = len(filled)
		}
		if f != g || f != api.OK && place != to[at] || !Same(a, b) {
			t.Fatalf("Parse(%q): %d, %d; Parse(%q): %d, %d", plain, f, at, filled, g, place)
		}
		if f != api.OK {
			continue
		}
		moved := copied(a)
		places(reflect.ValueOf(&moved).Elem(), func(at reflect.Value) {
			if _, is := to[int(at.Int())]; is {
				at.SetInt(int64(to[int(at.Int())]))
			}
		})
		if moved = bare(moved); !alike(moved, b) {
			t.Fatalf("%q: %s, %q: %s", plain, told(a), filled, told(b))
		}
	}
}

// P8.6: where nothing stands between two tokens that need nothing there.
func TestNothingBetween(t *testing.T) {
	same(t, "fn x=>(x,1)::[2]", " fn x => ( x , 1 ) :: [ 2 ] ")
	same(t, "val(x,y)=z fun f(x)=1 in f(x)", "val ( x , y ) = z fun f ( x ) = 1 in f ( x )")
	same(t, "f\"a\"!x~1[]()", "f \"a\" ! x ~ 1 [] ()")
	same(t, "x:=y;x", "x := y ; x")
	same(t, "a-b<=c", "a - b <= c")
	same(t, "fn~1=>~1", "fn ~ 1 => ~ 1")
	same(t, "case(1)of(x)=>2|_=>3", "case 1 of x => 2 | _ => 3")
}

// spans are where parts stand that are expressions by themselves: from which token to which.
func (t *tree) spans(from int, l *[][2]int) int {
	if t.rule == "" {
		return from + 1
	}
	to := from
	for _, x := range t.l {
		to = x.spans(to, l)
	}
	if strings.Contains(" seq exp or and set cmp cons sum mul call unary atom ", " "+t.rule+" ") {
		*l = append(*l, [2]int{from, to})
	}
	return to
}

// P8.7: brackets around an expression change nothing.
func TestBracketsChangeNothing(t *testing.T) {
	m := newMaker(31)
	tried := 0
	for n := range 1500 {
		l := m.program(5 + n%40)
		src := strings.Join(l, " ")
		a, f, _ := Parse(src)
		if f != api.OK {
			continue
		}
		tokens, _, _ := lex.Lex(src)
		r := &model{rules: m.rules, tokens: tokens, known: map[spot]answer{}}
		tr, _ := r.rule("program", 0, 0)
		var spans [][2]int
		tr.spans(0, &spans)
		for range 10 {
			s := oneOf(m.chance, spans)
			if s == [2]int{0, len(l)} && tr.l[0].rule == "dec" {
				continue
			}
			wrapped := strings.Join(l[:s[0]], " ") + " ( " + strings.Join(l[s[0]:s[1]], " ") + " ) " + strings.Join(l[s[1]:], " ")
			b, f, _ := Parse(wrapped)
			if f == api.ErrBig {
				continue
			}
			tried++
			if f != api.OK || !Same(a, b) {
				t.Fatalf("%s and %s: %d", src, wrapped, f)
			}
		}
	}
	t.Log(tried)
	if tried < 8000 {
		t.Error("too few", tried)
	}
}

// P8.7: also where they tell apart what would be read otherwise.
func TestBracketsTellApart(t *testing.T) {
	differ(t, "(a - b) - c", "a - (b - c)", "a - b + c", "a - (b + c)")
	differ(t, "f x y", "f (x y)", "(f x y) ()", "f (x, y)", "(f, x) y")
	differ(t, "(fn x => x) y", "fn x => x y")
	differ(t, "(a; b) :: c", "a; b :: c")
	differ(t, "(a handle x => b) + c", "a handle x => b + c")
	same(t, "((((f))) ((x)))", "f x")
	same(t, "(((1, 2)))", "(1, 2)")
	same(t, "(let in ((x)) end)", "let in x end")
	same(t, "[(a), ((b))]", "[a, b]")
	same(t, "fun f x = (x) in (f)", "fun f x = x in f")
}
