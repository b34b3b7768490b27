package parse

import (
	"slices"
	"strings"
	"testing"

	"bellows/api"
	"bellows/lex"
)

// holds looks that a text is read as by the chapter's words.
func holds(t *testing.T, rules map[string]*part, src string) api.Errno {
	t.Helper()
	e, f, at := Parse(src)
	want, wantF, wantAt := parseAsTold(rules, src)
	if f != wantF || at != wantAt || !alike(e, want) {
		t.Fatalf("Parse(%s) = %s, %d, %d, want %s, %d, %d", src, told(e), f, at, told(want), wantF, wantAt)
	}
	if f == api.OK && !alike(e, bare(e)) {
		t.Fatalf("Parse(%s) = %+v", src, e)
	}
	return f
}

// P8.1 to P8.3: texts that have programs, of all forms.
func TestProgramsAgainstTheModel(t *testing.T) {
	m := newMaker(1)
	big := 0
	for n := range 6000 {
		src := strings.Join(m.program(10+n%60), " ")
		switch holds(t, m.rules, src) {
		case api.ErrBig:
			big++
		case api.ErrParse:
			t.Fatal(src)
		}
	}
	t.Log("too big:", big)
}

// P8.3: texts in which something is wrong.
func TestSpoiltAgainstTheModel(t *testing.T) {
	m := newMaker(2)
	count := map[api.Errno]int{}
	for n := range 20000 {
		count[holds(t, m.rules, strings.Join(m.spoilt(m.program(5+n%50)), " "))]++
	}
	t.Log(count)
	if count[api.OK] < 1000 || count[api.ErrParse] < 10000 {
		t.Error("too few", count)
	}
}

// deepText is a text that goes in so deep, and has anything at the end of it.
func (m *maker) deepText(depth int) string {
	n, l := outside(), steps()
	for n.depth() < depth {
		if s := oneOf(m.chance, l); s.fits(n.place) {
			n = n.in(s)
		}
	}
	rule := []string{anExp: "exp", aSide: "sum", aUnary: "unary", aPat: "pat", aTy: "ty"}[n.place]
	ahead, _ := n.unmarked()
	return ahead + strings.Join(m.text(m.rules[rule], 40), " ") + n.behind
}

// P8.3: texts that go in deep, and are wrong somewhere.
func TestDeepAgainstTheModel(t *testing.T) {
	m := newMaker(3)
	count := map[api.Errno]int{}
	for range 4000 {
		words := strings.Fields(m.deepText(api.MaxNest - 5 + m.below(8)))
		if m.below(2) == 0 {
			words = m.spoilt(words)
		}
		count[holds(t, m.rules, strings.Join(words, " "))]++
	}
	t.Log(count)
	if count[api.OK] < 300 || count[api.ErrParse] < 300 || count[api.ErrBig] < 300 {
		t.Error("too few", count)
	}
}

// P8.3: each text of up to three tokens.
func TestShortTextsAgainstTheModel(t *testing.T) {
	rules, v := grammar(), newViable(plain(grammar()))
	words := anyWords()
	for _, a := range words {
		for _, b := range words {
			holds(t, rules, a+" "+b)
			if _, f, at := Parse(a + " " + b); f == api.ErrParse && at < len(a)+2 {
				continue
			}
			for _, c := range words {
				src := a + " " + b + " " + c
				holds(t, rules, src)
				first(t, v, src)
			}
		}
		holds(t, rules, a)
		first(t, v, a)
	}
}

// first looks that the place of an error is the first token with which no program goes on, and that there is no error where there is a program.
func first(t *testing.T, v *viable, src string) {
	t.Helper()
	_, f, at := Parse(src)
	l, e, _ := lex.Lex(src)
	if e != api.OK || f == api.ErrBig {
		return
	}
	n, all := v.count(l)
	place := len(src)
	if n < len(l) {
		place = l[n].At
	}
	if all != (f == api.OK) || !all && (at != place || f != api.ErrParse) {
		t.Fatalf("Parse(%s): %d, %d, but %d tokens are a beginning, %v", src, f, at, n, all)
	}
}

// P8.3: the first token with which no program goes on, whichever way is taken.
func TestFirstTokenThatIsWrong(t *testing.T) {
	m := newMaker(4)
	v := newViable(plain(grammar()))
	for n := range 2000 {
		l := m.program(5 + n%30)
		first(t, v, strings.Join(l, " "))
		first(t, v, strings.Join(m.spoilt(l), " "))
		first(t, v, strings.Join(l[:m.below(len(l))], " "))
	}
}

// forms are programs in which each form stands, as short as can be.
func forms() []string {
	return []string{
		"val x = 1 val A 1 = 2 in x ; y", "fun f x ( A ) = 1 and g ~ 1 = 2 in 3", "datatype 'a t = A | B of 'a * int t -> ( t , 'a ) t in 1", "datatype ( 'a , 'b ) t = A of ( 'a ) in 1", "exception E of int exception F in 1",
		"fn | x => 1 | A y => 2", "case a of 1 => b | _ => c", "if a then b else c", "raise a handle x => b | y => c", "a orelse b andalso c := d = e :: f + g * h i ! j",
		"( ) ; ( a , b ) ; ( a ; b ) ; ( a )", "[ ] :: [ a ] :: [ a , b ]", "let in 1 end", "let val _ = 1 fun f x = 2 in 1 ; 2 end", "fn ( ) => 1 | ( x , y ) => 2 | [ ] => 3 | [ x , y ] => 4 | x :: y => 5 | _ => 6", `f "a" 1 x A ~ 1`,
	}
}

// P8.3: at each place of each form each token, and nothing, in the place of the one that stands there.
func TestEachTokenAtEachPlace(t *testing.T) {
	rules, v := grammar(), newViable(plain(grammar()))
	for _, src := range forms() {
		read(t, src)
		l := strings.Fields(src)
		for i := range l {
			ahead := strings.Join(l[:i], " ")
			holds(t, rules, ahead)
			first(t, v, ahead)
			for _, w := range anyWords() {
				holds(t, rules, ahead+" "+w)
				first(t, v, ahead+" "+w)
				holds(t, rules, strings.Join(slices.Replace(slices.Clone(l), i, i+1, w), " "))
			}
		}
	}
}
