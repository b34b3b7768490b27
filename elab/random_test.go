package elab

import (
	"reflect"
	"strings"
	"testing"

	"bellows/api"
	"bellows/lex"
	"bellows/parse"
)

// holds looks that Elab answers what the chapter says.
func holds(t *testing.T, src string, e api.Exp) api.Prog {
	t.Helper()
	p, f, at := Elab(e)
	want := elabAsTold(e)
	if f != want.f || at != want.at || f != api.OK && !reflect.DeepEqual(p, api.Prog{}) {
		t.Fatalf("%s: %d, %d, want %d, %d", src, f, at, want.f, want.at)
	}
	if f != api.OK {
		return p
	}
	if Type(p) != want.typ || rows(p.Datas, "; ", toldData) != rows(want.datas, "; ", toldData) {
		t.Fatalf("%s: %s; %s, want %s; %s", src, Type(p), rows(p.Datas, "; ", toldData), want.typ, rows(want.datas, "; ", toldData))
	}
	sound(t, src, p)
	return p
}

// P9.1 to P9.7: programs that have types.
func TestProgramsAgainstTheModel(t *testing.T) {
	t.Parallel()
	g := newMaker(1)
	count := map[api.Errno]int{}
	for n := range 2000 {
		src := g.program(20 + n%200)
		e, f, _ := parse.Parse(src)
		if f == api.ErrBig {
			continue
		}
		if f != api.OK {
			t.Fatal(src, f)
		}
		holds(t, src, e)
		_, f, _ = Elab(e)
		count[f]++
		if f == api.ErrScope {
			t.Fatal(src)
		}
	}
	t.Log(count)
	if count[api.OK] < 1500 {
		t.Error("too few", count)
	}
}

// P9.8: a program does what its core does; P9.7: and nothing that its types rule out.
func TestProgramsDoWhatTheirCoresDo(t *testing.T) {
	t.Parallel()
	g := newMaker(2)
	count := map[string]int{}
	for n := range 4000 {
		src := g.program(20 + n%300)
		e, f, _ := parse.Parse(src)
		if f != api.OK {
			continue
		}
		p, f, _ := Elab(e)
		if f != api.OK {
			continue
		}
		in := oneOf(g.chance, []string{"", "a", "bcd"})
		a, b := evalExp(e, in, 3000), evalCore(p.Main, in, 20000)
		end, _, _ := strings.Cut(a.end, " ")
		if end == "no" {
			if !strings.HasPrefix(b.out, a.out) {
				t.Fatalf("%s: %q, %q", src, a, b)
			}
		} else if a != b {
			t.Fatalf("%s: %q, %q", src, a, b)
		}
		if end == "stuck:" {
			t.Fatalf("%s: %q", src, a)
		}
		if a.out != "" {
			count["out"]++
		}
		count[end]++
	}
	t.Log(count)
	if count["done"] < 1000 || count["raised"] < 300 || count["out"] < 200 {
		t.Error("too few", count)
	}
}

// spoilt is a text in which some tokens are others.
func (g *maker) spoilt(src string) string {
	l, _, _ := lex.Lex(src)
	var words []string
	for _, x := range l {
		words = append(words, lex.Print([]api.Token{x}))
	}
	pick := func() string {
		return oneOf(g.chance, append(strings.Fields("x y z f g id map none 1 0 true [] () None Some Nil Cons E F Div W L R + - ^ :: := ! , ; _ size ref sub u 'a 'b Leaf int list o"), "\"a\""))
	}
	for range 1 + g.below(2) {
		i := g.below(len(words))
		switch g.below(16) {
		case 0:
			words[i] = words[g.below(len(words))]
		case 1:
			j := g.below(len(words))
			words[i], words[j] = words[j], words[i]
		case 2:
			words[i] = pick()
		default: // a word of the same kind, mostly one that is there
			for range 100 {
				w := words[g.below(len(words))]
				if g.below(8) == 0 {
					w = pick()
				}
				if kindOf(words[i]) == api.TokSign {
					i = g.below(len(words))
				} else if kindOf(w) == kindOf(words[i]) && w != words[i] {
					words[i] = w
					break
				}
			}
		}
	}
	return strings.Join(words, " ")
}

func kindOf(w string) int {
	l, _, _ := lex.Lex(w)
	return l[0].Kind
}

// P9.1 to P9.4: programs in which something is wrong.
func TestSpoiltAgainstTheModel(t *testing.T) {
	t.Parallel()
	g := newMaker(3)
	count := map[api.Errno]int{}
	for n := range 6000 {
		src := g.program(3 + n%40)
		if g.below(3) > 0 { // of most the beginning is as it is, so that most names are known
			src = library + g.spoilt(strings.TrimPrefix(src, library))
		} else {
			src = g.spoilt(src)
		}
		e, f, _ := parse.Parse(src)
		if f != api.OK {
			continue
		}
		holds(t, src, e)
		_, f, _ = Elab(e)
		count[f]++
	}
	t.Log(count)
	if count[api.OK] < 1000 || count[api.ErrScope] < 1000 || count[api.ErrType] < 1000 {
		t.Error("too few", count)
	}
}

// loose makes an expression up of variables that are known, without asking for types.
func (g *maker) loose(names []string, depth int) string {
	sub := func(more ...string) string { return g.loose(append(names[:len(names):len(names)], more...), depth-1) }
	name := func() string { return oneOf(g.chance, strings.Fields("x y z f g")) }
	if depth <= 0 || g.below(5) == 0 {
		return oneOf(g.chance, append(names[:len(names):len(names)], "1", "()", "\"\"", "[]", "true"))
	}
	x, y := name(), name()
	pair := "(" + x + ", " + y + ")"
	if x == y {
		pair = "(_, " + y + ")"
	}
	switch g.below(20) {
	case 0, 1, 2:
		return "(" + sub() + " " + sub() + ")"
	case 3, 4:
		return "(fn " + x + " => " + sub(x) + ")"
	case 5, 6, 7:
		return "let val " + x + " = " + sub() + " in " + sub(x) + " end"
	case 8, 9:
		return "let fun " + x + " " + y + " = " + sub(x, y) + " in " + sub(x) + " end"
	case 10:
		f := "h" + x
		return "let fun " + x + " z = " + sub(x, f, "z") + " and " + f + " y = " + sub(x, f, "y") + " in " + sub(x, f) + " end"
	case 11, 12, 13:
		return "(" + sub() + ", " + sub() + ")"
	case 14:
		return "(case " + sub() + " of " + pair + " => " + sub(x, y) + ")"
	case 15:
		return "let val " + pair + " = " + sub() + " in " + sub(x, y) + " end"
	case 16:
		return "(if true then " + sub() + " else " + sub() + ")"
	case 17:
		return "[" + sub() + "]"
	case 18:
		return "(" + sub() + oneOf(g.chance, []string{" := ", " + ", "; ", " :: "}) + sub() + ")"
	}
	return "(" + oneOf(g.chance, []string{"ref ", "! ", "raise ", "Cons ", "sub "}) + sub() + ")"
}

// P9.2: expressions that may have types or not.
func TestLooseAgainstTheModel(t *testing.T) {
	t.Parallel()
	g := newMaker(4)
	count := map[api.Errno]int{}
	for n := 0; count[api.OK] < 6000; n++ {
		src := g.loose(nil, 2+n%6)
		e, f, _ := parse.Parse(src)
		if f != api.OK || len(src) > 1500 {
			continue
		}
		holds(t, src, e)
		_, f, _ = Elab(e)
		count[f]++
		if f == api.ErrScope {
			t.Fatal(src)
		}
	}
	t.Log(count)
}
