package elab

import (
	"strings"
	"testing"

	"bellows/api"
	"bellows/lex"
	"bellows/parse"
)

// P9.7, P9.8: what programs put out, and how they end, by hand.
func TestWhatProgramsDo(t *testing.T) {
	for src, want := range map[string]ran{
		"putc 65": {"A", "done ()"},
		"fun f n = if n = 0 then () else (putc (64 + n); f (n - 1)) in f 3": {"CBA", "done ()"},
		"1 div 0":                                                                  {"", "raised Div"},
		"(1 div 0) handle Div => 2":                                                {"", "done 2"},
		"(putc 65, putc 66, putc 67)":                                              {"ABC", "done ((), (), ())"},
		"(putc 65; fn x => x) (putc 66)":                                           {"AB", "done ()"},
		"sub ((putc 65; array (1, 2)), 1)":                                         {"A", "raised Subscript"},
		"val p = (putc 65; (\"x\", 0)) in (putc 66; byte p)":                       {"AB", "done 120"},
		"getc (putc 65)":                                                           {"A", "done 97"},
		"(getc (), getc (), getc ())":                                              {"", "done (97, 98, -1)"},
		"val r = ref 1 in (r := !r + 1; r)":                                        {"", "done ref 2"},
		"val f = print in (f \"a\"; f \"b\")":                                      {"ab", "done ()"},
		"val (x, y) = ((putc 65; 1), (putc 66; 2)) in y":                           {"AB", "done 2"},
		"case (1, 2) of (2, x) => x | (_, 3) => 4 | (x, y) => x - y":               {"", "done -1"},
		"exception E of int exception E of int in (raise E 1) handle E x => x + 1": {"", "done 2"},
		"exception E of int val r = fn x => raise E x exception E of int in (r 1) handle E x => x": {"", "raised E 1"},
		"datatype t = true | false in if true then 1 else 2":                                       {"", "done 1"},
		"false andalso (putc 65; true)":                                                            {"", "done false"}, "true orelse (putc 65; true)": {"", "done true"}, "true andalso (putc 65; true)": {"A", "done true"},
		"fun even n = if n = 0 then true else odd (n - 1) and odd n = if n = 0 then false else even (n - 1) in (even 4, even 3)": {"", "done (true, false)"},
		"fun f x = let fun g y = (x, y) in (g 1, g \"\") end in f ()":                                                            {"", "done (((), 1), ((), \"\"))"},
		"val x = 1 fun f y = x + y val x = 10 in f x":                                                                            {"", "done 11"},
		"case [1, 2] of [] => 0 | x :: _ => x":                                                                                   {"", "done 1"},
		"[1, 2]":                                                                                                                 {"", "done Cons (1, Cons (2, Nil))"},
		"(raise Match) handle Div => 1 | Match => (putc 65; raise Size)":                                                         {"A", "raised Size"},
		"(raise Match) handle Div => 1":                                                                                          {"", "raised Match"},
		"update (array (3, 1), 1, 2); array (~1, 0)":                                                                             {"", "raised Size"},
		"fun loop n = loop (n + 1) in loop 0":                                                                                    {"", "no fuel"},
		"(cmp (\"a\", \"b\"), size \"abc\", \"a\" ^ \"b\", length (array (3, 0)), ~ 1, 7 mod ~2, 4611686018427387903 + 1)": {"", "done (-1, 3, \"ab\", 3, -1, -1, -4611686018427387904)"},
	} {
		e := read(t, src)
		if got := evalExp(e, "ab", 3000); got != want {
			t.Errorf("%s: %q, want %q", src, got, want)
		}
		if got := evalCore(elaborated(t, src).Main, "ab", 9000); got != want {
			t.Errorf("the core of %s: %q, want %q", src, got, want)
		}
	}
}

// P9.9: names that are exchanged change no type.
func TestNamesThatAreExchanged(t *testing.T) {
	t.Parallel()
	g := newMaker(60)
	others := map[string]string{}
	exchange := func(names string) {
		l := strings.Fields(names)
		for i, name := range l {
			others[name] = l[(i+1)%len(l)]
		}
	}
	exchange("a b c d f g h x y z n q k r l m id const swap map")
	exchange("Some None L R Leaf Node W E F G")
	exchange("'a 'b 'c")
	done := 0
	for n := range 600 {
		src := g.program(20 + n%150)
		tokens, _, _ := lex.Lex(src)
		changed := ""
		for _, x := range tokens {
			if y, is := others[x.Text]; is && x.Kind != api.TokText {
				x.Text = y
			}
			changed += lex.Print([]api.Token{x}) + " "
		}
		e, f, _ := parse.Parse(src)
		d, h, _ := parse.Parse(changed)
		if f != api.OK || h != api.OK {
			continue
		}
		p, f, _ := Elab(e)
		q, h, _ := Elab(d)
		if f != h || Type(p) != Type(q) || told(p.Main) == "" {
			t.Fatalf("%s: %d, %s; %s: %d, %s", src, f, Type(p), changed, h, Type(q))
		}
		done++
	}
	if done < 400 {
		t.Error("too few", done)
	}
}

// places are expressions that may be others of the same type: what a val or a fun is, may not, since it would be no value any more.
func places(e *api.Exp) []*api.Exp {
	l := []*api.Exp{e}
	for i := range e.L {
		l = append(l, places(&e.L[i])...)
	}
	for i := range e.Cases {
		l = append(l, places(&e.Cases[i].E)...)
	}
	for i := range e.Decs {
		d := &e.Decs[i]
		if d.Kind == api.DVal {
			l = append(l, placesWithin(&d.E)...)
		}
		for j := range d.Funs {
			l = append(l, placesWithin(&d.Funs[j].E)...)
		}
	}
	return l
}

func placesWithin(e *api.Exp) []*api.Exp {
	var l []*api.Exp
	if e.Kind == api.EApp || e.Kind == api.ETuple {
		for i := range e.L {
			l = append(l, placesWithin(&e.L[i])...)
		}
		return l
	}
	return places(e)[1:]
}

// P9.9: a let that is bound without need changes no type.
func TestLetsWithoutNeed(t *testing.T) {
	t.Parallel()
	g := newMaker(61)
	done := map[api.Errno]int{}
	for n := range 2500 {
		src := g.loose(nil, 2+n%6)
		if n%4 == 0 {
			src = g.program(20 + n%100)
		}
		e, f, _ := parse.Parse(src)
		if f != api.OK {
			continue
		}
		p, f, _ := Elab(e)
		for range 4 {
			d, _, _ := parse.Parse(src)
			at := oneOf(g.chance, places(&d))
			need := read(t, oneOf(g.chance, []string{"val zz = 1 in 1", "val zz = fn x => x in 1", "fun zz x = zz x in 1", "datatype zz = Zz in 1", "exception Zz in 1", "val (zz, _) = (1, array (1, [])) in 1", "val _ = raise Div in 1", "fun zz x = x and zy y = y val zz = zz zz in 1"}))
			need.L = []api.Exp{*at}
			*at = need
			q, h, _ := Elab(d)
			if f != h || Type(p) != Type(q) {
				t.Fatalf("%s: %d, %s; %s: %d, %s", src, f, Type(p), parse.Print(d), h, Type(q))
			}
			done[f]++
		}
	}
	t.Log(done)
	if done[api.OK] < 2000 || done[api.ErrType] < 1000 {
		t.Error("too few", done)
	}
}

// The examples of the chapter and of the document.
func TestExamples(t *testing.T) {
	has(t, "(int * string)", "fun id x = x in (id 1, id \"a\")")
	has(t, "(int * bool)", "fun id x = x in (id 1, id true)")
	has(t, "() list ref", "val r = ref [] in r")
	has(t, "int list ref", "val r = ref [] in (r := [1]; r)")
	has(t, "()", "putc 65", "fun f n = if n = 0 then () else (putc (64 + n); f (n - 1)) in f 3")
	has(t, "int", "1 div 0", "(1 div 0) handle Div => 2", "case [1, 2] of [] => 0 | x :: _ => x")
	illTyped(t, "fn x => x x", "case 1 of 0 => 1", "1 + true", "val r = ref [] in (r := [1]; r := [\"a\"])", "case [1, 2] of x :: _ => x")
	unknownAt(t, "@x")
}
