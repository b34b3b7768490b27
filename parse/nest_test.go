package parse

import (
	"strings"
	"testing"

	"bellows/api"
)

// The places of a text: where an exp is read; to the right of :: and :=; behind ! and ~; where a pat, and where a ty is read.
const (
	anExp = iota
	aSide
	aUnary
	aPat
	aTy
)

// step goes further in, from a place of one kind to one of another. In what is ahead of the place an @ stands where a form that is counted begins that goes on to the place, a # where one begins that stands beside it.
type step struct {
	from, to      int
	ahead, behind string
}

// steps are all ways further in.
func steps() []step {
	return []step{
		// Atoms.
		{aUnary, anExp, "( @", " )"}, {aUnary, anExp, "( #1 , @", " )"}, {aUnary, anExp, "( @", " , 1 )"}, {aUnary, anExp, "( #1 ; @", " )"}, {aUnary, anExp, "( @", " ; 1 )"},
		{aUnary, anExp, "[ @", " ]"}, {aUnary, anExp, "[ #1 , @", " ]"}, {aUnary, anExp, "[ @", " , 1 ]"},
		{aUnary, anExp, "let in @", " end"}, {aUnary, anExp, "let in #1 ; @", " end"}, {aUnary, anExp, "let val #x = @", " in 1 end"}, {aUnary, anExp, "let val #x = #1 val #y = @", " in 1 end"},
		{aUnary, anExp, "let fun f x = @", " in 1 end"}, {aUnary, anExp, "let fun f x = #1 and g x ( #y ) = @", " in 1 end"}, {aUnary, anExp, "let exception A of #t in @", " end"},
		{aUnary, aPat, "let val @", " = 1 in 1 end"}, {aUnary, aPat, "let fun f ( @", " ) = 1 in 1 end"}, {aUnary, aPat, "let fun f x [ #1 , @", " ] = 1 in 1 end"},
		{aUnary, aTy, "let datatype t = A of @", " in 1 end"}, {aUnary, aTy, "let datatype 'a t = A of #t | B of @", " | C in 1 end"}, {aUnary, aTy, "let exception A of @", " in 1 end"},
		// Words ahead.
		{anExp, anExp, "fn #x => @", ""}, {anExp, anExp, "fn #x => #1 | #y => @", ""}, {anExp, anExp, "case @", " of x => 1"}, {anExp, anExp, "case #1 of #x => @", ""}, {anExp, anExp, "case #1 of | #x => #1 | #y => @", ""},
		{anExp, anExp, "if @", " then 1 else 1"}, {anExp, anExp, "if #1 then @", " else 1"}, {anExp, anExp, "if #1 then #1 else @", ""}, {anExp, anExp, "raise @", ""}, {anExp, anExp, "1 handle #x => @", ""}, {anExp, anExp, "1 handle #x => #1 | #y => @", ""},
		{anExp, aPat, "fn @", " => 1"}, {anExp, aPat, "fn | @", " => 1 | y => 2"}, {anExp, aPat, "fn #1 => #1 | @", " => 1"}, {anExp, aPat, "case #1 of @", " => 1"}, {anExp, aPat, "1 handle @", " => 1"},
		// To the right of a sign, and behind ! and ~.
		{anExp, aSide, "1 := @", ""}, {anExp, aSide, "1 :: @", ""}, {anExp, aSide, "1 + 1 :: @", ""}, {anExp, aSide, "f x = 1 :: @", ""}, {anExp, aSide, "1 orelse 1 andalso 1 := @", ""}, {anExp, aSide, "1 := @1 :: @", ""}, {anExp, aSide, "1 :: @1 :: @", " = 1"}, {aSide, aSide, "1 :: @", ""},
		{aUnary, aUnary, "! @", ""}, {aUnary, aUnary, "~ @", ""}, {aUnary, aUnary, "! @! @~ @", ""}, {aSide, aUnary, "f ! @", ""}, {aSide, aUnary, "f x ~ @", " y"}, {aSide, aUnary, "1 + ! @", ""}, {aSide, aUnary, "1 * ~ @", " * 1"}, {aSide, anExp, "! #f ( @", " )"}, {aSide, anExp, "f 1 [ @", " ] 1"},
		// What isn't counted.
		{aSide, aUnary, "1 + ", ""}, {aSide, aUnary, "1 * ", " - 1"}, {anExp, aSide, "1 = ", ""}, {anExp, aSide, "", " = 1"}, {anExp, aSide, "1 andalso ", ""}, {anExp, aSide, "1 orelse ", " andalso 1"}, {aSide, aUnary, "", " 1"},
		// Patterns and types.
		{aPat, aPat, "( @", " )"}, {aPat, aPat, "( #1 , @", " )"}, {aPat, aPat, "( @", " , 1 )"}, {aPat, aPat, "[ @", " ]"}, {aPat, aPat, "[ #1 , @", " ]"}, {aPat, aPat, "A ( @", " )"}, {aPat, aPat, "A [ @", " ]"}, {aPat, aPat, "x :: @", ""}, {aPat, aPat, "( @", " ) :: 1"}, {aPat, aPat, "A x :: @", ""}, {aPat, aPat, "~ 1 :: @", ""},
		{aTy, aTy, "( @", " )"}, {aTy, aTy, "( @", " , t ) t"}, {aTy, aTy, "( #t , @", " ) t"}, {aTy, aTy, "t -> @", ""}, {aTy, aTy, "( @", " ) t"}, {aTy, aTy, "t * ( @", " ) -> t"}, {aTy, aTy, "t * t t -> @", ""}, {aTy, aTy, "( #t ) -> @", ""},
	}
}

// fits: may this step be taken at a place? An exp may be a side, and a side what stands behind a !.
func (s step) fits(place int) bool {
	return s.from == place || place == anExp && (s.from == aSide || s.from == aUnary) || place == aSide && s.from == aUnary
}

// nest is a way into a text: what is ahead of where it ends, with its marks, and behind, and what may stand there.
type nest struct {
	ahead, behind string
	place         int
}

// outside is where a program begins.
func outside() nest { return nest{ahead: "@", place: anExp} }

func (n nest) in(s step) nest { return nest{n.ahead + s.ahead, s.behind + n.behind, s.to} }

// depth is how many forms that are counted are around what ends the way.
func (n nest) depth() int { return strings.Count(n.ahead, "@") }

// unmarked is what is ahead without its marks, and where the first form begins that stands in MaxNest others, -1, if none does.
func (n nest) unmarked() (string, int) {
	var b []byte
	depth, first := 0, -1
	for i := range len(n.ahead) {
		switch c := n.ahead[i]; {
		case c != '@' && c != '#':
			b = append(b, c)
		case depth == api.MaxNest && first < 0:
			first = len(b)
		case c == '@':
			depth++
		}
	}
	return string(b), first
}

// leaves are what may stand at a place.
func leaves(place int) []string {
	switch place {
	case anExp:
		return []string{"x", "5", "A", `"a"`, "()", "[]", "f x y", "1 + 1 * 1 - 1", "1 < 2", "a andalso b orelse c"}
	case aPat:
		return []string{"x", "_", "5", "~ 5", "A", "A x", "A ~ 5", "()", "[]"}
	case aTy:
		return []string{"t", "'a", "'a t t", "t * 'a * t t"}
	}
	return []string{"x", "5", "A", `"a"`, "()", "[]"}
}

// wrong are tokens with which nothing begins, and no token; begins are those with which something does.
func wrong() []string { return []string{"", ")", "]", ",", "=>", "of", "end", "in", "*", "="} }

func begins() []string {
	return []string{"x", "5", `"a"`, "A", "(", "[", "!", "~", "_", "'a", "let", "fn", "case", "if", "raise", "val", "datatype"}
}

// look holds what is read of a way with what may, and what may not, stand at its end.
func look(t *testing.T, n nest) {
	t.Helper()
	ahead, first := n.unmarked()
	for _, leaf := range leaves(n.place) {
		switch {
		case first < 0:
			read(t, ahead+leaf+n.behind)
		default:
			refuses(t, ahead+leaf+n.behind, api.ErrBig, first)
		}
	}
	for _, x := range wrong() {
		switch {
		case n.closedBy(x):
		case first < 0:
			refuses(t, ahead+x, api.ErrParse, len(ahead))
		default:
			refuses(t, ahead+x, api.ErrBig, first)
		}
	}
	for _, x := range begins() {
		if first >= 0 {
			refuses(t, ahead+x, api.ErrBig, first)
			refuses(t, ahead+x+" =>", api.ErrBig, first)
		}
	}
}

// closedBy: is x the bracket that ends what would be empty then?
func (n nest) closedBy(x string) bool {
	return n.place != aTy && (x == ")" && strings.HasSuffix(n.ahead, "( @") || x == "]" && strings.HasSuffix(n.ahead, "[ @"))
}

// reach goes in by brackets from where n ends, till the next step of s would end in that depth.
func reach(n nest, s step, depth int) nest {
	brackets := map[int]step{anExp: {anExp, anExp, "( @", " )"}, aPat: {aPat, aPat, "( @", " )"}, aTy: {aTy, aTy, "( @", " )"}}[n.place]
	for n.in(s).depth() < depth {
		n = n.in(brackets)
	}
	return n.in(s)
}

// fronts are the shortest ways to where a step may be taken.
func fronts(s step) []nest {
	o := outside()
	switch s.from {
	case aPat:
		return []nest{o.in(step{anExp, aPat, "fn @", " => 1"}), o.in(step{aUnary, aPat, "let val @", " = 1 in 1 end"})}
	case aTy:
		return []nest{o.in(step{aUnary, aTy, "let exception A of @", " in 1 end"})}
	}
	return []nest{o}
}

// P8.3: each form in as many others as may be, and in one more.
func TestEachFormInMaxNest(t *testing.T) {
	for _, s := range steps() {
		for _, n := range fronts(s) {
			for depth := api.MaxNest - 2; depth <= api.MaxNest+2; depth++ {
				look(t, reach(n, s, depth))
			}
		}
	}
}

// P8.3: each form in itself, as often as may be, and once more.
func TestEachFormInItself(t *testing.T) {
	for _, s := range steps() {
		if !strings.Contains(s.ahead, "@") || !s.fits(s.to) {
			continue
		}
		for _, n := range fronts(s) {
			for n.depth() <= api.MaxNest {
				n = n.in(s)
				look(t, n)
			}
		}
	}
}

// P8.3: all forms in one another, in any row.
func TestFormsInOneAnother(t *testing.T) {
	c := &chance{seed: 1}
	l := steps()
	for range 2000 {
		n := outside()
		for want := api.MaxNest - 3 + c.below(6); n.depth() < want; {
			if s := oneOf(c, l); s.fits(n.place) {
				n = n.in(s)
			}
		}
		look(t, n)
	}
}

// P8.3: what is repeated isn't counted, however often it stands there.
func TestRepeatedIsNotCounted(t *testing.T) {
	for _, part := range []string{"1 + ", "1 - ", "f ^ ", "1 * ", "x div ", "x mod ", "a andalso ", "a orelse ", "f ", "1 ; ", "(x) ", "() ", "[] ", "fn x => 1 | y => 2 ; ", "1 + 2 * ", "~ 1 + ", "! f "} {
		read(t, strings.Repeat(part, 300)+"1")
	}
	many := func(part string) string { return strings.Repeat(part, 800) }
	for _, src := range []string{
		"(" + many("1, ") + "2)", "[" + many("1, ") + "2]", "fn (" + many("x, ") + "y) => 1", "fn [" + many("x, ") + "y] => 1",
		"fn " + many("1 => 1 | ") + "_ => 2", "case 1 of " + many("1 => 1 | ") + "_ => 2", "1 handle " + many("1 => 1 | ") + "_ => 2",
		many("val x = 1 ") + "in 1", many("exception A ") + "in 1", "fun f " + many("x ") + "= 1 in 1", "fun f x = 1 " + strings.Repeat("and g x = 2 ", 500) + "in 1",
		"datatype t = " + many("A | ") + "B in 1", "datatype (" + many("'a, ") + "'b) t = B in 1",
		"exception A of " + many("t * ") + "t in 1", "exception A of t " + many("t ") + "in 1", "exception A of (" + many("t, ") + "t) t in 1",
		many("(") + many(")"),
	} {
		if strings.HasPrefix(src, "((") {
			refuses(t, src, api.ErrBig, api.MaxNest)
			continue
		}
		read(t, src)
	}
}

// P8.3: of what is too deep and what has no form the one that is met first.
func TestTheOneThatIsMetFirst(t *testing.T) {
	deep := strings.Repeat("(", api.MaxNest)
	refuses(t, deep+"x", api.ErrBig, 40)
	refuses(t, deep+"(", api.ErrBig, 40)
	refuses(t, deep+"=", api.ErrBig, 40)
	refuses(t, deep, api.ErrBig, 40)
	refuses(t, deep+"  ", api.ErrBig, 42)
	refuses(t, deep+" (* *) in", api.ErrBig, 47)
	is(t, deep+")"+strings.Repeat(")", api.MaxNest-1), "tuple@39[]")
	refuses(t, deep+");", api.ErrParse, 42)
	refuses(t, "= "+deep+"x", api.ErrParse, 0)
	refuses(t, "f )"+deep+"x", api.ErrParse, 2)
	refuses(t, deep[1:]+"x = x = "+deep, api.ErrParse, 45)
	refuses(t, deep[1:]+"x fn", api.ErrParse, 41)
	refuses(t, deep[1:]+"x, y", api.ErrParse, 43)
	refuses(t, deep[1:]+"x :: y", api.ErrBig, 44)
	refuses(t, deep[1:]+"x ::", api.ErrBig, 43)
	refuses(t, deep[1:]+"x := )", api.ErrBig, 44)
	refuses(t, deep[1:]+"!", api.ErrBig, 40)
	refuses(t, deep[1:]+"! x", api.ErrBig, 41)
	refuses(t, deep[1:]+"~ )", api.ErrBig, 41)
	refuses(t, deep[1:]+"f ~ 1", api.ErrBig, 43)
	refuses(t, deep[1:]+"fn ~ 1 => 2", api.ErrBig, 42)
	read(t, deep[2:]+"fn ~ 1 => 2"+strings.Repeat(")", api.MaxNest-2))
	refuses(t, deep[1:]+"let exception E of", api.ErrBig, 57)
	refuses(t, deep[2:]+"let exception E of t ->", api.ErrBig, 61)
	refuses(t, deep[2:]+"let exception E of t -> t", api.ErrBig, 62)
	refuses(t, deep[1:]+"let in", api.ErrBig, 45)
	refuses(t, deep[1:]+"let end", api.ErrParse, 43)
	refuses(t, deep[1:]+"raise", api.ErrBig, 44)
	refuses(t, deep[1:]+"1 handle", api.ErrBig, 47)
	refuses(t, deep[1:]+"1 handle |", api.ErrBig, 49)
	refuses(t, deep[2:]+"x := x :: x", api.ErrBig, 48)
	read(t, deep[2:]+"x := x = x"+strings.Repeat(")", api.MaxNest-2))
}
