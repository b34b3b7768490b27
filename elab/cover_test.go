package elab

import (
	"testing"

	"bellows/api"
)

func pany() api.CPat                           { return api.CPat{Kind: api.PAny} }
func pvar(id int) api.CPat                     { return api.CPat{Kind: api.PVar, Id: id} }
func pint(n int64) api.CPat                    { return api.CPat{Kind: api.PInt, N: n} }
func pcon(name string, l ...api.CPat) api.CPat { return api.CPat{Kind: api.PCon, Name: name, L: l} }
func ptup(l ...api.CPat) api.CPat              { return api.CPat{Kind: api.PTuple, L: l} }
func pats(l ...api.CPat) []api.CPat            { return l }
func cell(a, b api.CPat) api.CPat              { return pcon("Cons", ptup(a, b)) }

// covering is a program with datatypes, and some types.
func covering(t testing.TB) (p api.Prog, of map[string]api.T) {
	p = elaborated(t, "datatype u = M | N of bool datatype 'a o = None | Some of 'a datatype ('a, 'b) e = L of 'a | R of 'b exception E of int in 1")
	num, truth := xcon("int"), xcon("bool")
	return p, map[string]api.T{"int": num, "bool": truth, "string": xcon("string"), "exn": xcon("exn"), "u": xcon("u"), "unit": xtup(), "pair": xtup(num, truth), "bools": xtup(truth, truth), "list": xcon("list", truth), "o": xcon("o", truth), "oo": xcon("o", xcon("o", num)),
		"e": xcon("e", xcon("u"), xtup(truth, truth)), "fun": xfun(num, num), "ref": xcon("ref", truth), "array": xcon("array", truth), "var": xvar(0), "var list": xcon("list", xvar(3)), "none": xcon("nowhere"), "no": {}}
}

// P9.6: does one of the patterns fit each value of the type?
func TestCovers(t *testing.T) {
	p, of := covering(t)
	yes, no := pcon("true"), pcon("false")
	for _, x := range []struct {
		typ  string
		l    []api.CPat
		want bool
	}{
		{"int", pats(), false}, {"bool", nil, false}, {"unit", nil, false}, {"none", nil, false},
		{"int", pats(pany()), true}, {"int", pats(pvar(1)), true}, {"int", pats(pint(0), pint(1)), false}, {"int", pats(pint(0), pvar(1)), true}, {"string", pats(pany()), true}, {"fun", pats(pvar(0)), true}, {"ref", pats(pany()), true}, {"var", pats(pany()), true},
		{"bool", pats(yes), false}, {"bool", pats(yes, no), true}, {"bool", pats(no, yes, no), true}, {"bool", pats(yes, yes), false}, {"bool", pats(yes, pany()), true},
		{"unit", pats(ptup()), true}, {"unit", pats(pany()), true}, {"pair", pats(ptup(pany(), yes), ptup(pvar(1), no)), true}, {"pair", pats(ptup(pint(1), pany()), ptup(pany(), yes)), false},
		{"bools", pats(ptup(yes, yes), ptup(yes, no), ptup(no, yes)), false}, {"bools", pats(ptup(yes, yes), ptup(yes, no), ptup(no, yes), ptup(no, no)), true}, {"bools", pats(ptup(yes, pany()), ptup(pany(), yes), ptup(no, no)), true},
		{"exn", pats(pcon("Match"), pcon("Div"), pcon("Subscript"), pcon("Size"), pcon("E", pany())), false}, {"exn", pats(pcon("E", pany()), pany()), true},
		{"list", pats(pcon("Nil"), cell(pany(), pany())), true}, {"list", pats(pcon("Nil"), cell(yes, pany()), cell(no, pcon("Nil"))), false}, {"list", pats(pcon("Nil"), cell(yes, pany()), cell(no, pcon("Nil")), cell(pany(), cell(pany(), pany()))), true}, {"var list", pats(pcon("Nil"), cell(pany(), pany())), true}, {"var list", pats(pcon("Nil"), cell(pint(1), pany())), false},
		{"u", pats(pcon("M"), pcon("N", yes)), false}, {"u", pats(pcon("M"), pcon("N", yes), pcon("N", no)), true}, {"o", pats(pcon("None"), pcon("Some", yes), pcon("Some", no)), true}, {"o", pats(pcon("None"), pcon("Some", yes)), false},
		{"oo", pats(pcon("None"), pcon("Some", pcon("None")), pcon("Some", pcon("Some", pany()))), true}, {"oo", pats(pcon("None"), pcon("Some", pcon("None")), pcon("Some", pcon("Some", pint(1)))), false},
		{"e", pats(pcon("L", pcon("M")), pcon("L", pcon("N", pany())), pcon("R", ptup(yes, pany())), pcon("R", ptup(no, pany()))), true}, {"e", pats(pcon("L", pcon("M")), pcon("L", pcon("N", yes)), pcon("R", pany())), false},
		// patterns that aren't of the type fit none of its values
		{"int", pats(yes, no), false}, {"int", pats(ptup()), false}, {"int", pats(ptup(), pany()), true}, {"bool", pats(pint(1), pint(0)), false}, {"bool", pats(pint(1), yes, no), true}, {"bool", pats(yes, pcon("M")), false}, {"bool", pats(yes, pcon("false", pany())), false}, {"u", pats(pcon("M"), pcon("N")), false}, {"u", pats(pcon("M"), pcon("N", pany(), pany())), false},
		{"unit", pats(ptup(pany())), false}, {"pair", pats(ptup()), false}, {"pair", pats(ptup(pany())), false}, {"pair", pats(ptup(pany(), pany(), pany())), false}, {"pair", pats(ptup(pany(), pany(), pany()), ptup(pany(), pany())), true}, {"string", pats(pint(1)), false}, {"fun", pats(yes, no), false}, {"ref", pats(yes, no), false}, {"none", pats(yes, no), false}, {"none", pats(pany()), true}, {"no", pats(pany()), true}, {"no", pats(ptup()), false},
		{"bool", pats(api.CPat{}), false}, {"bool", pats(api.CPat{Kind: 9}, api.CPat{Kind: -1}), false}, {"bool", pats(api.CPat{Kind: 9}, yes, no), true},
	} {
		if got := Covers(p, of[x.typ], x.l); got != x.want || modelCovers(p.Datas, of[x.typ], x.l) != x.want {
			t.Errorf("Covers(%s, %s) = %v", x.typ, rows(x.l, " | ", teller{}.pat), got)
		}
	}
}

// P9.6: patterns of more than 150 parts don't.
func TestCoversOfTooManyParts(t *testing.T) {
	p, of := covering(t)
	for n := 140; n < 160; n++ {
		var l []api.CPat
		for range n - 1 {
			l = append(l, pint(1))
		}
		if Covers(p, of["int"], append(l, pany())) != (n <= 150) {
			t.Error(n)
		}
		var parts []api.CPat
		var types []api.T
		for range n - 1 {
			parts, types = append(parts, pany()), append(types, of["int"])
		}
		if Covers(p, xtup(types...), pats(ptup(parts...))) != (n <= 150) {
			t.Error(n)
		}
		if Covers(p, of["int"], pats(ptup(parts...), pany())) != (n <= 149) || Covers(p, of["int"], pats(pany(), ptup(parts...))) != (n <= 149) {
			t.Error(n)
		}
		chain := pany()
		for range n - 1 {
			chain = pcon("L", chain)
		}
		q := elaborated(t, "datatype l = L of l in 1")
		if Covers(q, xcon("l"), pats(chain)) != (n <= 150) {
			t.Error(n)
		}
	}
}

// P9.6: whatever there is of datatypes, Covers answers.
func TestCoversOfAnyDatatypes(t *testing.T) {
	all := api.CPat{Kind: api.PVar}
	for _, d := range []api.Data{
		{Name: "d"}, {Name: "d", Cons: []api.DataCon{{Name: "A", Has: true, Arg: xvar(0)}}}, {Name: "d", Vars: []int{0}, Cons: []api.DataCon{{Name: "A", Has: true, Arg: xvar(0)}}}, {Name: "d", Vars: []int{5, 5, 7}, Cons: []api.DataCon{{Name: "A", Has: true, Arg: xtup(xvar(7), xvar(5))}, {Name: "A"}}},
	} {
		p := api.Prog{Datas: []api.Data{d, d}}
		for _, typ := range []api.T{xcon("d"), xcon("d", xtup()), xcon("d", xtup(), xcon("d"), xcon("d"), xcon("d"))} {
			for _, l := range [][]api.CPat{nil, pats(all), pats(pcon("A")), pats(pcon("A", all)), pats(pcon("A", ptup(all, pcon("A"))), pcon("A"), pcon("A", pcon("A", all)))} {
				Covers(p, typ, l)
			}
			if Covers(p, typ, nil) || !Covers(p, typ, pats(all)) || Covers(p, typ, pats(pcon("B"))) {
				t.Error(d)
			}
		}
	}
	if Covers(api.Prog{}, xcon("exn"), pats(pcon("Match"))) || !Covers(api.Prog{}, xcon("exn"), pats(all)) || Covers(api.Prog{}, xcon("bool"), pats(pcon("true"), pcon("false"))) {
		t.Error("no datatypes")
	}
}

// randomT is a type of those of covering.
func (c *chance) randomT(depth int) api.T {
	n := c.below(9)
	if depth == 0 {
		n = c.below(5)
	}
	sub := func() api.T { return c.randomT(depth - 1) }
	switch n {
	case 0:
		return xcon("int")
	case 1, 2:
		return xcon("bool")
	case 3:
		return xcon("u")
	case 4:
		return oneOf(c, []api.T{xcon("exn"), xcon("string"), xvar(1), xtup()})
	case 5:
		return xcon("list", sub())
	case 6:
		return xcon("o", sub())
	case 7:
		return xcon("e", sub(), sub())
	}
	return xtup(sub(), sub())
}

// randomPat is mostly one of the type.
func (c *chance) randomPat(datas []api.Data, t api.T, depth int) api.CPat {
	if c.below(60) == 0 {
		t = c.randomT(1)
	}
	if depth == 0 || c.below(5) == 0 {
		return oneOf(c, pats(pany(), pvar(c.below(9))))
	}
	if t.Kind == api.XTup {
		var l []api.CPat
		for _, x := range t.L {
			l = append(l, c.randomPat(datas, x, depth-1))
		}
		return ptup(l...)
	}
	if t.Kind == api.XCon && t.Name == "int" {
		return pint(int64(c.below(3)))
	}
	for _, d := range datas {
		if t.Kind == api.XCon && d.Name == t.Name {
			k := oneOf(c, d.Cons)
			if !k.Has {
				return pcon(k.Name)
			}
			return pcon(k.Name, c.randomPat(datas, putT(k.Arg, d.Vars, t.L), depth-1))
		}
	}
	return pany()
}

// P9.4, P9.6: patterns of any kind, held against each value that they tell apart.
func TestCoversAgainstTheModel(t *testing.T) {
	p, _ := covering(t)
	c := &chance{seed: 50}
	count := map[bool]int{}
	for n := 0; count[true]+count[false] < 60000; n++ {
		typ := c.randomT(2)
		var l []api.CPat
		parts := 0
		for range 1 + c.below(7) {
			q := c.randomPat(p.Datas, typ, 1+c.below(4))
			l, parts = append(l, q), parts+size(&q)
		}
		if parts > 60 {
			continue
		}
		want := modelCovers(p.Datas, typ, l)
		if Covers(p, typ, l) != want {
			t.Fatalf("Covers(%s, %s) isn't %v", toldT(typ), rows(l, " | ", teller{}.pat), want)
		}
		for _, q := range l { // a single one that fits all by itself makes no difference between the others
			want = want && q.Kind != api.PAny && q.Kind != api.PVar
		}
		count[want]++
	}
	t.Log(count)
	if count[true] < 2000 {
		t.Error("too few", count)
	}
}

// P9.4: patterns with many ways through them.
func TestCoversOfManyWays(t *testing.T) {
	p, _ := covering(t)
	yes, no := pcon("true"), pcon("false")
	for n := 1; n <= 7; n++ { // pairs, of which some isn't the same twice
		var l []api.CPat
		var types []api.T
		for i := range n {
			types = append(types, xtup(xcon("bool"), xcon("bool")))
			for _, q := range pats(ptup(yes, no), ptup(no, yes)) {
				row := make([]api.CPat, n)
				for j := range row {
					row[j] = pany()
				}
				row[i] = q
				l = append(l, ptup(row...))
			}
		}
		if Covers(p, xtup(types...), l) || !Covers(p, xtup(types...), append(l, pvar(0))) {
			t.Error(n)
		}
	}
}
