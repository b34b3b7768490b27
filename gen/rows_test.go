package gen

import (
	"slices"
	"strconv"
	"strings"
	"testing"

	"bellows/api"
	"bellows/elab"
	"bellows/parse"
)

// rows makes a case of a tuple up that has many ways, and values that are taken apart by it.
func (g *author) rows() string {
	var l []api.T
	for range 1 + g.below(5) {
		some := xcon(oneOf(&g.chance, "c", "c", "bool", "int", "t", "w", "s", "u", "q", "r", "k", "bool", "int"))
		l = append(l, oneOf(&g.chance, some, some, xcon("o", some), xcon("list", some), xtup(some, some), xcon("v", some)))
	}
	of := l[0]
	if len(l) > 1 {
		of = xtup(l...)
	}
	g.vars, g.first, g.names, g.left = nil, 0, 0, 1000
	var ways, values []string
	for i := range 4 + g.below(10) {
		var vars []named
		p := "(" + joined(l, ", ", func(t api.T) string { return g.pat(t, 1+g.below(4), &vars) }) + ")"
		e := "(putc " + strconv.Itoa(65+i) + "; ["
		for j, v := range vars {
			if v.t.Name == "int" {
				e += v.name + ", "
			} else if j == 0 {
				e += "(" + v.name + "; 7), "
			}
		}
		ways = append(ways, p+" => "+e+"0])")
	}
	ways = append(ways, "_ => []")
	for range 16 {
		values = append(values, "f "+g.closed(of, 4))
	}
	return ahead + "fun f x = case x of " + strings.Join(ways, " | ") + " in (" + strings.Join(values, ", ") + ", 1)"
}

// closed is a value that is made of nothing else.
func (g *author) closed(t api.T, depth int) string {
	sub := func(t api.T) string { return g.closed(t, depth-1) }
	switch {
	case t.Kind == api.XTup:
		return "(" + joined(t.L, ", ", sub) + ")"
	case t.Name == "int":
		return strconv.Itoa(g.below(4))
	case t.Name == "bool":
		return oneOf(&g.chance, "true", "false")
	case t.Name == "string":
		return oneOf(&g.chance, "\"a\"", "\"\"")
	case t.Name == "list":
		return "[" + strings.Join(slices.Repeat([]string{sub(t.L[0])}, g.below(3)), ", ") + "]"
	case t.Name == "o" && (depth < 0 || g.below(3) == 0):
		return "None"
	case t.Name == "o":
		return "(Some " + sub(t.L[0]) + ")"
	case t.Name == "v":
		return "(V " + sub(t.L[0]) + ")"
	}
	c := oneOf(&g.chance, datas()[t.Name]...)
	if depth < 0 {
		for c.free == 1 && t.Name == "t" || t.Name == "q" && c.name == "K" {
			c = oneOf(&g.chance, datas()[t.Name]...)
		}
		if t.Name == "s" {
			return "(S ([], 2))"
		}
	}
	if c.free == 0 {
		return c.name
	}
	return "(" + c.name + " " + sub(c.t) + ")"
}

// P13.1 to P13.7: many ways of tuples.
func TestRowsThatAreMadeUp(t *testing.T) {
	t.Parallel()
	g := &author{chance: chance{seed: 300}}
	count := map[string]int{}
	for range 150 {
		src := g.rows()
		e, _, _ := parse.Parse(src)
		if _, f, _ := elab.Elab(e); f == api.ErrBig { // more than 150 parts
			continue
		}
		c := held(t, src, written(t, src))
		a := c.does("", 100000)
		c.counted(count, &a)
		count["put out"] += len(a.out)
	}
	enough(t, count, map[string]int{"done": 100, "put out": 1000, "Switch": 2000})
}

// P13.1 to P13.7: patterns of which parts are looked at by themselves, since there would be too many ways else.
func TestWaysToTheSame(t *testing.T) {
	t.Parallel()
	for _, v := range []struct {
		n      int
		of, is string
	}{{9, "(1, 1, 1, 1)", "(1, 0, 1, 1)"}, {8, "(1, 1, 1, 1, 1)", "(1, 1, 1, 1, 0)"}, {8, "(1 :: 2 :: _)", "[1, 3]"}, {9, "(y, 1, Some 1, z)", "(1, 1, None, 0)"}} {
		var ways []string
		calls := ""
		for i := range v.n {
			l := slices.Repeat([]string{"_"}, v.n)
			l[i] = v.of
			ways = append(ways, "("+strings.Join(l, ", ")+") => putc "+strconv.Itoa(65+i))
			l = slices.Repeat([]string{v.is}, v.n)
			calls += "f (" + strings.Join(l, ", ") + "); "
			l[i] = strings.NewReplacer("y", "3", "z", "4", "_", "[]").Replace(v.of)
			calls += "f (" + strings.Join(l, ", ") + "); "
		}
		src := "datatype 'a o = None | Some of 'a fun f x = case x of " + strings.Join(ways, " | ") + " | _ => () in (" + calls + "1)"
		if a := held(t, src, written(t, src)).does("", 100000); string(a.out) != "ABCDEFGHI"[:v.n] {
			t.Error(short(src), string(a.out))
		}
	}
}
