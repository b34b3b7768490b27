package flat

import (
	"slices"
	"strconv"
	"strings"
	"testing"

	"bellows/api"
	"bellows/defun"
	"bellows/elab"
	"bellows/mono"
	"bellows/parse"
)

// typed calls for texts that are made up, have types, and not too many instances.
func typed(t testing.TB, seed uint64, n int, do func(g *author, src string, p api.FProg)) {
	t.Helper()
	g := &author{chance: chance{seed: seed}}
	refused := 0
	for i := 0; i < n; {
		src := g.program(20 + i%300)
		e, f, _ := parse.Parse(src)
		if f != api.OK {
			refused++
			continue
		}
		p, f, at := elab.Elab(e)
		if f != api.OK {
			t.Fatal(src, f, at)
		}
		if q, f := mono.Mono(p, api.MaxCap); f == api.OK {
			do(g, src, defun.Defun(q))
			i++
		}
	}
	if refused > n {
		t.Error("too few are read", refused)
	}
}

// does looks that an answer does what its program does, as far as that is known: P12.6.
func does(t testing.TB, src string, c *pairing, in string) outcome {
	t.Helper()
	a := runFirst(c.p, in, 10000)
	b := runFlat(c.x, in, 100000, func(v any, exception bool) string {
		if exception {
			return c.shownData(v, &c.p.Datas[0], c.shapes)
		}
		return c.shownAs(v, c.p.Main.T, c.shapes)
	})
	if a.end == "no fuel" {
		if !strings.HasPrefix(b.out, a.out) {
			t.Fatalf("%q, %q: %s", a, b, short(src))
		}
	} else if a != b || strings.HasPrefix(a.end, "stuck") {
		t.Fatalf("%q, %q: %s", a, b, short(src))
	}
	return a
}

// never is so little that all that is written is too much.
const never = -1 << 40

// held looks at what Flatten answers of a program, and at what it would answer if less could be written.
func held(t testing.TB, src string, p api.FProg) *pairing {
	t.Helper()
	for _, most := range [][2]int{{never, 1 << 20}, {never, never}} {
		c := *paired(t, src, p, Flatten(p), nil)
		c.x = flatten(p, most)
		if most[1] > 0 {
			paired(t, src, p, c.x, nil)
		}
		sound(t, src, c.x)
		does(t, src, &c, "ab")
	}
	x := Flatten(p)
	sound(t, src, x)
	return paired(t, src, p, x, nil)
}

// P12.1 to P12.6: texts that are made up, each held against the chapter's words, looked at for its types, and run.
func TestTextsThatAreMadeUp(t *testing.T) {
	for seed := range uint64(8) {
		t.Run("", func(t *testing.T) {
			t.Parallel()
			count := map[string]int{}
			typed(t, 100+seed, 500, func(_ *author, src string, p api.FProg) {
				c := held(t, src, p)
				end, _, _ := strings.Cut(does(t, src, c, "ab").end, " ")
				count[end]++
				for what, n := range c.count {
					count[what] += n
				}
			})
			for what, least := range map[string]int{
				"done": 150, "raised": 100, "jumps": 8000, "raised again": 1000, "tuples made": 10,
				"switches of 0 numbers, 1 shapes, 1 other": 20, "switches of 0 numbers, 2 shapes, 0 other": 5, "switches of 0 numbers, 2 shapes, 1 other": 100,
				"switches of 1 numbers, 0 shapes, 1 other": 100, "switches of 1 numbers, 1 shapes, 0 other": 50, "switches of 1 numbers, 2 shapes, 0 other": 40,
				"switches of 1 numbers, 2 shapes, 1 other": 100, "switches of 2 numbers, 0 shapes, 0 other": 200, "switches of 2 numbers, 0 shapes, 1 other": 10,
				"switches of 2 numbers, 1 shapes, 0 other": 10, "switches of 2 numbers, 2 shapes, 0 other": 10, "switches of 2 numbers, 2 shapes, 1 other": 40,
			} {
				if count[what] < least {
					t.Error("too few", what, count)
				}
			}
		})
	}
}

// rows makes a case of a tuple up that has many ways, and values that are taken apart by it.
func (g *author) rows() string {
	var l []api.T
	for range 1 + g.below(5) {
		some := xcon(oneOf(&g.chance, "c", "c", "bool", "int", "t", "w", "s", "u", "q", "r", "k", "bool", "int"))
		l = append(l, oneOf(&g.chance, some, some, xcon("o", some), xcon("list", some), xtup(some, some), xcon("v", some)))
	}
	of := l[0]
	if len(l) > 1 {
		of = xtup(l...)
	}
	g.vars, g.first, g.names, g.left = nil, 0, 0, 1000
	var ways, values []string
	for i := range 4 + g.below(10) {
		var vars []named
		p := "(" + joined(l, ", ", func(t api.T) string { return g.pat(t, 1+g.below(4), &vars) }) + ")"
		e := "(putc " + strconv.Itoa(65+i) + "; ["
		for j, v := range vars {
			if v.t.Name == "int" {
				e += v.name + ", "
			} else if j == 0 {
				e += "(" + v.name + "; 7), "
			}
		}
		ways = append(ways, p+" => "+e+"0])")
	}
	ways = append(ways, "_ => []")
	for range 16 {
		values = append(values, "f "+g.closed(of, 4))
	}
	return ahead + "fun f x = case x of " + strings.Join(ways, " | ") + " in (" + strings.Join(values, ", ") + ", 1)"
}

// closed is a value that is made of nothing else.
func (g *author) closed(t api.T, depth int) string {
	sub := func(t api.T) string { return g.closed(t, depth-1) }
	switch {
	case t.Kind == api.XTup:
		return "(" + joined(t.L, ", ", sub) + ")"
	case t.Name == "int":
		return strconv.Itoa(g.below(4))
	case t.Name == "bool":
		return oneOf(&g.chance, "true", "false")
	case t.Name == "string":
		return oneOf(&g.chance, "\"a\"", "\"\"")
	case t.Name == "list":
		return "[" + strings.Join(slices.Repeat([]string{sub(t.L[0])}, g.below(3)), ", ") + "]"
	case t.Name == "o" && (depth < 0 || g.below(3) == 0):
		return "None"
	case t.Name == "o":
		return "(Some " + sub(t.L[0]) + ")"
	case t.Name == "v":
		return "(V " + sub(t.L[0]) + ")"
	}
	c := oneOf(&g.chance, datas()[t.Name]...)
	if depth < 0 {
		for c.free == 1 && t.Name == "t" || t.Name == "q" && c.name == "K" {
			c = oneOf(&g.chance, datas()[t.Name]...)
		}
		if t.Name == "s" {
			return "(S ([], 2))"
		}
	}
	if c.free == 0 {
		return c.name
	}
	return "(" + c.name + " " + sub(c.t) + ")"
}

// P12.4, P12.6: many ways of tuples.
func TestRowsThatAreMadeUp(t *testing.T) {
	for seed := range uint64(8) {
		t.Run("", func(t *testing.T) {
			t.Parallel()
			g := &author{chance: chance{seed: 300 + seed}}
			ways := map[byte]int{}
			for range 150 {
				src := g.rows()
				e, _, _ := parse.Parse(src)
				if _, f, _ := elab.Elab(e); f == api.ErrBig { // more than 150 parts
					continue
				}
				p := written(t, src)
				o := does(t, src, held(t, src, p), "")
				for i := range o.out {
					ways[o.out[i]]++
				}
			}
			for i := range byte(8) {
				if ways['A'+i] < 3 {
					t.Error("too few", i, ways)
				}
			}
		})
	}
}
