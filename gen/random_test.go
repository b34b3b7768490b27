package gen

import (
	"slices"
	"testing"

	"bellows/api"
	"bellows/defun"
	"bellows/elab"
	"bellows/flat"
	"bellows/mono"
	"bellows/parse"
)

// typed calls for texts that are made up, have types, and not too many instances.
func typed(t testing.TB, seed uint64, n int, do func(g *author, src string, p api.FlatProg)) {
	t.Helper()
	g := &author{chance: chance{seed: seed}}
	refused := 0
	for i := 0; i < n; {
		src := g.program(20 + i%300)
		e, f, _ := parse.Parse(src)
		if f != api.OK {
			refused++
			continue
		}
		p, f, at := elab.Elab(e)
		if f != api.OK {
			t.Fatal(src, f, at)
		}
		if q, f := mono.Mono(p, api.MaxCap); f == api.OK {
			do(g, src, flat.Flatten(defun.Defun(q)))
			i++
		}
	}
	if refused > n {
		t.Error("too few are read", refused)
	}
}

// P13.1 to P13.7: texts that are made up, each looked at and run.
func TestTextsThatAreMadeUp(t *testing.T) {
	for seed := range uint64(8) {
		t.Run("", func(t *testing.T) {
			t.Parallel()
			count := map[string]int{}
			typed(t, 100+seed, 300, func(_ *author, src string, p api.FlatProg) {
				c := held(t, src, p)
				a := c.does("ab", 20000)
				c.counted(count, &a)
			})
			enough(t, count, map[string]int{"done": 100, "raised": 100, "handled": 150, "Const": 5000, "New": 3000, "Field": 1500, "Switch": 600, "Call": 800, "Tail": 1000, "Raise": 800, "In": 200, "Store": 80, "Array": 80})
		})
	}
}

// enough: all that a test is for was met often enough.
func enough(t *testing.T, count, least map[string]int) {
	t.Helper()
	for what, n := range least {
		if count[what] < n {
			t.Fatal("too few", what, count)
		}
	}
}

// P13.1 to P13.7: flat programs that are made up.
func TestFlatProgramsThatAreMadeUp(t *testing.T) {
	for seed := range uint64(8) {
		t.Run("", func(t *testing.T) {
			t.Parallel()
			g := &maker{chance: chance{seed: 500 + seed}}
			count := map[string]int{}
			for range 600 {
				p := g.program()
				c := held(t, toldFlat(p), p)
				a := c.does("ab", 3000)
				c.counted(count, &a)
			}
			enough(t, count, map[string]int{"done": 150, "raised": 150, "types more": 15, "handled": 300, "many slots": 30, "Move": 1000, "Switch": 4000, "Put": 100, "Store": 200, "Byte": 100, "Cmp": 100, "Len": 200, "Tail": 60})
		})
	}
}

// turning is a function that jumps in many ways, in which values go round: it puts out what comes where it jumps to, the first parameter says which way.
func (g *maker) turning() api.FlatProg {
	const most = 7
	var params []int
	for range 1 + most {
		params = append(params, numbers)
	}
	shown := func(l []int) api.Flat {
		e := number(0)
		for _, id := range l {
			e = let(g.id(), prim("putc", prim("+", n(id), number(65))), e)
		}
		return e
	}
	g.next = most
	vars := make([]int, most)
	for i := range vars {
		vars[i] = i + 1
	}
	e := g.turns(vars, 3, shown)
	p := basic(numbers, e, params...)
	main := number(0)
	for way := range 4 {
		c := call(50, numbers, number(int64(way)))
		for i := range most {
			c.L = append(c.L, number(int64(i)))
		}
		main = let(g.id(), c, main)
	}
	p.Main = main
	return p
}

func (g *maker) turns(vars []int, depth int, shown func(l []int) api.Flat) api.Flat {
	if depth == 0 {
		return shown(vars)
	}
	label := g.id()
	var params []api.Slot
	there := slices.Clone(vars)
	for i := range there {
		if g.below(3) > 0 {
			there[i] = g.id()
			params = append(params, api.Slot{Id: there[i]})
		}
	}
	jumps := func() api.Flat {
		j := jump(label, numbers)
		for range params {
			v := n(oneOf(&g.chance, vars...))
			if g.below(12) == 0 {
				v = prim("+", v, number(1))
			}
			j.L = append(j.L, v)
		}
		return j
	}
	if g.below(2) == 0 { // the same ones, turned
		first := g.below(len(vars))
		jumps = func() api.Flat {
			j := jump(label, numbers)
			for i := range params {
				j.L = append(j.L, n(vars[(first+i)%len(vars)]))
			}
			first++
			return j
		}
	}
	ahead := choice(n(0), numbers, []api.Arm{arm(0, jumps()), arm(1, jumps()), arm(2, jumps())}, nil, jumps())
	return join(label, params, g.turns(there, depth-1, shown), ahead)
}

// P13.2, P13.4, P13.6: jumps in which values go round.
func TestJumpsThatTurnValues(t *testing.T) {
	t.Parallel()
	g := &maker{chance: chance{seed: 600}}
	count := map[string]int{}
	for range 500 {
		p := g.turning()
		c := held(t, toldFlat(p), p)
		a := c.does("", 10000)
		c.counted(count, &a)
	}
	enough(t, count, map[string]int{"round": 500, "done": 500})
}
