package gen

import (
	"bytes"
	"fmt"
	"slices"
	"strings"
	"testing"

	"bellows/api"
	"bellows/code"
	"bellows/verify"
	"bellows/vm"
)

// pairing is a program, and what Generate answers of it.
type pairing struct {
	t   testing.TB
	src string
	p   api.FlatProg
	m   api.Image
}

func (c *pairing) must(is bool, what ...any) {
	if !is {
		c.t.Helper()
		c.t.Fatal(fmt.Sprint(what...), " ", short(c.src))
	}
}

// held looks at what Generate answers of a program.
func held(t testing.TB, src string, p api.FlatProg) *pairing {
	t.Helper()
	m, e := Generate(p)
	c := &pairing{t, src, p, m}
	c.must(e == api.OK, "Generate: ", e)
	c.must(verify.Verify(m) == api.OK, "not verified")
	c.layout()
	for i := range m.Funcs {
		c.live(&m.Funcs[i])
		c.room(i)
	}
	return c
}

// layout: P13.1.
func (c *pairing) layout() {
	p, m := &c.p, &c.m
	c.must(len(m.Funcs) == len(p.Funs)+2 && m.Main == len(p.Funs), "functions ", len(m.Funcs))
	for i, f := range p.Funs {
		c.function(i, f.Params, f.Result)
	}
	c.function(m.Main, nil, p.Main.Ty)
	c.function(m.Main+1, []api.Slot{{Ty: 1}, {Ty: 0}}, 0)
	c.must(code.Same(api.Image{Types: m.Types[:len(p.Types)], Shapes: m.Shapes, Names: m.Names, Exn: m.Exn}, api.Image{Types: p.Types, Shapes: p.Shapes, Names: p.Names, Exn: p.Exn}), "parts")
	used := map[int]bool{}
	for _, f := range m.Funcs {
		for _, b := range f.Blocks {
			for _, n := range b.In {
				used[n] = true
			}
		}
	}
	for i, t := range m.Types[len(p.Types):] {
		n := i + len(p.Types)
		c.must(!t.Imm && len(t.Shapes) == 1 && used[n], "a type more ", t)
		c.must(!slices.ContainsFunc(m.Types[:n], func(u api.Type) bool { return !u.Imm && slices.Equal(u.Shapes, t.Shapes) }), "a type twice ", t)
	}
	var texts []string
	for _, f := range p.Funs {
		texts = textsIn(&f.E, texts)
	}
	texts = textsIn(&p.Main, texts)
	c.must(len(texts) == len(m.Strings), "texts ", m.Strings)
	for _, s := range texts {
		c.must(slices.Contains(m.Strings, s), "a text ", s)
	}
}

// textsIn are the texts of an expression, each once.
func textsIn(e *api.Flat, l []string) []string {
	if e.Kind == api.LText && !slices.Contains(l, e.Name) {
		l = append(l, e.Name)
	}
	for i := range e.L {
		l = textsIn(&e.L[i], l)
	}
	for _, arms := range [][]api.Arm{e.Nums, e.Shapes} {
		for i := range arms {
			l = textsIn(&arms[i].E, l)
		}
	}
	return l
}

func (c *pairing) function(n int, params []api.Slot, result int) {
	f := &c.m.Funcs[n]
	types := each(params, func(p *api.Slot) int { return p.Ty })
	c.must(slices.Equal(f.Params, types) && f.Result == result, "a function's types ", n)
}

// reads: the slots that an instruction reads, and the one that it sets (-1: none).
func uses(x *api.Instr) (read []int, sets int) {
	sets = -1
	for _, field := range code.Uses(x.Op) {
		if field == 'D' {
			sets = x.D
		}
	}
	switch x.Op {
	case api.OpMove, api.OpField, api.OpLen, api.OpOut, api.OpIf, api.OpSwitch, api.OpReturn, api.OpRaise:
		return []int{x.A}, sets
	case api.OpPrim, api.OpAt, api.OpByte, api.OpCat, api.OpCmp:
		return []int{x.A, x.B}, sets
	case api.OpStore:
		return []int{x.A, x.C}, sets
	case api.OpArray:
		return []int{x.B, x.C}, sets
	case api.OpPut:
		return []int{x.A, x.B, x.C}, sets
	case api.OpNew, api.OpCall, api.OpTail:
		return x.L, sets
	}
	return nil, sets
}

// spot is an instruction.
type spot struct{ block, at int }

// ways are the spots behind an instruction, each with the slot that is set on the way.
func ways(f *api.Func, s spot) map[spot]int {
	x := &f.Blocks[s.block].Code[s.at]
	_, sets := uses(x)
	to := map[spot]int{}
	block := func(n, sets int) { to[spot{n, 0}] = sets }
	switch x.Op {
	case api.OpJump:
		block(x.A, -1)
	case api.OpIf:
		block(x.B, -1)
		block(x.C, -1)
	case api.OpSwitch:
		for _, l := range [][]int{x.L, x.M} {
			for i := 1; i < len(l); i += 2 {
				block(l[i], -1)
			}
		}
		if x.B >= 0 {
			block(x.B, -1)
		}
	case api.OpTail, api.OpReturn, api.OpRaise:
	default:
		to[spot{s.block, s.at + 1}] = sets
	}
	if x.Op == api.OpCall && x.B >= 0 {
		block(x.B, x.C)
	}
	return to
}

// live: of each instruction that collects, a slot is live just if some way leads from behind it to where it is read, on which it isn't set: P13.3.
func (c *pairing) live(f *api.Func) {
	from := map[spot][]spot{} // by the spots behind
	over := map[[2]spot]int{}
	var all []spot
	for i, b := range f.Blocks {
		for j := range b.Code {
			s := spot{i, j}
			all = append(all, s)
			for to, sets := range ways(f, s) {
				from[to] = append(from[to], s)
				over[[2]spot{s, to}] = sets
			}
		}
	}
	for slot := range f.Slots {
		needed := map[spot]bool{} // ahead of it
		behind := map[spot]bool{} // behind it, ahead of what it sets
		var open []spot
		for _, s := range all {
			if read, _ := uses(&f.Blocks[s.block].Code[s.at]); slices.Contains(read, slot) {
				open = append(open, s)
			}
		}
		for len(open) > 0 {
			s := open[len(open)-1]
			open = open[:len(open)-1]
			if needed[s] {
				continue
			}
			needed[s] = true
			for _, p := range from[s] {
				if over[[2]spot{p, s}] != slot {
					behind[p] = true
					open = append(open, p)
				}
			}
		}
		for _, s := range all {
			x := &f.Blocks[s.block].Code[s.at]
			if uses := code.Uses(x.Op); uses[len(uses)-1] == 'l' {
				if slices.Contains(x.Live, slot) != behind[s] {
					c.t.Fatal("live: ", slot, toldInstr(*x), toldFunc(*f), short(c.src))
				}
			}
		}
		for i, b := range f.Blocks[1:] {
			if (b.In[slot] >= 0) != needed[spot{i + 1, 0}] {
				c.t.Fatal("In: ", slot, i+1, toldFunc(*f), short(c.src))
			}
		}
	}
}

// room: a function has few slots more than it needs at a time: P13.2.
func (c *pairing) room(n int) {
	r := newReader(c.p)
	need := 4 // of the one that puts a text out
	if n <= len(c.p.Funs) {
		e, params := &c.p.Main, 0
		if n < len(c.p.Funs) {
			e, params = &c.p.Funs[n].E, len(c.p.Funs[n].Params)
		}
		r.need(e, names{}, true)
		need = max(r.most, params)
	}
	if c.m.Funcs[n].Slots > need+more {
		c.t.Fatal("slots: ", c.m.Funcs[n].Slots, " where ", need, " are needed: ", toldFunc(c.m.Funcs[n]), short(c.src))
	}
}

// more slots than are needed at a time are one for moves that go round.
const more = 1

// does looks that an image does what its program does, in not too many steps, and with just the heap that it needs: P13.2, P13.6, P13.7.
func (c *pairing) does(in string, fuel int) outcome {
	c.t.Helper()
	a := runFlat(c.p, in, fuel)
	s := api.Script{Input: []byte(in), Fuel: 4*a.exprs + a.moves + 8*a.bytes, Heap: a.heap, Stack: api.MaxStack}
	b := vm.Run(c.m, s)
	if b.Kind == api.NoStack {
		c.must(bytes.HasPrefix(a.out, b.Output), "out of stack: ", string(b.Output), ", not ", string(a.out))
		return a
	}
	if a.kind == api.NoFuel {
		c.must(bytes.HasPrefix(a.out, b.Output) || bytes.HasPrefix(b.Output, a.out), "out of fuel: ", string(b.Output), ", not ", string(a.out))
		return a
	}
	c.must(a.kind == b.Kind && a.exn == b.Exn && bytes.Equal(a.out, b.Output), "it does ", b, ", not ", a)
	c.less(&a, s, b.Steps)
	return a
}

// less: with less fuel, heap or stack what is put out is a beginning; wherever memory is collected, all is the same.
func (c *pairing) less(a *outcome, s api.Script, steps int) {
	c.t.Helper()
	run := func(kind int, s api.Script) {
		c.t.Helper()
		b := vm.Run(c.m, s)
		same := kind == a.kind && b.Kind == kind && b.Exn == a.exn && b.Steps == steps && bytes.Equal(a.out, b.Output)
		c.must(same || kind != a.kind && b.Kind == kind && bytes.HasPrefix(a.out, b.Output), "it does with less ", b, ", not ", a)
	}
	s.Fuel = steps
	run(a.kind, s)
	s.Fuel = steps - 1
	run(api.NoFuel, s)
	s.Fuel = steps
	for i := range 200 {
		s.Collect = append(s.Collect, i%3 > 0)
	}
	run(a.kind, s)
	for _, less := range []int{1, 2 + a.heap/2} {
		if s.Heap = a.heap - less; s.Heap >= 0 {
			run(api.NoHeap, s)
		}
	}
	s.Heap, s.Stack = a.heap, c.m.Funcs[c.m.Main].Slots+1
	run(api.NoStack, s)
}

// counted adds how often there is what a test must have met.
func (c *pairing) counted(count map[string]int, a *outcome) {
	count[[]string{"", "done", "raised", "no fuel"}[a.kind]]++
	count["types more"] += len(c.m.Types) - len(c.p.Types)
	for i, f := range c.m.Funcs[:len(c.m.Funcs)-1] {
		for _, b := range f.Blocks {
			c.countedMoves(count, b.Code)
			for _, x := range b.Code {
				count[strings.Fields(toldInstr(x))[0]]++
				if x.Op == api.OpCall && x.B >= 0 {
					count["handled"]++
				}
			}
		}
		if f.Slots > 8 && i >= 0 {
			count["many slots"]++
		}
	}
}

// countedMoves counts moves in which values go round: the one that is read last is set first.
func (c *pairing) countedMoves(count map[string]int, l []api.Instr) {
	for i := len(l) - 2; i > 0 && l[i].Op == api.OpMove; i-- {
		for j := i - 1; j >= 0 && l[j].Op == api.OpMove; j-- {
			if l[j].D == l[i].A {
				count["round"]++
			}
		}
	}
}
