package verify

import (
	"slices"
	"testing"

	"bellows/api"
)

// rows is an image of functions that each have so many blocks of so many instructions, the last of each a return; all is right.
func rows(funcs, blocks, instrs int) api.Image {
	m := least()
	code := append(of(instrs-1, api.Instr{Op: api.OpConst}), api.Instr{Op: api.OpReturn})
	m.Funcs = nil
	for range funcs {
		f := api.Func{Slots: 1}
		for range blocks {
			f.Blocks = append(f.Blocks, api.Block{In: []int{-1}, Code: slices.Clone(code)})
		}
		m.Funcs = append(m.Funcs, f)
	}
	return m
}

// faulty looks where Fault finds something.
func faulty(t *testing.T, why string, m api.Image, f, b, i int) {
	t.Helper()
	gf, gb, gi, ok := Fault(m)
	if gf != f || gb != b || gi != i || ok || Verify(m) != api.ErrVerify || !Whole(m) {
		t.Errorf("%s: Fault = %d, %d, %d, %v, want %d, %d, %d", why, gf, gb, gi, ok, f, b, i)
	}
}

// P5.4: the first place at which something isn't so, by functions, blocks, instructions.
func TestTheFirstFault(t *testing.T) {
	const funcs, blocks, instrs = 3, 3, 3
	if f, b, i, ok := Fault(rows(funcs, blocks, instrs)); f != 0 || b != 0 || i != 0 || !ok {
		t.Fatal(f, b, i, ok)
	}
	for first := range funcs * blocks * instrs {
		for second := first; second < funcs*blocks*instrs; second++ {
			m := rows(funcs, blocks, instrs)
			for _, n := range []int{first, second} {
				x := &m.Funcs[n/(blocks*instrs)].Blocks[n/instrs%blocks].Code[n%instrs]
				x.D, x.A = 0, 0
				if x.Op == api.OpConst {
					x.D = 7
				} else {
					x.A = 7
				}
			}
			faulty(t, "two", m, first/(blocks*instrs), first/instrs%blocks, first%instrs)
		}
	}
}

// P5.3, P5.4: blocks whose end is wrong.
func TestEnds(t *testing.T) {
	set, back, wrong, wrongBack := api.Instr{Op: api.OpConst}, api.Instr{Op: api.OpReturn}, api.Instr{Op: api.OpConst, D: 1}, api.Instr{Op: api.OpReturn, A: 1}
	jump := api.Instr{Op: api.OpJump}
	for _, c := range []struct {
		why  string
		code []api.Instr
		i    int // -1: nothing is wrong
	}{
		{"the end alone", []api.Instr{jump}, -1},
		{"no instruction", nil, 0},
		{"no instruction, not nil", []api.Instr{}, 0},
		{"no end", []api.Instr{set}, 1},
		{"no end", []api.Instr{set, set, set}, 3},
		{"an end, and no end", []api.Instr{set, back, set}, 1},
		{"two ends", []api.Instr{set, back, back}, 1},
		{"two ends, at first", []api.Instr{jump, jump}, 0},
		{"an end at first", []api.Instr{jump, set, back}, 0},
		{"wrong, no end", []api.Instr{set, wrong}, 1},
		{"wrong, no end", []api.Instr{wrong, set}, 0},
		{"wrong, ahead of an end that isn't the last", []api.Instr{wrong, back, set}, 0},
		{"an end that isn't the last, ahead of a wrong one", []api.Instr{set, back, wrong, set}, 1},
		{"a wrong end", []api.Instr{set, wrongBack}, 1},
		{"a wrong end that isn't the last", []api.Instr{set, wrongBack, back}, 1},
	} {
		for f := range 2 {
			for b := range 2 {
				m := rows(2, 2, 2)
				m.Funcs[f].Blocks[b].Code = c.code
				if c.i >= 0 {
					faulty(t, c.why, m, f, b, c.i)
				} else if Verify(m) != api.OK {
					t.Error(c.why)
				}
			}
		}
	}
}

// P5.3: just the instructions from 18 to 23 may end a block, and may stand nowhere else.
func TestWhatEndsABlock(t *testing.T) {
	for _, x := range right() {
		end := x.Op >= 18
		m := yard(x)
		if f, b, i, ok := Fault(m); ok != end || !end && (f != 1 || b != 0 || i != 1) {
			t.Errorf("%+v at the end: %d, %d, %d, %v", x, f, b, i, ok)
		}
		m = yard(x, api.Instr{Op: api.OpJump, A: 1})
		if f, b, i, ok := Fault(m); ok == end || end && (f != 1 || b != 0 || i != 0) {
			t.Errorf("%+v ahead of the end: %d, %d, %d, %v", x, f, b, i, ok)
		}
		m = yard(api.Instr{Op: api.OpIn, D: bare1}, x, api.Instr{Op: api.OpJump, A: 1})
		if f, b, i, ok := Fault(m); ok == end || end && (f != 1 || b != 0 || i != 1) {
			t.Errorf("%+v amid: %d, %d, %d, %v", x, f, b, i, ok)
		}
	}
}

// P5.3: a block begins with what its In says, whatever the one ahead of it did; blocks that nothing goes to are asked, too.
func TestEachBlockBeginsWithIn(t *testing.T) {
	m := rows(1, 3, 2)
	m.Funcs[0].Blocks[1].Code = []api.Instr{{Op: api.OpReturn}}
	faulty(t, "what another block set", m, 0, 1, 0)
	m.Funcs[0].Blocks[1].In[0] = 0
	if Verify(m) != api.OK {
		t.Error("what In says")
	}
	m.Funcs[0].Blocks[1].In[0] = 1
	faulty(t, "another type", m, 0, 1, 0)
}

// P5.3: what an instruction sets is there for the next one, and what is taken away isn't.
func TestOneBehindTheOther(t *testing.T) {
	out := func(a int) api.Instr { return api.Instr{Op: api.OpOut, A: a} }
	end := api.Instr{Op: api.OpJump, A: 1}
	for _, c := range []struct {
		why  string
		code []api.Instr
		i    int // -1: nothing is wrong
	}{
		{"set, then read", []api.Instr{{Op: api.OpIn, D: bare1}, out(bare1), end}, -1},
		{"read, then set", []api.Instr{out(bare1), {Op: api.OpIn, D: bare1}, end}, 0},
		{"overwritten", []api.Instr{out(num), {Op: api.OpMove, D: num, A: text}, out(num), end}, 2},
		{"read in the instruction that overwrites it", []api.Instr{{Op: api.OpLen, D: text, A: text}, out(text), end}, -1},
		{"collected", []api.Instr{{Op: api.OpText, D: bare1}, out(num), end}, 1},
		{"collected, but live", []api.Instr{{Op: api.OpText, D: bare1, Live: []int{num}}, out(num), end}, -1},
		{"made, and then collected", []api.Instr{{Op: api.OpText, D: bare1}, {Op: api.OpText, D: bare2}, {Op: api.OpLen, D: 0, A: bare1}, end}, 2},
		{"made, and then live", []api.Instr{{Op: api.OpText, D: bare1}, {Op: api.OpText, D: bare2, Live: []int{bare1}}, {Op: api.OpCat, D: 0, A: bare1, B: bare2}, end}, -1},
		{"live, and no more there", []api.Instr{{Op: api.OpText, D: bare1}, {Op: api.OpText, D: bare2, Live: []int{num}}, end}, 1},
		{"read where it is collected", []api.Instr{{Op: api.OpCat, D: bare1, A: text, B: strs}, {Op: api.OpLen, D: num, A: text}, end}, 1},
		{"D, which isn't live", []api.Instr{{Op: api.OpText, D: num, Live: []int{text}}, {Op: api.OpLen, D: bare1, A: num}, end}, -1},
		{"D, which is live", []api.Instr{{Op: api.OpText, D: num, Live: []int{num}}, out(num), end}, 1},
		{"a call collects", []api.Instr{{Op: api.OpCall, D: num, B: -1}, out(num), {Op: api.OpLen, D: num, A: text}, end}, 2},
		{"what is handled isn't there behind the call", []api.Instr{{Op: api.OpCall, D: num, B: 1, C: bare1}, {Op: api.OpMove, D: num, A: bare1}, end}, 1},
		{"what stood where it is handled is there behind the call", []api.Instr{{Op: api.OpCall, D: num, B: 1, C: text, Live: []int{text}}, {Op: api.OpLen, D: num, A: text}, end}, -1},
		{"cmp doesn't collect", []api.Instr{{Op: api.OpCmp, D: num, A: text, B: other}, {Op: api.OpLen, D: num, A: text}, end}, -1},
		{"a store changes no type", []api.Instr{{Op: api.OpStore, A: triple, B: 0, C: num}, {Op: api.OpField, D: bare1, A: triple}, out(bare1), end}, 2},
	} {
		m := yard(c.code...)
		if f, b, i, ok := Fault(m); c.i >= 0 && (f != 1 || b != 0 || i != c.i || ok) || c.i < 0 && !ok {
			t.Errorf("%s: %d, %d, %d, %v", c.why, f, b, i, ok)
		}
	}
}

// P5.4: one that isn't whole has no place, whatever else is wrong.
func TestNotWholeIsFirst(t *testing.T) {
	m := rows(2, 2, 2)
	m.Funcs[0].Blocks[0].Code[0].D = 5
	faulty(t, "whole", m, 0, 0, 0)
	m.Funcs[1].Blocks[1].In = nil
	isWhole(t, "not whole", m, false)
}
