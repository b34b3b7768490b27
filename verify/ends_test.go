package verify

import (
	"math"
	"testing"

	"bellows/api"
)

// upTo is the numbers from 0 to n - 1.
func upTo(n int) []int {
	l := make([]int, n)
	for i := range l {
		l[i] = i
	}
	return l
}

// paired is the numbers from 0 on, and a block behind each.
func paired(n, block int) []int {
	var l []int
	for i := range n {
		l = append(l, i, block)
	}
	return l
}

// great has 512 shapes, records but for texts, and types of all of these: 1 with texts, 2 and 3 records alone.
func great() api.Image {
	m := least()
	m.Shapes = of(512, api.Shape{Kind: api.Record, Fields: of(200, 2)})
	m.Shapes[0] = api.Shape{Kind: api.Bytes}
	records := upTo(512)[1:]
	m.Types = []api.Type{imm(), imm(upTo(512)...), objects(records...), objects(records...), imm(records...)}
	m.Exn = 4
	return m
}

// P5: images at the limits, whose lists are one list many times, are soon gone through.
func TestGreatImagesEnd(t *testing.T) {
	const blocks = 2000
	m := great()
	in := append(of(199, 2), 1)
	last := api.Instr{Op: api.OpSwitch, A: 199, B: 1999, L: paired(512, 1), M: paired(512, 1998)}
	m.Funcs = append(m.Funcs, api.Func{Slots: 200, Params: in, Result: 0, Blocks: of(blocks, api.Block{In: in, Code: []api.Instr{last}})})
	if f, b, i, ok := Fault(m); !ok {
		t.Error("switches", f, b, i)
	}
	m.Funcs[1].Blocks = of(1, api.Block{In: in, Code: append(of(8900, api.Instr{Op: api.OpField, D: 198, A: 197, B: 199}), append(of(8900, api.Instr{Op: api.OpStore, A: 196, B: 0, C: 198}), last)...)})
	m.Funcs[1].Blocks = append(m.Funcs[1].Blocks, of(1999, api.Block{In: of(200, -1), Code: []api.Instr{{Op: api.OpRaise, A: 199}}})...)
	if f, b, i, ok := Fault(m); f != 1 || b != 1 || i != 0 || ok {
		t.Error("fields", f, b, i, ok)
	}
	m.Funcs[1].Blocks = of(1, api.Block{In: in, Code: append(of(19900, api.Instr{Op: api.OpCall, D: 199, A: 1, B: 0, C: 199, L: upTo(200), Live: upTo(200)}), api.Instr{Op: api.OpJump})})
	if f, b, i, ok := Fault(m); !ok {
		t.Error("calls", f, b, i)
	}
}

// P5: of very many blocks Fault tells the first one that has no instruction.
func TestVeryManyBlocks(t *testing.T) {
	m := great()
	m.Funcs = append(m.Funcs, of(1023, api.Func{Slots: 200, Blocks: of(2000, api.Block{In: of(200, -1)})})...)
	if f, b, i, ok := Fault(m); f != 1 || b != 0 || i != 0 || ok {
		t.Error(f, b, i, ok)
	}
}

// P5: no image makes Whole, Fault or Verify panic, whatever its numbers.
func TestAnyNumbers(t *testing.T) {
	l := []int{math.MinInt, math.MaxInt, -1, 0, 1, 1 << 32}
	for _, n := range l {
		for _, k := range l {
			for op := range 25 {
				for _, m := range []api.Image{least(), ample(), {}} {
					m.Funcs = append(m.Funcs, api.Func{Params: []int{k}, Result: n, Slots: 2, Blocks: []api.Block{{In: []int{k, n}, Code: []api.Instr{{Op: op, D: n, A: k, B: n, C: k, N: int64(n), L: l, M: l, Live: l}}}}})
					m.Main, m.Exn = n, k
					if held(t, m); Verify(m) != api.ErrVerify {
						t.Error(op, n, k)
					}
					m = ample()
					m.Funcs[1].Blocks[0].Code = []api.Instr{only(api.Instr{Op: max(1, op%24), D: n, A: k, B: n, C: k, N: int64(n), L: l, M: l, Live: l})}
					held(t, m)
				}
			}
		}
	}
}
