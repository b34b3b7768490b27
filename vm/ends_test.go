package vm

import (
	"bytes"
	"math"
	"testing"

	"bellows/api"
)

// P5: no image and no script makes it panic, whatever the numbers.
func TestAnyNumbers(t *testing.T) {
	l := []int{math.MinInt, math.MaxInt, -1, 0, 1, 1 << 32}
	for _, n := range l {
		for _, k := range l {
			for op := range 25 {
				s := api.Script{Fuel: 50, Heap: k, Stack: 100}
				x := api.Instr{Op: op, D: n, A: k, B: n, C: k, N: int64(n), L: l, M: l, Live: l}
				m := yard([]api.Instr{konst(0, int64(n)), konst(1, int64(k)), x})
				m.Exn = n
				expect(t, "not plain", m, s, api.Outcome{Kind: api.Stuck})
				for _, live := range [][]int{nil, {0, 1}, l} {
					x.Live = live
					m = with(yard(begun(konst(9, int64(n)), only(x))), function(k, 0, nil), function(slots, n&3, says('a')))
					held(t, m, api.Script{Fuel: 50, Heap: 100, Stack: 100})
					held(t, m, s)
				}
				m.Main = n
				held(t, m, s)
				held(t, m, api.Script{Fuel: n, Heap: n, Stack: n})
			}
		}
	}
}

// only is an instruction with nothing but what it uses.
func only(x api.Instr) api.Instr {
	for op, use := range map[int]api.Instr{
		api.OpConst: {D: x.D, N: x.N}, api.OpText: {D: x.D, A: x.A, Live: x.Live}, api.OpMove: {D: x.D, A: x.A},
		api.OpPrim: {D: x.D, A: x.A, B: x.B, N: x.N}, api.OpNew: {D: x.D, A: x.A, L: x.L, Live: x.Live}, api.OpField: {D: x.D, A: x.A, B: x.B},
		api.OpStore: {A: x.A, B: x.B, C: x.C}, api.OpArray: {D: x.D, A: x.A, B: x.B, C: x.C, Live: x.Live}, api.OpAt: {D: x.D, A: x.A, B: x.B},
		api.OpPut: {A: x.A, B: x.B, C: x.C}, api.OpLen: {D: x.D, A: x.A}, api.OpByte: {D: x.D, A: x.A, B: x.B},
		api.OpCat: {D: x.D, A: x.A, B: x.B, Live: x.Live}, api.OpCmp: {D: x.D, A: x.A, B: x.B}, api.OpIn: {D: x.D}, api.OpOut: {A: x.A},
		api.OpCall: {D: x.D, A: x.A, B: x.B, C: x.C, L: x.L, Live: x.Live}, api.OpJump: {A: x.A}, api.OpIf: {A: x.A, B: x.B, C: x.C},
		api.OpSwitch: {A: x.A, B: x.B, L: x.L, M: x.M}, api.OpTail: {A: x.A, L: x.L}, api.OpReturn: {A: x.A}, api.OpRaise: {A: x.A},
	} {
		if op == x.Op {
			use.Op = op
			return use
		}
	}
	return konst(0, 0)
}

// greatest is a script with all that there may be.
func greatest() api.Script {
	return api.Script{Fuel: api.MaxFuel, Heap: api.MaxWords, Stack: api.MaxStack}
}

// P5, P6.5: what is thrown from as deep as the stack goes is taken, or not, in one step.
func TestThrownFromTheDeep(t *testing.T) {
	const deep = (api.MaxStack - 2*(slots+2)) / (2 + 2)
	f := function(2, 1, []api.Instr{prim(api.Eq, 1, 0, 1), when(1, 2, 1)}, []api.Instr{konst(1, -1), prim(api.Add, 0, 0, 1), call(1, 1, []int{0}), answer(0)}, []api.Instr{konst(0, 'x'), raise(0)})
	m := with(yard([]api.Instr{konst(0, deep), try(0, 1, 1, 3, []int{0})}, []api.Instr{out(3), answer(3)}), f)
	expect(t, "taken", m, greatest(), api.Outcome{Kind: api.Done, Output: []byte("x"), Steps: 2 + 5*deep + 4 + 2})
	m.Funcs[0].Blocks[0].Code[1] = call(0, 1, []int{0})
	expect(t, "not taken", m, greatest(), api.Outcome{Kind: api.Raised, Steps: 2 + 5*deep + 4})
}

// P5, P6.4: a list as long as memory, and frames as many as the stack has, are kept through collections.
func TestAllThatThereIs(t *testing.T) {
	const cells = api.MaxWords / 3
	m := yard([]api.Instr{konst(0, cells), konst(1, -1), jump(1)},
		[]api.Instr{record(2, pair, []int{0, 2}, 0, 1), prim(api.Add, 0, 0, 1), when(0, 1, 2)},
		[]api.Instr{konst(3, 1), konst(5, 0), jump(3)},
		[]api.Instr{field(4, 2, 0), prim(api.Add, 5, 5, 4), field(2, 2, 1), prim(api.Eq, 6, 4, 7), when(6, 4, 4)},
		[]api.Instr{choice(2, nil, []int{pair, 3}, 5)},
		[]api.Instr{konst(6, cells*(cells+1)/2), prim(api.Eq, 6, 5, 6), out(6), record(0, unit, nil), answer(0)})
	s := greatest()
	s.Collect = make([]bool, cells+1)
	for n := 1; n <= cells; n *= 3 {
		s.Collect[n] = true
	}
	if o := Run(m, s); o.Kind != api.Done || string(o.Output) != "\x01" || o.Swept != 10 {
		t.Error(o.Kind, o.Output, o.Swept)
	}
	frames := with(yard([]api.Instr{konst(0, 3000), call(1, 1, []int{0, 0}), out(1), answer(1)}),
		function(6, 2,
			[]api.Instr{konst(3, 1), when(0, 1, 2)},
			[]api.Instr{record(2, pair, []int{0, 1}, 0, 1, 3), prim(api.Sub, 0, 0, 3), call(4, 1, []int{0, 2}, 1, 2), field(0, 2, 1), prim(api.Add, 4, 4, 5), answer(4)},
			[]api.Instr{konst(0, 65), record(2, unit, nil, 0), answer(0)}))
	s.Collect = make([]bool, 3001)
	s.Collect[1500], s.Collect[3000] = true, true
	ends(t, "frames", frames, s, api.Done, "A")
}

// P5: runs that do much in each step end.
func TestSlowRuns(t *testing.T) {
	s := greatest()
	m := yard([]api.Instr{tail(0, upTo(0)...)})
	m.Funcs[0].Slots = api.MaxSlots
	s.Fuel = 1 << 20
	if o := Run(m, s); o.Kind != api.NoFuel || o.Steps != s.Fuel {
		t.Error("tails", o.Kind, o.Steps)
	}
	m = yard([]api.Instr{text(0, 5, upTo(slots)...), jump(0)})
	m.Strings = append(m.Strings, string(make([]byte, api.MaxText)))
	s.Fuel = 2000
	if o := Run(m, s); o.Kind != api.NoFuel || o.Swept < 30 {
		t.Error("texts", o.Kind, o.Swept)
	}
	m = yard([]api.Instr{record(0, unit, nil, 1), jump(0)})
	s.Collect = of(1000, true)
	if o := Run(m, s); o.Kind != api.NoFuel || o.Swept != 1000 {
		t.Error("collections", o.Kind, o.Swept)
	}
	var ways []int
	for n := range api.MaxShapes {
		ways = append(ways, n+1, 1)
	}
	m = yard([]api.Instr{choice(0, ways, ways, 0)}, says('n'))
	s.Fuel = 1 << 18
	if o := Run(m, s); o.Kind != api.NoFuel || o.Steps != s.Fuel {
		t.Error("switches", o.Kind, o.Steps)
	}
	m = yard([]api.Instr{konst(0, 65), jump(1)}, []api.Instr{out(0), jump(1)})
	s.Fuel = 1 << 20
	if o := Run(m, s); !bytes.Equal(o.Output, bytes.Repeat([]byte("A"), s.Fuel/2-1)) {
		t.Error("outputs", len(o.Output))
	}
}
