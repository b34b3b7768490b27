package vm

import (
	"math"
	"strings"
	"testing"

	"bellows/api"
)

// The chapter's examples.
func TestExamples(t *testing.T) {
	m := yard([]api.Instr{konst(0, 72), out(0), answer(0)})
	m.Funcs[0].Slots = 1
	expect(t, "done", m, api.Script{Fuel: 3, Stack: 3}, api.Outcome{Kind: api.Done, Output: []byte("H"), Steps: 3})
	expect(t, "two steps", m, api.Script{Fuel: 2, Stack: 3}, api.Outcome{Kind: api.NoFuel, Output: []byte("H"), Steps: 2})
	expect(t, "a stack of two", m, api.Script{Fuel: 3, Stack: 2}, api.Outcome{Kind: api.NoStack})
	m = yard([]api.Instr{prim(api.Div, 0, 0, 0), answer(0)})
	expect(t, "a division", m, plenty(), api.Outcome{Kind: api.Raised, Exn: "Div", Steps: 1})
	m.Names = m.Names[:1]
	expect(t, "a division, no name", m, plenty(), api.Outcome{Kind: api.Raised, Steps: 1})
}

// P6.1: fuel below 0 is none, and above MaxFuel MaxFuel.
func TestFuel(t *testing.T) {
	m := yard([]api.Instr{konst(0, 65), out(0), out(0), answer(0)})
	for _, c := range []struct {
		fuel   int
		kind   int
		output string
		steps  int
	}{
		{math.MinInt, api.NoFuel, "", 0}, {-1, api.NoFuel, "", 0}, {0, api.NoFuel, "", 0}, {1, api.NoFuel, "", 1},
		{2, api.NoFuel, "A", 2}, {3, api.NoFuel, "AA", 3}, {4, api.Done, "AA", 4}, {5, api.Done, "AA", 4}, {math.MaxInt, api.Done, "AA", 4},
	} {
		s := plenty()
		s.Fuel = c.fuel
		expect(t, "fuel", m, s, api.Outcome{Kind: c.kind, Output: []byte(c.output), Steps: c.steps})
	}
	loop := yard([]api.Instr{jump(0)})
	for _, fuel := range []int{api.MaxFuel - 1, api.MaxFuel, api.MaxFuel + 1, math.MaxInt} {
		s := plenty()
		s.Fuel = fuel
		if o := Run(loop, s); o.Kind != api.NoFuel || o.Steps != min(fuel, api.MaxFuel) {
			t.Error(fuel, o)
		}
	}
}

// P6.1: memory below 0 is none, and above MaxWords MaxWords.
func TestHeap(t *testing.T) {
	m := yard([]api.Instr{record(0, unit, nil), answer(0)})
	for _, heap := range []int{math.MinInt, -1, 0} {
		expect(t, "no memory", m, api.Script{Fuel: 9, Heap: heap, Stack: 99}, api.Outcome{Kind: api.NoHeap, Steps: 1, Swept: 1})
	}
	expect(t, "a word", m, api.Script{Fuel: 9, Heap: 1, Stack: 99}, api.Outcome{Kind: api.Done, Steps: 2})
	full := func(n int64) api.Image {
		return yard([]api.Instr{konst(0, n), array(1, row, 0, 0, 1), record(2, unit, nil, 1), answer(1)})
	}
	for _, heap := range []int{api.MaxWords, api.MaxWords + 1, math.MaxInt} {
		s := api.Script{Fuel: 9, Heap: heap, Stack: 99}
		expect(t, "all but one word", full(api.MaxWords-2), s, api.Outcome{Kind: api.Done, Steps: 4})
		expect(t, "all words", full(api.MaxWords-1), s, api.Outcome{Kind: api.NoHeap, Steps: 3, Swept: 1})
		expect(t, "more than all", full(api.MaxWords), s, api.Outcome{Kind: api.NoHeap, Steps: 2, Swept: 1})
	}
	s := api.Script{Fuel: 9, Heap: api.MaxWords - 1, Stack: 99}
	expect(t, "a word less", full(api.MaxWords-2), s, api.Outcome{Kind: api.NoHeap, Steps: 3, Swept: 1})
}

// P6.1: a stack below 0 is none, and above MaxStack MaxStack.
func TestStack(t *testing.T) {
	m := yard([]api.Instr{call(0, 0, nil)})
	m.Funcs[0].Slots = 0
	for _, c := range []struct{ stack, steps int }{
		{math.MinInt, 0}, {-1, 0}, {0, 0}, {1, 0}, {2, 1}, {3, 1}, {4, 2}, {99, 49},
		{api.MaxStack - 1, api.MaxStack/2 - 1}, {api.MaxStack, api.MaxStack / 2}, {api.MaxStack + 2, api.MaxStack / 2}, {math.MaxInt, api.MaxStack / 2},
	} {
		o := Run(m, api.Script{Fuel: api.MaxFuel, Stack: c.stack})
		if !same(o, api.Outcome{Kind: api.NoStack, Steps: c.steps}) {
			t.Error(c, o)
		}
	}
}

// P6.1: what can't begin is Stuck, without a step, whatever the stack and the fuel.
func TestStuckToBeginWith(t *testing.T) {
	fine := func() api.Image { return yard(says('A')) }
	for why, change := range map[string]func(m *api.Image){
		"not plain":           func(m *api.Image) { m.Funcs[0].Blocks[0].Code[0].A = 1 },
		"no instruction":      func(m *api.Image) { m.Funcs[0].Blocks[0].Code[2].Op = 24 },
		"not plain, behind":   func(m *api.Image) { *m = with(*m, function(0, 0, []api.Instr{{}})) },
		"too many slots":      func(m *api.Image) { m.Funcs[0].Slots = api.MaxSlots + 1 },
		"too many strings":    func(m *api.Image) { m.Strings = make([]string, api.MaxStrings+1) },
		"too long a name":     func(m *api.Image) { m.Names[0] = strings.Repeat("x", api.MaxText+1) },
		"a shape of kind 0":   func(m *api.Image) { m.Shapes[unit].Kind = 0 },
		"a shape of kind 4":   func(m *api.Image) { m.Shapes[unit].Kind = 4 },
		"a shape of kind -1":  func(m *api.Image) { m.Shapes[nameless].Kind = -1 },
		"too many fields":     func(m *api.Image) { m.Shapes[pair].Fields = make([]int, api.MaxSlots+1) },
		"no main":             func(m *api.Image) { m.Main = 1 },
		"main below 0":        func(m *api.Image) { m.Main = -1 },
		"main far off":        func(m *api.Image) { m.Main = math.MaxInt },
		"main with a param":   func(m *api.Image) { m.Funcs[0].Params = []int{0} },
		"no functions":        func(m *api.Image) { m.Funcs = nil },
		"slots below 0":       func(m *api.Image) { m.Funcs[0].Slots = -1 },
		"slots far below 0":   func(m *api.Image) { m.Funcs[0].Slots = math.MinInt },
		"no block":            func(m *api.Image) { m.Funcs[0].Blocks = nil },
		"nothing":             func(m *api.Image) { *m = api.Image{} },
		"main of many params": func(m *api.Image) { m.Funcs[0].Params = make([]int, slots) },
	} {
		m := fine()
		change(&m)
		for _, s := range []api.Script{plenty(), {}, {Fuel: -1, Heap: -1, Stack: -1}, {Fuel: math.MaxInt, Heap: math.MaxInt, Stack: math.MaxInt}} {
			expect(t, why, m, s, api.Outcome{Kind: api.Stuck})
		}
	}
	expect(t, "nothing changed", fine(), plenty(), api.Outcome{Kind: api.Done, Output: []byte("A"), Steps: 3})
}

// P6.1: what an image need not have to begin: types, names, an Exn, Fields of an array, a shape of texts; a Result that is a type's number.
func TestBegins(t *testing.T) {
	m := yard(says('A'))
	m.Shapes, m.Names, m.Strings, m.Exn = nil, nil, nil, -5
	m.Funcs[0].Result = 99
	m.Funcs[0].Blocks[0].In = []int{7, 8, 9}
	expect(t, "bare", m, plenty(), api.Outcome{Kind: api.Done, Output: []byte("A"), Steps: 3})
	m = yard([]api.Instr{konst(0, 2), array(1, 0, 0, 0, 0), array(2, 1, 0, 1, 0, 1), array(3, 2, 0, 2, 0, 1), length(4, 3), answer(4)})
	m.Shapes = []api.Shape{{Kind: api.Array}, {Kind: api.Array, Fields: make([]int, api.MaxSlots)}, {Kind: api.Array, Fields: []int{-3}}}
	expect(t, "arrays, and no texts", m, plenty(), api.Outcome{Kind: api.Done, Steps: 6})
	m = with(yard(says('A')), function(slots, 0, says('B')), function(slots, 0, says('C')))
	m.Main = 1
	ends(t, "another main", m, plenty(), api.Done, "B")
}

// P6.6: the exception's name.
func TestExn(t *testing.T) {
	for _, c := range []struct {
		why  string
		l    []api.Instr
		want string
	}{
		{"0", []api.Instr{raise(zero)}, "Match"},
		{"1", []api.Instr{raise(one)}, "Div"},
		{"4, a name of the image's own", []api.Instr{konst(free, 4), raise(free)}, "Own"},
		{"5, no name", []api.Instr{konst(free, 5), raise(free)}, ""},
		{"-1", []api.Instr{konst(free, -1), raise(free)}, ""},
		{"the greatest", []api.Instr{konst(free, 1<<62-1), raise(free)}, ""},
		{"the least", []api.Instr{konst(free, -1<<62), raise(free)}, ""},
		{"2^32", []api.Instr{konst(free, 1<<32), raise(free)}, ""},
		{"an exception", []api.Instr{raise(failed)}, "Fail"},
		{"a record", []api.Instr{raise(two)}, "Pair"},
		{"without fields", []api.Instr{raise(none)}, "Unit"},
		{"without a name", []api.Instr{record(free, nameless, []int{0}), raise(free)}, ""},
		{"a text", []api.Instr{raise(ab)}, ""},
		{"an array", []api.Instr{raise(three)}, "Row"},
	} {
		m := yard(begun(c.l...))
		m.Shapes[row].Name = "Row"
		if o := ends(t, c.why, m, plenty(), api.Raised, ""); o.Exn != c.want {
			t.Errorf("%s: %q, want %q", c.why, o.Exn, c.want)
		}
	}
}

// P6.6: what was put out, done and swept by then stands in the outcome, however it ends; Exn of Raised alone.
func TestOutcomes(t *testing.T) {
	ahead := []api.Instr{konst(0, 65), out(0), record(1, unit, nil, 0)}
	for _, c := range []struct {
		why  string
		last api.Instr
		s    api.Script
		want api.Outcome
	}{
		{"done", answer(0), plenty(), api.Outcome{Kind: api.Done, Steps: 4}},
		{"raised", raise(1), plenty(), api.Outcome{Kind: api.Raised, Steps: 4, Exn: "Unit"}},
		{"no fuel", answer(0), api.Script{Fuel: 3, Heap: 99, Stack: 99}, api.Outcome{Kind: api.NoFuel, Steps: 3}},
		{"no heap", array(0, row, 0, 0), api.Script{Fuel: 99, Heap: 65, Stack: 99}, api.Outcome{Kind: api.NoHeap, Steps: 4, Swept: 1}},
		{"no stack", call(0, 0, nil), api.Script{Fuel: 99, Heap: 65, Stack: 14}, api.Outcome{Kind: api.NoStack, Steps: 4}},
		{"stuck", out(1), plenty(), api.Outcome{Kind: api.Stuck, Steps: 4}},
	} {
		c.want.Output = []byte("A")
		expect(t, c.why, yard(join(ahead, []api.Instr{c.last})), c.s, c.want)
		c.s.Collect = []bool{true}
		c.want.Swept++
		if c.want.Kind == api.NoFuel {
			c.want.Swept = 1
		}
		expect(t, c.why+", swept", yard(join(ahead, []api.Instr{c.last})), c.s, c.want)
	}
}
