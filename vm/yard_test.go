package vm

import (
	"reflect"
	"testing"

	"bellows/api"
)

// The yard's shapes.
const (
	texts    = iota // Bytes
	pair            // a record of two
	unit            // a record without fields
	row             // an array
	fail            // a record of one, the exception Fail
	blob            // other Bytes
	nameless        // a record of one
)

// The slots that the yard's beginning fills, and how many there are.
const (
	seven  = iota // the number 7
	ab            // the text ab
	two           // the record of 7 and ab
	three         // an array of three 7s
	none          // the record without fields
	failed        // the record of ab, the exception Fail
	zero          // the number 0
	one           // the number 1
	free          // the number 0, as all behind it
	slots  = 12
)

// yard is an image of one function, with these blocks.
func yard(blocks ...[]api.Instr) api.Image {
	return api.Image{
		Shapes: []api.Shape{
			texts:    {Kind: api.Bytes},
			pair:     {Kind: api.Record, Fields: []int{0, 0}, Name: "Pair"},
			unit:     {Kind: api.Record, Name: "Unit"},
			row:      {Kind: api.Array, Fields: []int{0}},
			fail:     {Kind: api.Record, Fields: []int{0}, Name: "Fail"},
			blob:     {Kind: api.Bytes},
			nameless: {Kind: api.Record, Fields: []int{0}},
		},
		Strings: []string{"", "ab", "abc", "b", "\xff\x00"},
		Names:   []string{"Match", "Div", "Subscript", "Size", "Own"},
		Funcs:   []api.Func{function(slots, 0, blocks...)},
	}
}

func function(slots, params int, blocks ...[]api.Instr) api.Func {
	f := api.Func{Slots: slots, Params: make([]int, params)}
	for _, l := range blocks {
		f.Blocks = append(f.Blocks, api.Block{Code: l})
	}
	return f
}

// with is an image with functions more.
func with(m api.Image, l ...api.Func) api.Image {
	m.Funcs = append(m.Funcs[:len(m.Funcs):len(m.Funcs)], l...)
	return m
}

// plenty is enough of all for what is short.
func plenty() api.Script { return api.Script{Fuel: 10000, Heap: 10000, Stack: 10000} }

// begun is the yard's beginning, and what is done then.
func begun(l ...api.Instr) []api.Instr {
	return join([]api.Instr{
		konst(seven, 7),
		konst(one, 1),
		konst(free, 3),
		text(ab, 1, upTo(slots)...),
		record(two, pair, []int{seven, ab}, upTo(slots)...),
		array(three, row, free, seven, upTo(slots)...),
		record(none, unit, nil, upTo(slots)...),
		record(failed, fail, []int{ab}, upTo(slots)...),
		konst(free, 0),
	}, l)
}

func join(lists ...[]api.Instr) []api.Instr {
	var all []api.Instr
	for _, l := range lists {
		all = append(all, l...)
	}
	return all
}

// upTo is the numbers from 0 to n - 1.
func upTo(n int) []int {
	l := make([]int, n)
	for i := range l {
		l[i] = i
	}
	return l
}

// of is a list of n that are the same.
func of[E any](n int, e E) []E {
	l := make([]E, n)
	for i := range l {
		l[i] = e
	}
	return l
}

// expect runs an image, and looks that its outcome is this one.
func expect(t testing.TB, why string, m api.Image, s api.Script, want api.Outcome) {
	t.Helper()
	got := Run(m, s)
	if !same(got, want) {
		t.Errorf("%s: got %+v, want %+v", why, got, want)
	}
	if told := runAsTold(m, s); !same(told, want) {
		t.Errorf("%s: the model tells %+v, want %+v", why, told, want)
	}
}

// same takes nil and empty outputs for one.
func same(a, b api.Outcome) bool {
	if len(a.Output) == 0 && len(b.Output) == 0 {
		a.Output, b.Output = nil, nil
	}
	return reflect.DeepEqual(a, b)
}

// ends is how a run ends, and what it puts out.
func ends(t testing.TB, why string, m api.Image, s api.Script, kind int, output string) api.Outcome {
	t.Helper()
	o := Run(m, s)
	if o.Kind != kind || string(o.Output) != output {
		t.Errorf("%s: got %+v, want the kind %d, the output %q", why, o, kind, output)
	}
	if told := runAsTold(m, s); !same(o, told) {
		t.Errorf("%s: got %+v, the model tells %+v", why, o, told)
	}
	return o
}

// The instructions.
func konst(d int, n int64) api.Instr { return api.Instr{Op: api.OpConst, D: d, N: n} }
func text(d, a int, live ...int) api.Instr {
	return api.Instr{Op: api.OpText, D: d, A: a, Live: live}
}
func move(d, a int) api.Instr { return api.Instr{Op: api.OpMove, D: d, A: a} }
func prim(n int64, d, a, b int) api.Instr {
	return api.Instr{Op: api.OpPrim, N: n, D: d, A: a, B: b}
}
func record(d, a int, l []int, live ...int) api.Instr {
	return api.Instr{Op: api.OpNew, D: d, A: a, L: l, Live: live}
}
func field(d, a, b int) api.Instr { return api.Instr{Op: api.OpField, D: d, A: a, B: b} }
func store(a, b, c int) api.Instr { return api.Instr{Op: api.OpStore, A: a, B: b, C: c} }
func array(d, a, b, c int, live ...int) api.Instr {
	return api.Instr{Op: api.OpArray, D: d, A: a, B: b, C: c, Live: live}
}
func at(d, a, b int) api.Instr    { return api.Instr{Op: api.OpAt, D: d, A: a, B: b} }
func put(a, b, c int) api.Instr   { return api.Instr{Op: api.OpPut, A: a, B: b, C: c} }
func length(d, a int) api.Instr   { return api.Instr{Op: api.OpLen, D: d, A: a} }
func octet(d, a, b int) api.Instr { return api.Instr{Op: api.OpByte, D: d, A: a, B: b} }
func cat(d, a, b int, live ...int) api.Instr {
	return api.Instr{Op: api.OpCat, D: d, A: a, B: b, Live: live}
}
func compare(d, a, b int) api.Instr { return api.Instr{Op: api.OpCmp, D: d, A: a, B: b} }
func in(d int) api.Instr            { return api.Instr{Op: api.OpIn, D: d} }
func out(a int) api.Instr           { return api.Instr{Op: api.OpOut, A: a} }

// call is one whose thrown words go on.
func call(d, a int, l []int, live ...int) api.Instr {
	return api.Instr{Op: api.OpCall, D: d, A: a, B: -1, L: l, Live: live}
}

// try is a call whose thrown words go to the block b, into the slot c.
func try(d, a, b, c int, l []int, live ...int) api.Instr {
	return api.Instr{Op: api.OpCall, D: d, A: a, B: b, C: c, L: l, Live: live}
}
func jump(a int) api.Instr       { return api.Instr{Op: api.OpJump, A: a} }
func when(a, b, c int) api.Instr { return api.Instr{Op: api.OpIf, A: a, B: b, C: c} }
func choice(a int, l, m []int, b int) api.Instr {
	return api.Instr{Op: api.OpSwitch, A: a, L: l, M: m, B: b}
}
func tail(a int, l ...int) api.Instr { return api.Instr{Op: api.OpTail, A: a, L: l} }
func answer(a int) api.Instr         { return api.Instr{Op: api.OpReturn, A: a} }
func raise(a int) api.Instr          { return api.Instr{Op: api.OpRaise, A: a} }

// says is a block that puts a letter out and answers.
func says(letter byte) []api.Instr {
	return []api.Instr{konst(slots-1, int64(letter)), out(slots - 1), answer(slots - 1)}
}

// gives looks that these instructions, behind the yard's beginning, let a slot have a number.
func gives(t testing.TB, why string, s api.Script, slot int, want int64, l ...api.Instr) {
	t.Helper()
	l = append(l[:len(l):len(l)], choice(slot, []int{int(want), 1}, []int{texts, 3, pair, 3, unit, 3, row, 3, fail, 3}, 2))
	ends(t, why, yard(begun(l...), says('y'), says('n'), says('o')), s, api.Done, "y")
}
