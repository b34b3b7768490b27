package verify

import (
	"math"
	"slices"
	"testing"

	"bellows/api"
	"bellows/code"
)

// The yard's types, each the number of its own, and of the slot that has it.
const (
	num      = iota // numbers
	text            // texts
	other           // other Bytes
	strs            // Bytes of both shapes
	pair            // the record 2: a number, a text
	triple          // the record 3: a numOrPair, a text, a number
	either          // the record 2 or 3
	unit            // the record 4, without fields
	pairUnit        // the record 2 or 4
	numPair         // a number, or the record 2
	nums            // the array 5 of numbers
	mixed           // the array 6 of numOrPair
	arrays          // both
	nothing         // neither numbers nor shapes
	exn             // exceptions: numbers, or the record 7
	fail            // the record 7: a text
	seq             // Bytes, or the array 5
	odd             // the record 2, or the array 5
	numText         // a number, or a text
	numNums         // a number, or the array 5
	texts           // the array 9 of texts
	strPair         // a text, or the record 2
	all             // a number, or anything
	yardTypes
	bare1 = yardTypes // slots without a type
	bare2 = yardTypes + 1
	slots = yardTypes + 2
)

// yard is an image, in which the function 1 has a slot of each type, and two without one; there is a block 1 that asks for nothing.
func yard(l ...api.Instr) api.Image {
	m := api.Image{
		Types: []api.Type{
			num: imm(), text: objects(0), other: objects(1), strs: objects(0, 1), pair: objects(2), triple: objects(3), either: objects(2, 3),
			unit: objects(4), pairUnit: objects(2, 4), numPair: imm(2), nums: objects(5), mixed: objects(6), arrays: objects(5, 6), nothing: objects(),
			exn: imm(7), fail: objects(7), seq: objects(0, 5), odd: objects(2, 5), numText: imm(0), numNums: imm(5), texts: objects(8),
			strPair: objects(0, 2), all: imm(0, 1, 2, 3, 4, 5, 6, 7, 8),
		},
		Shapes: []api.Shape{
			{Kind: api.Bytes}, {Kind: api.Bytes},
			{Kind: api.Record, Fields: []int{num, text}}, {Kind: api.Record, Fields: []int{numPair, text, num}}, {Kind: api.Record},
			{Kind: api.Array, Fields: []int{num}}, {Kind: api.Array, Fields: []int{numPair}},
			{Kind: api.Record, Fields: []int{text}, Name: "Fail"}, {Kind: api.Array, Fields: []int{text}},
		},
		Strings: []string{"a", "b"},
		Funcs: []api.Func{
			least().Funcs[0],
			{Result: num, Slots: slots, Blocks: []api.Block{{Code: l}, {In: of(slots, -1), Code: []api.Instr{{Op: api.OpJump, A: 1}}}}},
			{Params: []int{numPair, text}, Result: pair, Slots: 2, Blocks: []api.Block{{In: []int{numPair, text}, Code: []api.Instr{{Op: api.OpTail, A: 2, L: []int{0, 1}}}}}},
			{Result: nothing, Blocks: []api.Block{{Code: []api.Instr{{Op: api.OpJump}}}}},
			{Result: exn, Blocks: []api.Block{{Code: []api.Instr{{Op: api.OpJump}}}}},
		},
		Exn: exn,
	}
	f := &m.Funcs[1]
	for n := range m.Types {
		f.Params = append(f.Params, n)
	}
	f.Blocks[0].In = append(slices.Clone(f.Params), -1, -1)
	return m
}

// asked looks that the first instruction of the yard's function is right, or wrong.
func asked(t *testing.T, why string, m api.Image, want bool) {
	t.Helper()
	f, b, i, ok := Fault(m)
	if want && (f != 0 || b != 0 || i != 0 || !ok) || !want && (f != 1 || b != 0 || i != 0 || ok) {
		t.Errorf("%s: %d, %d, %d, %v: %+v", why, f, b, i, ok, m.Funcs[1].Blocks[0].Code[0])
	}
	if wf, wb, wi, told := faultAsTold(m); f != wf || b != wb || i != wi || ok != told {
		t.Errorf("%s: the model tells %d, %d, %d, %v", why, wf, wb, wi, told)
	}
}

// alone is an instruction in the yard, and what must stand behind it.
func alone(x api.Instr) api.Image {
	if x.Op >= api.OpJump {
		return yard(x)
	}
	return yard(x, api.Instr{Op: api.OpJump, A: 1})
}

// right are instructions that the yard's function may do, each in several ways.
func right() []api.Instr {
	return []api.Instr{
		{Op: api.OpConst, D: bare1, N: 5},
		{Op: api.OpConst, D: text, N: 1<<62 - 1},
		{Op: api.OpConst, D: bare2, N: -1 << 62},
		{Op: api.OpText, D: bare1, A: 1},
		{Op: api.OpText, D: num, A: 0, Live: []int{num, pair, all}},
		{Op: api.OpMove, D: bare1, A: triple},
		{Op: api.OpMove, D: nums, A: nums},
		{Op: api.OpPrim, D: bare2, A: num, B: nothing, N: 1},
		{Op: api.OpPrim, D: all, A: num, B: num, N: 8},
		{Op: api.OpNew, D: bare1, A: 2, L: []int{num, text}},
		{Op: api.OpNew, D: text, A: 3, L: []int{pair, nothing, num}, Live: []int{num, text}},
		{Op: api.OpNew, D: bare1, A: 4},
		{Op: api.OpField, D: bare1, A: either, B: 0},
		{Op: api.OpField, D: bare1, A: either, B: 1},
		{Op: api.OpField, D: bare1, A: triple, B: 2},
		{Op: api.OpField, D: fail, A: fail, B: 0},
		{Op: api.OpStore, A: pair, B: 1, C: text},
		{Op: api.OpStore, A: triple, B: 0, C: numPair},
		{Op: api.OpStore, A: either, B: 0, C: num},
		{Op: api.OpArray, D: bare1, A: 5, B: num, C: num},
		{Op: api.OpArray, D: num, A: 6, B: num, C: numPair, Live: []int{arrays, exn}},
		{Op: api.OpArray, D: bare1, A: 8, B: nothing, C: text},
		{Op: api.OpAt, D: bare1, A: arrays, B: num},
		{Op: api.OpAt, D: bare1, A: texts, B: num},
		{Op: api.OpPut, A: mixed, B: num, C: pair},
		{Op: api.OpPut, A: arrays, B: num, C: num},
		{Op: api.OpLen, D: bare1, A: seq},
		{Op: api.OpLen, D: bare1, A: mixed},
		{Op: api.OpByte, D: bare1, A: strs, B: num},
		{Op: api.OpCat, D: bare1, A: strs, B: text},
		{Op: api.OpCat, D: other, A: other, B: other, Live: []int{all}},
		{Op: api.OpCmp, D: bare1, A: text, B: strs},
		{Op: api.OpIn, D: bare1},
		{Op: api.OpOut, A: num},
		{Op: api.OpCall, D: bare1, A: 2, B: -1, L: []int{num, text}},
		{Op: api.OpCall, D: bare1, A: 2, B: -1, L: []int{pair, nothing}, Live: []int{num, all}},
		{Op: api.OpCall, D: bare2, A: 0, B: 1, C: bare1},
		{Op: api.OpCall, D: bare1, A: 4, B: 1, C: num, Live: []int{num}},
		{Op: api.OpCall, D: bare1, A: 3, B: -1},
		{Op: api.OpJump, A: 1},
		{Op: api.OpIf, A: num, B: 1, C: 1},
		{Op: api.OpSwitch, A: num, B: 1},
		{Op: api.OpSwitch, A: exn, B: 1, L: []int{-1 << 62, 1, 0, 1, 1<<62 - 1, 1}, M: []int{7, 1}},
		{Op: api.OpSwitch, A: either, B: -1, M: []int{2, 1, 3, 1}},
		{Op: api.OpSwitch, A: pair, B: 1, L: []int{3, 1}, M: []int{0, 1, 2, 1, 8, 1}},
		{Op: api.OpSwitch, A: nothing, B: -1},
		{Op: api.OpTail, A: 0},
		{Op: api.OpTail, A: 3},
		{Op: api.OpReturn, A: num},
		{Op: api.OpReturn, A: nothing},
		{Op: api.OpRaise, A: exn},
		{Op: api.OpRaise, A: num},
		{Op: api.OpRaise, A: fail},
	}
}

// P5.3: what may be.
func TestRight(t *testing.T) {
	seen := map[int]int{}
	for _, x := range right() {
		asked(t, "right", alone(x), true)
		seen[x.Op]++
	}
	if len(seen) != api.OpRaise {
		t.Error(seen)
	}
}

// P5.3: of each number of a slot, one below 0, or beyond the end, is wrong, and in what is read one without a type, too.
func TestFarSlots(t *testing.T) {
	for _, x := range right() {
		for why, at := range reads(&x) {
			was := *at
			for _, n := range append(far(slots), bare1, bare2) {
				*at = n
				asked(t, "reads "+why, alone(x), false)
			}
			*at = was
		}
		for why, at := range sets(&x) {
			was := *at
			for _, n := range far(slots) {
				*at = n
				asked(t, "sets "+why, alone(x), false)
			}
			*at = was
		}
	}
}

// reads are the places in an instruction where a slot stands that it reads.
func reads(x *api.Instr) map[string]*int {
	places := map[string]*int{}
	switch x.Op {
	case api.OpMove, api.OpLen, api.OpOut, api.OpIf, api.OpSwitch, api.OpReturn, api.OpRaise, api.OpField:
		places["A"] = &x.A
	case api.OpPrim, api.OpAt, api.OpByte, api.OpCat, api.OpCmp:
		places["A"], places["B"] = &x.A, &x.B
	case api.OpStore:
		places["A"], places["C"] = &x.A, &x.C
	case api.OpArray:
		places["B"], places["C"] = &x.B, &x.C
	case api.OpPut:
		places["A"], places["B"], places["C"] = &x.A, &x.B, &x.C
	case api.OpNew, api.OpCall, api.OpTail:
		for i := range x.L {
			places["L"+string(rune('0'+i))] = &x.L[i]
		}
	}
	for i := range x.Live {
		places["Live"+string(rune('0'+i))] = &x.Live[i]
	}
	return places
}

// sets are those of slots that it sets.
func sets(x *api.Instr) map[string]*int {
	places := map[string]*int{}
	if x.Op < api.OpJump && x.Op != api.OpStore && x.Op != api.OpPut && x.Op != api.OpOut {
		places["D"] = &x.D
	}
	if x.Op == api.OpCall && x.B != -1 {
		places["C"] = &x.C
	}
	return places
}

// P5.3: numbers of texts, shapes, fields, functions, blocks, reckonings that there aren't.
func TestFarNumbers(t *testing.T) {
	for _, x := range right() {
		try := func(why string, at *int, most int, but int) {
			was := *at
			for _, n := range far(most) {
				*at = n
				if n != but {
					asked(t, why, alone(x), false)
				}
			}
			*at = was
		}
		const never = 77
		switch x.Op {
		case api.OpText:
			try("a text", &x.A, 2, never)
		case api.OpNew, api.OpArray:
			try("a shape", &x.A, 9, never)
		case api.OpField, api.OpStore:
			try("a field", &x.B, 3, never)
		case api.OpCall:
			try("a function", &x.A, 5, never)
			but := never
			if x.C == 0 {
				but = -1
			}
			try("a block", &x.B, 2, but)
		case api.OpTail:
			try("a function", &x.A, 5, never)
		case api.OpJump:
			try("a block", &x.A, 2, never)
		case api.OpIf:
			try("a block", &x.B, 2, never)
			try("a block", &x.C, 2, never)
		case api.OpSwitch:
			try("a block", &x.B, 2, -1)
			for i := range x.L {
				if i%2 == 1 {
					try("a number's block", &x.L[i], 2, never)
				}
			}
			for i := range x.M {
				if i%2 == 1 {
					try("a shape's block", &x.M[i], 2, never)
				} else {
					try("a shape", &x.M[i], 9, never)
				}
			}
		case api.OpPrim:
			for _, n := range []int64{0, -1, 9, 10, 1<<32 + 1, math.MinInt64, math.MaxInt64} {
				y := x
				y.N = n
				asked(t, "a reckoning", alone(y), false)
			}
		case api.OpConst:
			for _, n := range []int64{1 << 62, -1<<62 - 1, math.MinInt64, math.MaxInt64, 1<<62 + 5} {
				y := x
				y.N = n
				asked(t, "a number of 63 bits", alone(y), false)
			}
		}
	}
}

// P5.3: the eight reckonings.
func TestReckonings(t *testing.T) {
	for n := range int64(12) {
		asked(t, "a reckoning", alone(api.Instr{Op: api.OpPrim, D: bare1, A: num, B: num, N: n}), n >= 1 && n <= 8)
	}
}

// P5.3: of each slot that an instruction reads, which types may stand there.
func TestWhichTypes(t *testing.T) {
	any := []int{}
	for n := range yardTypes {
		any = append(any, n)
	}
	numbers, bytes, records, asNumPair := []int{num, nothing}, []int{text, other, strs}, []int{pair, triple, either, fail}, []int{num, pair, numPair, nothing}
	for _, c := range []struct {
		why string
		x   api.Instr
		at  func(x *api.Instr) *int
		may []int
	}{
		{"move", api.Instr{Op: api.OpMove}, a, any},
		{"prim A", api.Instr{Op: api.OpPrim, N: 3}, a, numbers},
		{"prim B", api.Instr{Op: api.OpPrim, N: 3}, b, numbers},
		{"new 2, first", api.Instr{Op: api.OpNew, A: 2, L: []int{num, text}}, l(0), numbers},
		{"new 2, second", api.Instr{Op: api.OpNew, A: 2, L: []int{num, text}}, l(1), []int{text, nothing}},
		{"new 3, first", api.Instr{Op: api.OpNew, A: 3, L: []int{num, text, num}}, l(0), asNumPair},
		{"new 3, third", api.Instr{Op: api.OpNew, A: 3, L: []int{num, text, num}}, l(2), numbers},
		{"new 7", api.Instr{Op: api.OpNew, A: 7, L: []int{text}}, l(0), []int{text, nothing}},
		{"field 0", api.Instr{Op: api.OpField, B: 0}, a, records},
		{"field 1", api.Instr{Op: api.OpField, B: 1}, a, []int{pair, triple, either}},
		{"field 2", api.Instr{Op: api.OpField, B: 2}, a, []int{triple}},
		{"field 3", api.Instr{Op: api.OpField, B: 3}, a, nil},
		{"store a number in 0, A", api.Instr{Op: api.OpStore, B: 0, C: num}, a, []int{pair, triple, either}},
		{"store a text in 0, A", api.Instr{Op: api.OpStore, B: 0, C: text}, a, []int{fail}},
		{"store nothing in 0, A", api.Instr{Op: api.OpStore, B: 0, C: nothing}, a, records},
		{"store a text in 1, A", api.Instr{Op: api.OpStore, B: 1, C: text}, a, []int{pair, triple, either}},
		{"store a pair in 0, A", api.Instr{Op: api.OpStore, B: 0, C: pair}, a, []int{triple}},
		{"store in 0 of a pair, C", api.Instr{Op: api.OpStore, A: pair, B: 0}, c, numbers},
		{"store in 0 of a triple, C", api.Instr{Op: api.OpStore, A: triple, B: 0}, c, asNumPair},
		{"store in 0 of either, C", api.Instr{Op: api.OpStore, A: either, B: 0}, c, numbers},
		{"store in 1 of either, C", api.Instr{Op: api.OpStore, A: either, B: 1}, c, []int{text, nothing}},
		{"array 5, B", api.Instr{Op: api.OpArray, A: 5, C: num}, b, numbers},
		{"array 5, C", api.Instr{Op: api.OpArray, A: 5, B: num}, c, numbers},
		{"array 6, C", api.Instr{Op: api.OpArray, A: 6, B: num}, c, asNumPair},
		{"at, A", api.Instr{Op: api.OpAt, B: num}, a, []int{nums, mixed, arrays, texts}},
		{"at, B", api.Instr{Op: api.OpAt, A: nums}, b, numbers},
		{"put a number, A", api.Instr{Op: api.OpPut, B: num, C: num}, a, []int{nums, mixed, arrays}},
		{"put a pair, A", api.Instr{Op: api.OpPut, B: num, C: pair}, a, []int{mixed}},
		{"put nothing, A", api.Instr{Op: api.OpPut, B: num, C: nothing}, a, []int{nums, mixed, arrays, texts}},
		{"put, B", api.Instr{Op: api.OpPut, A: nums, C: num}, b, numbers},
		{"put in nums, C", api.Instr{Op: api.OpPut, A: nums, B: num}, c, numbers},
		{"put in mixed, C", api.Instr{Op: api.OpPut, A: mixed, B: num}, c, asNumPair},
		{"put in arrays, C", api.Instr{Op: api.OpPut, A: arrays, B: num}, c, numbers},
		{"len", api.Instr{Op: api.OpLen}, a, []int{text, other, strs, nums, mixed, arrays, seq, texts}},
		{"byte, A", api.Instr{Op: api.OpByte, B: num}, a, bytes},
		{"byte, B", api.Instr{Op: api.OpByte, A: text}, b, numbers},
		{"cat, A", api.Instr{Op: api.OpCat, B: text}, a, bytes},
		{"cat, B", api.Instr{Op: api.OpCat, A: text}, b, bytes},
		{"cmp, A", api.Instr{Op: api.OpCmp, B: text}, a, bytes},
		{"cmp, B", api.Instr{Op: api.OpCmp, A: text}, b, bytes},
		{"out", api.Instr{Op: api.OpOut}, a, numbers},
		{"call 2, first", api.Instr{Op: api.OpCall, A: 2, B: -1, L: []int{num, text}}, l(0), asNumPair},
		{"call 2, second", api.Instr{Op: api.OpCall, A: 2, B: -1, L: []int{num, text}}, l(1), []int{text, nothing}},
		{"if", api.Instr{Op: api.OpIf, B: 1, C: 1}, a, numbers},
		{"switch, no way", api.Instr{Op: api.OpSwitch, B: -1}, a, []int{nothing}},
		{"switch, numbers alone", api.Instr{Op: api.OpSwitch, B: -1, L: []int{0, 1}}, a, []int{nothing}},
		{"switch, numbers and others", api.Instr{Op: api.OpSwitch, B: 1, L: []int{0, 1}}, a, numbers},
		{"switch, a shape", api.Instr{Op: api.OpSwitch, B: -1, M: []int{2, 1}}, a, []int{pair, nothing}},
		{"switch, a shape and others", api.Instr{Op: api.OpSwitch, B: 1, M: []int{2, 1}}, a, asNumPair},
		{"switch, shapes", api.Instr{Op: api.OpSwitch, B: -1, M: []int{0, 1, 2, 1, 3, 1, 4, 1}}, a, []int{text, pair, triple, either, unit, pairUnit, nothing, strPair}},
		{"switch, all", api.Instr{Op: api.OpSwitch, B: 1, M: []int{0, 1, 1, 1, 2, 1, 3, 1, 4, 1, 5, 1, 6, 1, 7, 1, 8, 1}}, a, any},
		{"return", api.Instr{Op: api.OpReturn}, a, numbers},
		{"raise", api.Instr{Op: api.OpRaise}, a, []int{num, nothing, exn, fail}},
	} {
		if c.x.Op < api.OpJump && c.x.Op != api.OpStore && c.x.Op != api.OpPut && c.x.Op != api.OpOut {
			c.x.D = bare1
		}
		for slot := range slots {
			*c.at(&c.x) = slot
			asked(t, c.why, alone(c.x), slices.Contains(c.may, slot))
		}
	}
}

func a(x *api.Instr) *int { return &x.A }
func b(x *api.Instr) *int { return &x.B }
func c(x *api.Instr) *int { return &x.C }
func l(i int) func(x *api.Instr) *int {
	return func(x *api.Instr) *int { return &x.L[i] }
}

// P5.3: what stands beside the slots: shapes of another kind, too few slots and too many, B and C of OpCall.
func TestWrongBeside(t *testing.T) {
	for _, c := range []struct {
		why string
		x   api.Instr
	}{
		{"new of Bytes", api.Instr{Op: api.OpNew, D: bare1, A: 0}},
		{"new of an Array", api.Instr{Op: api.OpNew, D: bare1, A: 5, L: []int{num}}},
		{"new with too few", api.Instr{Op: api.OpNew, D: bare1, A: 2, L: []int{num}}},
		{"new with none", api.Instr{Op: api.OpNew, D: bare1, A: 2}},
		{"new with too many", api.Instr{Op: api.OpNew, D: bare1, A: 2, L: []int{num, text, num}}},
		{"new with one, of no fields", api.Instr{Op: api.OpNew, D: bare1, A: 4, L: []int{num}}},
		{"array of Bytes", api.Instr{Op: api.OpArray, D: bare1, A: 0, B: num, C: num}},
		{"array of a Record", api.Instr{Op: api.OpArray, D: bare1, A: 7, B: num, C: text}},
		{"call with too few", api.Instr{Op: api.OpCall, D: bare1, A: 2, B: -1, L: []int{num}}},
		{"call with too many", api.Instr{Op: api.OpCall, D: bare1, A: 2, B: -1, L: []int{num, text, text}}},
		{"call with one, of no Params", api.Instr{Op: api.OpCall, D: bare1, A: 0, B: -1, L: []int{num}}},
		{"call with B -1 and C", api.Instr{Op: api.OpCall, D: bare1, A: 0, B: -1, C: 1}},
		{"call with B -1 and C -1", api.Instr{Op: api.OpCall, D: bare1, A: 0, B: -1, C: -1}},
		{"call with B -2", api.Instr{Op: api.OpCall, D: bare1, A: 0, B: -2}},
		{"tail with too few", api.Instr{Op: api.OpTail, A: 1, L: []int{num}}},
		{"tail with too many", api.Instr{Op: api.OpTail, A: 0, L: []int{num}}},
		{"tail of another Result", api.Instr{Op: api.OpTail, A: 2, L: []int{num, text}}},
		{"tail of a wider Result", api.Instr{Op: api.OpTail, A: 4}},
		{"switch with numbers that fall", api.Instr{Op: api.OpSwitch, A: num, B: 1, L: []int{2, 1, 1, 1}}},
		{"switch with a number twice", api.Instr{Op: api.OpSwitch, A: num, B: 1, L: []int{2, 1, 2, 1}}},
		{"switch with numbers that fall at the end", api.Instr{Op: api.OpSwitch, A: num, B: 1, L: []int{2, 1, 5, 1, 4, 1}}},
		{"switch with a number without a block", api.Instr{Op: api.OpSwitch, A: num, B: 1, L: []int{2, 1, 3}}},
		{"switch with 2^62", api.Instr{Op: api.OpSwitch, A: num, B: 1, L: []int{1 << 62, 1}}},
		{"switch with -2^62 - 1", api.Instr{Op: api.OpSwitch, A: num, B: 1, L: []int{-1<<62 - 1, 1}}},
		{"switch with MaxInt", api.Instr{Op: api.OpSwitch, A: num, B: 1, L: []int{0, 1, math.MaxInt, 1}}},
		{"switch with shapes that fall", api.Instr{Op: api.OpSwitch, A: pair, B: 1, M: []int{2, 1, 1, 1}}},
		{"switch with a shape twice", api.Instr{Op: api.OpSwitch, A: pair, B: 1, M: []int{2, 1, 2, 1}}},
		{"switch with a shape without a block", api.Instr{Op: api.OpSwitch, A: pair, B: 1, M: []int{2, 1, 3}}},
		{"switch without a shape", api.Instr{Op: api.OpSwitch, A: either, B: 1, M: []int{2, 1}}},
		{"switch without the first shape", api.Instr{Op: api.OpSwitch, A: either, B: 1, M: []int{3, 1}}},
		{"switch without the others", api.Instr{Op: api.OpSwitch, A: exn, B: -1, L: []int{0, 1}, M: []int{7, 1}}},
		{"switch with B -2", api.Instr{Op: api.OpSwitch, A: pair, B: -2, M: []int{2, 1}}},
		{"Live that falls", api.Instr{Op: api.OpText, D: bare1, Live: []int{2, 1}}},
		{"Live with a slot twice", api.Instr{Op: api.OpText, D: bare1, Live: []int{1, 1}}},
		{"Live that falls at the end", api.Instr{Op: api.OpCat, D: bare1, A: text, B: text, Live: []int{1, 4, 3}}},
	} {
		asked(t, c.why, alone(c.x), false)
	}
}

// P5.3: each instruction that collects asks the same of Live.
func TestLive(t *testing.T) {
	for _, x := range right() {
		if !slices.Contains([]int{api.OpText, api.OpNew, api.OpArray, api.OpCat, api.OpCall}, x.Op) {
			continue
		}
		for _, c := range []struct {
			live []int
			want bool
		}{
			{nil, true},
			{[]int{}, true},
			{[]int{num}, true},
			{[]int{all}, true},
			{[]int{num, text, all}, true},
			{[]int{bare1}, false},
			{[]int{num, bare2}, false},
			{[]int{-1}, false},
			{[]int{-1, num}, false},
			{[]int{num, slots}, false},
			{[]int{math.MinInt}, false},
			{[]int{math.MaxInt}, false},
			{[]int{text, num}, false},
			{[]int{text, text}, false},
			{[]int{num, pair, text}, false},
		} {
			x.Live = c.live
			asked(t, "Live", alone(x), c.want)
		}
	}
}

// behind looks which type each slot has behind an instruction: told is what it should be, nil: none. In the block behind it a slot may be asked for just those types of which that is Sub.
func behind(t *testing.T, x api.Instr, told []*api.Type) {
	t.Helper()
	for slot := range slots {
		for n, one := range yard().Types {
			m := yard(x, api.Instr{Op: api.OpJump, A: 1})
			m.Funcs[1].Blocks[1].In[slot] = n
			want := told[slot] != nil && kindOf(*told[slot]).in(kindOf(one))
			f, b, i, ok := Fault(m)
			if ok != want || !want && (f != 1 || b != 0 || i != 1) {
				t.Fatalf("behind %+v the slot %d as %v: %d, %d, %d, %v", x, slot, one, f, b, i, ok)
			}
		}
	}
}

// P5.3: the types that the slots have behind each instruction.
func TestBehind(t *testing.T) {
	made := func(l ...api.Type) *api.Type {
		all := api.Type{}
		for _, one := range l {
			all = Join(all, one)
		}
		return &all
	}
	number, aText := made(imm()), made(objects(0))
	for _, c := range []struct {
		x api.Instr
		d *api.Type
	}{
		{api.Instr{Op: api.OpConst, D: bare1}, number},
		{api.Instr{Op: api.OpConst, D: pair}, number},
		{api.Instr{Op: api.OpText, D: bare1, A: 1, Live: []int{num, either, all}}, aText},
		{api.Instr{Op: api.OpText, D: either, Live: []int{num, either, all}}, aText},
		{api.Instr{Op: api.OpText, D: 0}, aText},
		{api.Instr{Op: api.OpMove, D: bare1, A: either}, made(objects(2, 3))},
		{api.Instr{Op: api.OpMove, D: num, A: nothing}, made()},
		{api.Instr{Op: api.OpMove, D: exn, A: exn}, made(imm(7))},
		{api.Instr{Op: api.OpPrim, D: nums, A: num, B: num, N: 6}, number},
		{api.Instr{Op: api.OpNew, D: bare2, A: 3, L: []int{pair, text, num}, Live: []int{unit}}, made(objects(3))},
		{api.Instr{Op: api.OpNew, D: num, A: 2, L: []int{num, text}}, made(objects(2))},
		{api.Instr{Op: api.OpField, D: bare1, A: pair}, number},
		{api.Instr{Op: api.OpField, D: bare1, A: triple}, made(imm(2))},
		{api.Instr{Op: api.OpField, D: either, A: either}, made(imm(2))},
		{api.Instr{Op: api.OpField, D: bare1, A: either, B: 1}, aText},
		{api.Instr{Op: api.OpArray, D: bare1, A: 6, B: num, C: pair, Live: []int{num, pair}}, made(objects(6))},
		{api.Instr{Op: api.OpAt, D: bare1, A: nums, B: num}, number},
		{api.Instr{Op: api.OpAt, D: bare1, A: arrays, B: num}, made(imm(2))},
		{api.Instr{Op: api.OpAt, D: bare1, A: texts, B: num}, aText},
		{api.Instr{Op: api.OpLen, D: text, A: text}, number},
		{api.Instr{Op: api.OpByte, D: text, A: text, B: num}, number},
		{api.Instr{Op: api.OpCat, D: bare1, A: other, B: other, Live: []int{other}}, aText},
		{api.Instr{Op: api.OpCmp, D: other, A: other, B: other}, number},
		{api.Instr{Op: api.OpIn, D: unit}, number},
		{api.Instr{Op: api.OpCall, D: bare1, A: 2, B: -1, L: []int{num, text}, Live: []int{num}}, made(objects(2))},
		{api.Instr{Op: api.OpCall, D: text, A: 4, B: 1, C: bare1, Live: []int{num, text}}, made(imm(7))},
		{api.Instr{Op: api.OpCall, D: bare1, A: 4, B: 1, C: num, Live: []int{num, text}}, made(imm(7))},
		{api.Instr{Op: api.OpCall, D: bare1, A: 3, B: 1, C: bare2}, made()},
		{api.Instr{Op: api.OpStore, A: either, B: 0, C: num}, nil},
		{api.Instr{Op: api.OpPut, A: arrays, B: num, C: num}, nil},
		{api.Instr{Op: api.OpOut, A: num}, nil},
	} {
		if c.x.Op == api.OpCall && c.x.B != -1 {
			behindCall(t, c.x, c.d)
			continue
		}
		behind(t, c.x, toldBehind(c.x, c.d))
	}
}

// toldBehind is the types that the slots have: those that they had, or, of what collects, those of Live; and D.
func toldBehind(x api.Instr, d *api.Type) []*api.Type {
	told := make([]*api.Type, slots)
	for n, one := range yard().Types {
		if slices.Contains([]int{api.OpText, api.OpNew, api.OpArray, api.OpCat, api.OpCall}, x.Op) && !slices.Contains(x.Live, n) {
			continue
		}
		told[n] = &one
	}
	if d != nil {
		told[x.D] = d
	}
	return told
}

// behindCall is behind, of a call with a block for what is thrown, which stands by itself.
func behindCall(t *testing.T, x api.Instr, d *api.Type) {
	t.Helper()
	x.B = 2
	handled := toldBehind(x, nil)
	handled[x.C] = &yard().Types[exn]
	for slot := range slots {
		for n, one := range yard().Types {
			for block, told := range map[int]*api.Type{1: toldBehind(x, d)[slot], 2: handled[slot]} {
				m := yard(x, api.Instr{Op: api.OpJump, A: 1})
				m.Funcs[1].Blocks = append(m.Funcs[1].Blocks, api.Block{In: of(slots, -1), Code: []api.Instr{{Op: api.OpJump, A: 2}}})
				m.Funcs[1].Blocks[block].In[slot] = n
				want := told != nil && kindOf(*told).in(kindOf(one))
				f, b, i, ok := Fault(m)
				if ok != want || !want && (f != 1 || b != 0 || i != 2-block) {
					t.Fatalf("of %+v, in the block %d, the slot %d as %v: %d, %d, %d, %v", x, block, slot, one, f, b, i, ok)
				}
			}
		}
	}
}

// P5.3: which types the slots have in each block that an instruction goes to.
func TestToFit(t *testing.T) {
	m := yard()
	in := func(slot int, changed int, now api.Type) *api.Type {
		if slot == changed {
			return &now
		}
		if slot >= yardTypes {
			return nil
		}
		return &m.Types[slot]
	}
	for _, c := range []struct {
		why string
		x   api.Instr // the block 2 is the one that is asked for
		of  int       // the slot whose type is another one there
		now api.Type
	}{
		{"jump", api.Instr{Op: api.OpJump, A: 2}, -1, imm()},
		{"if, B", api.Instr{Op: api.OpIf, A: num, B: 2, C: 1}, -1, imm()},
		{"if, C", api.Instr{Op: api.OpIf, A: nothing, B: 1, C: 2}, -1, imm()},
		{"switch, L", api.Instr{Op: api.OpSwitch, A: exn, B: 1, L: []int{0, 2, 5, 1}, M: []int{7, 1}}, exn, imm()},
		{"switch, L at the end", api.Instr{Op: api.OpSwitch, A: num, B: 1, L: []int{0, 1, 5, 2}}, num, imm()},
		{"switch, L of no number", api.Instr{Op: api.OpSwitch, A: pair, B: -1, L: []int{0, 2}, M: []int{2, 1}}, pair, imm()},
		{"switch, B", api.Instr{Op: api.OpSwitch, A: all, B: 2, L: []int{0, 1}, M: []int{0, 1, 1, 1, 2, 1, 3, 1, 4, 1, 5, 1, 6, 1, 7, 1, 8, 1}}, all, imm()},
		{"switch, B of no number", api.Instr{Op: api.OpSwitch, A: nothing, B: 2}, nothing, imm()},
		{"switch, M", api.Instr{Op: api.OpSwitch, A: either, B: -1, M: []int{2, 2, 3, 1}}, either, objects(2)},
		{"switch, M at the end", api.Instr{Op: api.OpSwitch, A: either, B: -1, M: []int{2, 1, 3, 2}}, either, objects(3)},
		{"switch, M of another shape", api.Instr{Op: api.OpSwitch, A: pair, B: -1, M: []int{2, 1, 8, 2}}, pair, objects(8)},
		{"switch, M of a number", api.Instr{Op: api.OpSwitch, A: num, B: 1, M: []int{2, 2}}, num, objects(2)},
	} {
		for slot := range slots {
			for n, one := range m.Types {
				y := yard(c.x)
				y.Funcs[1].Blocks = append(y.Funcs[1].Blocks, api.Block{In: of(slots, -1), Code: []api.Instr{{Op: api.OpJump, A: 2}}})
				y.Funcs[1].Blocks[2].In[slot] = n
				told := in(slot, c.of, c.now)
				want := told != nil && kindOf(*told).in(kindOf(one))
				if f, b, i, ok := Fault(y); ok != want || !want && (f != 1 || b != 0 || i != 0) {
					t.Fatalf("%s, the slot %d as %v: %d, %d, %d, %v", c.why, slot, one, f, b, i, ok)
				}
			}
		}
	}
}

// P5.3: all slots of In are asked for, not one alone.
func TestToFitWithAll(t *testing.T) {
	m := yard(api.Instr{Op: api.OpJump, A: 1})
	in := m.Funcs[1].Blocks[1].In
	copy(in, m.Funcs[1].Params)
	asked(t, "all as they are", m, true)
	in[bare2] = num
	asked(t, "one more", m, false)
	in[bare2] = -1
	for n := range yardTypes {
		in[n] = all
		asked(t, "a wider one", m, true)
		in[n] = nothing
		asked(t, "a narrower one", m, n == nothing)
		in[n] = -1
		asked(t, "one less", m, true)
		in[n] = n
	}
}

// P5.3: Result and Exn are asked for as they are.
func TestResults(t *testing.T) {
	for result, one := range yard().Types {
		for slot, k := range yard().Types {
			m := alone(api.Instr{Op: api.OpReturn, A: slot})
			m.Funcs[1].Result = result
			asked(t, "return", m, kindOf(k).in(kindOf(one)))
		}
		for f, k := range map[int]int{0: num, 2: pair, 3: nothing, 4: exn} {
			x := api.Instr{Op: api.OpTail, A: f}
			if f == 2 {
				x.L = []int{num, text}
			}
			m := alone(x)
			m.Funcs[1].Result = result
			asked(t, "tail", m, kindOf(yard().Types[k]).in(kindOf(one)))
		}
	}
	for thrown, one := range map[int]api.Type{num: imm(), numPair: imm(2), exn: imm(7)} {
		for slot, k := range yard().Types {
			m := alone(api.Instr{Op: api.OpRaise, A: slot})
			m.Exn = thrown
			asked(t, "raise", m, kindOf(k).in(kindOf(one)))
		}
	}
}

// P5.3: an instruction uses just the fields that layer 4 says; all others are wrong of the whole image.
func TestUnusedFields(t *testing.T) {
	for _, x := range right() {
		m := alone(x)
		m.Funcs[1].Blocks[0].Code[0].M = append([]int{0}, x.M...)
		if x.Op != api.OpSwitch && (Whole(m) || code.Plain(m.Funcs[1].Blocks[0].Code[0])) {
			t.Error(x)
		}
	}
}
