package vm

import (
	"math"
	"slices"
	"strings"
	"testing"

	"bellows/api"
)

// all is the yard's slots.
func all() []int { return upTo(slots) }

// P6.3: numbers, and what is moved.
func TestConstAndMove(t *testing.T) {
	for _, c := range []struct{ n, want int64 }{
		{0, 0}, {5, 5}, {-1, -1}, {1<<62 - 1, 1<<62 - 1}, {-1 << 62, -1 << 62},
		{1 << 62, -1 << 62}, {-1<<62 - 1, 1<<62 - 1}, {math.MaxInt64, -1}, {math.MinInt64, 0},
	} {
		gives(t, "a number", plenty(), free, c.want, konst(free, c.n))
	}
	gives(t, "moved", plenty(), free, 7, move(free, seven), konst(seven, 5))
	gives(t, "moved to itself", plenty(), seven, 7, move(seven, seven))
	gives(t, "the same object", plenty(), free, 9, move(free, two), konst(one, 9), store(two, 0, one), field(free, free, 0))
}

// reckoned is a reckoning and what it gives.
type reckoned struct{ kind, a, b, want int64 }

// reckonings are some, those at the ends of the numbers among them.
func reckonings() []reckoned {
	const most, least = 1<<62 - 1, -1 << 62
	return []reckoned{
		{api.Add, 2, 3, 5}, {api.Add, most, 1, least}, {api.Add, least, -1, most}, {api.Add, most, most, -2}, {api.Add, least, least, 0},
		{api.Sub, 2, 3, -1}, {api.Sub, least, 1, most}, {api.Sub, most, -1, least}, {api.Sub, 0, least, least}, {api.Sub, least, most, 1},
		{api.Mul, 2, -3, -6}, {api.Mul, 1 << 61, 2, least}, {api.Mul, most, most, 1}, {api.Mul, least, -1, least}, {api.Mul, least, least, 0}, {api.Mul, most, 2, -2},
		{api.Div, 7, 2, 3}, {api.Div, -7, 2, -4}, {api.Div, 7, -2, -4}, {api.Div, -7, -2, 3}, {api.Div, least, -1, least}, {api.Div, least, 1, least}, {api.Div, most, least, -1}, {api.Div, 0, least, 0}, {api.Div, least, most, -2},
		{api.Mod, 7, 2, 1}, {api.Mod, -7, 2, 1}, {api.Mod, 7, -2, -1}, {api.Mod, -7, -2, -1}, {api.Mod, least, -1, 0}, {api.Mod, most, least, -1}, {api.Mod, least, most, most - 1}, {api.Mod, 6, -3, 0},
		{api.Lt, 2, 3, 1}, {api.Lt, 3, 3, 0}, {api.Lt, 4, 3, 0}, {api.Lt, least, most, 1}, {api.Lt, most, least, 0}, {api.Lt, -1, 0, 1},
		{api.Le, 2, 3, 1}, {api.Le, 3, 3, 1}, {api.Le, 4, 3, 0}, {api.Le, least, most, 1}, {api.Le, most, least, 0}, {api.Le, 0, -1, 0},
		{api.Eq, 2, 3, 0}, {api.Eq, 3, 3, 1}, {api.Eq, 4, 3, 0}, {api.Eq, least, least, 1}, {api.Eq, least, most, 0}, {api.Eq, -1, 1, 0},
	}
}

// P6.3: the reckonings.
func TestPrim(t *testing.T) {
	for _, c := range reckonings() {
		gives(t, "a reckoning", plenty(), 10, c.want, konst(free, c.a), konst(9, c.b), prim(c.kind, 10, free, 9))
	}
	gives(t, "of itself, into itself", plenty(), seven, 49, prim(api.Mul, seven, seven, seven))
	for _, kind := range []int64{api.Div, api.Mod} {
		for _, n := range []int64{0, 1, -1 << 62} {
			m := yard([]api.Instr{konst(0, n), prim(kind, 2, 0, 1), answer(0)})
			expect(t, "by 0", m, plenty(), api.Outcome{Kind: api.Raised, Exn: "Div", Steps: 2})
		}
	}
}

// P6.3: the input, and its end; what is put out is a number modulo 256.
func TestInAndOut(t *testing.T) {
	echo := yard([]api.Instr{in(0), prim(api.Lt, 2, 0, 1), when(2, 2, 1)}, []api.Instr{out(0), jump(0)}, []api.Instr{out(0), in(3), out(3), answer(0)})
	every := make([]byte, 256)
	for i := range every {
		every[i] = byte(i)
	}
	for _, input := range []string{"", "a", "\x00", "\xff\xff", "hello", string(every)} {
		s := plenty()
		s.Input = []byte(input)
		ends(t, "an input", echo, s, api.Done, input+"\xff\xff")
	}
	s := plenty()
	s.Input = []byte{200}
	gives(t, "a byte", s, free, 200, in(free))
	gives(t, "no byte", plenty(), free, -1, in(free))
	for _, c := range []struct {
		n    int64
		want byte
	}{{0, 0}, {255, 255}, {256, 0}, {257, 1}, {-1, 255}, {-256, 0}, {-255, 1}, {1<<62 - 1, 255}, {-1 << 62, 0}, {321, 65}} {
		ends(t, "a number", yard([]api.Instr{konst(0, c.n), out(0), answer(0)}), plenty(), api.Done, string([]byte{c.want}))
	}
}

// P6.3: fields and elements.
func TestFieldsAndElements(t *testing.T) {
	s := plenty()
	gives(t, "a field", s, free, 7, field(free, two, 0))
	gives(t, "another field", s, free, 2, field(free, two, 1), length(free, free))
	gives(t, "a field that is put", s, free, 1, store(two, 1, one), field(free, two, 1))
	gives(t, "and no other", s, free, 7, store(two, 1, one), field(free, two, 0))
	gives(t, "a field that is its record", s, free, 7, store(two, 1, two), field(free, two, 1), field(free, free, 1), field(free, free, 0))
	gives(t, "over itself", s, two, 7, field(two, two, 0))
	for i := range int64(3) {
		gives(t, "an element", s, free, 7, konst(9, i), at(free, three, 9))
		gives(t, "an element that is put", s, free, 1, konst(9, i), put(three, 9, one), at(free, three, 9))
		gives(t, "and no other", s, free, 7, konst(9, i), put(three, 9, one), konst(9, (i+1)%3), at(free, three, 9))
	}
	gives(t, "an element that is an object", s, free, 7, put(three, one, two), at(free, three, one), field(free, free, 0))
	gives(t, "how many elements", s, free, 3, length(free, three))
	gives(t, "how many bytes", s, free, 2, length(free, ab))
	gives(t, "no bytes", s, free, 0, text(free, 0, all()...), length(free, free))
	gives(t, "a byte", s, free, 'b', octet(free, ab, one))
	gives(t, "the first byte", s, free, 'a', octet(free, ab, zero))
	gives(t, "a great byte", s, free, 255, text(free, 4, all()...), octet(free, free, zero))
	gives(t, "a byte 0", s, free, 0, text(free, 4, all()...), octet(free, free, one))
	for _, n := range []int64{-1, 3, 4, 1<<62 - 1, -1 << 62, 1 << 32} {
		for _, x := range []api.Instr{at(free, three, 9), put(three, 9, one)} {
			if o := ends(t, "no element", yard(begun(konst(9, n), x, answer(0))), plenty(), api.Raised, ""); o.Exn != "Subscript" {
				t.Error(n, o)
			}
		}
	}
	for _, n := range []int64{-1, 2, 8, 1<<62 - 1, -1 << 62, 1 << 32} {
		if o := ends(t, "no byte", yard(begun(konst(9, n), octet(free, ab, 9), answer(0))), plenty(), api.Raised, ""); o.Exn != "Subscript" {
			t.Error(n, o)
		}
	}
}

// P6.3: new objects have what is said, from their first to their last one.
func TestNewObjects(t *testing.T) {
	s := plenty()
	gives(t, "a record", s, free, 7, record(free, pair, []int{one, seven}, all()...), field(free, free, 1))
	gives(t, "in that order", s, free, 1, record(free, pair, []int{one, seven}, all()...), field(free, free, 0))
	gives(t, "of one slot twice", s, free, 1, record(free, pair, []int{one, one}), field(free, free, 1))
	gives(t, "a new one each time", s, free, 7, record(free, pair, []int{seven, one}, all()...), record(9, pair, []int{seven, one}, all()...), store(9, 0, zero), field(free, free, 0))
	gives(t, "of what isn't live", s, free, 7, record(free, pair, []int{one, seven}), field(free, free, 1))
	for _, n := range []int64{0, 1, 2, 900} {
		gives(t, "an array", s, free, n, konst(9, n), array(free, row, 9, seven, all()...), length(free, free))
		if n > 0 {
			gives(t, "its elements", s, free, 7, konst(9, n), konst(10, n-1), array(free, row, 9, seven, all()...), at(free, free, 10))
		}
	}
	gives(t, "an array of one object", s, free, 1, array(free, row, seven, two, all()...), at(9, free, zero), store(9, 0, one), at(9, free, one), field(free, 9, 0))
	for i, c := range "abc" {
		gives(t, "a text", s, free, int64(c), text(9, 2, all()...), konst(10, int64(i)), octet(free, 9, 10))
	}
	for i, c := range "ababc" {
		gives(t, "two texts", s, free, int64(c), text(9, 2, all()...), cat(9, ab, 9, all()...), konst(10, int64(i)), octet(free, 9, 10))
	}
	for i, c := range []byte("abcabc\xff\x00") {
		gives(t, "three texts", s, free, int64(c), text(9, 2, all()...), text(10, 4, 9, 10), cat(10, 9, 10, 9), cat(9, 9, 10), konst(10, int64(i)), octet(free, 9, 10))
	}
	gives(t, "two texts are so long", s, free, 5, text(9, 2, all()...), cat(9, ab, 9), length(free, 9))
	gives(t, "no texts", s, free, 0, text(9, 0), cat(9, 9, 9), length(free, 9))
	gives(t, "texts as they were", s, free, 2, cat(9, ab, ab, all()...), length(free, ab))
	for _, n := range []int64{-1, api.MaxLen + 1, 1<<62 - 1, -1 << 62, 1 << 32} {
		m := yard([]api.Instr{konst(1, n), array(0, row, 1, 1), answer(0)})
		expect(t, "no such length", m, plenty(), api.Outcome{Kind: api.Raised, Exn: "Size", Steps: 2})
	}
	expect(t, "the greatest length", yard([]api.Instr{konst(1, api.MaxLen), array(0, row, 1, 1), answer(0)}), plenty(), api.Outcome{Kind: api.NoHeap, Steps: 2, Swept: 1})
}

// P6.3: bytes are joined up to MaxLen.
func TestLongTexts(t *testing.T) {
	long := func(more int) api.Image {
		m := yard([]api.Instr{text(0, 0), cat(0, 0, 0), cat(0, 0, 0), text(1, 1, 0), cat(2, 0, 1, 0, 1), length(3, 2), konst(4, api.MaxLen), prim(api.Eq, 3, 3, 4), out(3), cat(0, 1, 0), answer(0)})
		m.Strings = []string{strings.Repeat("x", api.MaxText), strings.Repeat("y", more)}
		return m
	}
	s := api.Script{Fuel: 99, Heap: api.MaxWords, Stack: 99}
	ends(t, "as long as may be", long(0), s, api.Done, "\x01")
	if o := ends(t, "a byte more", long(1), s, api.Raised, ""); o.Exn != "Size" || o.Steps != 5 {
		t.Error(o)
	}
}

// P6.3: bytes are held against one another as numbers from 0 to 255, a beginning being less.
func TestCompare(t *testing.T) {
	list := []string{"", "\x00", "\x00\x00", "a", "a\x00", "aa", "ab", "b", "\x7f", "\x80", "\xff", "\xff\xff"}
	m := yard(nil)
	for i, a := range list {
		for j, b := range list {
			m.Strings = []string{a, b}
			m.Funcs[0].Blocks[0].Code = []api.Instr{text(0, 0), text(1, 1, 0), compare(2, 0, 1), out(2), compare(0, 0, 0), out(0), answer(0)}
			want := byte(0)
			if i < j {
				want = 255
			} else if i > j {
				want = 1
			}
			ends(t, a+" and "+b, m, plenty(), api.Done, string([]byte{want, 0}))
		}
	}
}

// P6.3: where it goes on.
func TestJumps(t *testing.T) {
	way := func(why string, want string, l ...api.Instr) {
		t.Helper()
		ends(t, why, yard(begun(l...), says('1'), says('2'), says('3')), plenty(), api.Done, want)
	}
	way("a jump", "2", jump(2))
	way("a jump, and what stands behind it", "3", jump(3), out(two))
	way("if 7", "1", when(seven, 1, 2))
	way("if 0", "2", when(zero, 1, 2))
	way("if -1", "1", konst(free, -1), when(free, 1, 2))
	way("if the least", "1", konst(free, -1<<62), when(free, 1, 2))
	way("a number", "2", choice(seven, []int{1, 1, 7, 2}, nil, 3))
	way("the first of two", "1", choice(seven, []int{7, 1, 7, 2}, nil, 3))
	way("in any order", "2", choice(seven, []int{9, 1, 7, 2, -3, 1}, nil, -1))
	way("another number", "3", choice(seven, []int{1, 1, 8, 2}, nil, 3))
	way("no numbers", "3", choice(seven, nil, nil, 3))
	way("the greatest", "1", konst(free, 1<<62-1), choice(free, []int{1<<62 - 1, 1}, nil, 2))
	way("the least", "1", konst(free, -1<<62), choice(free, []int{-1 << 62, 1}, nil, 2))
	way("a last one without a block", "3", choice(seven, []int{1, 1, 7}, nil, 3))
	way("one without a block", "3", choice(seven, []int{7}, nil, 3))
	way("a number that is no block's, not gone to", "2", choice(seven, []int{1, 99, 7, 2, 8, -1}, []int{pair, 99}, 99))
	way("a number like a shape", "3", choice(one, nil, []int{pair, 1}, 3))
	way("a shape", "1", choice(two, []int{pair, 2}, []int{pair, 1}, 3))
	way("another shape", "2", choice(none, nil, []int{pair, 1, unit, 2}, 3))
	way("the first of two shapes", "2", choice(none, nil, []int{pair, 1, unit, 2, unit, 3}, -1))
	way("in any order", "2", choice(ab, nil, []int{row, 1, texts, 2, -4, 7}, -1))
	way("if, and the other is no block", "1", when(seven, 1, 99))
	way("if not, and the other is no block", "2", when(zero, -1, 2))
	loop := yard([]api.Instr{konst(0, 5), konst(1, 1), jump(1)}, []api.Instr{out(0), prim(api.Sub, 0, 0, 1), when(0, 1, 2)}, []api.Instr{answer(0)})
	expect(t, "a loop", loop, plenty(), api.Outcome{Kind: api.Done, Output: []byte("\x05\x04\x03\x02\x01"), Steps: 19})
}

// P6.3: an instruction to which a run comes is a step; where there is none, it is Stuck, with fuel or without.
func TestWhereThereIsNone(t *testing.T) {
	for fuel := range 4 {
		s := plenty()
		s.Fuel = fuel
		expect(t, "an empty block", yard(nil), s, api.Outcome{Kind: api.Stuck})
		m := yard([]api.Instr{konst(0, 65), out(0)})
		want := api.Outcome{Kind: api.Stuck, Steps: 2, Output: []byte("A")}
		if fuel == 1 {
			want = api.Outcome{Kind: api.NoFuel, Steps: 1}
		} else if fuel == 0 {
			want = api.Outcome{Kind: api.NoFuel}
		}
		expect(t, "the end of a block", m, s, want)
		m = yard([]api.Instr{jump(1)}, nil, says('n'))
		want = api.Outcome{Kind: api.Stuck, Steps: 1}
		if fuel == 0 {
			want = api.Outcome{Kind: api.NoFuel}
		}
		expect(t, "a jump to an empty block", m, s, want)
	}
	m := with(yard([]api.Instr{call(0, 1, nil)}), function(0, 0, nil))
	expect(t, "a call of an empty block", m, plenty(), api.Outcome{Kind: api.Stuck, Steps: 1})
	m = with(yard([]api.Instr{call(0, 1, nil)}), function(1, 0, []api.Instr{answer(0)}))
	expect(t, "the end of a block, behind a call", m, plenty(), api.Outcome{Kind: api.Stuck, Steps: 2})
}

// right are instructions that may be done in the yard; each thing that they ask is so.
func right() []api.Instr {
	return []api.Instr{
		konst(free, 5), text(free, 1), text(free, 4, seven, two), move(free, two), prim(api.Add, free, seven, one), prim(api.Eq, free, one, one),
		record(free, pair, []int{two, ab}, seven), record(free, unit, nil), field(free, two, 1), field(free, failed, 0), store(two, 1, none), store(failed, 0, one),
		array(free, row, one, two, ab), at(free, three, one), put(three, one, two), length(free, three), length(free, ab), octet(free, ab, one),
		cat(free, ab, ab, two), compare(free, ab, ab), in(free), out(seven), call(free, 1, []int{seven, two}, one), try(free, 1, 1, free, []int{seven, two}, one),
		jump(1), when(one, 1, 1), choice(seven, []int{7, 1}, nil, -1), choice(two, nil, []int{pair, 1}, -1), tail(1, seven, two), answer(two), raise(one),
	}
}

// tried runs an instruction behind the yard's beginning, with an answer, or a block that answers, behind it.
func tried(x api.Instr) api.Image {
	return with(yard(begun(x, answer(0)), says('k')), function(3, 2, says('f')), function(slots, 1, says('g')))
}

// P6.3: an instruction all of which can be is done.
func TestRight(t *testing.T) {
	for _, x := range right() {
		m := tried(x)
		m.Funcs[1].Slots = slots
		if o := Run(m, plenty()); o.Kind != api.Done && (x.Op != api.OpRaise || o.Kind != api.Raised) || !same(o, runAsTold(m, plenty())) {
			t.Errorf("%+v: %+v", x, o)
		}
	}
}

// stuck looks that an instruction behind the yard's beginning is Stuck, when it is a step.
func stuck(t *testing.T, why string, x api.Instr) {
	t.Helper()
	steps := len(begun())
	m := tried(x)
	m.Funcs[1].Slots = slots
	expect(t, why, m, plenty(), api.Outcome{Kind: api.Stuck, Steps: steps + 1})
	s := plenty()
	s.Fuel = steps
	expect(t, why+", no fuel", m, s, api.Outcome{Kind: api.NoFuel, Steps: steps})
}

// P6.3: a slot that there isn't, in each place where an instruction has one.
func TestNoSuchSlot(t *testing.T) {
	for _, slot := range []int{slots, -1, math.MaxInt, math.MinInt, 1 << 32} {
		for _, x := range right() {
			uses := func(letter rune, set func(y *api.Instr)) {
				y := x
				y.L, y.Live = slices.Clone(x.L), slices.Clone(x.Live)
				set(&y)
				stuck(t, string(letter), y)
			}
			for _, letter := range slotsOf(x.Op) {
				switch letter {
				case 'D':
					uses(letter, func(y *api.Instr) { y.D = slot })
				case 'A':
					uses(letter, func(y *api.Instr) { y.A = slot })
				case 'B':
					uses(letter, func(y *api.Instr) { y.B = slot })
				case 'C':
					uses(letter, func(y *api.Instr) { y.C = slot })
				case 'L':
					for i := range x.L {
						uses(letter, func(y *api.Instr) { y.L[i] = slot })
					}
				case 'l':
					uses(letter, func(y *api.Instr) { y.Live = append(y.Live, slot) })
					uses(letter, func(y *api.Instr) { y.Live = []int{slot, 0} })
				}
			}
		}
	}
}

// slotsOf is by which letters an instruction names slots (OpCall's D and C aside, which are asked when it is answered).
func slotsOf(op int) string {
	switch op {
	case api.OpConst, api.OpIn:
		return "D"
	case api.OpText:
		return "Dl"
	case api.OpMove, api.OpField, api.OpLen:
		return "DA"
	case api.OpPrim, api.OpAt, api.OpByte, api.OpCmp:
		return "DAB"
	case api.OpNew:
		return "DLl"
	case api.OpStore:
		return "AC"
	case api.OpArray:
		return "DBCl"
	case api.OpPut:
		return "ABC"
	case api.OpCat:
		return "DABl"
	case api.OpCall:
		return "Ll"
	case api.OpTail:
		return "L"
	case api.OpOut, api.OpIf, api.OpSwitch, api.OpReturn, api.OpRaise:
		return "A"
	}
	return ""
}

// P6.3: a pointer where a number is needed, a number where an object is, an object of another kind.
func TestOtherWords(t *testing.T) {
	needs := func(words []int, x func(slot int) api.Instr) {
		t.Helper()
		for _, slot := range words {
			stuck(t, "another word", x(slot))
		}
	}
	objects := []int{ab, two, three, none, failed}
	needs(objects, func(slot int) api.Instr { return prim(api.Add, free, slot, one) })
	needs(objects, func(slot int) api.Instr { return prim(api.Div, free, one, slot) })
	needs(objects, func(slot int) api.Instr { return prim(api.Mod, free, slot, zero) })
	needs(objects, func(slot int) api.Instr { return prim(api.Eq, free, slot, slot) })
	needs(objects, out)
	needs(objects, func(slot int) api.Instr { return when(slot, 1, 1) })
	needs(objects, func(slot int) api.Instr { return array(free, row, slot, one) })
	needs(objects, func(slot int) api.Instr { return at(free, three, slot) })
	needs(objects, func(slot int) api.Instr { return put(three, slot, one) })
	needs(objects, func(slot int) api.Instr { return octet(free, ab, slot) })
	noRecord := []int{seven, zero, one, ab, three}
	needs(noRecord, func(slot int) api.Instr { return field(free, slot, 0) })
	needs(noRecord, func(slot int) api.Instr { return store(slot, 0, one) })
	noArray := []int{seven, zero, one, ab, two, none}
	needs(noArray, func(slot int) api.Instr { return at(free, slot, zero) })
	needs(noArray, func(slot int) api.Instr { return put(slot, zero, one) })
	needs([]int{seven, zero, one, two, none, failed}, func(slot int) api.Instr { return length(free, slot) })
	noBytes := []int{seven, zero, one, two, three, none}
	needs(noBytes, func(slot int) api.Instr { return octet(free, slot, zero) })
	needs(noBytes, func(slot int) api.Instr { return cat(free, slot, ab) })
	needs(noBytes, func(slot int) api.Instr { return cat(free, ab, slot) })
	needs(noBytes, func(slot int) api.Instr { return compare(free, slot, ab) })
	needs(noBytes, func(slot int) api.Instr { return compare(free, ab, slot) })
}

// P6.3: a field, a shape, a text, a function, a block, a reckoning that there isn't; a shape of another kind; slots that aren't as many as fields; a switch without a way.
func TestNoSuchThing(t *testing.T) {
	far := []int{-1, math.MaxInt, math.MinInt, 1 << 32}
	each := func(list []int, x func(n int) api.Instr) {
		t.Helper()
		for _, n := range append(list, far...) {
			stuck(t, "no such thing", x(n))
		}
	}
	each([]int{2}, func(n int) api.Instr { return field(free, two, n) })
	each([]int{2}, func(n int) api.Instr { return store(two, n, one) })
	each([]int{0}, func(n int) api.Instr { return field(free, none, n) })
	each([]int{1}, func(n int) api.Instr { return store(failed, n, one) })
	each([]int{5}, func(n int) api.Instr { return text(free, n) })
	each([]int{texts, row, blob, nameless + 1}, func(n int) api.Instr { return record(free, n, nil) })
	each([]int{texts, row, blob, nameless + 1}, func(n int) api.Instr { return record(free, n, []int{one}) })
	each([]int{texts, pair, unit, fail, blob, nameless + 1}, func(n int) api.Instr { return array(free, n, one, one) })
	each([]int{3}, func(n int) api.Instr { return call(free, n, nil) })
	each([]int{3}, func(n int) api.Instr { return tail(n) })
	each([]int{2}, jump)
	each([]int{2}, func(n int) api.Instr { return when(one, n, 1) })
	each([]int{2}, func(n int) api.Instr { return when(zero, 1, n) })
	each([]int{2}, func(n int) api.Instr { return choice(one, []int{1, n}, nil, 1) })
	each([]int{2}, func(n int) api.Instr { return choice(one, nil, nil, n) })
	each([]int{2}, func(n int) api.Instr { return choice(two, nil, []int{pair, n}, 1) })
	each([]int{0, 9}, func(n int) api.Instr { return prim(int64(n), free, one, one) })
	each([]int{0, 9}, func(n int) api.Instr { return prim(int64(n), free, one, zero) })
	for _, l := range [][]int{nil, {one}, {one, one, one}} {
		stuck(t, "slots and fields", record(free, pair, l))
	}
	stuck(t, "slots and no fields", record(free, unit, []int{one}))
	stuck(t, "no way for the number", choice(one, []int{2, 1, 0, 1}, []int{pair, 1}, -1))
	stuck(t, "no way, but for a last one", choice(one, []int{2, 1, 1}, nil, -1))
	stuck(t, "no way for the shape", choice(two, []int{1, 1}, []int{unit, 1}, 1))
	stuck(t, "no shapes", choice(two, nil, nil, 1))
	stuck(t, "no way for the shape, but for a last one", choice(two, nil, []int{pair}, 1))
	stuck(t, "a first way to nowhere", choice(one, []int{1, 9, 1, 1}, nil, 1))
}

// P6.3: texts need a shape 0 that is of Bytes.
func TestNoShapeOfTexts(t *testing.T) {
	for _, shapes := range [][]api.Shape{nil, {{Kind: api.Record}, {Kind: api.Bytes}}, {{Kind: api.Array}, {Kind: api.Bytes}}} {
		m := yard([]api.Instr{text(0, 1), answer(0)})
		m.Shapes = shapes
		for _, collect := range [][]bool{nil, {true}} {
			s := plenty()
			s.Collect = collect
			expect(t, "a text", m, s, api.Outcome{Kind: api.Stuck, Steps: 1})
		}
		m.Funcs[0].Blocks[0].Code[0] = cat(0, 0, 0)
		expect(t, "two texts", m, plenty(), api.Outcome{Kind: api.Stuck, Steps: 1})
	}
}

// P6.3: what is read is looked at first, then what is thrown, then Live, D last.
func TestOrder(t *testing.T) {
	const gone = slots
	exn := func(why, want string, x api.Instr) {
		t.Helper()
		if o := ends(t, why, yard(begun(konst(9, -1), x)), plenty(), api.Raised, ""); o.Exn != want {
			t.Error(why, o)
		}
	}
	exn("thrown ahead of D", "Div", prim(api.Div, gone, one, zero))
	exn("thrown ahead of D", "Subscript", at(gone, three, 9))
	exn("thrown ahead of D", "Subscript", octet(gone, ab, 9))
	exn("thrown ahead of Live", "Size", array(gone, row, 9, one, gone))
	stuck(t, "read ahead of what is thrown", put(three, seven, gone))
	stuck(t, "read ahead of what is thrown", array(free, row, zero, gone))
	stuck(t, "read ahead of what is thrown", prim(0, free, one, zero))
	swept := func(why string, want int, x api.Instr) {
		t.Helper()
		s := plenty()
		s.Collect = []bool{5: true}
		expect(t, why, yard(begun(x)), s, api.Outcome{Kind: api.Stuck, Steps: len(begun()) + 1, Swept: want})
	}
	for _, x := range []api.Instr{text(free, 1), record(free, unit, nil), array(free, row, one, one), cat(free, ab, ab)} {
		x.D = gone
		swept("D behind the collection", 1, x)
		x.Live = []int{gone}
		swept("Live ahead of the collection", 0, x)
	}
	s := plenty()
	s.Heap = 4
	expect(t, "no heap ahead of D", yard([]api.Instr{konst(1, 4), array(gone, row, 1, 1)}), s, api.Outcome{Kind: api.NoHeap, Steps: 2, Swept: 1})
	expect(t, "Live ahead of no heap", yard([]api.Instr{konst(1, 4), array(0, row, 1, 1, gone)}), s, api.Outcome{Kind: api.Stuck, Steps: 2})
}
