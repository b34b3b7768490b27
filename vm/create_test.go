package vm

import (
	"testing"

	"bellows/api"
)

// makers are instructions that make an object of the slots 0 (the number 3), 1 (the text ab) and 2 (the number 65), how many words it needs, and which objects it keeps.
func makers() []struct {
	why  string
	x    api.Instr
	need int
	held int // words of what it reads, and memory must keep
} {
	return []struct {
		why  string
		x    api.Instr
		need int
		held int
	}{
		{"no bytes", text(3, 0), 1, 0},
		{"two bytes", text(3, 1), 2, 0},
		{"eight bytes", text(3, 5), 2, 0},
		{"nine bytes", text(3, 6), 3, 0},
		{"four bytes of two texts", cat(3, 1, 1), 2, 0},
		{"a record of no object", record(3, pair, []int{0, 2}), 3, 0},
		{"a record of an object", record(3, pair, []int{0, 1}), 3, 2},
		{"a record of one object twice", record(3, pair, []int{1, 1}), 3, 2},
		{"a record without fields", record(3, unit, nil), 1, 0},
		{"an array of numbers", array(3, row, 0, 2), 4, 0},
		{"an array of an object", array(3, row, 0, 1), 4, 2},
		{"an array of nothing", array(3, row, 4, 1), 1, 2},
	}
}

// made is a run in which an object is made with these slots live, and what is in the slots then is put out.
func made(x api.Instr, live []int, l ...api.Instr) api.Image {
	x.Live = live
	m := yard(join([]api.Instr{konst(0, 3), text(1, 1, 0), konst(2, 'A'), x}, l, []api.Instr{answer(0)}))
	m.Strings = append(m.Strings, "eight...", "nine ....")
	return m
}

// P6.4: memory that is just enough, and one word less; what isn't live any more is given back, but for what the instruction has read.
func TestJustEnough(t *testing.T) {
	for _, c := range makers() {
		for _, live := range [][]int{nil, {0, 2}, {1}} {
			held := c.held
			if len(live) == 1 {
				held = 2
			}
			m := made(c.x, live)
			for _, asked := range []bool{false, true} {
				s := api.Script{Fuel: 99, Stack: 99, Collect: []bool{false, asked}}
				s.Heap = max(2, c.need+held)
				want := api.Outcome{Kind: api.Done, Steps: 5}
				if asked || s.Heap < c.need+2 {
					want.Swept = 1
				}
				expect(t, c.why+", just enough", m, s, want)
				if s.Heap--; s.Heap >= 2 {
					expect(t, c.why+", a word less", m, s, api.Outcome{Kind: api.NoHeap, Steps: 4, Swept: 1})
				}
				s.Heap = c.need + 2
				want.Swept = 0
				if asked {
					want.Swept = 1
				}
				expect(t, c.why+", enough for all", m, s, want)
			}
		}
	}
	expect(t, "no memory, and no object", yard(says('A')), api.Script{Fuel: 99, Stack: 99}, api.Outcome{Kind: api.Done, Steps: 3, Output: []byte("A")})
}

// P6.4: behind each making all slots but those of Live, and D, are the number 0; they are so ahead of the collection.
func TestMakersKeepLiveAlone(t *testing.T) {
	for _, c := range makers() {
		for _, l := range []struct {
			live []int
			want string
		}{
			{nil, "\x00\x00"}, {[]int{0}, "\x03\x00"}, {[]int{2}, "\x00A"}, {[]int{2, 0}, "\x03A"}, {[]int{0, 0, 1, 2, 2}, "\x03A"}, {[]int{0, 2, 3}, "\x03A"},
		} {
			m := made(c.x, l.live, out(0), out(2))
			for _, collect := range [][]bool{nil, {true, true}} {
				s := plenty()
				s.Collect = collect
				ends(t, c.why, m, s, api.Done, l.want)
			}
			m = made(c.x, append(l.live[:len(l.live):len(l.live)], 1), length(1, 1), out(1))
			ends(t, c.why+", the text live", m, plenty(), api.Done, "\x02")
			m = made(c.x, l.live, out(3))
			ends(t, c.why+", the object", m, plenty(), api.Stuck, "")
		}
	}
	m := made(text(2, 0), []int{0, 2}, length(2, 2), out(2))
	ends(t, "D may be live", m, plenty(), api.Done, "\x00")
}

// P6.4: what is read is read ahead, and moved with the rest.
func TestReadAheadAndMoved(t *testing.T) {
	for n := range 14 {
		s := plenty()
		s.Collect = make([]bool, n+1)
		s.Collect[n] = true
		if n >= 12 {
			s.Collect = of(99, n == 12)
		}
		ahead := []api.Instr{konst(seven, 7), text(9, 2, seven), text(9, 2, seven), text(ab, 1, seven)}
		gives(t, "the fields of a record", s, free, 2, join(ahead, []api.Instr{record(9, pair, []int{seven, ab}), text(8, 2, 9), field(free, 9, 1), length(free, free)})...)
		gives(t, "fields that are one object", s, free, 0, join(ahead, []api.Instr{record(9, pair, []int{ab, ab}), text(8, 2, 9), field(free, 9, 1), field(9, 9, 0), compare(free, free, 9)})...)
		gives(t, "the elements of an array", s, free, 2, join(ahead, []api.Instr{array(9, row, seven, ab), konst(seven, 6), text(8, 2, seven, 9), at(free, 9, seven), length(free, free)})...)
		gives(t, "texts", s, free, 'b', join(ahead, []api.Instr{cat(9, ab, ab), text(8, 2, 9), konst(10, 3), octet(free, 9, 10)})...)
	}
}

// P6.4: objects have numbers from 0 on, in the order in which they are made; those ahead of which something is thrown have none, nor have calls.
func TestNumbersOfObjects(t *testing.T) {
	f := function(slots, 0, []api.Instr{array(0, row, 1, 2), konst(3, -1), array(0, row, 3, 0)})
	m := with(yard(
		[]api.Instr{text(1, 1), record(2, unit, nil, 1), try(0, 1, 1, 5, nil, 1, 2)},
		[]api.Instr{cat(3, 1, 1, 2), record(4, unit, nil), konst(5, 0), answer(0)}), f)
	steps := []int{1, 2, 4, 7, 8} // with which each object is made
	for n := range 8 {
		s := plenty()
		s.Collect = make([]bool, n+1)
		s.Collect[n] = true
		for fuel := range 11 {
			s.Fuel = fuel
			o := Run(m, s)
			want := 0
			if n < len(steps) && fuel >= steps[n] {
				want = 1
			}
			if o.Swept != want || !same(o, runAsTold(m, s)) {
				t.Errorf("the object %d, %d steps: %+v", n, fuel, o)
			}
		}
	}
	s := plenty()
	for n := range 8 {
		s.Collect = of(n, true)
		expect(t, "ahead of the first ones", m, s, api.Outcome{Kind: api.Done, Steps: 10, Swept: min(n, len(steps))})
	}
}

// P6.4: the slots of frames that wait are kept, and moved.
func TestFramesThatWait(t *testing.T) {
	deep := function(slots, 2, // how deep yet, a text: it makes one of its own, goes deeper, and looks at both
		[]api.Instr{when(0, 1, 2)},
		[]api.Instr{konst(5, 1), cat(2, 1, 1, 0, 1, 5), prim(api.Sub, 6, 0, 5), call(3, 0, []int{6, 1}, 0, 1, 2), length(4, 2), out(4), length(4, 1), out(4), out(0), answer(2)},
		[]api.Instr{text(7, 2, 1), answer(1)})
	deep.Blocks[1].Code[3].A = 1
	m := with(yard([]api.Instr{konst(3, 4), text(0, 1, 3), text(1, 2, 0, 3), call(2, 1, []int{3, 0}, 0), length(3, 0), out(3), length(3, 2), out(3), answer(0)}), deep)
	const want = "\x04\x02\x01\x04\x02\x02\x04\x02\x03\x04\x02\x04\x02\x04"
	for _, collect := range [][]bool{nil, of(99, true), {3: true}, {5: true}, {6: true}} {
		s := plenty()
		s.Collect = collect
		ends(t, "all are kept", m, s, api.Done, want)
		for s.Heap = range 30 {
			if o := Run(m, s); o.Kind == api.Done && string(o.Output) != want || !same(o, runAsTold(m, s)) {
				t.Error(s.Heap, o)
			}
		}
	}
}

// P6.4: what no slot has any more is given back: a run that holds little needs little, however much it makes.
func TestMemoryIsGivenBack(t *testing.T) {
	const many = 1000
	loop := func(second int) api.Image {
		return yard([]api.Instr{konst(0, many), konst(1, 1), jump(1)},
			[]api.Instr{record(2, pair, []int{0, second}, 0, 1), prim(api.Sub, 0, 0, 1), when(0, 1, 2)},
			[]api.Instr{answer(0)})
	}
	s := plenty()
	s.Heap = 3
	expect(t, "each over the one ahead", loop(1), s, api.Outcome{Kind: api.Done, Steps: 3*many + 4, Swept: many - 1})
	s.Heap = 2
	expect(t, "not one", loop(1), s, api.Outcome{Kind: api.NoHeap, Steps: 4, Swept: 1})
	s.Heap = 8
	expect(t, "two at a time", loop(1), s, api.Outcome{Kind: api.Done, Steps: 3*many + 4, Swept: many/2 - 1})
	s.Heap = 3 * many
	expect(t, "a list that is held", loop(2), s, api.Outcome{Kind: api.Done, Steps: 3*many + 4})
	s.Heap--
	expect(t, "a word less", loop(2), s, api.Outcome{Kind: api.NoHeap, Steps: 3*many + 1, Swept: 1})
	ring := yard([]api.Instr{konst(0, 500), konst(1, 1), jump(1)},
		[]api.Instr{record(2, pair, []int{0, 1}, 0, 1), store(2, 0, 2), store(2, 1, 2), prim(api.Sub, 0, 0, 1), when(0, 1, 2)},
		[]api.Instr{answer(0)})
	s.Heap = 3
	expect(t, "rings", ring, s, api.Outcome{Kind: api.Done, Steps: 2504, Swept: 499})
}

// P6.4: a collection that the script asks for isn't done again for want of room.
func TestSweptOnce(t *testing.T) {
	m := yard([]api.Instr{konst(0, 5), array(1, row, 0, 0), answer(0)})
	for _, collect := range [][]bool{nil, {false}, {true}, {true, true}} {
		expect(t, "no heap", m, api.Script{Fuel: 9, Heap: 5, Stack: 99, Collect: collect}, api.Outcome{Kind: api.NoHeap, Steps: 2, Swept: 1})
	}
	expect(t, "heap", m, api.Script{Fuel: 9, Heap: 6, Stack: 99}, api.Outcome{Kind: api.Done, Steps: 3})
	expect(t, "heap, and asked", m, api.Script{Fuel: 9, Heap: 6, Stack: 99, Collect: []bool{true}}, api.Outcome{Kind: api.Done, Steps: 3, Swept: 1})
}
