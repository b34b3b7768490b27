package vm

import (
	"testing"

	"bellows/api"
)

// letter lets the last slot be a letter, and puts it out.
func letter(c byte) []api.Instr {
	return []api.Instr{konst(slots-1, int64(c)), out(slots - 1)}
}

// P6.2: a new frame's first slots are what it is called with, in order; all others are the number 0, whatever stood there.
func TestNewFrame(t *testing.T) {
	told := []api.Instr{out(0), out(1), out(2), out(3)}
	f := function(4, 3, join(told, []api.Instr{answer(3)}))
	fill := function(40, 0, []api.Instr{konst(30, 0), text(0, 1, 30), prim(api.Add, 1, 30, 30)})
	for slot := range 40 {
		fill.Blocks[0].Code = append(fill.Blocks[0].Code, konst(slot, 88))
	}
	fill.Blocks[0].Code = append(fill.Blocks[0].Code, answer(0))
	m := with(yard(join([]api.Instr{
		call(9, 2, nil), konst(0, 'a'), konst(1, 'b'), konst(2, 'c'),
		call(5, 1, []int{2, 0, 1}, 0, 1, 2), call(4, 1, []int{1, 1, 1}, 0, 1, 2), out(0),
	}, []api.Instr{answer(4)})), f, fill)
	ends(t, "called", m, plenty(), api.Done, "cab\x00bbb\x00a")
	m = yard([]api.Instr{out(0), out(slots - 1), answer(5)})
	ends(t, "main", m, plenty(), api.Done, "\x00\x00")
	m = with(yard([]api.Instr{call(3, 1, nil), out(3), answer(3)}), function(1, 0, []api.Instr{answer(0)}))
	ends(t, "a slot that nothing gave a word", m, plenty(), api.Done, "\x00")
	m = with(yard([]api.Instr{call(3, 1, []int{4, 4}), out(3), answer(3)}), function(2, 2, []api.Instr{answer(1)}))
	ends(t, "as many slots as words", m, plenty(), api.Done, "\x00")
}

// P6.2: what a function is called with must be as much as its Params, which its Slots must hold; it must have a block 0. That is asked ahead of the stack.
func TestCallsThatCantBe(t *testing.T) {
	block := []api.Instr{answer(0)}
	none := function(3, 2)
	for _, c := range []struct {
		why string
		a   int
		l   []int
		f   api.Func
	}{
		{"a word less", 1, []int{0}, function(3, 2, block)},
		{"a word more", 1, []int{0, 0, 0}, function(3, 2, block)},
		{"words for none", 1, []int{0}, function(3, 0, block)},
		{"no words", 1, nil, function(3, 1, block)},
		{"fewer slots than words", 1, []int{0, 0}, function(1, 2, block)},
		{"no slots for words", 1, []int{0, 0}, function(0, 2, block)},
		{"slots below 0, and words", 1, []int{0, 0}, function(-1, 2, block)},
		{"slots below 0", 1, nil, function(-1, 0, block)},
		{"no block", 1, []int{0, 0}, none},
		{"no such function", 2, []int{0, 0}, function(3, 2, block)},
		{"a function below 0", -1, []int{0, 0}, function(3, 2, block)},
		{"a slot that there isn't", 1, []int{0, slots}, function(3, 2, block)},
		{"a slot below 0", 1, []int{-1, 0}, function(3, 2, block)},
	} {
		for _, s := range []api.Script{plenty(), {Fuel: 99, Stack: slots + 2}} {
			m := with(yard([]api.Instr{call(0, c.a, c.l)}), c.f)
			expect(t, c.why, m, s, api.Outcome{Kind: api.Stuck, Steps: 1})
			m.Funcs[0].Blocks[0].Code[0] = tail(c.a, c.l...)
			expect(t, c.why+", tail", m, s, api.Outcome{Kind: api.Stuck, Steps: 1})
		}
	}
	m := with(yard([]api.Instr{call(0, 1, []int{0, 0}), answer(0)}), function(3, 2, block))
	expect(t, "what can be", m, plenty(), api.Outcome{Kind: api.Done, Steps: 3})
	expect(t, "and no stack", m, api.Script{Fuel: 99, Stack: slots + 2}, api.Outcome{Kind: api.NoStack, Steps: 1})
	m.Funcs[0].Blocks[0].Code[0].Live = []int{slots}
	expect(t, "a live slot that there isn't, ahead of the stack", m, api.Script{Fuel: 99, Stack: slots + 2}, api.Outcome{Kind: api.Stuck, Steps: 1})
}

// P6.2: a frame takes its slots and two, and gives them back.
func TestStackIsCounted(t *testing.T) {
	deep := with(yard([]api.Instr{call(0, 1, nil), answer(0)}),
		function(5, 0, []api.Instr{call(0, 2, nil), call(0, 3, nil), call(0, 2, nil), answer(0)}),
		function(7, 0, []api.Instr{answer(0)}),
		function(6, 0, []api.Instr{answer(0)}))
	most := (slots + 2) + (5 + 2) + (7 + 2)
	s := plenty()
	s.Stack = most
	expect(t, "enough", deep, s, api.Outcome{Kind: api.Done, Steps: 9})
	s.Stack = most - 1
	expect(t, "a word less", deep, s, api.Outcome{Kind: api.NoStack, Steps: 2})
	s.Stack = slots + 2 + 5 + 1
	expect(t, "not the second", deep, s, api.Outcome{Kind: api.NoStack, Steps: 1})
	s.Stack = slots + 2
	expect(t, "not the first", deep, s, api.Outcome{Kind: api.NoStack, Steps: 1})
	s.Stack = slots + 1
	expect(t, "not main", deep, s, api.Outcome{Kind: api.NoStack})
	row := with(yard(join(of(500, call(0, 1, nil)), []api.Instr{answer(0)})), function(3, 0, []api.Instr{answer(0)}))
	s.Stack = slots + 2 + 5
	expect(t, "one behind the other", row, s, api.Outcome{Kind: api.Done, Steps: 1001})
	row = with(yard(join(of(500, try(0, 1, 1, 0, nil)), []api.Instr{answer(0)}), []api.Instr{call(0, 1, nil)}), function(3, 0, []api.Instr{raise(0)}))
	expect(t, "what is thrown gives its frame back", row, s, api.Outcome{Kind: api.Raised, Exn: "Match", Steps: 4})
}

// P6.5: an answer goes to the slot D, and it goes on behind the call; the last one ends the run.
func TestAnswers(t *testing.T) {
	id := function(1, 1, []api.Instr{answer(0)})
	m := with(yard(begun(call(free, 1, []int{seven}, upTo(slots)...), prim(api.Add, free, free, free), out(free), call(zero, 1, []int{two}, upTo(slots)...),
		field(free, zero, 0), out(free), call(seven, 1, []int{one}, seven), out(seven), answer(seven))), id)
	ends(t, "numbers and pointers", m, plenty(), api.Done, "\x0e\x07\x01")
	m = with(yard(join(letter('a'), []api.Instr{call(0, 1, nil), out(0), answer(0)})),
		function(slots, 0, join(letter('b'), []api.Instr{call(3, 2, nil), out(3), jump(1)}), join(letter('d'), []api.Instr{answer(3)})),
		function(slots, 0, join(letter('c'), []api.Instr{call(0, 3, nil), answer(0)})),
		function(2, 0, []api.Instr{konst(1, 'x'), answer(1)}))
	ends(t, "calls in calls", m, plenty(), api.Done, "abcxdx")
	m = with(yard([]api.Instr{call(slots, 1, nil), answer(0)}), function(slots, 0, join(letter('a'), []api.Instr{answer(0)})))
	ends(t, "no such slot is found out when the answer is there", m, plenty(), api.Stuck, "a")
	m.Funcs[0].Blocks[0].Code[0].D = -1
	ends(t, "a slot below 0", m, plenty(), api.Stuck, "a")
	m.Funcs[1].Blocks[0].Code[2] = raise(0)
	ends(t, "what is thrown needs no D", m, plenty(), api.Raised, "a")
	m = yard([]api.Instr{answer(slots)})
	expect(t, "no such slot", m, plenty(), api.Outcome{Kind: api.Stuck, Steps: 1})
}

// P6.4, P6.5: ahead of a call all slots but those of Live become the number 0.
func TestCallsKeepLiveAlone(t *testing.T) {
	id := function(1, 1, []api.Instr{answer(0)})
	show := []api.Instr{out(0), out(1), out(2), out(3), answer(0)}
	set := []api.Instr{konst(0, 'a'), konst(1, 'b'), konst(2, 'c'), konst(3, 'd')}
	for _, c := range []struct {
		live []int
		want string
	}{
		{nil, "\x00\x00\x00b"}, {[]int{0}, "a\x00\x00b"}, {[]int{0, 2}, "a\x00cb"}, {[]int{2, 0, 2}, "a\x00cb"}, {[]int{0, 1, 2, 3}, "abcb"},
	} {
		m := with(yard(join(set, []api.Instr{call(3, 1, []int{1}, c.live...)}, show)), id)
		ends(t, "live", m, plenty(), api.Done, c.want)
	}
	for _, live := range [][]int{{slots}, {-1}, {0, 1, slots}} {
		m := with(yard(join(set, []api.Instr{call(3, 1, []int{1}, live...)}, show)), function(slots, 1, says('x')))
		ends(t, "no such slot", m, plenty(), api.Stuck, "")
	}
}

// P6.5: what is thrown goes to the block B of the nearest call that has one, into its slot C, and to nobody in the frame that throws.
func TestThrown(t *testing.T) {
	thrower := function(slots, 0, join(letter('t'), []api.Instr{konst(0, 'E'), raise(0)}))
	main := join([]api.Instr{konst(1, 'k'), konst(2, 'l'), konst(3, 'D')}, []api.Instr{try(3, 1, 1, 4, nil, 1, 3)}, letter('n'), []api.Instr{answer(0)})
	handler := join(letter('h'), []api.Instr{out(4), out(1), out(2), out(3), answer(0)})
	ends(t, "taken", with(yard(main, handler), thrower), plenty(), api.Done, "thEk\x00D")
	passing := function(slots, 0, join(letter('p'), []api.Instr{call(0, 2, nil)}, letter('n'), []api.Instr{answer(0)}), says('w'))
	ends(t, "taken further off", with(yard(main, handler), passing, thrower), plenty(), api.Done, "pthEk\x00D")
	passing.Blocks[0].Code[2] = try(0, 2, 1, 5, nil)
	passing.Blocks[1] = api.Block{Code: join(letter('q'), []api.Instr{out(5), konst(5, 'F'), raise(5)})}
	ends(t, "taken, and another one thrown", with(yard(main, handler), passing, thrower), plenty(), api.Done, "ptqEhFk\x00D")
	passing.Blocks[1] = api.Block{Code: join(letter('q'), []api.Instr{out(5), answer(5)})}
	ends(t, "taken nearest", with(yard(main, handler), passing, thrower), plenty(), api.Done, "ptqEn")
	main[3] = call(3, 1, nil, 1, 3)
	if o := ends(t, "not taken", with(yard(main, handler), thrower), plenty(), api.Raised, "t"); o.Exn != "" || o.Steps != 8 {
		t.Error(o)
	}
	own := yard(join([]api.Instr{try(0, 1, 1, 0, nil, 1)}, letter('n'), []api.Instr{raise(1)}), says('h'))
	ends(t, "not by the frame that throws", with(own, function(1, 0, []api.Instr{answer(0)})), plenty(), api.Raised, "n")
	ends(t, "by main", yard([]api.Instr{raise(0)}), plenty(), api.Raised, "")
}

// P6.5: a block or a slot that there isn't is found out when something is thrown to it.
func TestThrownNowhere(t *testing.T) {
	for _, c := range []struct {
		why  string
		b, c int
	}{{"no such block", 2, 0}, {"a block below 0", -2, 0}, {"no such slot", 1, slots}, {"a slot below 0", 1, -1}} {
		m := with(yard([]api.Instr{try(0, 1, c.b, c.c, nil), answer(0)}, says('h')), function(slots, 0, join(letter('t'), []api.Instr{raise(0)})))
		ends(t, c.why, m, plenty(), api.Stuck, "t")
		m.Funcs[1].Blocks[0].Code[2] = answer(0)
		ends(t, c.why+", answered", m, plenty(), api.Done, "t")
	}
	m := with(yard([]api.Instr{try(0, 1, 1, 0, nil), answer(0)}, nil), function(slots, 0, join(letter('t'), []api.Instr{raise(0)})))
	expect(t, "an empty block", m, plenty(), api.Outcome{Kind: api.Stuck, Output: []byte("t"), Steps: 4})
}

// P6.5: what is thrown may be an object; whoever takes it has it whole, wherever memory is collected.
func TestThrownObject(t *testing.T) {
	thrower := function(slots, 1, []api.Instr{text(1, 2, 0), text(1, 1, 0), record(2, fail, []int{1}, 0), text(3, 2, 0, 2), raise(2)})
	handler := []api.Instr{text(1, 2, 4), field(5, 4, 0), length(6, 5), out(6), konst(7, 1), octet(6, 5, 7), out(6), raise(4)}
	m := with(yard([]api.Instr{konst(0, 3), try(3, 1, 1, 4, []int{0})}, handler), thrower)
	for _, collect := range [][]bool{nil, of(9, true), {false, true}, {false, false, false, true}, {false, false, false, false, true}} {
		s := plenty()
		s.Collect = collect
		if o := ends(t, "an object", m, s, api.Raised, "\x02b"); o.Exn != "Fail" {
			t.Error(o)
		}
	}
}

// P6.5: the four exceptions of the machine are thrown as numbers, and taken as others are.
func TestThrownByTheMachine(t *testing.T) {
	for _, c := range []struct {
		why  string
		x    api.Instr
		want byte
	}{
		{"div", prim(api.Div, free, seven, zero), api.ExnDiv},
		{"mod", prim(api.Mod, free, seven, zero), api.ExnDiv},
		{"at", at(free, three, seven), api.ExnSubscript},
		{"put", put(three, seven, zero), api.ExnSubscript},
		{"byte", octet(free, ab, seven), api.ExnSubscript},
		{"array", array(free, row, 9, seven), api.ExnSize},
	} {
		f := function(slots, 0, begun(konst(9, -1), c.x, out(zero), answer(zero)))
		m := with(yard([]api.Instr{try(0, 1, 1, 4, nil)}, []api.Instr{out(4), answer(0)}), f)
		ends(t, c.why, m, plenty(), api.Done, string([]byte{c.want}))
		m.Funcs[0].Blocks[0].Code[0] = call(0, 1, nil)
		if o := ends(t, c.why, m, plenty(), api.Raised, ""); o.Exn != m.Names[c.want] {
			t.Error(c.why, o)
		}
		m.Main = 1
		ends(t, c.why+", main's", m, plenty(), api.Raised, "")
	}
}

// P6.5: OpTail takes the frame away first: its words are read ahead, and who called it gets the answer, or what is thrown.
func TestTail(t *testing.T) {
	show := function(3, 2, []api.Instr{out(0), out(1), out(2), answer(0)})
	m := with(yard([]api.Instr{konst(0, 'a'), konst(1, 'b'), tail(1, 1, 0)}), show)
	ends(t, "main's", m, plenty(), api.Done, "ba\x00")
	m = with(yard([]api.Instr{konst(5, 'z'), call(4, 2, nil, 5), out(4), out(5), answer(0)}), show,
		function(slots, 0, []api.Instr{konst(0, 'a'), konst(1, 'b'), tail(1, 1, 0)}))
	ends(t, "the answer", m, plenty(), api.Done, "ba\x00bz")
	m = with(yard([]api.Instr{konst(5, 'z'), try(4, 1, 1, 3, nil, 5)}, []api.Instr{out(3), out(4), out(5), answer(0)}),
		function(slots, 0, []api.Instr{konst(0, 'a'), tail(2, 0)}),
		function(slots, 1, []api.Instr{raise(0)}))
	ends(t, "what is thrown", m, plenty(), api.Done, "a\x00z")
	swap := function(3, 3, []api.Instr{when(2, 1, 2)}, []api.Instr{konst(2, 0), tail(1, 1, 0, 2)}, []api.Instr{out(0), out(1), answer(0)})
	m = with(yard([]api.Instr{konst(0, 'a'), konst(1, 'b'), konst(2, 1), tail(1, 0, 1, 2)}), swap)
	ends(t, "to itself, with its words turned round", m, plenty(), api.Done, "ba")
	m = with(yard(begun(tail(1, two, three))), function(slots, 2, []api.Instr{text(2, 1, 0, 1), text(2, 1, 0, 1), field(3, 0, 0), out(3), length(3, 1), out(3), answer(0)}))
	s := plenty()
	s.Collect = of(99, true)
	ends(t, "with objects", m, s, api.Done, "\x07\x03")
}

// P6.5: of OpTail the frame that is gone takes no stack any more.
func TestTailsStack(t *testing.T) {
	loop := yard([]api.Instr{tail(0)})
	s := api.Script{Fuel: 5000, Stack: slots + 2}
	expect(t, "a loop", loop, s, api.Outcome{Kind: api.NoFuel, Steps: 5000})
	grow := with(yard([]api.Instr{tail(1)}), function(slots+1, 0, []api.Instr{answer(0)}))
	expect(t, "a greater one", grow, s, api.Outcome{Kind: api.NoStack, Steps: 1})
	s.Stack++
	expect(t, "room for that", grow, s, api.Outcome{Kind: api.Done, Steps: 2})
	inner := with(yard([]api.Instr{call(0, 1, nil), answer(0)}), function(3, 0, []api.Instr{tail(2)}), function(4, 0, []api.Instr{answer(0)}))
	s.Stack = slots + 2 + 6
	expect(t, "in a call", inner, s, api.Outcome{Kind: api.Done, Steps: 4})
	s.Stack--
	expect(t, "in a call, a word less", inner, s, api.Outcome{Kind: api.NoStack, Steps: 2})
	expect(t, "no such slot", yard([]api.Instr{tail(0, slots)}), plenty(), api.Outcome{Kind: api.Stuck, Steps: 1})
}
