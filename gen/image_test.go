package gen

import (
	"reflect"
	"slices"
	"strconv"
	"strings"
	"testing"

	"bellows/api"
	"bellows/code"
	"bellows/verify"
	"bellows/vm"
)

// P13.1: functions in their order, whatever their numbers, then Main's, then the one that puts a text out.
func TestFunctionsInTheirOrder(t *testing.T) {
	p := basic(texts, text("a"))
	fun := func(id, result int, e api.Flat, params ...api.Slot) api.FlatFun {
		return api.FlatFun{Id: id, Result: result, E: e, Params: params}
	}
	p.Funs = []api.FlatFun{
		fun(3, texts, text("a")),
		fun(1, numbers, call(2, numbers, n(7)), api.Slot{Id: 7}, api.Slot{Id: 8, Ty: arrays1}),
		fun(-5, pairs1, flat1(api.LNew, pairs1, 2, n(4), call(3, texts)), api.Slot{Id: 4}),
		fun(2, numbers, n(6), api.Slot{Id: 6}),
	}
	p.Main = call(-5, pairs1, number(1))
	c := held(t, "functions", p)
	var got []string
	for _, f := range c.m.Funcs {
		got = append(got, joined(f.Params, " ", strconv.Itoa)+": "+strconv.Itoa(f.Result))
	}
	if s := strings.Join(got, ", "); s != ": 1, 0 4: 0, 0: 3, 0: 0, : 3, 1 0: 0" || c.m.Main != 4 {
		t.Error(s, c.m.Main)
	}
	if s := toldFunc(c.m.Funcs[1]); s != "Tail 3 (0)" {
		t.Error(s)
	}
	if s := toldFunc(c.m.Funcs[4]); s != "Const 0 = 1; Tail 2 (0)" {
		t.Error(s)
	}
}

// P13.1: a program of nothing but Main.
func TestLeastProgram(t *testing.T) {
	p := basic(numbers, number(0))
	p.Funs = nil
	c := held(t, "least", p)
	if c.does("", 10).kind != api.Done || c.m.Main != 0 {
		t.Error(c.m)
	}
}

// P13.1: the last function puts a text out, from a place on, and answers 0.
func TestTextIsPutOut(t *testing.T) {
	for _, s := range []string{"", "a", "abc", "\x00\xff\n", strings.Repeat("abcdefgh", 1000)} {
		for _, from := range []int{0, 1, 2, len(s) - 1, len(s), len(s) + 1, 1 << 40} {
			if from < 0 {
				continue
			}
			m, _ := Generate(basic(texts, text(s)))
			main := &m.Funcs[m.Main]
			*main = api.Func{Slots: 3, Blocks: []api.Block{{In: []int{-1, -1, -1}, Code: []api.Instr{
				{Op: api.OpText, D: 0},
				{Op: api.OpConst, D: 1, N: int64(from)},
				{Op: api.OpCall, D: 2, A: m.Main + 1, B: -1, L: []int{0, 1}},
				{Op: api.OpConst, D: 0, N: 48},
				{Op: api.OpPrim, N: api.Add, D: 0, A: 2, B: 0},
				{Op: api.OpOut, A: 0},
				{Op: api.OpReturn, A: 0},
			}}}}
			main.Blocks[0].Code[2].Live = nil
			if verify.Verify(m) != api.OK {
				t.Fatal("not verified")
			}
			o := vm.Run(m, api.Script{Fuel: api.MaxFuel, Heap: 2000, Stack: 20})
			if want := s[min(from, len(s)):] + "0"; o.Kind != api.Done || string(o.Output) != want {
				t.Error(short(s), from, o)
			}
		}
	}
}

// P13.1: Types are the program's, and behind them those of a shape alone that are needed, each once.
func TestTypesThatAreNeeded(t *testing.T) {
	look := func(e api.Flat) api.Flat {
		return choice(variable(0, either), numbers, nil, []api.Arm{arm(2, e), arm(4, number(1))}, number(2))
	}
	of := flat1(api.LField, numbers, 0, variable(0, pairs1))
	for name, w := range map[string]struct {
		types []api.Type // in the place of the last two
		e     api.Flat
		want  []api.Type // more than these
	}{
		"not needed":  {[]api.Type{{Shapes: []int{4}}}, look(number(3)), nil},
		"there":       {[]api.Type{{Shapes: []int{4}}}, look(of), nil},
		"needed":      {nil, choice(variable(0, either), numbers, nil, []api.Arm{arm(2, number(1)), arm(4, prim("putc", choice(flat1(api.LField, either, 0, variable(0, someAlone)), numbers, nil, []api.Arm{arm(2, number(1)), arm(4, number(1))}, number(4))))}, number(2)), []api.Type{{Shapes: []int{4}}}},
		"numbers too": {[]api.Type{{Imm: true, Shapes: []int{4}}}, choice(variable(0, either), numbers, nil, []api.Arm{arm(2, number(1)), arm(4, typed1(either, variable(0, either)))}, number(2)), []api.Type{{Shapes: []int{4}}}},
	} {
		p := basic(either, w.e, either)
		p.Types = append(p.Types[:someAlone], w.types...)
		p.Funs = append(p.Funs, p.Funs[0])
		p.Funs[1].Id = 51
		c := held(t, name, p)
		if !reflect.DeepEqual(c.m.Types[len(p.Types):], append([]api.Type{}, w.want...)) {
			t.Error(name, c.m.Types)
		}
	}
}

// P13.1: each text once, also those that stand where nothing comes to.
func TestTextsOnce(t *testing.T) {
	l := []api.Flat{text("a"), text(""), text("a"), text("b"), text("a\x00"), text("")}
	e := flat1(api.LRaise, numbers, 0, number(1))
	for _, x := range l {
		e = prim("+", e, prim("size", x))
	}
	p := basic(numbers, join(9, nil, prim("size", text("nowhere")), e))
	p.Main = choice(number(1), numbers, []api.Arm{arm(1, prim("size", text("b")))}, nil, prim("size", text("c")))
	if c := held(t, "texts", p); !slices.Equal(slices.Sorted(slices.Values(c.m.Strings)), []string{"", "a", "a\x00", "b", "c", "nowhere"}) {
		t.Errorf("%q", c.m.Strings)
	}
}

// chain is so many values that are needed at a time, and then are one: by lets, as parts of one another, or as what a jump gives.
func chain(count int, kind string) api.Flat {
	switch kind {
	case "lets":
		e := n(1)
		for i := range count - 1 {
			e = prim("+", e, n(i+2))
		}
		for i := count; i > 0; i-- {
			e = let(i, prim("getc"), e)
		}
		return e
	case "parts":
		e := number(0)
		for i := range count - 1 {
			e = prim("+", number(int64(i)), e)
		}
		return e
	case "jump":
		e := n(1)
		j := jump(900, numbers)
		var params []api.Slot
		for i := range count {
			if i > 0 {
				e = prim("+", e, n(i+1))
			}
			params = append(params, api.Slot{Id: i + 1})
			j.L = append(j.L, prim("getc"))
		}
		return join(900, params, e, j)
	}
	panic(kind)
}

// P13.1: as many slots at a time as there may be, and one more.
func TestMostSlots(t *testing.T) {
	for _, kind := range []string{"lets", "parts", "jump"} {
		for _, count := range []int{1, 2, 17, 64, 65, 128, api.MaxSlots - 1, api.MaxSlots} {
			p := basic(numbers, number(0))
			p.Main = chain(count, kind)
			c := held(t, kind, p)
			if c.m.Funcs[1].Slots != count {
				t.Error(kind, count, c.m.Funcs[1].Slots)
			}
			c.does("abcdefghijk", 10000)
		}
		for _, count := range []int{api.MaxSlots + 1, api.MaxSlots + 2, 256, 257, 1000} {
			p := basic(numbers, number(0))
			p.Main = chain(count, kind)
			refused(t, kind+strconv.Itoa(count), p)
		}
	}
	params := make([]int, api.MaxSlots+1)
	held(t, "params", basic(numbers, number(0), params[1:]...))
	refused(t, "params", basic(numbers, number(0), params...))
	refused(t, "params", basic(numbers, n(299), make([]int, 300)...))
}

// P13.1: slots are used again: many values, but few at a time.
func TestSlotsAreUsedAgain(t *testing.T) {
	e := n(0)
	for i := range 3000 {
		e = let(i+10, e, prim("+", n(i+10), n(1)))
	}
	down := number(0)
	for i := range 3000 {
		down = let(i+10, prim("-", n(0), n(1)), let(0, n(i+10), down))
	}
	for _, e := range []api.Flat{e, down} {
		if f := held(t, "again", basic(numbers, e, numbers, numbers)).m.Funcs[0]; f.Slots != 2 {
			t.Error(f.Slots)
		}
	}
}

// P13.3: what is needed in a round is needed all round.
func TestLiveInRounds(t *testing.T) {
	blocks := []api.Block{
		{Code: []api.Instr{{Op: api.OpText, D: 1}, {Op: api.OpConst, D: 2}, {Op: api.OpJump, A: 1}}},
		{Code: []api.Instr{{Op: api.OpSwitch, A: 2, L: []int{0, 3}, B: 2}}},
		{Code: []api.Instr{{Op: api.OpText, D: 3}, {Op: api.OpLen, D: 2, A: 3}, {Op: api.OpJump, A: 4}}},
		{Code: []api.Instr{{Op: api.OpReturn, A: 0}}},
		{Code: []api.Instr{{Op: api.OpText, D: 3}, {Op: api.OpCat, D: 1, A: 1, B: 3}, {Op: api.OpJump, A: 1}}},
	}
	live(blocks)
	for _, w := range []struct {
		block, at int
		want      []int
	}{{0, 0, []int{0}}, {2, 0, []int{0, 1}}, {4, 0, []int{0, 1, 2}}, {4, 1, []int{0, 2}}} {
		if x := blocks[w.block].Code[w.at]; !slices.Equal(x.Live, w.want) {
			t.Error(w, toldInstr(x))
		}
	}
}

// refused looks that a program is too big.
func refused(t *testing.T, what string, p api.FlatProg) {
	t.Helper()
	if m, e := Generate(p); e != api.ErrBig || !reflect.DeepEqual(m, api.Image{}) {
		t.Error(what, e, len(m.Funcs))
	}
}

// P13.1: ErrBig where Check says so: each limit just reached, and passed by one.
func TestLimits(t *testing.T) {
	t.Parallel()
	repeated := func(p *api.FlatProg, n int, f api.FlatFun) {
		for len(p.Funs) < n {
			f.Id = 100 + len(p.Funs)
			p.Funs = append(p.Funs, f)
		}
	}
	nums := func(n int) []api.Arm {
		var l []api.Arm
		for i := range n {
			l = append(l, arm(int64(i), number(1)))
		}
		return l
	}
	for name, w := range map[string]struct {
		most int
		make func(p *api.FlatProg, n int)
	}{
		"types": {api.MaxTypes, func(p *api.FlatProg, n int) {
			for len(p.Types) < n {
				p.Types = append(p.Types, api.Type{Imm: true})
			}
		}},
		"types with one more": {api.MaxTypes - 1, func(p *api.FlatProg, n int) {
			p.Types = p.Types[:someAlone]
			for len(p.Types) < n {
				p.Types = append(p.Types, api.Type{Imm: true})
			}
			p.Main = let(3, number(1), choice(typed1(either, n2(3)), either, nil, []api.Arm{arm(2, number(1)), arm(4, variable(3, either))}, number(1)))
			p.Main.L[0] = call(50, either)
			p.Funs[0].Result = either
		}},
		"shapes": {api.MaxShapes, func(p *api.FlatProg, n int) {
			for len(p.Shapes) < n {
				p.Shapes = append(p.Shapes, api.Shape{Kind: api.Record})
			}
		}},
		"fields": {api.MaxSlots, func(p *api.FlatProg, n int) {
			p.Shapes = append(p.Shapes, api.Shape{Kind: api.Record, Fields: make([]int, n)})
			p.Types = append(p.Types, api.Type{Shapes: []int{5}})
			p.Main = flat1(api.LNew, 7, 5, slices.Repeat([]api.Flat{number(1)}, n)...)
		}},
		"a shape's name": {api.MaxText, func(p *api.FlatProg, n int) { p.Shapes[1].Name = strings.Repeat("a", n) }},
		"names": {api.MaxStrings, func(p *api.FlatProg, n int) {
			for len(p.Names) < n {
				p.Names = append(p.Names, "A")
			}
		}},
		"a name": {api.MaxText, func(p *api.FlatProg, n int) { p.Names[3] = strings.Repeat("a", n) }},
		"texts": {api.MaxStrings, func(p *api.FlatProg, n int) {
			e := number(1)
			for i := range n {
				e = let(1, text(strconv.Itoa(i)), e)
			}
			p.Main = e
		}},
		"a text":    {api.MaxText, func(p *api.FlatProg, n int) { p.Funs[0].E, p.Funs[0].Result = text(strings.Repeat("a", n)), texts }},
		"functions": {api.MaxFuncs - 2, func(p *api.FlatProg, n int) { repeated(p, n, p.Funs[0]) }},
		"params": {api.MaxSlots, func(p *api.FlatProg, n int) {
			p.Funs[0].Params = nil
			for i := range n {
				p.Funs[0].Params = append(p.Funs[0].Params, api.Slot{Id: i})
			}
		}},
		"ways of numbers": {api.MaxShapes, func(p *api.FlatProg, n int) {
			p.Main = let(1, number(1), choice(n2(1), numbers, nums(n), nil, number(2)))
		}},
		"blocks": {api.MaxBlocks - 1, func(p *api.FlatProg, n int) { // each switch has two ways, and what is behind it: the last one's is the answer
			e := number(1)
			for range n / 3 {
				e = let(2, choice(n2(1), numbers, nums(1), nil, number(2)), e)
			}
			switch n % 3 {
			case 1:
				e = join(3, nil, e, jump(3, numbers))
			case 2:
				e = join(3, nil, join(4, nil, e, jump(4, numbers)), jump(3, numbers))
			}
			p.Main = let(1, number(1), e)
		}},
		"instructions": {api.MaxInstrs, func(p *api.FlatProg, n int) {
			m, _ := Generate(*p)
			e := number(1)
			for range n - code.Size(m) {
				e = let(1, number(1), e)
			}
			p.Main = e
		}},
		"instructions of two functions": {api.MaxInstrs, func(p *api.FlatProg, n int) {
			for i := range 2 {
				m, _ := Generate(*p)
				e := number(1)
				for range (n - code.Size(m)) / (2 - i) {
					e = let(1, number(1), let(2, n2(1), e)) // a move that isn't needed is none
				}
				if i == 0 {
					p.Funs[0].E = e
				} else {
					p.Main = e
				}
			}
		}},
	} {
		for _, more := range []int{-1, 0, 1, 2, 3} {
			p := basic(numbers, number(0))
			w.make(&p, w.most+more)
			m, e := Generate(p)
			if more <= 0 && (e != api.OK || verify.Verify(m) != api.OK) {
				t.Error(name, more, e)
			} else if more > 0 {
				refused(t, name, p)
			}
		}
	}
}

// n2 is the variable of a number.
func n2(id int) api.Flat { return variable(id, numbers) }

// P13.1: what is handed in that is too big is refused in time, however big it is.
func TestTooBigIsRefusedSoon(t *testing.T) {
	p := basic(numbers, number(0))
	shapes := make([]int, 1<<17)
	for i := range shapes {
		shapes[i] = i
	}
	var arms []api.Arm
	for i := range shapes {
		arms = append(arms, arm(int64(i), number(1)))
	}
	p.Main = let(1, call(50, either), choice(variable(1, either), numbers, arms, arms))
	refused(t, "ways", p)
	p.Types[either].Shapes = shapes
	refused(t, "shapes", p)
	p.Types[either].Shapes = nil
	p.Main = flat1(api.LNew, pairs1, 2, slices.Repeat([]api.Flat{number(1)}, 1<<20)...)
	refused(t, "parts", p)
}
