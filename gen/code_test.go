package gen

import (
	"strconv"
	"testing"

	"bellows/api"
	"bellows/verify"
)

// The types of basic programs: numbers, texts, then these.
const (
	thrown1   = 2 // a number, or X
	pairs1    = 3
	arrays1   = 4
	either    = 5 // a number, a pair, or a Some
	someAlone = 6
)

// basic is a program of one function, which Main calls with nothing: its parameters are the variables 0, 1, ..
func basic(result int, e api.Flat, params ...int) api.FlatProg {
	p := api.FlatProg{
		Types:  []api.Type{{Imm: true}, {Shapes: []int{0}}, {Imm: true, Shapes: []int{1}}, {Shapes: []int{2}}, {Shapes: []int{3}}, {Imm: true, Shapes: []int{2, 4}}, {Shapes: []int{4}}},
		Shapes: []api.Shape{{Kind: api.Bytes}, {Kind: api.Record, Fields: []int{texts}, Name: "X"}, {Kind: api.Record, Fields: []int{numbers, texts}}, {Kind: api.Array, Fields: []int{numbers}}, {Kind: api.Record, Fields: []int{either}}},
		Names:  []string{"Match", "Div", "Subscript", "Size"},
		Exn:    thrown1,
		Main:   number(0),
	}
	f := api.FlatFun{Id: 50, Result: result, E: e}
	for i, ty := range params {
		f.Params = append(f.Params, api.Slot{Id: i, Ty: ty})
	}
	p.Funs = []api.FlatFun{f}
	return p
}

func flat1(kind, ty int, n int64, l ...api.Flat) api.Flat {
	return api.Flat{Kind: kind, Ty: ty, N: n, L: l}
}

func text(s string) api.Flat { return api.Flat{Kind: api.LText, Ty: texts, Name: s} }

func call(id, ty int, l ...api.Flat) api.Flat {
	return api.Flat{Kind: api.LCall, Id: id, Ty: ty, L: l}
}

func raise(e api.Flat) api.Flat { return flat1(api.LRaise, numbers, 0, e) }

func handle(id int, call, e api.Flat) api.Flat {
	return api.Flat{Kind: api.LHandle, Id: id, Ty: e.Ty, L: []api.Flat{call, e}}
}

func join(id int, params []api.Slot, there, ahead api.Flat) api.Flat {
	return api.Flat{Kind: api.LJoin, Id: id, Ty: there.Ty, Params: params, L: []api.Flat{there, ahead}}
}

func jump(id, ty int, l ...api.Flat) api.Flat {
	return api.Flat{Kind: api.LJump, Id: id, Ty: ty, L: l}
}

func arm(n int64, e api.Flat) api.Arm { return api.Arm{N: n, E: e} }

// choice is a switch by a variable: l are its else, if it has one.
func choice(v api.Flat, ty int, nums, shapes []api.Arm, l ...api.Flat) api.Flat {
	return api.Flat{Kind: api.LSwitch, Ty: ty, L: append([]api.Flat{v}, l...), Nums: nums, Shapes: shapes}
}

// n is the variable of a number, x one of a type.
func n(id int) api.Flat { return variable(id, numbers) }

func typed1(ty int, e api.Flat) api.Flat {
	e.Ty = ty
	return e
}

// P13.2, P13.3: each kind of flat expression as its instructions: where its value is the function's answer, and where it isn't.
func TestInstructions(t *testing.T) {
	a, b, c := n(0), n(1), n(2)
	x, y := variable(3, texts), variable(4, texts)
	z, r, o := variable(5, arrays1), variable(6, pairs1), variable(7, either)
	params := []int{numbers, numbers, numbers, texts, texts, arrays1, pairs1, either}
	some := func(e api.Flat) api.Flat { return flat1(api.LNew, someAlone, 4, e) }
	for _, w := range []struct {
		e    api.Flat
		want string
	}{
		{number(-7), "Const 0 = -7; Return 0"},
		{text("a"), "Text 0 = 0 live (); Return 0"},
		{b, "Return 1"},
		{let(9, number(5), n(9)), "Const 0 = 5; Return 0"},
		{let(9, b, n(9)), "Return 1"},
		{let(9, b, prim("+", n(9), b)), "Move 0 = 1; Prim 0 = 0 1 1; Return 0"},
		{let(9, prim("putc", a), b), "Out 0; Const 0 = 0; Return 1"},
		{let(9, b, a), "Return 0"},
		{flat1(api.LNew, pairs1, 2, a, x), "New 0 = 2 (0 3) live (); Return 0"},
		{flat1(api.LField, texts, 1, r), "Field 0 = 6 1; Return 0"},
		{flat1(api.LSet, numbers, 1, r, x), "Store 6 1 3; Const 0 = 0; Return 0"},
		{flat1(api.LArray, arrays1, 3, a, b), "Array 0 = 3 0 1 live (); Return 0"},
		{prim("+", a, b), "Prim 0 = 0 1 1; Return 0"},
		{prim("-", a, b), "Prim 0 = 0 1 2; Return 0"},
		{prim("*", a, b), "Prim 0 = 0 1 3; Return 0"},
		{prim("div", a, b), "Prim 0 = 0 1 4; Return 0"},
		{prim("mod", a, b), "Prim 0 = 0 1 5; Return 0"},
		{prim("<", a, b), "Prim 0 = 0 1 6; Return 0"},
		{prim("<=", a, b), "Prim 0 = 0 1 7; Return 0"},
		{prim("=", a, b), "Prim 0 = 0 1 8; Return 0"},
		{prim(">", a, b), "Prim 0 = 1 0 6; Return 0"},
		{prim(">=", a, b), "Prim 0 = 1 0 7; Return 0"},
		{prim("<>", a, b), "Prim 0 = 0 1 8; Const 1 = 0; Prim 0 = 1 0 8; Return 0"},
		{prim(">", prim("getc"), prim("putc", a)), "In 1 =; Out 0; Const 0 = 0; Prim 0 = 0 1 6; Return 0"},
		{typed1(texts, prim("^", x, y)), "Cat 0 = 3 4 live (); Return 0"},
		{prim("size", x), "Len 0 = 3; Return 0"},
		{prim("length", z), "Len 0 = 5; Return 0"},
		{prim("byte", x, a), "Byte 0 = 3 0; Return 0"},
		{prim("cmp", x, y), "Cmp 0 = 3 4; Return 0"},
		{prim("sub", z, a), "At 0 = 5 0; Return 0"},
		{prim("update", z, a, b), "Put 5 0 1; Const 0 = 0; Return 0"},
		{prim("putc", a), "Out 0; Const 0 = 0; Return 0"},
		{prim("getc"), "In 0 =; Return 0"},
		{prim("print", x), "Const 0 = 0; Tail 2 (3 0)"},
		{prim("+", prim("print", x), b), "Const 0 = 0; Call 0 = 2 -1 0 (3 0) live (1); Prim 0 = 0 1 1; Return 0"},
		{call(50, numbers, a, b, c, x, y, z, r, o), "Tail 0 (0 1 2 3 4 5 6 7)"},
		{let(9, call(50, numbers, a, a, a, x, x, z, r, o), prim("+", n(9), c)), "Call 0 = 0 -1 0 (0 0 0 3 3 5 6 7) live (2); Prim 0 = 0 2 1; Return 0"},
		{raise(a), "Raise 0"},
		{raise(flat1(api.LNew, 2, 1, x)), "New 0 = 1 (3) live (); Raise 0"},
		{prim("+", a, raise(b)), "Raise 1"},
		{let(9, raise(b), prim("putc", a)), "Raise 1"},
		{handle(9, call(50, numbers, a, b, c, x, y, z, r, o), b), "Call 0 = 0 1 0 (0 1 2 3 4 5 6 7) live (1); Return 0 | Return 1"},
		{handle(9, call(50, numbers, a, b, c, x, y, z, r, o), a), "Call 0 = 0 1 1 (0 1 2 3 4 5 6 7) live (0); Return 0 | Return 0"}, // what is needed only where it is handled gives its slot to the answer
		{handle(9, call(50, numbers, a, b, c, x, y, z, r, o), raise(variable(9, thrown1))), "Call 0 = 0 1 0 (0 1 2 3 4 5 6 7) live (); Return 0 | Raise 0"},
		{let(8, handle(9, call(50, numbers, a, b, c, x, y, z, r, o), b), prim("-", n(8), c)), "Call 0 = 0 1 0 (0 1 2 3 4 5 6 7) live (1 2); Jump 2 | Move 0 = 1; Jump 2 | Prim 0 = 0 2 2; Return 0"},
		{handle(9, call(50, numbers, a, b, c, x, y, z, r, o), call(50, numbers, b, b, b, x, y, z, r, o)), "Call 0 = 0 1 0 (0 1 2 3 4 5 6 7) live (1 3 4 5 6 7); Return 0 | Tail 0 (1 1 1 3 4 5 6 7)"},
		{choice(a, numbers, []api.Arm{arm(0, b), arm(7, c)}, nil, number(1)), "Switch 0 (0 1 7 2) () 3 | Return 1 | Return 2 | Const 0 = 1; Return 0"},
		{choice(a, numbers, []api.Arm{arm(0, b), arm(1, c)}, nil), "Switch 0 (0 1 1 2) () 2 | Return 1 | Return 2"},
		{choice(o, numbers, []api.Arm{arm(3, b)}, []api.Arm{arm(2, flat1(api.LField, numbers, 0, variable(7, pairs1))), arm(4, c)}, a), "Switch 7 (3 1) (2 2 4 3) 4 | Return 1 | Field 0 = 7 0; Return 0 | Return 2 | Return 0"},
		{choice(r, numbers, nil, []api.Arm{arm(2, b)}), "Switch 6 () (2 1) -1 | Return 1"},
		{prim("+", choice(a, numbers, []api.Arm{arm(0, b)}, nil, number(1)), c), "Switch 0 (0 1) () 2 | Jump 3 | Const 1 = 1; Jump 3 | Prim 0 = 1 2 1; Return 0"},
		{prim("+", choice(a, numbers, []api.Arm{arm(0, raise(b))}, nil, number(1)), c), "Switch 0 (0 1) () 2 | Raise 1 | Const 0 = 1; Jump 3 | Prim 0 = 0 2 1; Return 0"},
		{prim("+", choice(a, numbers, []api.Arm{arm(0, raise(b))}, nil, raise(c)), c), "Switch 0 (0 1) () 2 | Raise 1 | Raise 2"},
		{let(9, some(a), choice(variable(9, someAlone), numbers, []api.Arm{arm(0, a)}, []api.Arm{arm(2, b), arm(4, c)}, b)), "New 0 = 4 (0) live (2); Switch 0 () (4 1) -1 | Return 2"},
		{join(9, []api.Slot{{Id: 10}, {Id: 11}}, prim("-", n(10), n(11)), choice(a, numbers, []api.Arm{arm(0, jump(9, numbers, b, c))}, nil, jump(9, numbers, c, b))), "Switch 0 (0 1) () 2 | Jump 3 | Move 0 = 1; Move 1 = 2; Move 2 = 0; Jump 3 | Prim 0 = 1 2 2; Return 0"},
		{join(9, []api.Slot{{Id: 10}, {Id: 11}}, n(10), jump(9, numbers, b, prim("putc", a))), "Out 0; Const 0 = 0; Jump 1 | Return 1"},
		{join(9, nil, a, b), "Return 1"},
		{let(8, join(9, []api.Slot{{Id: 10}}, prim("+", n(10), b), jump(9, numbers, a)), prim("*", n(8), c)), "Jump 1 | Prim 0 = 0 1 1; Jump 2 | Prim 0 = 0 2 3; Return 0"},
	} {
		p := basic(numbers, w.e, params...)
		if w.e.Ty != numbers {
			p.Funs[0].Result = w.e.Ty
		}
		c := held(t, w.want, p)
		if s := toldFunc(c.m.Funcs[0]); s != w.want {
			t.Errorf("%s\n not %s", s, w.want)
		}
	}
}

// P13.2: a reckoning that is the one way, and not the other, wherever it stands: at most four instructions each.
func TestFewInstructions(t *testing.T) {
	t.Parallel()
	for _, name := range []string{"+", "-", "*", "div", "mod", "<", "<=", "=", ">", ">=", "<>"} {
		e := prim(name, n(0), n(1))
		for range 5 {
			e = prim(name, choice(n(0), numbers, []api.Arm{arm(0, e)}, nil, e), n(1))
			e = let(9, e, join(8, []api.Slot{{Id: 7}}, n(7), jump(8, numbers, prim(name, n(9), n(0)))))
		}
		p := basic(numbers, e, numbers, numbers)
		for a := range int64(4) {
			for b := range int64(4) {
				p.Main = prim("putc", prim("+", call(50, numbers, number(a), number(b)), number(65)))
				held(t, name+strconv.Itoa(int(4*a+b)), p).does("", 100000)
			}
		}
	}
}

// P13.5: an image whose switch has no way for other numbers, and a type that has numbers.
func TestLastNumbersWay(t *testing.T) {
	e := choice(variable(0, either), numbers, []api.Arm{arm(0, n(1)), arm(5, number(6))}, []api.Arm{arm(2, number(7)), arm(4, number(8))})
	c := held(t, "last", basic(numbers, e, either, numbers))
	x := c.m.Funcs[0].Blocks[0].Code[0]
	if x.B != x.L[3] || verify.Verify(c.m) != api.OK {
		t.Error(toldInstr(x))
	}
}
