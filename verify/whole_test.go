package verify

import (
	"math"
	"slices"
	"strings"
	"testing"

	"bellows/api"
)

// least is the image of the chapter's example.
func least() api.Image {
	return api.Image{
		Types:  []api.Type{imm(), objects(0)},
		Shapes: []api.Shape{{Kind: api.Bytes}},
		Funcs:  []api.Func{{Slots: 1, Blocks: []api.Block{{In: []int{-1}, Code: []api.Instr{{Op: api.OpConst, N: 5}, {Op: api.OpReturn}}}}}},
	}
}

// of is a list of n that are the same.
func of[E any](n int, e E) []E {
	l := make([]E, n)
	for i := range l {
		l[i] = e
	}
	return l
}

// ample is an image with something of each kind, in which each function may run.
func ample() api.Image {
	answer := []api.Instr{{Op: api.OpConst, N: 1}, {Op: api.OpReturn}}
	return api.Image{
		Types:   []api.Type{imm(), objects(0), objects(1, 2), objects(3), imm(2, 5), objects(), imm(0, 1, 2, 3, 4, 5)},
		Shapes:  []api.Shape{{Kind: api.Bytes}, {Kind: api.Record, Fields: []int{0, 6}}, {Kind: api.Record}, {Kind: api.Array, Fields: []int{1}}, {Kind: api.Bytes, Name: "x"}, {Kind: api.Record, Fields: []int{1}, Name: "Fail"}},
		Strings: []string{"text"},
		Names:   []string{"Match", "Div", "Subscript", "Size"},
		Funcs: []api.Func{
			{Params: []int{2, 1, 0}, Slots: 5, Blocks: []api.Block{
				{In: []int{2, 1, 0, -1, -1}, Code: []api.Instr{{Op: api.OpJump, A: 1}}},
				{In: []int{-1, 6, -1, -1, -1}, Code: answer},
			}},
			{Slots: 1, Blocks: []api.Block{{In: []int{-1}, Code: answer}}},
			{Params: []int{6}, Result: 6, Slots: 1, Blocks: []api.Block{{In: []int{6}, Code: []api.Instr{{Op: api.OpReturn}}}}},
		},
		Main: 1,
		Exn:  4,
	}
}

// far are numbers of nothing that there are so many of.
func far(n int) []int {
	return []int{-1, -2, n, n + 1, 1 << 32, 1<<32 + 1, -1 << 32, math.MaxInt, math.MinInt, math.MinInt + 1}
}

// isWhole looks that an image is whole, or isn't; and what Fault and Verify say of one that isn't.
func isWhole(t *testing.T, why string, m api.Image, want bool) {
	t.Helper()
	f, b, i, ok := Fault(m)
	if got := Whole(m); got != want || wholeAsTold(m) != want {
		t.Errorf("%s: Whole = %v", why, got)
	}
	if want && f == -1 || !want && (f != -1 || b != -1 || i != -1 || ok || Verify(m) != api.ErrVerify) {
		t.Errorf("%s: Fault = %d, %d, %d, %v", why, f, b, i, ok)
	}
}

// P5.2: images that are whole; to some of these belongs what only just may be.
func TestWhole(t *testing.T) {
	for why, change := range map[string]func(m *api.Image){
		"nothing changed":          func(m *api.Image) {},
		"type 0 once more":         func(m *api.Image) { m.Types = append(m.Types, imm()) },
		"type 0's Shapes not nil":  func(m *api.Image) { m.Types[0].Shapes = []int{} },
		"a type of all shapes":     func(m *api.Image) { m.Types[2].Shapes = []int{0, 1, 2, 3, 4, 5} },
		"a shape's Fields not nil": func(m *api.Image) { m.Shapes[0].Fields = []int{} },
		"shape 0 with a Name":      func(m *api.Image) { m.Shapes[0].Name = "Bytes" },
		"a field of the last type": func(m *api.Image) { m.Shapes[1].Fields[0] = 6 },
		"a record of 200 fields":   func(m *api.Image) { m.Shapes[2].Fields = of(200, 1) },
		"Exn numbers alone":        func(m *api.Image) { m.Exn = 0 },
		"Exn of one Record":        func(m *api.Image) { m.Types[4].Shapes = []int{1} },
		"Main the last one":        func(m *api.Image) { m.Main, m.Funcs[2] = 2, m.Funcs[1] },
		"no Names":                 func(m *api.Image) { m.Names = nil },
		"no Strings":               func(m *api.Image) { m.Strings = nil },
		"as many Params as Slots": func(m *api.Image) {
			m.Funcs[0].Params = []int{2, 1, 0, 4, 5}
			m.Funcs[0].Blocks[0].In = []int{2, 1, 0, 4, 5}
		},
		"no Slots":                     func(m *api.Image) { m.Funcs[1] = api.Func{Blocks: []api.Block{{Code: []api.Instr{{Op: api.OpJump}}}}} },
		"the last type as a Result":    func(m *api.Image) { m.Funcs[1].Result = 6 },
		"the last type in In":          func(m *api.Image) { m.Funcs[0].Blocks[1].In[4] = 6 },
		"the type 0 in In":             func(m *api.Image) { m.Funcs[0].Blocks[1].In[4] = 0 },
		"a block without instructions": func(m *api.Image) { m.Funcs[0].Blocks[1].Code = nil },
		"wrong instructions":           func(m *api.Image) { m.Funcs[0].Blocks[0].Code = []api.Instr{{Op: api.OpReturn, A: -1}, {Op: api.OpIn}} },
		"200 slots":                    func(m *api.Image) { m.Funcs[1].Slots, m.Funcs[1].Blocks[0].In = 200, of(200, -1) },
	} {
		m := ample()
		change(&m)
		isWhole(t, why, m, true)
	}
	isWhole(t, "the least", least(), true)
}

// P5.2: each thing that Whole asks, broken by itself.
func TestNotWhole(t *testing.T) {
	for why, change := range map[string]func(m *api.Image){
		"no types":                     func(m *api.Image) { m.Types = nil },
		"type 0 without Imm":           func(m *api.Image) { m.Types[0].Imm = false },
		"type 0 with a shape":          func(m *api.Image) { m.Types[0].Shapes = []int{0} },
		"no shapes":                    func(m *api.Image) { m.Shapes = nil },
		"shape 0 a Record":             func(m *api.Image) { m.Shapes[0].Kind = api.Record },
		"shape 0 an Array":             func(m *api.Image) { m.Shapes[0] = api.Shape{Kind: api.Array, Fields: []int{0}} },
		"shapes that fall":             func(m *api.Image) { m.Types[2].Shapes = []int{2, 1} },
		"shapes twice":                 func(m *api.Image) { m.Types[2].Shapes = []int{1, 1} },
		"shapes that fall at the end":  func(m *api.Image) { m.Types[6].Shapes = []int{0, 1, 2, 3, 5, 4} },
		"a Record's kind 0":            func(m *api.Image) { m.Shapes[2].Kind = 0 },
		"a kind 4":                     func(m *api.Image) { m.Shapes[2].Kind = 4 },
		"a kind -1":                    func(m *api.Image) { m.Shapes[2].Kind = -1 },
		"a kind far off":               func(m *api.Image) { m.Shapes[2].Kind = 1<<32 + 1 },
		"an Array without Fields":      func(m *api.Image) { m.Shapes[3].Fields = nil },
		"an Array of two":              func(m *api.Image) { m.Shapes[3].Fields = []int{1, 1} },
		"Bytes with Fields":            func(m *api.Image) { m.Shapes[4].Fields = []int{0} },
		"texts with Fields":            func(m *api.Image) { m.Shapes[0].Fields = []int{0} },
		"Exn without Imm":              func(m *api.Image) { m.Types[4].Imm = false },
		"Exn with an Array":            func(m *api.Image) { m.Types[4].Shapes = []int{2, 3, 5} },
		"Exn with Bytes":               func(m *api.Image) { m.Types[4].Shapes = []int{0, 2} },
		"Exn with Bytes at the end":    func(m *api.Image) { m.Types[4].Shapes = []int{2, 4} },
		"Exn of no words":              func(m *api.Image) { m.Exn = 5 },
		"no functions":                 func(m *api.Image) { m.Funcs = nil },
		"Main with Params":             func(m *api.Image) { m.Main = 0 },
		"Main with one":                func(m *api.Image) { m.Main = 2 },
		"more Params than Slots":       func(m *api.Image) { m.Funcs[2].Params = []int{6, 6} },
		"Slots -1":                     func(m *api.Image) { m.Funcs[1].Slots, m.Funcs[1].Blocks[0].In = -1, nil },
		"Slots far below 0":            func(m *api.Image) { m.Funcs[1].Slots, m.Funcs[1].Blocks[0].In = math.MinInt, nil },
		"no blocks":                    func(m *api.Image) { m.Funcs[2].Blocks = nil },
		"no blocks, not nil":           func(m *api.Image) { m.Funcs[1].Blocks = []api.Block{} },
		"In too short":                 func(m *api.Image) { m.Funcs[0].Blocks[1].In = of(4, -1) },
		"In too long":                  func(m *api.Image) { m.Funcs[0].Blocks[1].In = of(6, -1) },
		"In none":                      func(m *api.Image) { m.Funcs[0].Blocks[1].In = nil },
		"the first In too short":       func(m *api.Image) { m.Funcs[0].Blocks[0].In = []int{2, 1, 0, -1} },
		"the first In too long":        func(m *api.Image) { m.Funcs[0].Blocks[0].In = []int{2, 1, 0, -1, -1, -1} },
		"the first In has another":     func(m *api.Image) { m.Funcs[0].Blocks[0].In[1] = 0 },
		"the first In lacks one":       func(m *api.Image) { m.Funcs[0].Blocks[0].In[2] = -1 },
		"the first In has one more":    func(m *api.Image) { m.Funcs[0].Blocks[0].In[3] = 0 },
		"the first In, at its end":     func(m *api.Image) { m.Funcs[0].Blocks[0].In[4] = 2 },
		"the first In turned round":    func(m *api.Image) { m.Funcs[0].Blocks[0].In = []int{-1, -1, 2, 1, 0} },
		"the first In is as good, but": func(m *api.Image) { m.Types = append(m.Types, imm()); m.Funcs[0].Blocks[0].In[2] = 7 },
		"Slots without In":             func(m *api.Image) { m.Funcs[1].Slots = 2 },
		"an instruction isn't plain":   func(m *api.Image) { m.Funcs[2].Blocks[0].Code[0].B = 1 },
		"an instruction is none":       func(m *api.Image) { m.Funcs[2].Blocks[0].Code[0].Op = 24 },
		"an instruction 0":             func(m *api.Image) { m.Funcs[0].Blocks[1].Code[0] = api.Instr{} },
		"too many types":               func(m *api.Image) { m.Types = append(m.Types, of(1018, imm())...) },
		"too many strings":             func(m *api.Image) { m.Strings = of(257, "") },
		"too long a string":            func(m *api.Image) { m.Strings[0] = strings.Repeat("a", 16385) },
		"too many names":               func(m *api.Image) { m.Names = of(257, "") },
		"too many functions":           func(m *api.Image) { m.Funcs = of(1025, m.Funcs[1]) },
		"too many slots":               func(m *api.Image) { m.Funcs[1].Slots, m.Funcs[1].Blocks[0].In = 201, of(201, -1) },
		"too many blocks":              func(m *api.Image) { m.Funcs[1].Blocks = of(2001, m.Funcs[1].Blocks[0]) },
		"too many instructions":        func(m *api.Image) { m.Funcs[1].Blocks[0].Code = of(20000, api.Instr{Op: api.OpIn}) },
		"a record of 201 fields":       func(m *api.Image) { m.Shapes[2].Fields = of(201, 1) },
	} {
		m := ample()
		change(&m)
		isWhole(t, why, m, false)
	}
	isWhole(t, "nothing at all", api.Image{}, false)
}

// P5.2: numbers below 0, and beyond the end of what they number, wherever they stand.
func TestNotWholeOfFarNumbers(t *testing.T) {
	for _, c := range []struct {
		why string
		n   int // of so many
		set func(m *api.Image, n int)
	}{
		{"a type's shape", 6, func(m *api.Image, n int) { m.Types[3].Shapes[0] = n }},
		{"a type's last shape", 6, func(m *api.Image, n int) { m.Types[2].Shapes[1] = n }},
		{"a type's first shape", 6, func(m *api.Image, n int) { m.Types[2].Shapes = []int{n, 5} }},
		{"a type that nothing names", 6, func(m *api.Image, n int) { m.Types = append(m.Types, imm(n)) }},
		{"a Record's field", 7, func(m *api.Image, n int) { m.Shapes[5].Fields[0] = n }},
		{"a Record's last field", 7, func(m *api.Image, n int) { m.Shapes[1].Fields[1] = n }},
		{"an Array's", 7, func(m *api.Image, n int) { m.Shapes[3].Fields[0] = n }},
		{"Exn", 7, func(m *api.Image, n int) { m.Exn = n }},
		{"Main", 3, func(m *api.Image, n int) { m.Main = n }},
		{"Params", 7, func(m *api.Image, n int) { m.Funcs[0].Params[1], m.Funcs[0].Blocks[0].In[1] = n, n }},
		{"the last function's Params", 7, func(m *api.Image, n int) { m.Funcs[2].Params[0], m.Funcs[2].Blocks[0].In[0] = n, n }},
		{"Result", 7, func(m *api.Image, n int) { m.Funcs[1].Result = n }},
		{"the last function's Result", 7, func(m *api.Image, n int) { m.Funcs[2].Result = n }},
	} {
		for n := range c.n {
			m := ample()
			c.set(&m, n)
			if Whole(m) != wholeAsTold(m) {
				t.Errorf("%s %d", c.why, n)
			}
		}
		for _, n := range far(c.n) {
			m := ample()
			c.set(&m, n)
			isWhole(t, c.why, m, false)
		}
	}
	for _, n := range far(7) {
		m := ample()
		m.Funcs[0].Blocks[1].In[0] = n
		isWhole(t, "In", m, n == -1)
		m = ample()
		m.Funcs[0].Blocks[1].In[4] = n
		isWhole(t, "In at its end", m, n == -1)
	}
}

// P5.2: images at all limits at a time are whole, and may run.
func TestWholeAtTheLimits(t *testing.T) {
	m := least()
	m.Shapes = append(of(511, api.Shape{Kind: api.Record, Fields: of(200, 1023)}), api.Shape{Kind: api.Record})
	m.Shapes[0] = api.Shape{Kind: api.Bytes}
	var all []int
	for shape := range m.Shapes {
		all = append(all, shape)
	}
	m.Types = append([]api.Type{imm()}, of(1023, imm(all...))...)
	m.Types[1023].Shapes = all[1:]
	m.Strings = of(256, strings.Repeat("s", 16384))
	m.Names = slices.Clone(m.Strings)
	m.Exn = 1023
	m.Funcs = of(1024, api.Func{Slots: 200, Params: of(200, 1022), Result: 1023, Blocks: []api.Block{
		{In: of(200, 1022), Code: append(of(8, api.Instr{Op: api.OpText, A: 255, Live: all[:200], D: 199}), api.Instr{Op: api.OpJump, A: 1})},
		{In: append(of(199, 1022), -1), Code: of(10, api.Instr{Op: api.OpMove, A: 198, D: 199})},
	}})
	m.Funcs[0] = api.Func{Slots: 200, Blocks: of(2000, api.Block{In: of(200, -1), Code: []api.Instr{{Op: api.OpJump, A: 1999}}})}
	isWhole(t, "instructions too many", m, false)
	m.Funcs = m.Funcs[:948]
	isWhole(t, "all limits", m, true)
	if f, b, i, ok := Fault(m); f != 1 || b != 1 || i != 10 || ok {
		t.Error(f, b, i, ok)
	}
	for n := range m.Funcs[1:] {
		m.Funcs[n+1].Blocks = slices.Clone(m.Funcs[n+1].Blocks)
		m.Funcs[n+1].Blocks[1].Code = append(of(9, api.Instr{Op: api.OpMove, A: 198, D: 199}), api.Instr{Op: api.OpJump})
	}
	if f, b, i, ok := Fault(m); f != 0 || b != 0 || i != 0 || !ok {
		t.Error(f, b, i, ok)
	}
}
