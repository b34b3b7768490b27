package code

import (
	"math"
	"strings"
	"testing"

	"bellows/api"
)

// of is a list of n that are the same.
func of[E any](n int, e E) []E {
	l := make([]E, n)
	for i := range l {
		l[i] = e
	}
	return l
}

// coded is an image whose functions each have blocks that each have these instructions.
func coded(funcs, blocks int, l ...api.Instr) api.Image {
	return api.Image{Funcs: of(funcs, api.Func{Blocks: of(blocks, api.Block{Code: l})})}
}

// limit is a thing of which an image may have most, and one with n of it.
type limit struct {
	name string
	most int
	with func(n int) api.Image
}

// limits are all that the chapter names, each thing in the last place where it can stand too.
func limits() []limit {
	a := strings.Repeat("a", api.MaxText+1)
	in := func(f api.Func) api.Image { return api.Image{Funcs: []api.Func{{}, f}} }
	code := func(x api.Instr) api.Image {
		return in(api.Func{Blocks: []api.Block{{}, {Code: []api.Instr{{Op: api.OpIn}, x}}}})
	}
	return []limit{
		{"Types", 1024, func(n int) api.Image { return api.Image{Types: make([]api.Type, n)} }},
		{"Shapes", 512, func(n int) api.Image { return api.Image{Shapes: make([]api.Shape, n)} }},
		{"Strings", 256, func(n int) api.Image { return api.Image{Strings: make([]string, n)} }},
		{"Names", 256, func(n int) api.Image { return api.Image{Names: make([]string, n)} }},
		{"Strings and Names", 256, func(n int) api.Image { return api.Image{Strings: make([]string, 256), Names: make([]string, n)} }},
		{"Funcs", 1024, func(n int) api.Image { return api.Image{Funcs: make([]api.Func, n)} }},
		{"Shapes of a type", 512, func(n int) api.Image { return api.Image{Types: []api.Type{{}, {Shapes: of(n, 7)}}} }},
		{"Fields", 200, func(n int) api.Image { return api.Image{Shapes: []api.Shape{{}, {Fields: of(n, 7)}}} }},
		{"bytes of a string", 16384, func(n int) api.Image { return api.Image{Strings: []string{"", a[:n]}} }},
		{"bytes of a name", 16384, func(n int) api.Image { return api.Image{Names: []string{"", a[:n]}} }},
		{"bytes of a shape's Name", 16384, func(n int) api.Image { return api.Image{Shapes: []api.Shape{{}, {Name: a[:n]}}} }},
		{"Slots", 200, func(n int) api.Image { return in(api.Func{Slots: n}) }},
		{"Params", 200, func(n int) api.Image { return in(api.Func{Params: of(n, 7)}) }},
		{"Blocks", 2000, func(n int) api.Image { return in(api.Func{Blocks: make([]api.Block, n)}) }},
		{"In", 200, func(n int) api.Image { return in(api.Func{Blocks: []api.Block{{}, {In: of(n, 7)}}}) }},
		{"L of OpNew", 1024, func(n int) api.Image { return code(api.Instr{Op: api.OpNew, L: of(n, 7)}) }},
		{"L of OpCall", 1024, func(n int) api.Image { return code(api.Instr{Op: api.OpCall, L: of(n, 7)}) }},
		{"L of OpSwitch", 1024, func(n int) api.Image { return code(api.Instr{Op: api.OpSwitch, L: of(n, 7)}) }},
		{"L of OpTail", 1024, func(n int) api.Image { return code(api.Instr{Op: api.OpTail, L: of(n, 7)}) }},
		{"M of OpSwitch", 1024, func(n int) api.Image { return code(api.Instr{Op: api.OpSwitch, M: of(n, 7)}) }},
		{"L and M of OpSwitch", 1024, func(n int) api.Image {
			return code(api.Instr{Op: api.OpSwitch, L: of(1024, 7), M: of(n, 7)})
		}},
		{"Live of OpText", 200, func(n int) api.Image { return code(api.Instr{Op: api.OpText, Live: of(n, 7)}) }},
		{"Live of OpNew", 200, func(n int) api.Image { return code(api.Instr{Op: api.OpNew, Live: of(n, 7)}) }},
		{"Live of OpArray", 200, func(n int) api.Image { return code(api.Instr{Op: api.OpArray, Live: of(n, 7)}) }},
		{"Live of OpCat", 200, func(n int) api.Image { return code(api.Instr{Op: api.OpCat, Live: of(n, 7)}) }},
		{"Live of OpCall", 200, func(n int) api.Image { return code(api.Instr{Op: api.OpCall, Live: of(n, 7)}) }},
		{"instructions of one block", 20000, func(n int) api.Image { return coded(1, 1, of(n, api.Instr{Op: api.OpJump})...) }},
		{"instructions of two blocks", 20000, func(n int) api.Image {
			m := coded(1, 2, of(10000, api.Instr{Op: api.OpJump})...)
			m.Funcs[0].Blocks[1].Code = of(n-10000, api.Instr{Op: api.OpJump})
			return m
		}},
		{"instructions of many functions", 20000, func(n int) api.Image {
			m := coded(1000, 20, api.Instr{Op: api.OpReturn})
			m.Funcs = append(m.Funcs, coded(1, 1, of(n-20000, api.Instr{Op: api.OpReturn})...).Funcs...)
			return m
		}},
	}
}

// P4.2: each limit just reached, and just passed. P4.3: what passes it isn't encoded, and its bytes are no image's.
func TestLimits(t *testing.T) {
	for _, c := range limits() {
		m := c.with(c.most)
		b, e := Encode(m)
		if Check(m) != api.OK || e != api.OK || len(b) == 0 {
			t.Errorf("%d %s: Check %d, Encode %d", c.most, c.name, Check(m), e)
		}
		if x, e := Decode(b); e != api.OK || !alike(x, m) || string(b) != string(bytesAsTold(m)) {
			t.Errorf("%d %s: Decode %d", c.most, c.name, e)
		}
		m = c.with(c.most + 1)
		if b, e := Encode(m); Check(m) != api.ErrBig || e != api.ErrBig || b != nil {
			t.Errorf("%d %s: Check %d, Encode %d, %d bytes", c.most+1, c.name, Check(m), e, len(b))
		}
		if x, e := Decode(bytesAsTold(m)); e != api.ErrCode || !alike(x, api.Image{}) {
			t.Errorf("%d %s: Decode %d", c.most+1, c.name, e)
		}
	}
}

// P4.2: ErrBig is named ahead of ErrArg.
func TestBigAheadOfArg(t *testing.T) {
	wrong := []api.Func{{Blocks: []api.Block{{Code: []api.Instr{{Op: api.OpIn, A: 1}}}}}}
	for _, c := range limits() {
		if c.most == api.MaxFuncs || strings.HasPrefix(c.name, "instructions") {
			continue
		}
		for _, put := range []func(m *api.Image){
			func(m *api.Image) { m.Funcs = append(m.Funcs, wrong...) },
			func(m *api.Image) { m.Funcs = append(wrong[:1:1], m.Funcs...) },
		} {
			m := c.with(c.most)
			put(&m)
			if b, e := Encode(m); Check(m) != api.ErrArg || e != api.ErrArg || b != nil {
				t.Errorf("%s, and not plain: Check %d, Encode %d", c.name, Check(m), e)
			}
			m = c.with(c.most + 1)
			put(&m)
			if b, e := Encode(m); Check(m) != api.ErrBig || e != api.ErrBig || b != nil {
				t.Errorf("%s, one more, and not plain: Check %d, Encode %d", c.name, Check(m), e)
			}
		}
	}
	if e := Check(coded(1, 1, of(20001, api.Instr{})...)); e != api.ErrBig {
		t.Error("too many that aren't plain:", e)
	}
	if e := Check(api.Image{Funcs: of(1025, wrong[0])}); e != api.ErrBig {
		t.Error("too many functions that aren't plain:", e)
	}
}

// P4.2: too long a list is so of an instruction that doesn't use it, and of one that is none.
func TestBigListsThatAreNotUsed(t *testing.T) {
	for op := range 26 {
		for _, c := range []struct {
			x    api.Instr
			want api.Errno
		}{
			{api.Instr{Op: op, L: of(1025, 0)}, api.ErrBig},
			{api.Instr{Op: op, M: of(1025, 0)}, api.ErrBig},
			{api.Instr{Op: op, Live: of(201, 0)}, api.ErrBig},
			{api.Instr{Op: op, L: of(1024, 0), M: of(1024, 0), Live: of(200, 0)}, api.ErrArg},
		} {
			if e := Check(coded(2, 2, c.x)); e != c.want {
				t.Errorf("%d with %d, %d, %d: %d", op, len(c.x.L), len(c.x.M), len(c.x.Live), e)
			}
		}
	}
}

// P4.2: Check asks each instruction whether it is Plain, wherever it stands.
func TestCheckAsksPlain(t *testing.T) {
	m := whole()
	if e := Check(m); e != api.OK {
		t.Fatal(e)
	}
	for i, f := range m.Funcs {
		for j, b := range f.Blocks {
			for k, x := range b.Code {
				for letter, sets := range ways() {
					n := copied(m)
					y := &n.Funcs[i].Blocks[j].Code[k]
					sets[0](y)
					want := api.ErrArg
					if strings.Contains(usesAsTold[x.Op-1], letter) {
						want = api.OK
					}
					if b, e := Encode(n); Check(n) != want || e != want || want != api.OK && b != nil {
						t.Errorf("%d, %d, %d with %s: Check %d, Encode %d", i, j, k, letter, Check(n), e)
					}
				}
				for _, op := range noOps() {
					n := copied(m)
					n.Funcs[i].Blocks[j].Code[k] = api.Instr{Op: op}
					if b, e := Encode(n); Check(n) != api.ErrArg || e != api.ErrArg || b != nil {
						t.Errorf("%d, %d, %d is %d: Check %d, Encode %d", i, j, k, op, Check(n), e)
					}
				}
			}
		}
	}
}

// P4.2: Check asks no more than that: whether an image may run is another layer's.
func TestCheckAsksNoMore(t *testing.T) {
	l := []int{math.MinInt, math.MaxInt, -1}
	m := api.Image{
		Types:  []api.Type{{Shapes: l}},
		Shapes: []api.Shape{{Kind: math.MaxInt, Fields: l, Name: "\xff\x00"}},
		Names:  []string{"\xff"},
		Funcs: []api.Func{{Params: l, Result: math.MinInt, Slots: math.MinInt, Blocks: []api.Block{{In: l, Code: []api.Instr{
			{Op: api.OpConst, D: math.MinInt, N: math.MaxInt64},
			{Op: api.OpCall, D: -1, A: math.MaxInt, B: math.MinInt, C: 1 << 40, L: l, Live: l},
		}}}}},
		Main: math.MinInt,
		Exn:  math.MaxInt,
	}
	b, e := Encode(m)
	if Check(m) != api.OK || Check(api.Image{}) != api.OK || e != api.OK {
		t.Fatal(Check(m), Check(api.Image{}), e)
	}
	if x, e := Decode(b); e != api.OK || !alike(x, m) {
		t.Error(e)
	}
}

// P4.2: Size.
func TestSize(t *testing.T) {
	for _, c := range []struct {
		m    api.Image
		want int
	}{
		{api.Image{}, 0},
		{api.Image{Types: make([]api.Type, 3), Strings: make([]string, 4), Main: 5, Exn: 6}, 0},
		{api.Image{Funcs: make([]api.Func, 3)}, 0},
		{coded(2, 3), 0},
		{coded(1, 1, api.Instr{}), 1},
		{coded(1, 1, of(7, api.Instr{})...), 7},
		{coded(1, 5, of(7, api.Instr{})...), 35},
		{coded(3, 5, of(7, api.Instr{})...), 105},
		{coded(3, 5, of(20000, api.Instr{Op: 99})...), 300000},
		{whole(), 25},
	} {
		if got := Size(c.m); got != c.want {
			t.Errorf("Size = %d, want %d", got, c.want)
		}
	}
	m := coded(1, 1, make([]api.Instr, 4)...)
	m.Funcs = append(m.Funcs, api.Func{}, coded(1, 3, make([]api.Instr, 5)...).Funcs[0])
	if got := Size(m); got != 19 {
		t.Error(got)
	}
}

// P5: of an image whose lists are one list many times Check tells soon that it is too big.
func TestCheckOfOneListManyTimes(t *testing.T) {
	l := of(1000, api.Instr{Op: api.OpSwitch, L: of(1024, 1)})
	m := coded(1024, 2000, l...)
	if b, e := Encode(m); Check(m) != api.ErrBig || e != api.ErrBig || b != nil {
		t.Error(Check(m), e)
	}
	if n := Size(m); n != 2048000000 {
		t.Error(n)
	}
	for _, m := range []api.Image{coded(1025, 5000, l...), coded(1024, 2001, l...)} {
		if e := Check(m); e != api.ErrBig {
			t.Error(e)
		}
	}
}

// Rule 4: nothing that is handed in is changed.
func TestCheckChangesNothing(t *testing.T) {
	for _, m := range append(images(200), whole()) {
		kept := copied(m)
		Check(m)
		Size(m)
		Encode(m)
		Same(m, m)
		if !alike(m, kept) {
			t.Fatal("an image is changed")
		}
	}
}
