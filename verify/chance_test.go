package verify

import (
	"math"
	"math/bits"
	"reflect"
	"slices"

	"bellows/api"
	"bellows/code"
)

// chance is a row of numbers that is the same in each run.
type chance struct{ seed uint64 }

func (c *chance) next() uint64 {
	c.seed = c.seed*6364136223846793005 + 1442695040888963407
	return bits.RotateLeft64(c.seed, 27) ^ c.seed>>17
}

// below is a number from 0 to n - 1.
func (c *chance) below(n int) int { return int(c.next() % uint64(n)) }

// number is that of one of so many, and seldom none of them.
func (c *chance) number(n int) int {
	if n == 0 || c.below(20) == 0 {
		return []int{-1, n, n + 1, -2, 0}[c.below(5)]
	}
	return c.below(n)
}

// some is a rising list of numbers below n.
func (c *chance) some(n int) []int {
	var l []int
	for i := range n {
		if c.below(3) == 0 {
			l = append(l, i)
		}
	}
	return l
}

// slot is mostly one that has a type.
func (c *chance) slot(now []kind) int {
	slot := c.number(len(now))
	for range 3 {
		if slot >= 0 && slot < len(now) && now[slot] == nil {
			slot = c.number(len(now))
		}
	}
	return slot
}

func (c *chance) slots(count int, now []kind) []int {
	l := make([]int, count)
	for i := range l {
		l[i] = c.slot(now)
	}
	return l
}

// live is mostly slots that have types.
func (c *chance) live(now []kind) []int {
	var l []int
	for slot, k := range now {
		if k != nil && c.below(5) > 0 || k == nil && c.below(30) == 0 {
			l = append(l, slot)
		}
	}
	return l
}

func (c *chance) shape(types int) api.Shape {
	s := api.Shape{Kind: 1 + c.below(3)}
	switch s.Kind {
	case api.Record:
		s.Fields = make([]int, c.below(8)%4)
	case api.Array:
		s.Fields = make([]int, 1)
	}
	for i := range s.Fields {
		s.Fields[i] = c.below(types)
	}
	return s
}

// kind is a type; more often than not of objects of one kind.
func (c *chance) kind(shapes []api.Shape) api.Type {
	t := api.Type{Imm: c.below(3) == 0, Shapes: c.some(len(shapes))}
	if first := c.below(len(shapes)); c.below(3) > 0 {
		t = api.Type{Imm: c.below(6) == 0, Shapes: []int{first}}
		for n := first + 1; n < len(shapes); n++ {
			if shapes[n].Kind == shapes[first].Kind && c.below(2) == 0 {
				t.Shapes = append(t.Shapes, n)
			}
		}
	}
	return t
}

// frame is an image without blocks.
func (c *chance) frame() api.Image {
	m := api.Image{Strings: make([]string, c.below(3)), Shapes: []api.Shape{{Kind: api.Bytes}}, Types: []api.Type{{Imm: true}, {Shapes: []int{0}}}}
	types := 2 + c.below(6)
	for range c.below(8) {
		m.Shapes = append(m.Shapes, c.shape(types))
	}
	for len(m.Types) < types {
		m.Types = append(m.Types, c.kind(m.Shapes))
	}
	for n := range m.Types {
		if (m.Exn == 0 || c.below(2) == 0) && mayThrow(m, m.Types[n]) {
			m.Exn = n
		}
	}
	for range 1 + c.below(3) {
		f := api.Func{Result: c.below(types), Params: make([]int, c.below(4)), Blocks: make([]api.Block, 1+c.below(4))}
		for i := range f.Params {
			f.Params[i] = c.below(types)
		}
		if len(m.Funcs) == 0 {
			f.Params = nil
		}
		f.Slots = len(f.Params) + 1 + c.below(4)
		m.Funcs = append(m.Funcs, f)
	}
	return m
}

func mayThrow(m api.Image, t api.Type) bool {
	return t.Imm && !slices.ContainsFunc(t.Shapes, func(n int) bool { return m.Shapes[n].Kind != api.Record })
}

// in is a block's In.
func (c *chance) in(m api.Image, f api.Func, first bool) []int {
	in := make([]int, f.Slots)
	often := 1 + c.below(4)
	for slot := range in {
		in[slot] = -1
		if first && slot < len(f.Params) {
			in[slot] = f.Params[slot]
		} else if !first && c.below(often) > 0 {
			in[slot] = c.below(len(m.Types)) % (1 + c.below(len(m.Types)))
		}
	}
	return in
}

// instr is any, of numbers that mostly are there.
func (c *chance) instr(m api.Image, f api.Func, now []kind, op int) api.Instr {
	x := api.Instr{Op: op}
	for _, letter := range code.Uses(op) {
		switch letter {
		case 'D':
			x.D = c.number(len(now))
		case 'A':
			x.A = c.first(m, f, now, op)
		case 'B':
			x.B = c.slot(now)
		case 'C':
			x.C = c.slot(now)
		case 'N':
			x.N = int64(c.number(9))
		case 'L':
			x.L = c.slots(c.below(4), now)
		case 'l':
			x.Live = c.live(now)
		}
	}
	switch op {
	case api.OpConst:
		x.N = []int64{0, -1, 1<<62 - 1, -1 << 62, 1 << 62, -1<<62 - 1, 7}[c.below(7)]
	case api.OpField, api.OpStore:
		x.B = c.number(2)
	case api.OpNew:
		if has(m.Shapes, x.A) {
			x.L = c.slots(len(m.Shapes[x.A].Fields), now)
		}
	case api.OpCall, api.OpTail:
		if has(m.Funcs, x.A) {
			x.L = c.slots(len(m.Funcs[x.A].Params), now)
		}
		if op == api.OpCall {
			x.B, x.C = c.number(len(f.Blocks)), c.number(len(now))
		}
		if op == api.OpCall && c.below(2) == 0 {
			x.B, x.C = -1, 0
		}
	case api.OpIf:
		x.B, x.C = c.number(len(f.Blocks)), c.number(len(f.Blocks))
	case api.OpSwitch:
		c.ways(m, f, &x)
	}
	return x
}

// first is an instruction's A.
func (c *chance) first(m api.Image, f api.Func, now []kind, op int) int {
	switch op {
	case api.OpText:
		return c.number(len(m.Strings))
	case api.OpNew, api.OpArray:
		return c.number(len(m.Shapes))
	case api.OpCall, api.OpTail:
		return c.number(len(m.Funcs))
	case api.OpJump:
		return c.number(len(f.Blocks))
	}
	return c.slot(now)
}

func (c *chance) ways(m api.Image, f api.Func, x *api.Instr) {
	x.L, x.M, x.B = nil, nil, -1
	for _, n := range c.some(4) {
		x.L = append(x.L, n-2, c.number(len(f.Blocks)))
	}
	for shape := range m.Shapes {
		if c.below(5) > 0 {
			x.M = append(x.M, shape, c.number(len(f.Blocks)))
		}
	}
	if c.below(3) > 0 {
		x.B = c.number(len(f.Blocks))
	}
}

// code is instructions that are mostly right.
func (c *chance) code(m api.Image, f api.Func, in []int) []api.Instr {
	var l []api.Instr
	s := beginAsTold(m, f, in)
	try := func(op int) bool {
		x := c.instr(m, f, s.now, op)
		t := told{m: m, f: f, now: slices.Clone(s.now)}
		if !t.instr(x) {
			return false
		}
		s, l = &t, append(l, x)
		return true
	}
	seldom := []int{api.OpNew, api.OpField, api.OpStore, api.OpArray, api.OpAt, api.OpPut}
	for range c.below(12) {
		op := 1 + c.below(17)
		if c.below(2) == 0 {
			op = seldom[c.below(len(seldom))]
		}
		for i := 0; i < 40 && !try(op); i++ {
		}
	}
	for range 60 {
		if try(18 + c.below(6)) {
			return l
		}
	}
	return append(l, c.instr(m, f, s.now, 18+c.below(6)))
}

// image is one that mostly may run.
func (c *chance) image() api.Image {
	m := c.frame()
	for i := range m.Funcs {
		f := &m.Funcs[i]
		for j := range f.Blocks {
			f.Blocks[j].In = c.in(m, *f, j == 0)
		}
		if last := f.Blocks[len(f.Blocks)-1]; len(f.Blocks) > 1 && c.below(2) == 0 {
			for slot := range last.In {
				last.In[slot] = -1
			}
		}
		for j := range f.Blocks {
			f.Blocks[j].Code = c.code(m, *f, f.Blocks[j].In)
		}
	}
	return m
}

// images are some, the same in each run.
func images(n int) []api.Image {
	c := chance{seed: 5}
	l := make([]api.Image, n)
	for i := range l {
		l[i] = c.image()
	}
	return l
}

// values calls f with each number, truth and list of an image; of an instruction with those that it uses.
func values(m *api.Image, f func(v reflect.Value)) {
	names := map[rune]string{'D': "D", 'A': "A", 'B': "B", 'C': "C", 'N': "N", 'L': "L", 'M': "M", 'l': "Live"}
	var walk func(v reflect.Value)
	walk = func(v reflect.Value) {
		switch v.Kind() {
		case reflect.Slice:
			f(v)
			for i := range v.Len() {
				walk(v.Index(i))
			}
		case reflect.Struct:
			if v.Type() == reflect.TypeFor[api.Instr]() {
				for _, letter := range code.Uses(int(v.FieldByName("Op").Int())) {
					walk(v.FieldByName(names[letter]))
				}
				return
			}
			for i := range v.NumField() {
				walk(v.Field(i))
			}
		case reflect.Int, reflect.Int64, reflect.Bool:
			f(v)
		}
	}
	walk(reflect.ValueOf(m).Elem())
}

// other changes one thing of an image that it uses.
func (c *chance) other(m *api.Image) {
	var all []reflect.Value
	values(m, func(v reflect.Value) { all = append(all, v) })
	v := all[c.below(len(all))]
	switch v.Kind() {
	case reflect.Bool:
		v.SetBool(!v.Bool())
	case reflect.Slice:
		c.otherList(v)
	default:
		v.SetInt([]int64{v.Int() + 1, v.Int() - 1, -1, 0, 1, 2, 3, int64(c.below(8)), math.MinInt64, math.MaxInt64, 1 << 62}[c.below(11)])
	}
}

func (c *chance) otherList(v reflect.Value) {
	if v.Len() == 0 || c.below(3) == 0 {
		e := reflect.New(v.Type().Elem()).Elem()
		if v.Len() > 0 {
			e.Set(v.Index(c.below(v.Len())))
		}
		v.Set(reflect.Append(v, e))
		return
	}
	i, j := c.below(v.Len()), c.below(v.Len())
	if c.below(2) == 0 {
		reflect.Swapper(v.Interface())(i, j)
		return
	}
	v.Set(reflect.AppendSlice(v.Slice(0, i), v.Slice(i+1, v.Len())))
}

// copied is an image that is the same as m, and shares no memory with it.
func copied(m api.Image) api.Image {
	var fresh func(v reflect.Value) reflect.Value
	fresh = func(v reflect.Value) reflect.Value {
		out := reflect.New(v.Type()).Elem()
		switch v.Kind() {
		case reflect.Slice:
			out.Set(reflect.MakeSlice(v.Type(), v.Len(), v.Len()))
			for i := range v.Len() {
				out.Index(i).Set(fresh(v.Index(i)))
			}
		case reflect.Struct:
			for i := range v.NumField() {
				out.Field(i).Set(fresh(v.Field(i)))
			}
		default:
			out.Set(v)
		}
		return out
	}
	return fresh(reflect.ValueOf(m)).Interface().(api.Image)
}

// only is an instruction with nothing but what it uses.
func only(x api.Instr) api.Instr {
	y := api.Instr{Op: x.Op}
	for _, letter := range code.Uses(x.Op) {
		switch letter {
		case 'D':
			y.D = x.D
		case 'A':
			y.A = x.A
		case 'B':
			y.B = x.B
		case 'C':
			y.C = x.C
		case 'N':
			y.N = x.N
		case 'L':
			y.L = x.L
		case 'M':
			y.M = x.M
		case 'l':
			y.Live = x.Live
		}
	}
	return y
}
