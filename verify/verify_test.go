package verify

import (
	"math"
	"slices"
	"testing"

	"bellows/api"
)

// imm and objects are types of these shapes.
func imm(shapes ...int) api.Type     { return api.Type{Imm: true, Shapes: shapes} }
func objects(shapes ...int) api.Type { return api.Type{Shapes: shapes} }

// P5.1: Sub, of types as they may come: in any order, some shapes twice, of any numbers.
func TestSub(t *testing.T) {
	for _, c := range []struct {
		a, b api.Type
		want bool
	}{
		{api.Type{}, api.Type{}, true},
		{objects(), imm(), true},
		{imm(), objects(), false},
		{imm(), imm(), true},
		{api.Type{Shapes: []int{}}, api.Type{}, true},
		{objects(), objects(3), true},
		{objects(3), objects(), false},
		{objects(3), objects(3), true},
		{objects(3), objects(2), false},
		{objects(3), objects(4), false},
		{objects(3), objects(2, 3, 4), true},
		{objects(2, 3), objects(2, 3, 4), true},
		{objects(3, 4), objects(2, 3, 4), true},
		{objects(2, 4), objects(2, 3, 4), true},
		{objects(2, 3, 4), objects(2, 4), false},
		{objects(1, 2), objects(2, 3), false},
		{objects(4, 5), objects(3, 4), false},
		{imm(3), objects(3), false},
		{objects(3), imm(3), true},
		{imm(3), imm(3, 4), true},
		{imm(3), imm(4), false},
		{objects(3), imm(), false},
		{imm(), imm(3), true},
		{objects(4, 2), objects(2, 3, 4), true},
		{objects(2, 4), objects(4, 3, 2), true},
		{objects(5, 5), objects(5), true},
		{objects(5), objects(5, 5, 5), true},
		{objects(5, 6, 5), objects(5, 5), false},
		{objects(-1), objects(), false},
		{objects(-1), objects(1), false},
		{objects(-1), imm(), false},
		{objects(-1, math.MinInt), objects(math.MinInt, math.MaxInt, -1), true},
		{objects(math.MaxInt), objects(math.MinInt, -1, math.MaxInt-1), false},
		{objects(1 << 32), objects(0), false},
		{objects(511, 512), objects(511), false},
		{objects(512), objects(0, 512), true},
		{objects(64), objects(0), false},
	} {
		if got := Sub(c.a, c.b); got != c.want {
			t.Errorf("Sub(%v, %v) = %v", c.a, c.b, got)
		}
	}
}

// P5.1: Join.
func TestJoin(t *testing.T) {
	for _, c := range []struct{ a, b, want api.Type }{
		{api.Type{}, api.Type{}, api.Type{}},
		{imm(), objects(), imm()},
		{objects(), imm(), imm()},
		{imm(), imm(), imm()},
		{objects(3), objects(), objects(3)},
		{objects(), objects(3), objects(3)},
		{objects(3), objects(3), objects(3)},
		{objects(3), objects(2), objects(2, 3)},
		{objects(1, 3, 5), objects(2, 3, 9), objects(1, 2, 3, 5, 9)},
		{imm(1), objects(0), imm(0, 1)},
		{objects(4), imm(2, 4), imm(2, 4)},
		{objects(5, 1), objects(4, 0), objects(0, 1, 4, 5)},
		{objects(7, 7), objects(7), objects(7)},
		{objects(2, 9, 2), objects(), objects(2, 9)},
		{objects(math.MaxInt, -1), imm(math.MinInt, 0), imm(math.MinInt, -1, 0, math.MaxInt)},
	} {
		if got := Join(c.a, c.b); got.Imm != c.want.Imm || !slices.Equal(got.Shapes, c.want.Shapes) {
			t.Errorf("Join(%v, %v) = %v", c.a, c.b, got)
		}
	}
}

// types are all of four shapes, each in an order of its own, some with shapes that stand twice.
func types() []api.Type {
	c := chance{seed: 1}
	var l []api.Type
	for set := range 32 {
		one := api.Type{Imm: set >= 16}
		for shape := range 4 {
			if set>>shape&1 == 1 {
				one.Shapes = append(one.Shapes, 100*shape+7)
			}
		}
		for i := range one.Shapes {
			j := c.below(len(one.Shapes))
			one.Shapes[i], one.Shapes[j] = one.Shapes[j], one.Shapes[i]
		}
		if c.below(3) == 0 {
			one.Shapes = append(one.Shapes, one.Shapes...)
		}
		l = append(l, one)
	}
	return l
}

// P5.1, P5.5: Sub is an order, and Join the least type above two, and rises.
func TestSubIsAnOrder(t *testing.T) {
	same := func(a, b api.Type) bool { return kindOf(a).in(kindOf(b)) && kindOf(b).in(kindOf(a)) }
	l := types()
	for i, a := range l {
		for j, b := range l {
			if got := Sub(a, b); got != (i&^j == 0) || got != kindOf(a).in(kindOf(b)) {
				t.Fatal("Sub", a, b, got)
			}
			if Sub(a, b) && Sub(b, a) && !same(a, b) {
				t.Fatal("two that are below one another", a, b)
			}
			above := Join(a, b)
			if !Sub(a, above) || !Sub(b, above) || !rises(above.Shapes) || !same(above, l[i|j]) || !same(above, Join(b, a)) {
				t.Fatal("Join", a, b, above)
			}
			for _, c := range l {
				if Sub(a, b) && Sub(b, c) && !Sub(a, c) {
					t.Fatal("no order", a, b, c)
				}
				if Sub(a, c) && Sub(b, c) != Sub(above, c) && Sub(a, c) {
					t.Fatal("not the least", a, b, c)
				}
			}
		}
	}
}

// P5.1: long lists are soon held against one another.
func TestSubOfLongLists(t *testing.T) {
	var a, b api.Type
	for i := range 300000 {
		a.Shapes = append(a.Shapes, 7*i%300007)
		b.Shapes = append(b.Shapes, -5*i)
	}
	other := api.Type{Shapes: slices.Clone(a.Shapes)}
	slices.Reverse(other.Shapes)
	if !Sub(a, other) || !Sub(other, a) || Sub(a, b) || Sub(b, a) || !Sub(b, Join(a, b)) {
		t.Error("Sub of long lists")
	}
	if n := len(Join(a, b).Shapes); n != 599999 {
		t.Error(n)
	}
}

// Rule 4: what Sub and Join are given is not changed, spare room included, nor shared.
func TestSubAndJoinAreNew(t *testing.T) {
	room := []int{9, 3, 7, 3, 1, 5}
	kept := slices.Clone(room)
	for i := range len(room) + 1 {
		for j := range len(room) + 1 {
			a, b := objects(room[:i]...), objects(room[j:]...)
			Sub(a, b)
			first, second := Join(a, b), Join(a, b)
			for k := range first.Shapes[:cap(first.Shapes)] {
				first.Shapes[:cap(first.Shapes)][k] = -1
			}
			if !slices.Equal(room, kept) || slices.Contains(second.Shapes, -1) {
				t.Fatal("shared", i, j, room, second)
			}
		}
	}
}

// P5.1: the types of slots are held against one another, and joined, as Sub and Join say.
func TestWordsAreTypes(t *testing.T) {
	c := chance{seed: 3}
	var l []api.Type
	for range 60 {
		one := api.Type{Imm: c.below(2) == 0}
		for range c.below(5) {
			one.Shapes = append(one.Shapes, []int{0, 1, 62, 63, 64, 65, 127, 128, 447, 448, 510, 511}[c.below(12)])
		}
		l = append(l, one)
	}
	for _, a := range l {
		for _, b := range l {
			x, y := wordsOf(a), wordsOf(b)
			if x.within(y) != Sub(a, b) {
				t.Fatal(a, b)
			}
			x.add(y)
			if all := Join(a, b); *x != *wordsOf(all) || *y != *wordsOf(b) {
				t.Fatal(a, b)
			} else {
				var shapes []int
				some := x.each(func(shape int) { shapes = append(shapes, shape) })
				if !slices.Equal(shapes, all.Shapes) || some != (len(all.Shapes) > 0) {
					t.Fatal(shapes, all)
				}
			}
		}
	}
}

// P5: what a check throws is taken, and no other panic is.
func TestHolds(t *testing.T) {
	if !holds(func() { need(true) }) || holds(func() { need(false) }) {
		t.Error("holds")
	}
	defer func() {
		if recover() != "another" {
			t.Error("another panic is taken")
		}
	}()
	holds(func() { panic("another") })
}

// The chapter's example.
func TestExample(t *testing.T) {
	m := least()
	if f, b, i, ok := Fault(m); f != 0 || b != 0 || i != 0 || !ok || Verify(m) != api.OK || !Whole(m) {
		t.Error(f, b, i, ok)
	}
	m.Funcs[0].Blocks[0].Code[0] = api.Instr{Op: api.OpIn, D: 0}
	m.Funcs[0].Slots = 2
	m.Funcs[0].Blocks[0].In = []int{-1, -1}
	m.Funcs[0].Blocks[0].Code[1].A = 1
	if f, b, i, ok := Fault(m); f != 0 || b != 0 || i != 1 || ok || Verify(m) != api.ErrVerify || !Whole(m) {
		t.Error(f, b, i, ok)
	}
}

// The shapes of the calls are those of the chapter.
var (
	_ func(api.Type, api.Type) bool         = Sub
	_ func(api.Type, api.Type) api.Type     = Join
	_ func(api.Image) bool                  = Whole
	_ func(api.Image) (int, int, int, bool) = Fault
	_ func(api.Image) api.Errno             = Verify
)
