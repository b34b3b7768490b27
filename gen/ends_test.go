package gen

import (
	"math"
	"reflect"
	"runtime/debug"
	"slices"
	"testing"

	"bellows/api"
	"bellows/code"
)

// answers looks that Generate answers, the same again: an image that Check finds nothing in, or ErrBig and none.
func answers(t *testing.T, p api.FlatProg) (api.Image, api.Errno) {
	t.Helper()
	m, e := Generate(p)
	n, f := Generate(p)
	if e != f || !reflect.DeepEqual(m, n) {
		t.Fatalf("not the same: %+v", p)
	}
	if e != api.OK && (e != api.ErrBig || !reflect.DeepEqual(m, api.Image{})) || code.Check(m) != api.OK {
		t.Fatalf("%d: %+v", e, p)
	}
	return m, e
}

// fill makes up any thing, most of which nothing answers.
func (c *chance) fill(to any, depth int) { c.fillIn(reflect.ValueOf(to).Elem(), depth) }

func (c *chance) fillIn(v reflect.Value, depth int) {
	switch v.Kind() {
	case reflect.Struct:
		for i := range v.NumField() {
			c.fillIn(v.Field(i), depth)
		}
	case reflect.Slice:
		if depth <= 0 || c.below(3) > 0 {
			v.SetZero()
			return
		}
		n := c.below(4)
		v.Set(reflect.MakeSlice(v.Type(), n, n))
		for i := range n {
			c.fillIn(v.Index(i), depth-1)
		}
	case reflect.Int, reflect.Int64:
		v.SetInt(oneOf[int64](c, 0, 0, 1, 1, 2, 3, 3, 3, 4, 5, 5, 6, 7, 8, 9, 9, 10, 10, 11, 12, 13, 14, 14, 15, 15, -1, math.MinInt64, math.MaxInt64))
	case reflect.String:
		v.SetString(oneOf(c, "", "x", "+", "<>", "print", "putc", "sub", "update", "^", "getc"))
	case reflect.Bool:
		v.SetBool(c.below(2) == 0)
	}
}

// P5: any programs.
func TestAnyProgramsEnd(t *testing.T) {
	t.Parallel()
	c := &chance{seed: 70}
	for range 60000 {
		var p api.FlatProg
		c.fill(&p, 6)
		answers(t, p)
	}
}

// anyProgram is one of few types, variables and labels, so that these often meet.
func (c *chance) anyProgram() api.FlatProg {
	var flat func(depth int) api.Flat
	flat = func(depth int) api.Flat {
		kind := oneOf(c, api.LInt, api.LVar, api.LVar, api.LLet, api.LLet, api.LNew, api.LField, api.LSet, api.LPrim, api.LSwitch, api.LSwitch, api.LCall, api.LRaise, api.LHandle, api.LJoin, api.LJoin, api.LJump, api.LJump, api.LText, 0, 16)
		e := api.Flat{Kind: kind, Id: c.below(4), N: int64(c.below(6) - 1), Ty: c.below(9) - 1, Name: oneOf(c, "+", "<>", "print", "putc", "update", "a")}
		if depth <= 0 {
			return e
		}
		for range c.below(4) {
			e.L = append(e.L, flat(depth-1))
		}
		if kind == api.LSwitch {
			for range c.below(3) {
				e.Nums = append(e.Nums, api.Arm{N: int64(c.below(4)), E: flat(depth - 1)})
				e.Shapes = append(e.Shapes, api.Arm{N: int64(c.below(6) - 1), E: flat(depth - 1)})
			}
		}
		for range c.below(4) {
			e.Params = append(e.Params, api.Slot{Id: c.below(4), Ty: c.below(9) - 1})
		}
		return e
	}
	p := basic(numbers, flat(6), slices.Repeat([]int{either}, c.below(3))...)
	p.Main = flat(6)
	return p
}

// P5: any programs of kinds that bind, jump and choose.
func TestAnyWaysEnd(t *testing.T) {
	t.Parallel()
	c := &chance{seed: 71}
	for range 40000 {
		answers(t, c.anyProgram())
	}
}

// thingsIn calls for each part of a thing.
func thingsIn(v reflect.Value, do func(v reflect.Value)) {
	do(v)
	switch v.Kind() {
	case reflect.Struct:
		for i := range v.NumField() {
			thingsIn(v.Field(i), do)
		}
	case reflect.Slice:
		for i := range v.Len() {
			thingsIn(v.Index(i), do)
		}
	}
}

// P5: programs of right types, with some parts changed.
func TestChangedProgramsEnd(t *testing.T) {
	t.Parallel()
	g := &maker{chance: chance{seed: 72}}
	for range 1500 {
		p := g.program()
		for range 4 {
			q := copyOf(p)
			for range 1 + g.below(3) {
				var all []reflect.Value
				thingsIn(reflect.ValueOf(&q).Elem(), func(v reflect.Value) { all = append(all, v) })
				v := all[g.below(len(all))]
				if v.Kind() == reflect.Slice && v.Len() > 0 && g.below(2) == 0 {
					v.Set(v.Slice(0, v.Len()-1))
				} else {
					g.fillIn(v, g.below(4))
				}
			}
			answers(t, q)
		}
	}
}

// copiedTo shares no list with the other.
func copiedTo(to, from reflect.Value) {
	switch from.Kind() {
	case reflect.Struct:
		for i := range from.NumField() {
			copiedTo(to.Field(i), from.Field(i))
		}
	case reflect.Slice:
		if from.IsNil() {
			return
		}
		to.Set(reflect.MakeSlice(from.Type(), from.Len(), from.Len()))
		for i := range from.Len() {
			copiedTo(to.Index(i), from.Index(i))
		}
	default:
		to.Set(from)
	}
}

func copyOf[E any](x E) E {
	var c E
	copiedTo(reflect.ValueOf(&c).Elem(), reflect.ValueOf(x))
	return c
}

// cleared makes all parts of a thing's lists zero, those that stand in others first.
func cleared(x any) {
	var all []reflect.Value
	thingsIn(reflect.ValueOf(x).Elem(), func(v reflect.Value) { all = append(all, v) })
	for _, v := range slices.Backward(all) {
		if v.Kind() == reflect.Slice {
			for i := range v.Len() {
				v.Index(i).SetZero()
			}
		}
	}
}

// Rules 4 and 6: what is handed in is not changed, spare room included, nor shared; the same is answered again.
func TestAnswersAreNewAndArgumentsStay(t *testing.T) {
	t.Parallel()
	g := &maker{chance: chance{seed: 74}}
	for range 500 {
		p := copyOf(g.program())
		thingsIn(reflect.ValueOf(&p).Elem(), func(v reflect.Value) { // each list has room, in which nothing stands
			if v.Kind() == reflect.Slice {
				room := reflect.MakeSlice(v.Type(), v.Len(), v.Len()+2)
				reflect.Copy(room, v)
				v.Set(room)
			}
		})
		before := copyOf(p)
		m, _ := Generate(p)
		kept := copyOf(m)
		n, _ := Generate(p)
		if !reflect.DeepEqual(copyOf(p), before) || !reflect.DeepEqual(m, n) {
			t.Fatal(toldFlat(p))
		}
		thingsIn(reflect.ValueOf(&p).Elem(), func(v reflect.Value) {
			if v.Kind() != reflect.Slice {
				return
			}
			for i := v.Len(); i < v.Cap(); i++ {
				if !v.Slice(0, v.Cap()).Index(i).IsZero() {
					t.Fatal("spare room was used")
				}
			}
		})
		cleared(&n)
		cleared(&p)
		if !reflect.DeepEqual(m, kept) {
			t.Fatal("shares lists")
		}
	}
}

// Rule 3: nil and empty lists are one.
func TestEmptyListsAreNone(t *testing.T) {
	g := &maker{chance: chance{seed: 75}}
	for range 500 {
		p := g.program()
		m, _ := Generate(p)
		q := copyOf(p)
		thingsIn(reflect.ValueOf(&q).Elem(), func(v reflect.Value) {
			if v.Kind() == reflect.Slice && v.Len() == 0 {
				v.Set(reflect.MakeSlice(v.Type(), 0, 3))
			}
		})
		if n, _ := Generate(q); !code.Same(m, n) {
			t.Fatal(toldFlat(p))
		}
	}
}

const deep = 1 << 16

// P5: expressions that go in as deep as promises hold.
func TestDeepestProgramsEnd(t *testing.T) {
	defer debug.SetGCPercent(debug.SetGCPercent(100))
	for name, in := range map[string]func(e api.Flat) api.Flat{
		"let of":      func(e api.Flat) api.Flat { return let(1, e, n(1)) },
		"let in":      func(e api.Flat) api.Flat { return let(1, n(0), e) },
		"let in more": func(e api.Flat) api.Flat { return let(1, number(1), e) },
		"new":         func(e api.Flat) api.Flat { return flat1(api.LNew, pairs1, 2, e, text("a")) },
		"raise":       raise,
		"prim":        func(e api.Flat) api.Flat { return prim("-", number(1), e) },
		"first":       func(e api.Flat) api.Flat { return prim("<>", e, n(0)) },
		"call":        func(e api.Flat) api.Flat { return call(50, numbers, e) },
		"handle":      func(e api.Flat) api.Flat { return handle(1, call(50, numbers, n(0)), e) },
		"handled":     func(e api.Flat) api.Flat { return handle(1, call(50, numbers, e), n(0)) },
		"way":         func(e api.Flat) api.Flat { return choice(n(0), numbers, []api.Arm{arm(0, e)}, nil, n(0)) },
		"other":       func(e api.Flat) api.Flat { return choice(n(0), numbers, []api.Arm{arm(0, n(0))}, nil, e) },
		"looked at":   func(e api.Flat) api.Flat { return choice(e, numbers, nil, nil, n(0)) },
		"join": func(e api.Flat) api.Flat {
			return join(2, []api.Slot{{Id: 1}}, e, jump(2, numbers, n(0)))
		},
		"joined": func(e api.Flat) api.Flat { return join(2, nil, n(0), e) },
		"jump":   func(e api.Flat) api.Flat { return join(2, []api.Slot{{Id: 1}}, n(1), jump(2, numbers, e)) },
	} {
		e := number(1)
		for range deep {
			e = in(e)
		}
		m, f := answers(t, basic(numbers, e, numbers))
		if small := name == "let in" || name == "joined" || name == "let of" || name == "raise"; small == (f != api.OK) || small && code.Size(m) > 20 {
			t.Error(name, f, code.Size(m))
		}
	}
}

// P5: very many of anything.
func TestWidestProgramsEnd(t *testing.T) {
	defer debug.SetGCPercent(debug.SetGCPercent(100))
	const many = 1 << 19
	var slots []api.Slot
	for i := range many {
		slots = append(slots, api.Slot{Id: i})
	}
	all := slices.Repeat([]api.Flat{n(0)}, many)
	arms := slices.Repeat([]api.Arm{arm(0, n(0))}, many)
	funs := slices.Repeat([]api.FlatFun{{E: n(0)}}, many)
	for name, e := range map[string]api.Flat{
		"parts":          flat1(api.LNew, pairs1, 2, all...),
		"jumped with":    join(1, slots, n(0), jump(1, numbers, all...)),
		"called with":    call(50, numbers, all...),
		"ways":           choice(n(0), numbers, arms, arms, n(0)),
		"too many parts": prim("+", all...),
	} {
		p := basic(numbers, e, numbers)
		answers(t, p)
		p.Funs = append(p.Funs, funs...)
		if _, f := answers(t, p); f == api.OK {
			t.Error(name)
		}
	}
	p := basic(numbers, n(0))
	p.Funs[0].Params = slots
	if _, f := answers(t, p); f == api.OK {
		t.Error("params")
	}
}

// P5: very much, shared by its parts, is soon too big.
func TestSharedPartsEnd(t *testing.T) {
	e := prim("+", number(1), number(2))
	for range 20 {
		e = prim("+", e, e)
	}
	if _, f := answers(t, basic(numbers, e, numbers)); f != api.ErrBig {
		t.Error(f)
	}
}
