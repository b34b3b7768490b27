package flat

import (
	"math"
	"reflect"
	"slices"
	"testing"

	"bellows/api"
)

// answers looks that Flatten and Order answer, the same again.
func answers(t *testing.T, p api.FProg) {
	t.Helper()
	if x, y := Flatten(p), Flatten(p); !reflect.DeepEqual(x, y) {
		t.Fatalf("%+v", p)
	}
	for _, name := range []string{"", "x", "A", "Nil", "true"} {
		n, is := Order(p, name)
		if m, was := Order(p, name); m != n || was != is || !is && n != 0 {
			t.Fatalf("%+v", p)
		}
	}
}

// fill makes up any thing, most of which nothing answers.
func (c *chance) fill(to any, depth int) { c.fillIn(reflect.ValueOf(to).Elem(), depth) }

func (c *chance) fillIn(v reflect.Value, depth int) {
	switch v.Kind() {
	case reflect.Struct:
		for i := range v.NumField() {
			c.fillIn(v.Field(i), depth)
		}
	case reflect.Slice:
		if depth <= 0 || c.below(3) > 0 {
			v.SetZero()
			return
		}
		n := c.below(4)
		v.Set(reflect.MakeSlice(v.Type(), n, n))
		for i := range n {
			c.fillIn(v.Index(i), depth-1)
		}
	case reflect.Int, reflect.Int64:
		v.SetInt(oneOf[int64](c, 0, 0, 1, 1, 2, 3, 3, 3, 4, 5, 5, 6, 6, 7, 8, 9, 9, 10, 12, 12, 13, -1, math.MinInt64, math.MaxInt64))
	case reflect.String:
		v.SetString(oneOf(c, "", "x", "A", "+", "!", "Cons", "Nil", "true", "list", "int", "ref", "t", "bool", "exn", "a@1", "fn@1"))
	case reflect.Bool:
		v.SetBool(c.below(2) == 0)
	}
}

// P5: any programs.
func TestAnyProgramsEnd(t *testing.T) {
	c := &chance{seed: 70}
	for range 60000 {
		var p api.FProg
		c.fill(&p, 5)
		answers(t, p)
	}
}

// anyPrograms are programs of few types, constructors and numbers, so that these often meet.
func (c *chance) anyProgram() api.FProg {
	num := xcon("int")
	types := []api.T{num, xtup(), xtup(num, num), xcon("t"), xcon("u"), xcon("w"), xcon("ref", num), xcon("ref"), xcon("array", xcon("t")), xtup(xcon("t"), num), xtup(num), xcon("exn"), xcon("string"), xcon("none"), {Kind: api.XFun}, {}, {Kind: api.XVar}, xcon("t", num), xcon("w", xcon("w"))}
	names := []string{"A", "B", "C", "D", "E", "F", "true", "X", "none"}
	var p api.FProg
	for _, name := range []string{"exn", "t", "u", "w", "t", "string"}[c.below(2):] {
		d := api.Data{Name: name}
		for range c.below(4) {
			d.Cons = append(d.Cons, api.DataCon{Name: oneOf(c, names...), Has: c.below(2) == 0, Arg: oneOf(c, types...)})
		}
		p.Datas = append(p.Datas, d)
	}
	var pat func(depth int) api.CPat
	pat = func(depth int) api.CPat {
		x := api.CPat{Kind: 1 + c.below(5), Id: c.below(6), N: int64(c.below(3)), Name: oneOf(c, names...), T: oneOf(c, types...)}
		for range c.below(max(depth, 1)) {
			x.L = append(x.L, pat(depth-1))
		}
		return x
	}
	var core func(depth int) api.Core
	core = func(depth int) api.Core {
		name := oneOf(c, append(names, "ref", "array", "!", ":=", "~", "+", "sub")...)
		k := api.Core{Kind: oneOf(c, api.KVar, api.KCon, api.KCon, api.KCase, api.KCase, api.KCase, api.KLet, api.KTuple, api.KHandle, api.KPrim, api.KRaise, api.KCall), Id: c.below(6), Name: name, T: oneOf(c, types...)}
		if depth <= 0 {
			return k
		}
		for range c.below(4) {
			k.L = append(k.L, core(depth-1))
		}
		for range c.below(5) {
			k.Ways = append(k.Ways, api.Way{P: pat(4), E: core(depth - 1)})
		}
		for range c.below(3) {
			k.Funs = append(k.Funs, api.CoreFun{Id: c.below(6), T: oneOf(c, types...), E: core(depth - 1)})
		}
		return k
	}
	p.Main = core(3)
	p.Funs = []api.FFun{{Id: 1, Params: []api.Param{{Id: 1, T: oneOf(c, types...)}}, Result: oneOf(c, types...), E: core(2)}}
	return p
}

// P5: any programs of kinds that take values apart.
func TestAnyPatternsEnd(t *testing.T) {
	c := &chance{seed: 71}
	for range 20000 {
		answers(t, c.anyProgram())
	}
}

// thingsIn calls for each part of a thing.
func thingsIn(v reflect.Value, do func(v reflect.Value)) {
	do(v)
	switch v.Kind() {
	case reflect.Struct:
		for i := range v.NumField() {
			thingsIn(v.Field(i), do)
		}
	case reflect.Slice:
		for i := range v.Len() {
			thingsIn(v.Index(i), do)
		}
	}
}

// P5: what Defun answers, with some parts changed.
func TestChangedProgramsEnd(t *testing.T) {
	t.Parallel()
	typed(t, 72, 400, func(g *author, src string, p api.FProg) {
		if len(src) > 2500 {
			return
		}
		for range 4 {
			q := copyOf(p)
			for range 1 + g.below(3) {
				var all []reflect.Value
				thingsIn(reflect.ValueOf(&q).Elem(), func(v reflect.Value) { all = append(all, v) })
				v := all[g.below(len(all))]
				if v.Kind() == reflect.Slice && v.Len() > 0 && g.below(2) == 0 {
					v.Set(v.Slice(0, v.Len()-1))
				} else {
					g.fillIn(v, g.below(4))
				}
			}
			answers(t, q)
		}
	})
}

// copiedTo shares no list with the other.
func copiedTo(to, from reflect.Value) {
	switch from.Kind() {
	case reflect.Struct:
		for i := range from.NumField() {
			copiedTo(to.Field(i), from.Field(i))
		}
	case reflect.Slice:
		if from.IsNil() {
			return
		}
		to.Set(reflect.MakeSlice(from.Type(), from.Len(), from.Len()))
		for i := range from.Len() {
			copiedTo(to.Index(i), from.Index(i))
		}
	default:
		to.Set(from)
	}
}

func copyOf[E any](x E) E {
	var c E
	copiedTo(reflect.ValueOf(&c).Elem(), reflect.ValueOf(x))
	return c
}

// cleared makes all parts of a thing's lists zero, those that stand in others first.
func cleared(x any) {
	var all []reflect.Value
	thingsIn(reflect.ValueOf(x).Elem(), func(v reflect.Value) { all = append(all, v) })
	for _, v := range slices.Backward(all) {
		if v.Kind() == reflect.Slice {
			for i := range v.Len() {
				v.Index(i).SetZero()
			}
		}
	}
}

// Rules 4 and 6: what is handed in is not changed, spare room included, nor shared; the same is answered again.
func TestAnswersAreNewAndArgumentsStay(t *testing.T) {
	typed(t, 74, 300, func(_ *author, src string, p api.FProg) {
		p = copyOf(p)
		thingsIn(reflect.ValueOf(&p).Elem(), func(v reflect.Value) { // each list has room, in which nothing stands
			if v.Kind() == reflect.Slice {
				room := reflect.MakeSlice(v.Type(), v.Len(), v.Len()+2)
				reflect.Copy(room, v)
				v.Set(room)
			}
		})
		before := copyOf(p)
		x := Flatten(p)
		kept := copyOf(x)
		y := Flatten(p)
		if !reflect.DeepEqual(copyOf(p), before) || !reflect.DeepEqual(x, y) {
			t.Fatal(src)
		}
		thingsIn(reflect.ValueOf(&p).Elem(), func(v reflect.Value) {
			if v.Kind() != reflect.Slice {
				return
			}
			for i := v.Len(); i < v.Cap(); i++ {
				if !v.Slice(0, v.Cap()).Index(i).IsZero() {
					t.Fatal(src, "spare room was used")
				}
			}
		})
		for _, other := range []any{&y, &p} {
			cleared(other)
			if !reflect.DeepEqual(x, kept) {
				t.Fatal(src, "shares lists")
			}
		}
	})
}

// Rule 3: nil and empty lists are one.
func TestEmptyListsAreNone(t *testing.T) {
	typed(t, 75, 200, func(_ *author, src string, p api.FProg) {
		x := Flatten(p)
		q := copyOf(p)
		thingsIn(reflect.ValueOf(&q).Elem(), func(v reflect.Value) {
			if v.Kind() == reflect.Slice && v.Len() == 0 {
				v.Set(reflect.MakeSlice(v.Type(), 0, 3))
			}
		})
		if y := Flatten(q); toldFlat(x) != toldFlat(y) {
			t.Fatal(src)
		}
	})
}
