package flat

import (
	"slices"
	"strconv"
	"strings"
	"testing"

	"bellows/api"
)

// pairing holds an answer against its program and the chapter's words.
type pairing struct {
	*model
	t      testing.TB
	src    string
	p      api.FProg
	x      api.FlatProg
	shapes map[int]string // what shapes are of: "con " and a constructor, else a type
	of     map[string]int // the other way round
	stood  map[string]int // types' numbers, that were looked at
	vars   map[int]api.T  // of the program
	random *chance        // if not nil: a few ways of each switch are looked at
	count  map[string]int
}

// paired holds an answer against its program: P12.1 to P12.4.
func paired(t testing.TB, src string, p api.FProg, x api.FlatProg, random *chance) *pairing {
	t.Helper()
	c := &pairing{model: newModel(p), t: t, src: src, p: p, x: x, shapes: map[int]string{}, of: map[string]int{}, stood: map[string]int{}, vars: map[int]api.T{}, random: random, count: map[string]int{}}
	c.must(len(x.Types) > 1 && same(x.Types[0], api.Type{Imm: true}) && same(x.Types[1], api.Type{Shapes: []int{0}}), "the first types", x.Types)
	c.must(len(x.Shapes) > 0 && x.Shapes[0].Kind == api.Bytes && len(x.Shapes[0].Fields) == 0, "the first shape", x.Shapes)
	c.exceptions()
	c.data()
	c.must(len(x.Funs) == len(p.Funs), "how many functions", len(x.Funs))
	for i := range p.Funs {
		c.function(&p.Funs[i], &x.Funs[i])
	}
	c.core(&p.Main, &x.Main)
	c.all()
	return c
}

func (c *pairing) must(is bool, what string, x any) {
	if !is {
		c.t.Helper()
		c.t.Fatalf("%s: %+v: %s", what, x, short(c.src))
	}
}

func same(a, b api.Type) bool { return a.Imm == b.Imm && slices.Equal(a.Shapes, b.Shapes) }

// exceptions: Names, Exn, and what is said of them by the chapter.
func (c *pairing) exceptions() {
	var names []string
	for _, k := range c.p.Datas[0].Cons {
		if !k.Has {
			name, _, _ := strings.Cut(k.Name, "#")
			names = append(names, name)
		}
	}
	c.must(slices.Equal(c.x.Names, names), "Names", c.x.Names)
	c.stands(api.T{Kind: api.XCon, Name: "exn"}, c.x.Exn)
}

// stands looks that values of a type stand as a type of the answer says.
func (c *pairing) stands(t api.T, ty int) {
	key := toldT(t)
	if was, is := c.stood[key]; is {
		c.must(was == ty, "two types of one", key)
		return
	}
	c.must(ty >= 0 && ty < len(c.x.Types), "a type's number", ty)
	c.stood[key] = ty
	x := c.x.Types[ty]
	is := func(imm bool, shapes int) {
		c.must(x.Imm == imm && len(x.Shapes) == shapes && slices.IsSorted(x.Shapes), "how stands "+key, x)
	}
	d := c.datas[t.Name]
	switch {
	case t.Kind == api.XTup && len(t.L) == 0, t.Name == "int":
		c.must(ty == 0, "the type of numbers", ty)
	case t.Name == "string":
		c.must(ty == 1, "the type of texts", ty)
	case t.Kind == api.XTup || t.Name == "ref":
		is(false, 1)
		c.shape(key, x.Shapes[0], api.Record, "", t.L)
	case t.Name == "array":
		is(false, 1)
		c.shape(key, x.Shapes[0], api.Array, "", t.L)
	case d == nil:
		c.must(false, "no type", key)
	case c.through(d):
		c.stands(d.Cons[0].Arg, ty)
	default:
		is(numbersOf(d) > 0, len(d.Cons)-numbersOf(d))
		c.datatype(d, x.Shapes)
	}
}

// datatype looks at the shapes of one: here they are in the order of the constructors.
func (c *pairing) datatype(d *api.Data, shapes []int) {
	for i := range d.Cons {
		k := c.cons[d.Cons[i].Name]
		if !k.Has {
			continue
		}
		name := ""
		if d == &c.p.Datas[0] {
			name, _, _ = strings.Cut(k.Name, "#")
		}
		c.shape("con "+k.Name, shapes[0], api.Record, name, k.has())
		shapes = shapes[1:]
	}
}

// shape looks that a shape is of one thing alone, and which fields it has.
func (c *pairing) shape(of string, n, kind int, name string, parts []api.T) {
	was, is := c.of[of]
	c.must(!is || was == n, "two shapes of one", of)
	c.must(n > 0 && n < len(c.x.Shapes), "a shape's number", n)
	c.must(c.shapes[n] == "" || c.shapes[n] == of, "one shape of two: "+of, c.shapes[n])
	c.of[of], c.shapes[n] = n, of
	s := c.x.Shapes[n]
	c.must(s.Kind == kind && s.Name == name && len(s.Fields) == len(parts), "the shape of "+of, s)
	if is {
		return
	}
	for i, t := range parts {
		c.stands(t, s.Fields[i])
	}
}

// data looks how each datatype stands, as newStanding says.
func (c *pairing) data() {
	s := newStanding(c.p.Datas)
	for i := range c.p.Datas {
		name := c.p.Datas[i].Name
		c.stands(api.T{Kind: api.XCon, Name: name}, s.datas[name].as)
	}
}

// all looks that there is no shape of nothing, and no type twice.
func (c *pairing) all() {
	for n := range c.x.Shapes[1:] {
		c.must(c.shapes[n+1] != "", "a shape of nothing", n+1)
	}
	for i, a := range c.x.Types {
		for _, b := range c.x.Types[:i] {
			c.must(!same(a, b), "a type twice", a)
		}
	}
}

func (c *pairing) function(f *api.FFun, x *api.FlatFun) {
	c.must(x.Id == f.Id && len(x.Params) == len(f.Params), "a function", x)
	for i, p := range f.Params {
		c.must(x.Params[i].Id == p.Id, "a parameter", p)
		c.stands(p.T, x.Params[i].Ty)
	}
	c.stands(f.Result, x.Result)
	c.core(&f.E, &x.E)
}

func (c *pairing) each(l []api.Core, x []api.Flat) {
	c.must(len(l) == len(x), "how many parts", x)
	for i := range l {
		c.core(&l[i], &x[i])
	}
}

// core: P12.3.
func (c *pairing) core(k *api.Core, x *api.Flat) {
	is := func(kind int) {
		c.must(x.Kind == kind, "another kind than "+strconv.Itoa(kind)+" of "+strconv.Itoa(k.Kind), x)
	}
	switch k.Kind {
	case api.KInt:
		is(api.LInt)
		c.must(x.N == k.N && x.Ty == 0, "a number", x)
	case api.KText:
		is(api.LText)
		c.must(x.Name == k.Name && x.Ty == 1, "a text", x)
	case api.KVar:
		is(api.LVar)
		c.must(x.Id == k.Id, "a variable", x)
	case api.KCall:
		is(api.LCall)
		c.must(x.Id == k.Id, "a function's number", x)
		c.each(k.L, x.L)
		c.stands(k.T, x.Ty)
	case api.KRaise:
		is(api.LRaise)
		c.each(k.L, x.L)
		c.stands(k.T, x.Ty)
	case api.KHandle:
		is(api.LHandle)
		c.must(x.Id == k.Id && len(x.L) == 2 && x.L[0].Kind == api.LCall, "a handle", x)
		c.each(k.L, x.L[:1])
		c.stands(k.T, x.Ty)
		c.ways(k, x.Id, c.x.Exn, api.T{Kind: api.XCon, Name: "exn"}, &x.L[1])
	case api.KLet:
		is(api.LLet)
		c.must(x.Id == k.Funs[0].Id && len(x.L) == 2, "a variable that is bound", x)
		c.core(&k.Funs[0].E, &x.L[0])
		c.core(&k.L[0], &x.L[1])
	case api.KTuple:
		c.tuple(k, x)
	case api.KCon:
		c.con(k, x)
	case api.KPrim:
		c.prim(k, x)
	case api.KCase:
		is(api.LLet)
		c.core(&k.L[0], &x.L[0])
		c.ways(k, x.Id, x.L[0].Ty, k.L[0].T, &x.L[1])
	default:
		c.must(false, "a core", k)
	}
}

func (c *pairing) tuple(k *api.Core, x *api.Flat) {
	c.stands(k.T, x.Ty)
	if len(k.L) == 0 {
		c.must(x.Kind == api.LInt && x.N == 0, "()", x)
		return
	}
	c.must(x.Kind == api.LNew && c.shapes[int(x.N)] == toldT(k.T), "a tuple", x)
	c.each(k.L, x.L)
}

func (c *pairing) con(k *api.Core, x *api.Flat) {
	con := c.cons[k.Name]
	n, is := con.number()
	if is {
		c.must(x.Kind == api.LInt && x.N == int64(n) && x.Ty == 0, "a constructor that has nothing", x)
		m, is := Order(c.p, k.Name)
		c.must(is && m == n, "Order", m)
		return
	}
	if c.through(con.all) {
		c.core(&k.L[0], x)
		return
	}
	of, l := x, k.L
	parted := len(con.has()) > 1
	switch {
	case parted && k.L[0].Kind == api.KTuple:
		l = k.L[0].L
	case parted: // a tuple that stands by itself is taken apart
		c.must(x.Kind == api.LLet, "a constructor of a tuple that there is", x)
		c.core(&k.L[0], &x.L[0])
		of, l = &x.L[1], nil
		for i, f := range of.L {
			c.must(f.Kind == api.LField && f.N == int64(i) && f.L[0].Kind == api.LVar && f.L[0].Id == x.Id, "a part", f)
		}
	}
	n = int(of.N)
	c.must(of.Kind == api.LNew && n > 0 && n < len(c.x.Shapes) && same(c.x.Types[of.Ty], api.Type{Shapes: []int{n}}), "a constructor", x)
	name := ""
	if con.all == &c.p.Datas[0] {
		name, _, _ = strings.Cut(k.Name, "#")
	}
	c.shape("con "+k.Name, n, api.Record, name, con.has())
	if l != nil {
		c.each(l, of.L)
	}
	c.must(len(of.L) == len(con.has()), "how many parts", of)
}

func (c *pairing) prim(k *api.Core, x *api.Flat) {
	kinds := map[string]int{"ref": api.LNew, "!": api.LField, ":=": api.LSet, "array": api.LArray}
	l := x.L
	kind, is := kinds[k.Name]
	switch {
	case k.Name == "~":
		c.must(x.Kind == api.LPrim && x.Name == "-" && len(l) == 2 && l[0].Kind == api.LInt && l[0].N == 0 && l[0].Ty == 0, "~", x)
		l = l[1:]
	case is:
		c.must(x.Kind == kind && x.Name == "", k.Name, x)
	default:
		c.must(x.Kind == api.LPrim && x.Name == k.Name, k.Name, x)
	}
	c.stands(k.T, x.Ty)
	if kind == api.LNew || kind == api.LArray {
		c.must(c.shapes[int(x.N)] == toldT(k.T), "the shape of a "+k.Name, x)
	} else {
		c.must(x.N == 0, "a field", x)
	}
	c.each(k.L, l)
}
