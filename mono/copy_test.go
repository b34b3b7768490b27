package mono

import (
	"maps"
	"reflect"
	"slices"
	"strconv"
	"strings"
	"testing"

	"bellows/api"
)

// copier holds an answer against the program that it was made of: P10.2, P10.3. It goes over both of them, and finds out which name, which number stands for which instance.
type copier struct {
	t     testing.TB
	src   string
	p, q  api.Prog
	m     *model
	names map[string]string // the instances' names, by the types as they are written out
	types map[string]api.T  // the types, by these names
	bound map[int]bool      // all numbers of variables
	nums  map[int]reach     // which instances they are
	taken map[string]int
}

// reach is an instance: where its variable is bound, and the row.
type reach struct {
	at  string
	row string
}

// copied looks that q is what P10.2 says of p.
func copied(t testing.TB, src string, p, q api.Prog) *model {
	t.Helper()
	c := &copier{t: t, src: src, p: p, q: q, m: reached(p), names: map[string]string{}, types: map[string]api.T{}, bound: map[int]bool{}, nums: map[int]reach{}, taken: map[string]int{}}
	c.core(&p.Main, &q.Main, scope{inside{at: map[int]string{}}, map[int]int{}})
	c.datas()
	if n := len(c.nums) + len(q.Datas); n != c.m.count {
		c.wrong("instances", n, c.m.count)
	}
	return c.m
}

// scope is where something stands in the program, and which numbers variables without instances have in the copy.
type scope struct {
	inside
	vars map[int]int
}

func (c *copier) wrong(what string, x ...any) {
	c.t.Helper()
	c.t.Fatalf("%s: %s: %v\n%s\n%s", short(c.src), what, x, short(toldMain(c.p)), short(toldProg(c.q)))
}

func (c *copier) must(is bool, what string, x ...any) {
	if !is {
		c.t.Helper()
		c.wrong(what, x...)
	}
}

// pair takes an instance and a name for one another.
func (c *copier) pair(t api.T, name string) bool {
	told := toldT(t)
	was, is := c.names[told]
	of, there := c.types[name]
	if is || there {
		return is && there && was == name && toldT(of) == told
	}
	c.names[told], c.types[name] = name, t
	return true
}

// typ: is y the type t, without type variables?
func (c *copier) typ(t, y api.T) bool {
	if y.N != 0 || y.Kind != t.Kind {
		return false
	}
	if t.Kind == api.XCon && dataOf(c.p, t.Name) != nil {
		return len(y.L) == 0 && c.m.datas[toldT(t)].Kind != 0 && c.pair(t, y.Name)
	}
	return y.Name == t.Name && slices.EqualFunc(t.L, y.L, c.typ)
}

func (c *copier) is(t api.T, by map[int]api.T, y api.T) {
	c.must(c.typ(closed(t, by), y), "a type", t, y)
}

// bind: each number is bound once.
func (c *copier) bind(n int) {
	c.must(!c.bound[n], "a number twice", n)
	c.bound[n] = true
}

// mark is what stands behind a datatype's name, and its constructors'.
func mark(name string) string {
	if i := strings.Index(name, "@"); i >= 0 {
		return name[i:]
	}
	return ""
}

// rest is what of a core is looked at by itself.
func rest(c api.Core) api.Core {
	c.Id, c.Name, c.T, c.Inst, c.L, c.Ways, c.Funs = 0, "", api.T{}, nil, nil, nil, nil
	return c
}

func (c *copier) core(x, y *api.Core, in scope) {
	switch x.Kind {
	case api.KLet:
		c.let(x, y, in)
		return
	case api.KFix:
		c.fix(x, y, in)
		return
	}
	c.must(reflect.DeepEqual(rest(*x), rest(*y)) && len(y.Inst) == 0 && len(y.Funs) == 0 && len(x.L) == len(y.L) && len(x.Ways) == len(y.Ways), "a core", y.Kind)
	c.is(x.T, in.by, y.T)
	name, id := x.Name, x.Id
	switch x.Kind {
	case api.KVar:
		c.mention(x, y, in)
		id = y.Id
	case api.KCon:
		d, _ := conOf(c.p, x.Name)
		name += mark(c.names[toldT(api.T{Kind: api.XCon, Name: d.Name, L: closedRow(x.Inst, in.by)})])
	case api.KFn, api.KHandle:
		c.bind(y.Id)
		in.vars[id] = y.Id
		id = y.Id
	}
	c.must(y.Name == name && y.Id == id, "a name", y.Name, y.Id)
	for i := range x.L {
		c.core(&x.L[i], &y.L[i], in)
	}
	for i := range x.Ways {
		c.pat(&x.Ways[i].P, &y.Ways[i].P, in)
		c.core(&x.Ways[i].E, &y.Ways[i].E, in)
	}
}

func (c *copier) mention(x, y *api.Core, in scope) {
	at := in.at[x.Id]
	if at == "" {
		n, is := in.vars[x.Id]
		c.must(is && n == y.Id, "a variable", x.Id, y.Id)
		return
	}
	r := reach{at, toldRow(closedRow(x.Inst, in.by))}
	was, is := c.nums[y.Id]
	if !is {
		told := r.at + r.row
		c.taken[told]++
		c.must(c.taken[told] == 1, "an instance with two numbers", r)
		c.nums[y.Id] = r
		return
	}
	c.must(was == r, "a number for two instances", was, r)
}

func (c *copier) pat(x, y *api.CPat, in scope) {
	c.is(x.T, in.by, y.T)
	name, id := x.Name, x.Id
	switch x.Kind {
	case api.PVar:
		c.bind(y.Id)
		in.vars[id] = y.Id
		id = y.Id
	case api.PCon:
		name += mark(y.T.Name)
	}
	c.must(y.Kind == x.Kind && y.N == x.N && y.Name == name && y.Id == id && len(x.L) == len(y.L), "a pattern", y.Kind)
	for i := range x.L {
		c.pat(&x.L[i], &y.L[i], in)
	}
}

// let is several KLets, or none.
func (c *copier) let(x, y *api.Core, in scope) {
	f := &x.Funs[0]
	in.at[f.Id] = in.inside.bound(f.Id)
	n := len(c.m.rows[in.at[f.Id]])
	if n == 0 {
		c.unbound(x, y, in)
		return
	}
	var funs []api.CoreFun
	for range n {
		c.must(y.Kind == api.KLet && len(y.Funs) == 1 && len(y.L) == 1, "a KLet for each instance", n)
		c.is(x.T, in.by, y.T)
		funs = append(funs, y.Funs[0])
		y = &y.L[0]
	}
	c.core(&x.L[0], y, in)
	c.funs(x.Funs, funs, in)
}

func (c *copier) unbound(x, y *api.Core, in scope) {
	f := &x.Funs[0]
	if nothingDone(&f.E) {
		c.core(&x.L[0], y, in)
		return
	}
	c.must(y.Kind == api.KCase && len(y.L) == 1 && len(y.Ways) == 1 && len(y.Funs)+len(y.Inst)+y.Id+int(y.N) == 0 && y.Name == "", "a KCase of what is done")
	c.is(x.T, in.by, y.T)
	p := y.Ways[0].P
	c.is(f.T, in.by, p.T)
	p.T = api.T{}
	c.must(reflect.DeepEqual(p, api.CPat{Kind: api.PAny}), "the pattern PAny", p)
	c.core(&f.E, &y.L[0], scope{in.instance(f, nil), in.vars})
	c.core(&x.L[0], &y.Ways[0].E, in)
}

func (c *copier) fix(x, y *api.Core, in scope) {
	n := 0
	for _, f := range x.Funs {
		in.at[f.Id] = in.inside.bound(f.Id)
		n += len(c.m.rows[in.at[f.Id]])
	}
	if n == 0 {
		c.core(&x.L[0], y, in)
		return
	}
	c.must(y.Kind == api.KFix && len(y.Funs) == n && len(y.L) == 1 && len(y.Ways)+len(y.Inst)+y.Id+int(y.N) == 0 && y.Name == "", "a KFix of the instances", n)
	c.is(x.T, in.by, y.T)
	c.core(&x.L[0], &y.L[0], in)
	c.funs(x.Funs, y.Funs, in)
}

// funs looks at the instances, those first that are known already by what reaches them.
func (c *copier) funs(l, made []api.CoreFun, in scope) {
	for len(made) > 0 {
		i := slices.IndexFunc(made, func(g api.CoreFun) bool { _, is := c.nums[g.Id]; return is })
		c.must(i >= 0, "functions that nothing reaches", len(made))
		c.fun(l, &made[i], in)
		made = slices.Concat(made[:i], made[i+1:])
	}
}

func (c *copier) fun(l []api.CoreFun, g *api.CoreFun, in scope) {
	c.bind(g.Id)
	c.must(len(g.Gen) == 0, "a Gen", g.Gen)
	r := c.nums[g.Id]
	for i := range l {
		f := &l[i]
		if in.inside.bound(f.Id) != r.at {
			continue
		}
		for _, row := range c.m.rows[r.at] {
			if toldRow(row) == r.row {
				within := in.instance(f, row)
				c.is(f.T, within.by, g.T)
				c.core(&f.E, &g.E, scope{within, in.vars})
				return
			}
		}
	}
	c.wrong("a function that isn't bound here", r)
}

// datas looks at the datatypes: each instance once, exn first, then bool, each with the types of its row.
func (c *copier) datas() {
	l := c.q.Datas
	c.must(len(l) == len(c.m.datas) && len(l) >= 2 && l[0].Name == "exn" && l[1].Name == "bool", "Datas", len(l))
	c.must(c.pair(api.T{Kind: api.XCon, Name: "exn"}, "exn") && c.pair(api.T{Kind: api.XCon, Name: "bool"}, "bool"), "exn and bool")
	there, marks := map[string]bool{}, map[string]bool{}
	for _, d := range l {
		c.must(!there[d.Name], "a datatype twice", d.Name)
		there[d.Name] = true
		if k := mark(d.Name); k != "" {
			n, err := strconv.Atoi(k[1:])
			c.must(!marks[k] && err == nil && n >= 0, "a number", d.Name)
			marks[k] = true
		}
	}
	done := map[string]bool{}
	for len(done) < len(l) {
		i := slices.IndexFunc(l, func(d api.Data) bool { return !done[d.Name] && c.types[d.Name].Kind != 0 })
		if i < 0 { // it is reached only where the answer has no type any more
			i = slices.IndexFunc(l, func(d api.Data) bool { return !done[d.Name] })
			c.guess(l[i])
		}
		c.must(c.data(l[i], c.types[l[i].Name]), "a datatype", l[i].Name)
		done[l[i].Name] = true
	}
}

// guess finds a type that the datatype may be.
func (c *copier) guess(d api.Data) {
	for _, told := range slices.Sorted(maps.Keys(c.m.datas)) {
		names, types := maps.Clone(c.names), maps.Clone(c.types)
		if t := c.m.datas[told]; c.names[told] == "" && c.pair(t, d.Name) && c.data(d, t) {
			return
		}
		c.names, c.types = names, types
	}
	c.wrong("a datatype that isn't reached", d)
}

func (c *copier) data(d api.Data, t api.T) bool {
	of, m := dataOf(c.p, t.Name), mark(d.Name)
	if d.Name != t.Name+m || (m == "") != (len(t.L) == 0) || len(d.Vars) != 0 || len(d.Cons) != len(of.Cons) {
		return false
	}
	for i, k := range of.Cons {
		x := d.Cons[i]
		if x.Name != k.Name+m || x.Has != k.Has || !x.Has && !reflect.DeepEqual(x.Arg, api.T{}) {
			return false
		}
		if x.Has && !c.typ(closed(k.Arg, rowOf(of, t.L)), x.Arg) {
			return false
		}
	}
	return true
}
