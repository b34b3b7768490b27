package defun

import (
	"reflect"
	"slices"
	"testing"

	"bellows/api"
)

// pairer holds an answer against the program that it was made of: P11.1, P11.2. It goes over both of them, and finds out which datatype stands for which class, which function and which constructor for which KFn.
type pairer struct {
	t       testing.TB
	src     string
	p       api.Prog
	x       api.FProg
	m       *model
	names   map[int]string // the classes' datatypes
	labels  map[string]int // the classes, by these
	funs    map[int]*api.FFun
	own     map[int]*api.FFun    // functions of KFn, by these
	cons    map[int]string       // constructors of KFn
	callers map[string]*api.FFun // by the classes' datatypes
	seen    map[int]int          // how often a function was come to
}

// paired looks that x is what P11.2 says of p.
func paired(t testing.TB, src string, p api.Prog, x api.FProg) *pairer {
	t.Helper()
	c := &pairer{
		t: t, src: src, p: p, x: x, names: map[int]string{}, labels: map[string]int{}, funs: map[int]*api.FFun{},
		own: map[int]*api.FFun{}, cons: map[int]string{}, callers: map[string]*api.FFun{}, seen: map[int]int{},
	}
	c.m = newModel(&c.p)
	c.functions()
	c.core(&c.p.Main, &c.x.Main)
	c.bodies()
	c.datas()
	c.calls()
	c.must(len(c.seen) == len(x.Funs), "functions of nothing", len(c.seen), len(x.Funs))
	return c
}

func (c *pairer) must(is bool, what string, x ...any) {
	if !is {
		c.t.Helper()
		c.t.Fatalf("%s: %s: %v\n%s", short(c.src), what, x, short(toldProg(c.p, c.x)))
	}
}

// functions finds each KFn's function: that whose last parameter is what the KFn is called with, and which isn't a KHandle's.
func (c *pairer) functions() {
	handled := map[int]bool{}
	var visit func(k *api.Core)
	visit = func(k *api.Core) {
		if k.Kind == api.KHandle && len(k.L) == 1 && k.L[0].Kind == api.KCall {
			handled[k.L[0].Id] = true
		}
		inside(k, visit)
	}
	visit(&c.x.Main)
	for i := range c.x.Funs {
		visit(&c.x.Funs[i].E)
	}
	for i := range c.x.Funs {
		f := &c.x.Funs[i]
		c.must(c.funs[f.Id] == nil, "a function's number twice", f.Id)
		c.funs[f.Id] = f
		if n := len(f.Params); n > 0 && !handled[f.Id] && c.m.fns[f.Params[n-1].Id] != nil {
			id := f.Params[n-1].Id
			c.must(c.own[id] == nil, "a KFn with two functions", id)
			c.own[id] = f
		}
	}
	c.must(len(c.own) == len(c.m.fns), "KFn without a function", len(c.own), len(c.m.fns))
}

// class takes a class and a datatype for one another.
func (c *pairer) class(at int, t api.T) bool {
	l := c.m.label[at]
	was, is := c.names[l]
	of, there := c.labels[t.Name]
	if is || there {
		return is && there && was == t.Name && of == l && len(t.L) == 0
	}
	for _, d := range c.p.Datas {
		if d.Name == t.Name {
			return false
		}
	}
	c.names[l], c.labels[t.Name] = t.Name, l
	return t.Kind == api.XCon && len(t.L) == 0
}

// typ: is y the type t, of what is laid into something?
func (c *pairer) typ(t, y api.T) bool {
	if t.Kind == api.XFun {
		return c.class(c.m.held(t), y)
	}
	return y.N == 0 && y.Kind == t.Kind && y.Name == t.Name && slices.EqualFunc(t.L, y.L, c.typ)
}

// is: is y the type t, of what comes to a place?
func (c *pairer) is(at int, t, y api.T) {
	is := at >= 0 && c.class(at, y) || at < 0 && c.typ(t, y)
	c.must(is, "a type", toldT(t), toldT(y))
}

// rest is what of a core is looked at by itself.
func rest(c api.Core) api.Core {
	c.T, c.L, c.Ways, c.Funs = api.T{}, nil, nil, nil
	return c
}

func (c *pairer) core(x, y *api.Core) {
	if x.Kind == api.KFix {
		c.core(&x.L[0], y)
		return
	}
	c.is(c.m.cores[x], x.T, y.T)
	switch x.Kind {
	case api.KVar:
		if fn := c.m.named[x.Id]; fn != nil {
			c.value(fn, y)
			return
		}
	case api.KFn:
		c.value(x, y)
		return
	case api.KApp:
		c.app(x, y)
		return
	}
	c.must(reflect.DeepEqual(rest(*x), rest(*y)) && len(x.L) == len(y.L) && len(x.Ways) == len(y.Ways) && len(x.Funs) == len(y.Funs), "a core", x.Kind, y.Kind)
	if x.Kind == api.KHandle {
		c.handled(x, &y.L[0])
	}
	for i := range x.L {
		if x.Kind != api.KHandle {
			c.core(&x.L[i], &y.L[i])
		}
	}
	for i := range x.Funs {
		f, g := &x.Funs[i], &y.Funs[i]
		c.must(f.Id == g.Id && len(g.Gen) == 0, "a variable", f.Id, g.Id)
		c.is(c.m.vars[f.Id], f.T, g.T)
		c.core(&f.E, &g.E)
	}
	for i := range x.Ways {
		c.pat(&x.Ways[i].P, &y.Ways[i].P, c.from(x))
		c.core(&x.Ways[i].E, &y.Ways[i].E)
	}
}

// from is where that comes from which a core's ways are held against.
func (c *pairer) from(x *api.Core) int {
	if x.Kind == api.KCase {
		return c.m.cores[&x.L[0]]
	}
	return -1
}

func (c *pairer) pat(x, y *api.CPat, from int) {
	c.is(from, x.T, y.T)
	c.must(x.Kind == y.Kind && x.Id == y.Id && x.Name == y.Name && x.N == y.N && len(x.L) == len(y.L), "a pattern", x.Kind, y.Kind)
	for i := range x.L {
		at := -1
		if t := x.L[i].T; t.Kind == api.XFun {
			at = c.m.held(t)
		}
		c.pat(&x.L[i], &y.L[i], at)
	}
}

// variables: are these mentions of what is known?
func (c *pairer) variables(l []api.Core, ids []int) {
	c.must(len(l) == len(ids), "what is known", ids)
	for i, v := range l {
		c.must(reflect.DeepEqual(rest(v), api.Core{Kind: api.KVar, Id: ids[i]}) && len(v.L) == 0, "a variable that is known", v, ids)
		c.is(c.m.vars[ids[i]], c.m.typOf[ids[i]], v.T)
	}
}

// knows is what a KFn knows, in the order of its function's parameters.
func (c *pairer) knows(fn *api.Core) []int {
	return c.params(c.own[fn.Id].Params[:len(c.own[fn.Id].Params)-1], c.m.know[fn.Id])
}

// params: do these take just what must be known?
func (c *pairer) params(l []api.Param, know []int) []int {
	var ids []int
	for _, p := range l {
		ids = append(ids, p.Id)
		at, is := c.m.vars[p.Id]
		c.must(is, "a parameter that is no variable", p.Id)
		c.is(at, c.m.typOf[p.Id], p.T)
	}
	c.must(slices.Equal(slices.Sorted(slices.Values(ids)), know), "what a function knows", ids, know)
	return ids
}

// packed: is that nothing, the one, or a tuple of what is known?
func (c *pairer) packed(l []api.Core, ids []int) {
	switch len(ids) {
	case 0, 1:
		c.variables(l, ids)
	default:
		c.must(len(l) == 1 && reflect.DeepEqual(rest(l[0]), api.Core{Kind: api.KTuple}), "a tuple of what is known", ids)
		c.variables(l[0].L, ids)
		c.must(toldT(l[0].T) == "("+joined(l[0].L, ", ", func(v api.Core) string { return toldT(v.T) })+")", "the tuple's type", toldT(l[0].T))
	}
}

// value: is y the KCon of a KFn?
func (c *pairer) value(fn, y *api.Core) {
	c.must(c.m.value[fn.Id], "a KFn that is no value", fn.Id)
	c.is(c.m.cores[fn], fn.T, y.T)
	if c.cons[fn.Id] == "" {
		c.cons[fn.Id] = y.Name
	}
	c.must(reflect.DeepEqual(rest(*y), api.Core{Kind: api.KCon, Name: c.cons[fn.Id]}) && len(y.Ways)+len(y.Funs) == 0, "a value that stands for a KFn", y)
	c.packed(y.L, c.knows(fn))
}

func (c *pairer) app(x, y *api.Core) {
	f := &x.L[0]
	c.must(y.Kind == api.KCall && y.Name == "" && y.N == 0 && len(y.L) > 0 && len(y.Inst)+len(y.Ways)+len(y.Funs) == 0, "a KCall", y)
	last := &y.L[len(y.L)-1]
	if fn := c.m.named[f.Id]; f.Kind == api.KVar && fn != nil {
		c.must(y.Id == c.own[fn.Id].Id, "another function is called", y.Id)
		c.variables(y.L[:len(y.L)-1], c.knows(fn))
	} else {
		c.must(len(y.L) == 2, "what a class's function is called with", len(y.L))
		c.core(f, &y.L[0])
		name := y.L[0].T.Name
		if c.callers[name] == nil {
			c.must(c.funs[y.Id] != nil, "no function", y.Id)
			c.callers[name] = c.funs[y.Id]
		}
		c.must(c.callers[name].Id == y.Id, "a class has two functions", name)
	}
	c.core(&x.L[1], last)
}

// handled: is y a KCall of what a KHandle's L is?
func (c *pairer) handled(x, y *api.Core) {
	f := c.funs[y.Id]
	c.must(reflect.DeepEqual(rest(*y), api.Core{Kind: api.KCall, Id: y.Id}) && f != nil, "a KCall of what a KHandle's L is", y)
	c.seen[f.Id]++
	c.must(c.seen[f.Id] == 1, "a KHandle's function is another's too", f.Id)
	c.variables(y.L, c.params(f.Params, c.m.know[x.Id]))
	c.is(c.m.cores[&x.L[0]], x.L[0].T, y.T)
	c.is(c.m.cores[&x.L[0]], x.L[0].T, f.Result)
	c.core(&x.L[0], &f.E)
}

// bodies looks at the functions of the KFn.
func (c *pairer) bodies() {
	for id, fn := range c.m.fns {
		f := c.own[id]
		c.seen[f.Id]++
		c.must(c.seen[f.Id] == 1, "a KFn's function is another's too", f.Id)
		c.knows(fn)
		c.is(c.m.vars[id], fn.T.L[0], f.Params[len(f.Params)-1].T)
		c.is(c.m.cores[&fn.L[0]], fn.L[0].T, f.Result)
		c.core(&fn.L[0], &f.E)
	}
}

// datas looks at the datatypes: those of p, as they were, and one for each class, with a constructor for each KFn that is a value.
func (c *pairer) datas() {
	n := len(c.p.Datas)
	c.must(len(c.x.Datas) >= n, "Datas", len(c.x.Datas))
	for i, d := range c.p.Datas {
		y := c.x.Datas[i]
		c.must(y.Name == d.Name && len(y.Vars) == 0 && slices.EqualFunc(d.Cons, y.Cons, func(a, b api.DataCon) bool {
			return a.Name == b.Name && a.Has == b.Has && (a.Has && c.typ(a.Arg, b.Arg) || !a.Has && reflect.DeepEqual(b.Arg, api.T{}))
		}), "a datatype of p", d.Name)
	}
	of := map[string][]string{} // the constructors that a class must have
	for id, fn := range c.m.fns {
		if c.m.value[id] {
			c.must(c.cons[id] != "", "a KFn that is a value, without a constructor", id)
			name := c.names[c.m.label[c.m.cores[fn]]]
			of[name] = append(of[name], c.cons[id])
		}
	}
	for _, d := range c.x.Datas[n:] {
		_, is := c.labels[d.Name]
		c.must(is && len(d.Vars) == 0, "a datatype that is no class's", d.Name)
		var l []string
		for _, k := range d.Cons {
			l = append(l, k.Name)
		}
		c.must(slices.Equal(slices.Sorted(slices.Values(l)), slices.Sorted(slices.Values(of[d.Name]))), "a class's constructors", l, of[d.Name])
	}
	c.must(len(c.x.Datas)-n == len(c.labels), "a datatype for each class", len(c.labels))
	for id, name := range c.cons {
		c.con(id, name)
	}
}

// con looks at what a KFn's constructor has.
func (c *pairer) con(id int, name string) {
	ids := c.knows(c.m.fns[id])
	for _, d := range c.x.Datas {
		for _, k := range d.Cons {
			if k.Name != name {
				continue
			}
			l := k.Arg.L
			switch len(ids) {
			case 0:
				c.must(!k.Has && reflect.DeepEqual(k.Arg, api.T{}), "a constructor that has nothing", k)
			case 1:
				l = []api.T{k.Arg}
				fallthrough
			default:
				c.must(k.Has && len(l) == len(ids) && (len(ids) == 1 || k.Arg.Kind == api.XTup), "what a constructor has", k)
				for i, v := range ids {
					c.is(c.m.vars[v], c.m.typOf[v], l[i])
				}
			}
		}
	}
}

// calls looks at the functions that call those of a class.
func (c *pairer) calls() {
	for name, f := range c.callers {
		c.seen[f.Id]++
		c.must(c.seen[f.Id] == 1, "a class's function is another's too", f.Id)
		at := -1
		for i, l := range c.m.label {
			if l == c.labels[name] {
				at = i
			}
		}
		t := c.m.types[at]
		c.must(len(f.Params) == 2 && f.Params[0].T.Name == name, "a class's function", name)
		c.is(c.m.with[at], t.L[0], f.Params[1].T)
		c.is(c.m.answer[at], t.L[1], f.Result)
		c.called(name, f)
	}
}

// called looks at what a class's function does.
func (c *pairer) called(name string, f *api.FFun) {
	of := map[string]int{}
	for id, con := range c.cons {
		if c.names[c.m.label[c.m.cores[c.m.fns[id]]]] == name {
			of[con] = id
		}
	}
	mention := func(v api.Core, p api.Param) bool {
		return reflect.DeepEqual(v, api.Core{Kind: api.KVar, Id: p.Id, T: p.T})
	}
	if len(of) == 0 {
		k := api.Core{Kind: api.KCon, Name: "Match", T: api.T{Kind: api.XCon, Name: "exn"}}
		c.must(reflect.DeepEqual(f.E, api.Core{Kind: api.KRaise, T: f.Result, L: []api.Core{k}}), "a class without KFn raises Match", name)
		return
	}
	e := f.E
	c.must(e.Kind == api.KCase && len(e.L) == 1 && mention(e.L[0], f.Params[0]) && len(e.Ways) == len(of) && toldT(e.T) == toldT(f.Result), "a KCase", name)
	for _, w := range e.Ways {
		id, is := of[w.P.Name]
		c.must(is && w.P.Kind == api.PCon && w.P.T.Name == name, "a way", w.P.Name)
		delete(of, w.P.Name)
		ids := c.knows(c.m.fns[id])
		l := w.P.L
		if len(ids) > 1 {
			c.must(len(l) == 1 && l[0].Kind == api.PTuple, "a pattern", l)
			l = l[0].L
		}
		y := w.E
		c.must(len(l) == len(ids) && y.Kind == api.KCall && y.Id == c.own[id].Id && len(y.L) == len(ids)+1 && toldT(y.T) == toldT(f.Result), "a call of the KFn's function", y)
		for i, v := range ids {
			c.must(l[i].Kind == api.PVar && mention(y.L[i], api.Param{Id: l[i].Id, T: l[i].T}), "a variable", i)
			c.is(c.m.vars[v], c.m.typOf[v], l[i].T)
		}
		c.must(mention(y.L[len(ids)], f.Params[1]), "what it is called with", y)
	}
}
