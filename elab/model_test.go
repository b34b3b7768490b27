package elab

import (
	"maps"
	"slices"
	"strconv"
	"strings"

	"bellows/api"
)

// This is the chapter read once more, by other means: names by sets that are copied, types by substitutions, what stands around by looking at all of it, ways by trying values.

// unknownName is thrown where a name isn't known, or is there twice; noTypes where there are no types.
type unknownName int
type noTypes struct{}

// sets are the names that are known.
type sets struct{ vars, cons, types map[string]bool }

func (s sets) copied() sets {
	return sets{maps.Clone(s.vars), maps.Clone(s.cons), maps.Clone(s.types)}
}

func setOf(names string) map[string]bool {
	m := map[string]bool{}
	for _, n := range strings.Fields(names) {
		m[n] = true
	}
	return m
}

func mustKnow(set map[string]bool, name string, at int) {
	if !set[name] {
		panic(unknownName(at))
	}
}

func mustBeNew(set map[string]bool, name string, at int) {
	if set[name] {
		panic(unknownName(at))
	}
	set[name] = true
}

func (s sets) exp(e api.Exp) {
	switch e.Kind {
	case api.EVar:
		mustKnow(s.vars, e.Name, e.At)
	case api.ECon:
		mustKnow(s.cons, e.Name, e.At)
	case api.ELet:
		s = s.copied()
		for _, d := range e.Decs {
			s.dec(d)
		}
	}
	for _, x := range e.L {
		s.exp(x)
	}
	for _, c := range e.Cases {
		in := s.copied()
		maps.Copy(in.vars, s.pat(c.P))
		in.exp(c.E)
	}
}

// pat gives the variables of a pattern.
func (s sets) pat(p api.Pat) map[string]bool {
	there := map[string]bool{}
	var visit func(p api.Pat)
	visit = func(p api.Pat) {
		if p.Kind == api.PCon {
			mustKnow(s.cons, p.Name, p.At)
		}
		if p.Kind == api.PVar {
			mustBeNew(there, p.Name, p.At)
		}
		for _, x := range p.L {
			visit(x)
		}
	}
	visit(p)
	return there
}

func (s sets) dec(d api.Dec) {
	there := map[string]bool{}
	switch d.Kind {
	case api.DVal:
		vars := s.pat(d.P)
		s.exp(d.E)
		maps.Copy(s.vars, vars)
	case api.DFun:
		for _, f := range d.Funs {
			s.vars[f.Name] = true
		}
		for _, f := range d.Funs {
			mustBeNew(there, f.Name, f.At)
			s.exp(f.E)
		}
	case api.DData:
		params := map[string]bool{}
		for _, v := range d.Params {
			mustBeNew(params, v, d.At)
		}
		s.types[d.Name] = true
		for _, k := range d.Cons {
			mustBeNew(there, k.Name, k.At)
			s.ty(k, params)
		}
		maps.Copy(s.cons, there)
	case api.DExn:
		s.ty(d.Cons[0], nil)
		s.cons[d.Cons[0].Name] = true
	}
}

func (s sets) ty(k api.Con, params map[string]bool) {
	var visit func(t api.Ty)
	visit = func(t api.Ty) {
		for _, x := range t.L {
			visit(x)
		}
		switch t.Kind {
		case api.TVar:
			mustKnow(params, t.Name, t.At)
		case api.TCon:
			mustKnow(s.types, t.Name, t.At)
		}
	}
	if k.Has {
		visit(k.Ty)
	}
}

func partsOf(p api.Pat) int {
	n := 1
	for _, x := range p.L {
		n += partsOf(x)
	}
	return n
}

// tooBig: are there patterns of more than 150 parts?
func tooBig(e api.Exp) bool {
	n := 0
	for _, c := range e.Cases {
		n += partsOf(c.P)
	}
	is := n > 150 || slices.ContainsFunc(e.L, tooBig)
	for _, c := range e.Cases {
		is = is || tooBig(c.E)
	}
	for _, d := range e.Decs {
		is = is || d.Kind == api.DVal && (partsOf(d.P) > 150 || tooBig(d.E))
		for _, f := range d.Funs {
			is = is || tooBig(f.E)
		}
	}
	return is
}

// model knows what its type variables are by a substitution; theirs are the numbers of T.
type model struct {
	is      map[int]api.T
	next    int
	datas   []api.Data
	names   map[string]int
	prims   map[string]api.T
	matches []match
}

// match is patterns, some of which must fit each value of a type.
type match struct {
	t api.T
	l []api.CPat
}

type scheme struct {
	vars   []int
	t      api.T
	closed bool // no other variables are in it
}

// around is what is known: constructors as functions of what they have, or as what they are.
type around struct {
	vars  map[string]scheme
	cons  map[string]scheme
	named map[string]string // constructors by the names of Datas
	types map[string]string
}

func (a around) copied() around {
	return around{maps.Clone(a.vars), maps.Clone(a.cons), maps.Clone(a.named), maps.Clone(a.types)}
}

func (m *model) fresh() api.T {
	m.next++
	return xvar(m.next)
}

func (m *model) full(t api.T) api.T {
	if x, is := m.is[t.N]; is && t.Kind == api.XVar {
		return m.full(x)
	}
	var l []api.T
	for _, x := range t.L {
		l = append(l, m.full(x))
	}
	t.L = l
	return t
}

// varsIn are the type variables that a type has.
func varsIn(t api.T, there map[int]bool) map[int]bool {
	if t.Kind == api.XVar {
		there[t.N] = true
	}
	for _, x := range t.L {
		varsIn(x, there)
	}
	return there
}

// head is what a variable is, as far as that is known.
func (m *model) head(t api.T) api.T {
	for t.Kind == api.XVar {
		x, is := m.is[t.N]
		if !is {
			return t
		}
		t = x
	}
	return t
}

func (m *model) unify(a, b api.T) {
	a, b = m.head(a), m.head(b)
	switch {
	case a.Kind == api.XVar && b.Kind == api.XVar && a.N == b.N:
	case a.Kind == api.XVar:
		b = m.full(b)
		if varsIn(b, map[int]bool{})[a.N] {
			panic(noTypes{})
		}
		m.is[a.N] = b
	case b.Kind == api.XVar:
		m.unify(b, a)
	case a.Kind != b.Kind || a.Name != b.Name || len(a.L) != len(b.L):
		panic(noTypes{})
	default:
		for i := range a.L {
			m.unify(a.L[i], b.L[i])
		}
	}
}

func (m *model) instance(s scheme) api.T {
	var l []api.T
	for range s.vars {
		l = append(l, m.fresh())
	}
	return putT(m.full(s.t), s.vars, l)
}

// general binds the variables that stand nowhere around.
func (m *model) general(a around, t api.T) scheme {
	t = m.full(t)
	there := map[int]bool{}
	for _, s := range a.vars {
		if s.closed {
			continue
		}
		free := varsIn(m.full(s.t), map[int]bool{})
		for _, v := range s.vars {
			delete(free, v)
		}
		maps.Copy(there, free)
	}
	var vars []int
	for v := range varsIn(t, map[int]bool{}) {
		if !there[v] {
			vars = append(vars, v)
		}
	}
	slices.Sort(vars)
	return scheme{vars, t, len(vars) == len(varsIn(t, map[int]bool{}))}
}

func isValue(e api.Exp) bool {
	switch e.Kind {
	case api.EInt, api.EText, api.EVar, api.EFn, api.ECon:
		return true
	case api.EApp:
		return e.L[0].Kind == api.ECon && isValue(e.L[1])
	case api.ETuple:
		for _, x := range e.L {
			if !isValue(x) {
				return false
			}
		}
		return true
	}
	return false
}

// reckoned are the types of P9.3, with 0 for 'a, as functions.
func reckoned() map[string]api.T {
	num, text, truth, a := xcon("int"), xcon("string"), xcon("bool"), xvar(0)
	cell, row := xcon("ref", a), xcon("array", a)
	l := map[string]api.T{
		"^": xfun(xtup(text, text), text), "~": xfun(num, num), ":=": xfun(xtup(cell, a), xtup()), "!": xfun(cell, a),
		"print": xfun(text, xtup()), "putc": xfun(num, xtup()), "getc": xfun(xtup(), num), "size": xfun(text, num),
		"byte": xfun(xtup(text, num), num), "cmp": xfun(xtup(text, text), num), "ref": xfun(a, cell), "array": xfun(xtup(num, a), row),
		"length": xfun(row, num), "sub": xfun(xtup(row, num), a), "update": xfun(xtup(row, num, a), xtup()),
	}
	for _, sign := range strings.Fields("+ - * div mod") {
		l[sign] = xfun(xtup(num, num), num)
	}
	for _, sign := range strings.Fields("< <= > >= = <>") {
		l[sign] = xfun(xtup(num, num), truth)
	}
	return l
}

func (m *model) each(a around, l []api.Exp) []api.T {
	var types []api.T
	for _, x := range l {
		types = append(types, m.exp(a, x))
	}
	return types
}

func (m *model) exp(a around, e api.Exp) api.T {
	switch e.Kind {
	case api.EInt:
		return xcon("int")
	case api.EText:
		return xcon("string")
	case api.EVar:
		return m.instance(a.vars[e.Name])
	case api.ECon:
		return m.instance(a.cons[e.Name])
	case api.EApp:
		l, to := m.each(a, e.L), m.fresh()
		m.unify(l[0], xfun(l[1], to))
		return to
	case api.EFn:
		from, to := m.fresh(), m.fresh()
		m.ways(a, e.Cases, from, to, true)
		return xfun(from, to)
	case api.ECase:
		from, to := m.exp(a, e.L[0]), m.fresh()
		m.ways(a, e.Cases, from, to, true)
		return to
	case api.ELet:
		a = a.copied()
		for _, d := range e.Decs {
			m.dec(a, d)
		}
		return m.exp(a, e.L[0])
	case api.ETuple:
		return xtup(m.each(a, e.L)...)
	case api.ERaise:
		m.unify(m.exp(a, e.L[0]), xcon("exn"))
		return m.fresh()
	case api.EHandle:
		t := m.exp(a, e.L[0])
		m.ways(a, e.Cases, xcon("exn"), t, false)
		return t
	}
	l, to := m.each(a, e.L), m.fresh()
	from := xtup(l...)
	if len(l) == 1 {
		from = l[0]
	}
	m.unify(m.instance(scheme{vars: []int{0}, t: m.prims[e.Name]}), xfun(from, to))
	return to
}

func (m *model) ways(a around, l []api.Case, from, to api.T, all bool) {
	var pats []api.CPat
	for _, c := range l {
		in := a.copied()
		pats = append(pats, m.pat(a, in, c.P, from))
		m.unify(m.exp(in, c.E), to)
	}
	if all {
		m.matches = append(m.matches, match{from, pats})
	}
}

// pat adds a pattern's variables to what is known in its way.
func (m *model) pat(a, in around, p api.Pat, t api.T) api.CPat {
	c := api.CPat{Kind: p.Kind, Name: p.Name, N: p.N}
	switch p.Kind {
	case api.PVar:
		in.vars[p.Name] = scheme{vars: nil, t: t}
	case api.PInt:
		m.unify(t, xcon("int"))
	case api.PTuple:
		var types []api.T
		for range p.L {
			types = append(types, m.fresh())
		}
		m.unify(t, xtup(types...))
		for i, x := range p.L {
			c.L = append(c.L, m.pat(a, in, x, types[i]))
		}
	case api.PCon:
		c.Name = a.named[p.Name]
		k := m.instance(a.cons[p.Name])
		if k.Kind == api.XFun != (len(p.L) == 1) {
			panic(noTypes{})
		}
		if len(p.L) == 0 {
			m.unify(t, k)
			return c
		}
		m.unify(t, k.L[1])
		c.L = []api.CPat{m.pat(a, in, p.L[0], k.L[0])}
	}
	return c
}

func (m *model) dec(a around, d api.Dec) {
	switch d.Kind {
	case api.DVal:
		m.val(a, d)
	case api.DFun:
		in := a.copied()
		for _, f := range d.Funs {
			in.vars[f.Name] = scheme{vars: nil, t: m.fresh()}
		}
		for _, f := range d.Funs {
			m.unify(in.vars[f.Name].t, m.exp(in, f.E))
		}
		out := a.copied()
		for _, f := range d.Funs {
			a.vars[f.Name] = m.general(out, in.vars[f.Name].t)
		}
	case api.DData:
		m.data(a, d)
	case api.DExn:
		m.con(a, d.Cons[0], 0, nil, api.Ty{})
	}
}

func (m *model) val(a around, d api.Dec) {
	if d.P.Kind == api.PVar {
		s := scheme{vars: nil, t: m.exp(a, d.E)}
		if isValue(d.E) {
			s = m.general(a, s.t)
		}
		a.vars[d.P.Name] = s
		return
	}
	t := m.exp(a, d.E)
	in := around{vars: map[string]scheme{}}
	p := m.pat(a, in, d.P, t)
	m.matches = append(m.matches, match{t, []api.CPat{p}})
	maps.Copy(a.vars, in.vars)
}

// second is a name as Datas has it.
func (m *model) second(kind, name string) string {
	n := m.names[kind+name]
	m.names[kind+name] = n + 1
	if n == 0 {
		return name
	}
	return name + "#" + strconv.Itoa(n)
}

func (m *model) data(a around, d api.Dec) {
	params := map[string]int{}
	own := api.Ty{Kind: api.TCon, Name: d.Name}
	data := api.Data{Name: m.second("type ", d.Name)}
	for i, v := range d.Params {
		params[v] = i
		own.L = append(own.L, api.Ty{Kind: api.TVar, Name: v})
		data.Vars = append(data.Vars, i)
	}
	a.types[d.Name] = data.Name
	m.datas = append(m.datas, data)
	for _, k := range d.Cons {
		m.con(a, k, len(m.datas)-1, params, own)
	}
}

// con adds a constructor to a datatype, which stands in its own types as own alone.
func (m *model) con(a around, k api.Con, of int, params map[string]int, own api.Ty) {
	d := &m.datas[of]
	c := api.DataCon{Name: m.second("con ", k.Name), Has: k.Has}
	is := xcon(d.Name)
	for _, v := range d.Vars {
		is.L = append(is.L, xvar(v))
	}
	s := scheme{vars: d.Vars, t: is}
	if k.Has {
		c.Arg = m.ty(a, k.Ty, params, own)
		s.t = xfun(c.Arg, is)
	}
	d.Cons = append(d.Cons, c)
	// beside the numbers that m gives, so that nothing else is they
	var vars []int
	var l []api.T
	for range d.Vars {
		v := m.fresh()
		vars, l = append(vars, v.N), append(l, v)
	}
	a.cons[k.Name] = scheme{vars, putT(s.t, d.Vars, l), true}
	a.named[k.Name] = c.Name
}

func sameTy(a, b api.Ty) bool {
	return a.Kind == b.Kind && a.Name == b.Name && slices.EqualFunc(a.L, b.L, sameTy)
}

func (m *model) ty(a around, t api.Ty, params map[string]int, own api.Ty) api.T {
	var l []api.T
	for _, x := range t.L {
		l = append(l, m.ty(a, x, params, own))
	}
	switch t.Kind {
	case api.TVar:
		return xvar(params[t.Name])
	case api.TArrow:
		return api.T{Kind: api.XFun, L: l}
	case api.TTuple:
		return api.T{Kind: api.XTup, L: l}
	}
	arity := map[string]int{"int": 0, "string": 0, "ref": 1, "array": 1}
	for _, d := range m.datas {
		arity[d.Name] = len(d.Vars)
	}
	name := a.types[t.Name]
	if arity[name] != len(l) || own.Name == t.Name && !sameTy(own, t) {
		panic(noTypes{})
	}
	return xcon(name, l...)
}

// beginning is what there is to begin with.
func (m *model) beginning() around {
	a := around{map[string]scheme{}, map[string]scheme{}, map[string]string{}, map[string]string{}}
	for name, t := range m.prims {
		if name[0] >= 'a' && name != "div" && name != "mod" && name[0] <= 'z' {
			a.vars[name] = scheme{[]int{0}, t, true}
		}
	}
	for _, name := range strings.Fields("int string ref array exn") {
		a.types[name] = m.second("type ", name)
	}
	m.datas = []api.Data{{Name: "exn"}}
	for _, name := range strings.Fields("Match Div Subscript Size") {
		m.con(a, api.Con{Name: name}, 0, nil, api.Ty{})
	}
	m.data(a, api.Dec{Name: "bool", Cons: []api.Con{{Name: "false"}, {Name: "true"}}})
	v := api.Ty{Kind: api.TVar, Name: "'a"}
	of := api.Ty{Kind: api.TTuple, L: []api.Ty{v, {Kind: api.TCon, Name: "list", L: []api.Ty{v}}}}
	m.data(a, api.Dec{Name: "list", Params: []string{"'a"}, Cons: []api.Con{{Name: "Nil"}, {Name: "Cons", Has: true, Ty: of}}})
	return a
}

// units puts () for all variables.
func units(t api.T) api.T {
	if t.Kind == api.XVar {
		return xtup()
	}
	var l []api.T
	for _, x := range t.L {
		l = append(l, units(x))
	}
	t.L = l
	return t
}

// spelt is P9.6 for types without variables.
func spelt(t api.T) string {
	switch {
	case t.Kind == api.XFun:
		return "(" + rows(t.L, " -> ", spelt) + ")"
	case t.Kind == api.XTup:
		return "(" + rows(t.L, " * ", spelt) + ")"
	case len(t.L) == 0:
		return t.Name
	case len(t.L) == 1:
		return spelt(t.L[0]) + " " + t.Name
	}
	return "(" + rows(t.L, ", ", spelt) + ") " + t.Name
}

// answer is what the chapter says of an expression.
type answer struct {
	typ   string
	datas []api.Data
	f     api.Errno
	at    int
}

func elabAsTold(e api.Exp) (x answer) {
	defer func() {
		switch thrown := recover().(type) {
		case nil:
		case unknownName:
			x = answer{f: api.ErrScope, at: int(thrown)}
		case noTypes:
			x = answer{f: api.ErrType}
		default:
			panic(thrown)
		}
	}()
	sets{setOf("print putc getc size byte cmp ref array length sub update"), setOf("true false Nil Cons Match Div Subscript Size"), setOf("int string exn ref array bool list")}.exp(e)
	if tooBig(e) {
		return answer{f: api.ErrBig}
	}
	m := &model{is: map[int]api.T{}, names: map[string]int{}, prims: reckoned()}
	t := m.exp(m.beginning(), e)
	for _, x := range m.matches {
		if !modelCovers(m.datas, m.full(x.t), x.l) {
			panic(noTypes{})
		}
	}
	return answer{typ: spelt(units(m.full(t))), datas: m.datas}
}
