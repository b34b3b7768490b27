package mono

import (
	"math/bits"
	"slices"
	"strconv"
	"strings"

	"bellows/api"
)

// chance is a row of numbers, the same in each run.
type chance struct{ seed uint64 }

// below is a number from 0 to n - 1.
func (c *chance) below(n int) int {
	c.seed = c.seed*6364136223846793005 + 1442695040888963407
	return int((bits.RotateLeft64(c.seed, 27) ^ c.seed>>17) % uint64(n))
}

// oneOf is one of a list.
func oneOf[E any](c *chance, l ...E) E { return l[c.below(len(l))] }

// named is a variable of a text, with a type in which anything may stand for the variables from 0 to free - 1.
type named struct {
	name string
	t    api.T
	free int
}

// author makes texts up that have types. What is bound has all type variables that it can have, is used at several rows, or not at all.
type author struct {
	chance
	vars  []named
	datas []api.Data
	names int
	stiff int // how many type variables there were that nothing may stand for, since they are of what is being bound
	some  []api.T
	pure  bool // is what is made to do nothing?
	left  int  // how many forms there still may be
}

const firstStiff = 1000

func xcon(name string, l ...api.T) api.T { return api.T{Kind: api.XCon, Name: name, L: l} }
func xtup(l ...api.T) api.T              { return api.T{Kind: api.XTup, L: l} }
func xfun(from, to api.T) api.T          { return api.T{Kind: api.XFun, L: []api.T{from, to}} }
func xvar(n int) api.T                   { return api.T{Kind: api.XVar, N: n} }

func conAt(name string, arg ...api.T) api.DataCon {
	if len(arg) == 0 {
		return api.DataCon{Name: name}
	}
	return api.DataCon{Name: name, Has: true, Arg: arg[0]}
}

// program is a text of about so many forms.
func (g *author) program(forms int) string {
	a, b := xvar(0), xvar(1)
	list := xcon("list", a)
	g.vars, g.some, g.names, g.stiff, g.left = nil, nil, 0, 0, forms
	g.datas = []api.Data{
		{Name: "exn", Cons: []api.DataCon{conAt("Div"), conAt("Size"), conAt("F", xcon("list", xcon("o", xcon("int"))))}},
		{Name: "bool", Cons: []api.DataCon{conAt("false"), conAt("true")}},
		{Name: "list", Vars: []int{0}, Cons: []api.DataCon{conAt("Nil"), conAt("Cons", xtup(a, list))}},
		{Name: "o", Vars: []int{0}, Cons: []api.DataCon{conAt("None"), conAt("Some", a)}},
		{Name: "ph", Vars: []int{0, 1}, Cons: []api.DataCon{conAt("Ph", xcon("int"))}},
		{Name: "two", Vars: []int{0, 1}, Cons: []api.DataCon{conAt("Two", xtup(xcon("list", a), xcon("o", b))), conAt("One", xfun(b, a)), conAt("Not")}},
	}
	s := "datatype 'a o = None | Some of 'a datatype ('a, 'b) ph = Ph of int datatype ('a, 'b) two = Two of 'a list * 'b o | One of ('b -> 'a) | Not exception F of int o list "
	for range 1 + g.below(4) {
		s += g.dec(4) + " "
	}
	return s + "in " + g.exp(g.typ(2), 5)
}

func (g *author) name() string {
	g.names++
	return "v" + strconv.Itoa(g.names)
}

// typ makes a type up, of the type variables too that are being bound.
func (g *author) typ(depth int) api.T {
	n := g.below(9)
	if depth <= 0 {
		n = g.below(5)
	}
	switch {
	case n == 0 && len(g.some) > 0 || n == 1 && len(g.some) > 0:
		return oneOf(&g.chance, g.some...)
	case n < 5:
		return oneOf(&g.chance, xcon("int"), xcon("int"), xcon("string"), xcon("bool"), xtup())
	case n == 5:
		return xfun(g.typ(depth-1), g.typ(depth-1))
	case n == 6:
		return xtup(g.typ(depth-1), g.typ(depth-1))
	case n == 7 && g.below(3) == 0:
		return xcon(oneOf(&g.chance, "ref", "array"), g.typ(depth-1))
	}
	d := oneOf(&g.chance, g.datas...)
	var l []api.T
	for range d.Vars {
		l = append(l, g.typ(depth-1))
	}
	return xcon(d.Name, l...)
}

// match finds what must stand in the places of the variables of of, so that it is t.
func match(of, t api.T, free int, by map[int]api.T) bool {
	if of.Kind == api.XVar && of.N < free {
		if was, is := by[of.N]; is {
			return toldT(was) == toldT(t)
		}
		by[of.N] = t
		return true
	}
	return of.Kind == t.Kind && of.Name == t.Name && of.N == t.N && slices.EqualFunc(of.L, t.L, func(a, b api.T) bool { return match(a, b, free, by) })
}

// instantiated is a type with others in the places of its variables, made up where nothing is known of them.
func (g *author) instantiated(t api.T, free int, by map[int]api.T) api.T {
	if t.Kind == api.XVar && t.N < free {
		if _, is := by[t.N]; !is {
			by[t.N] = g.typ(1)
		}
		return by[t.N]
	}
	t.L = each(t.L, func(x *api.T) api.T { return g.instantiated(*x, free, by) })
	return t
}

// use is a variable, called with as much as gives the type; "", if there is none.
func (g *author) use(t api.T, depth int) string {
	for range 12 {
		if len(g.vars) == 0 {
			break
		}
		v := g.vars[g.below(len(g.vars))]
		by := map[int]api.T{}
		var args []api.T
		of := v.t
		for of.Kind == api.XFun && depth > 0 && g.below(4) > 0 {
			args, of = append(args, of.L[0]), of.L[1]
		}
		if !match(of, t, v.free, by) {
			continue
		}
		s := v.name
		for _, a := range args {
			s = "(" + s + " " + g.exp(g.instantiated(a, v.free, by), depth-1) + ")"
		}
		return s
	}
	return ""
}

// within is what is made with more variables.
func (g *author) within(more []named, do func() string) string {
	n := len(g.vars)
	g.vars = append(g.vars, more...)
	s := do()
	g.vars = g.vars[:n]
	return s
}

// exp makes an expression up, which stands in brackets or by itself.
func (g *author) exp(t api.T, depth int) string {
	g.left--
	if depth <= 0 || g.left < 0 || g.pure {
		if s := g.use(t, 0); s != "" && depth > -3 {
			return s
		}
		return g.value(t, depth)
	}
	sub := func(t api.T) string { return g.exp(t, depth-1) }
	switch g.below(16) {
	case 0:
		return "(if " + sub(xcon("bool")) + " then " + sub(t) + " else " + sub(t) + ")"
	case 1, 2:
		return g.cases(g.typ(2), t, depth)
	case 3, 4, 5:
		return g.let(t, depth)
	case 6:
		return "(" + oneOf(&g.chance, "putc 65", "putc 66", "print \"c\"") + "; " + sub(t) + ")"
	case 7:
		return "(" + sub(t) + " handle F (_ :: _) => " + sub(t) + " | Div => " + sub(t) + ")"
	case 8:
		return oneOf(&g.chance, "(! (ref "+sub(t)+"))", "(sub (array (2, "+sub(t)+"), 1))", "(raise "+sub(xcon("exn"))+")", "(case ["+sub(t)+"] of q :: _ => q | _ => raise Div)")
	case 9, 10, 11, 12:
		if s := g.use(t, depth); s != "" {
			return s
		}
	}
	return g.value(t, depth)
}

func (g *author) let(t api.T, depth int) string {
	vars, datas := len(g.vars), g.datas
	s := "let "
	for range 1 + g.below(3) {
		s += g.dec(depth-1) + " "
	}
	s += "in " + g.exp(t, depth-1) + " end"
	g.vars, g.datas = g.vars[:vars], datas
	return s
}

// value is an expression of the type's own form: one that does nothing, if its parts do nothing.
func (g *author) value(t api.T, depth int) string {
	sub := func(t api.T) string { return g.exp(t, depth-1) }
	switch t.Kind {
	case api.XVar:
		if s := g.use(t, 0); s != "" {
			return s
		}
		return "(raise Size)"
	case api.XFun:
		x, pure := named{name: g.name(), t: t.L[0]}, g.pure
		g.pure = false
		s := "(fn " + x.name + " => " + g.within([]named{x}, func() string { return sub(t.L[1]) }) + ")"
		g.pure = pure
		return s
	case api.XTup:
		return "(" + joined(t.L, ", ", sub) + ")"
	}
	switch {
	case t.Name == "int" && g.pure:
		return oneOf(&g.chance, "0", "1", "7")
	case t.Name == "string" && g.pure:
		return `"a"`
	}
	switch t.Name {
	case "int":
		return oneOf(&g.chance, "0", "1", "7", "(2 * 3)", "(getc ())", "(1 div 0)")
	case "string":
		return oneOf(&g.chance, `""`, `"a"`, `("a" ^ "b")`)
	case "ref":
		return "(ref " + sub(t.L[0]) + ")"
	case "array":
		return "(array (1, " + sub(t.L[0]) + "))"
	}
	return g.construct(t, depth)
}

func (g *author) construct(t api.T, depth int) string {
	i := slices.IndexFunc(g.datas, func(d api.Data) bool { return d.Name == t.Name })
	if i < 0 || depth < -4 {
		return "(raise Size)"
	}
	d := g.datas[i]
	c := d.Cons[g.below(len(d.Cons))]
	if depth <= 0 && c.Has {
		c = d.Cons[0]
	}
	if !c.Has {
		return c.Name
	}
	return "(" + c.Name + " " + g.exp(closed(c.Arg, rowOf(&d, t.L)), depth-1) + ")"
}

// cases take a value of the type of apart.
func (g *author) cases(of, t api.T, depth int) string {
	var ways []string
	way := func(p string, vars ...named) {
		ways = append(ways, p+" => "+g.within(vars, func() string { return g.exp(t, depth-1) }))
	}
	i := slices.IndexFunc(g.datas, func(d api.Data) bool { return d.Name == of.Name })
	switch {
	case of.Kind == api.XTup && len(of.L) == 2:
		a, b := named{name: g.name(), t: of.L[0]}, named{name: g.name(), t: of.L[1]}
		way("("+a.name+", "+b.name+")", a, b)
	case of.Kind == api.XCon && i >= 0 && of.Name != "exn":
		d := g.datas[i]
		for _, c := range d.Cons {
			if !c.Has {
				way(c.Name)
				continue
			}
			x := named{name: g.name(), t: closed(c.Arg, rowOf(&d, of.L))}
			way(c.Name+" "+x.name, x)
		}
	}
	if len(ways) == 0 || g.below(3) == 0 {
		ways = slices.Delete(ways, 0, min(len(ways), g.below(2)))
		x := named{name: g.name(), t: of}
		way(x.name, x)
	}
	return "(case " + g.exp(of, depth-1) + " of " + strings.Join(ways, " | ") + ")"
}

// dec makes a declaration up, and leaves what it declares in scope.
func (g *author) dec(depth int) string {
	switch g.below(12) {
	case 0:
		return g.datatype()
	case 1:
		return "val _ = " + g.exp(g.typ(2), depth)
	case 2, 3:
		t, x := g.typ(2), g.name()
		s := "val " + x + " = " + g.exp(t, depth)
		g.vars = append(g.vars, named{name: x, t: t})
		return s
	case 4, 5, 6:
		return g.binding(func(t api.T) (string, []named) {
			x := g.name()
			g.pure = true
			s := "val " + x + " = " + g.value(t, depth)
			g.pure = false
			return s, []named{{name: x, t: t}}
		}, 2)
	case 7:
		return g.binding(func(t api.T) (string, []named) { return g.both(t, depth) }, 1)
	}
	return g.binding(func(t api.T) (string, []named) {
		f := named{name: g.name(), t: xfun(xcon("int"), t)}
		s := "fun " + g.fun(f, []named{f}, depth)
		return s, []named{f}
	}, 2)
}

// fun is a function that calls itself a few times.
func (g *author) fun(f named, all []named, depth int) string {
	n := named{name: g.name(), t: xcon("int")}
	body := func(vars []named) string {
		return g.within(append(vars[:len(vars):len(vars)], n), func() string { return g.exp(f.t.L[1], depth-1) })
	}
	return f.name + " " + n.name + " = if " + n.name + " <= 0 then " + body(nil) + " else let val " + n.name + " = " + n.name + " - 1 in " + body(all) + " end"
}

// both are two functions that know one another.
func (g *author) both(t api.T, depth int) (string, []named) {
	f, h := named{name: g.name(), t: xfun(xcon("int"), t)}, named{name: g.name(), t: xfun(xcon("int"), g.typ(2))}
	all := []named{f, h}
	s := "fun " + g.fun(f, all, depth) + " and " + g.fun(h, all, depth)
	return s, all
}

// binding binds variables that are of any type, as far as nothing is known of it. (What they are mustn't do anything; if it does, only the text has no types.)
func (g *author) binding(made func(t api.T) (string, []named), depth int) string {
	some := g.some
	first := firstStiff + g.stiff
	for range g.below(3) {
		g.some = append(g.some[:len(g.some):len(g.some)], xvar(firstStiff+g.stiff))
		g.stiff++
	}
	t := g.typ(depth)
	if n := firstStiff + g.stiff; n > first && g.below(3) > 0 {
		t = oneOf(&g.chance, xfun(xvar(first), t), xfun(t, xvar(n-1)), xfun(xvar(n-1), xtup(xvar(first), t)))
	}
	s, vars := made(t)
	g.some = some
	for _, v := range vars {
		by := map[int]api.T{}
		v.t = g.generalized(v.t, first, by)
		v.free = len(by)
		g.vars = append(g.vars, v)
		s += g.uses(v)
	}
	return s
}

// uses are mentions of a variable at some rows.
func (g *author) uses(v named) string {
	s := ""
	for range g.below(3) {
		of := g.instantiated(v.t, v.free, map[int]api.T{})
		use := "[" + v.name + ", " + g.value(of, 1) + "]"
		if g.below(2) == 0 {
			use = "fn " + g.name() + " => " + use
		}
		s += oneOf(&g.chance, " val _ = ", " val _ = ", " val _ = ", " val "+g.name()+" = ") + use
	}
	return s
}

// generalized is a type in which those variables are free, from 0 on, that were there from first on.
func (g *author) generalized(t api.T, first int, by map[int]api.T) api.T {
	if t.Kind == api.XVar && t.N >= first {
		if _, is := by[t.N]; !is {
			by[t.N] = xvar(len(by))
		}
		return by[t.N]
	}
	t.L = each(t.L, func(x *api.T) api.T { return g.generalized(*x, first, by) })
	return t
}

// datatype makes a datatype or an exception up.
func (g *author) datatype() string {
	k := strings.ToUpper(g.name())
	name := strings.ToLower(k)
	if g.below(4) == 0 {
		some := g.some
		g.some = nil
		c := conAt(k, writable(g.typ(2)))
		g.some = some
		d := g.datas[0]
		d.Cons = append(d.Cons[:len(d.Cons):len(d.Cons)], c)
		g.datas = slices.Concat([]api.Data{d}, g.datas[1:])
		return "exception " + k + " of " + inText(c.Arg)
	}
	d := api.Data{Name: name}
	some := g.some
	g.some = nil
	var params []string
	var own api.T
	for i := range g.below(3) {
		d.Vars = append(d.Vars, i)
		g.some = append(g.some, xvar(i))
		params = append(params, "'"+string(rune('a'+i)))
	}
	own = xcon(name, g.some...)
	d.Cons = []api.DataCon{conAt(k + "a"), conAt(k+"b", writable(g.typ(2))), conAt(k+"c", xtup(own, xcon("list", own)))}[g.below(2):]
	g.some = some
	g.datas = slices.Concat(g.datas, []api.Data{d})
	s := "datatype "
	if len(params) > 0 {
		s += "(" + strings.Join(params, ", ") + ") "
	}
	return s + name + " = " + joined(d.Cons, " | ", func(c api.DataCon) string {
		if c.Has {
			return c.Name + " of " + inText(c.Arg)
		}
		return c.Name
	})
}

// writable is a type in which there is no (), for which a text has no name.
func writable(t api.T) api.T {
	if t.Kind == api.XTup && len(t.L) == 0 {
		return xcon("int")
	}
	t.L = each(t.L, func(x *api.T) api.T { return writable(*x) })
	return t
}

// inText is a type as a text has it.
func inText(t api.T) string {
	switch {
	case t.Kind == api.XVar:
		return "'" + string(rune('a'+t.N))
	case t.Kind == api.XFun:
		return "(" + joined(t.L, " -> ", inText) + ")"
	case t.Kind == api.XTup:
		return "(" + joined(t.L, " * ", inText) + ")"
	case len(t.L) == 0:
		return t.Name
	}
	return "(" + joined(t.L, ", ", inText) + ") " + t.Name
}
