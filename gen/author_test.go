package gen

import (
	"math/bits"
	"slices"
	"strconv"
	"strings"

	"bellows/api"
)

// chance is a row of numbers, the same in each run.
type chance struct{ seed uint64 }

// below is a number from 0 to n - 1.
func (c *chance) below(n int) int {
	c.seed = c.seed*6364136223846793005 + 1442695040888963407
	return int((bits.RotateLeft64(c.seed, 27) ^ c.seed>>17) % uint64(n))
}

// oneOf is one of a list.
func oneOf[E any](c *chance, l ...E) E { return l[c.below(len(l))] }

// named is a variable of a text, with a type in which anything may stand for the variables from 0 to free - 1.
type named struct {
	name string
	t    api.T
	free int
}

// author makes texts up that have types, in which values of all kinds are taken apart. Functions that call themselves do so a few times in all.
type author struct {
	chance
	vars  []named
	first int // how many of these stand ahead of each text
	names int
	left  int // how many forms there still may be
}

func xcon(name string, l ...api.T) api.T { return api.T{Kind: api.XCon, Name: name, L: l} }
func xtup(l ...api.T) api.T              { return api.T{Kind: api.XTup, L: l} }
func xfun(from api.T, to ...api.T) api.T {
	if len(to) > 1 {
		to = []api.T{xfun(to[0], to[1:]...)}
	}
	return api.T{Kind: api.XFun, L: []api.T{from, to[0]}}
}
func xvar(n int) api.T { return api.T{Kind: api.XVar, N: n} }

// ahead is what stands ahead of each text: fuel is how often functions may still call themselves.
const ahead = `datatype 'a o = None | Some of 'a
datatype ('a, 'b) p = P of 'a -> 'b | Q of 'a * ('b -> 'a) | R
datatype d = D of int -> int | E of d -> int | F of (int -> d) list | Z
datatype c = Red | Green | Blue
datatype t = Leaf | Node of t * int * t | Tip of int
datatype w = Wrap of int * c
datatype 'a v = V of 'a
datatype s = S of s list * int
datatype u = U
datatype q = K of q v | L of int | M
datatype r = Ring of r v o
datatype k = One of int * int | Two of string | Three of int * (int * c) | Four | Five of c | Six
exception X of int -> int
exception Y of (int -> int) -> int
exception B of int * c
exception W
exception B of t
val fuel = ref 5
fun id x = x
fun comp f g x = f (g x)
fun const x y = x
fun map f l = case l of [] => [] | x :: r => f x :: map f r
fun fold f a l = case l of [] => a | x :: r => fold f (f (a, x)) r
fun apply f x = f x
fun pair x y = (x, y)
fun both (f, g) x = (f x, g x)
fun flip f x y = f y x
fun twice f = comp f f
val same = fn x => x
`

// ready is what may be used of that.
func ready() []named {
	a, b, c := xvar(0), xvar(1), xvar(2)
	list := func(t api.T) api.T { return xcon("list", t) }
	return []named{
		{"id", xfun(a, a), 1}, {"comp", xfun(xfun(b, c), xfun(a, b), a, c), 3}, {"const", xfun(a, b, a), 2},
		{"map", xfun(xfun(a, b), list(a), list(b)), 2}, {"fold", xfun(xfun(xtup(a, b), a), a, list(b), a), 2},
		{"apply", xfun(xfun(a, b), a, b), 2}, {"pair", xfun(a, b, xtup(a, b)), 2},
		{"both", xfun(xtup(xfun(a, b), xfun(a, c)), a, xtup(b, c)), 3}, {"flip", xfun(xfun(a, b, c), b, a, c), 3},
		{"twice", xfun(xfun(a, a), a, a), 1}, {"same", xfun(a, a), 1}, {"Some", xfun(a, xcon("o", a)), 1},
		{"P", xfun(xfun(a, b), xcon("p", a, b)), 2}, {"ref", xfun(a, xcon("ref", a)), 1}, {"putc", xfun(xcon("int"), xtup()), 0},
		{"X", xfun(xfun(xcon("int"), xcon("int")), xcon("exn")), 0}, {"E", xfun(xfun(xcon("d"), xcon("int")), xcon("d")), 0},
	}
}

// program is a text of about so many forms.
func (g *author) program(forms int) string {
	g.vars = ready()
	g.first, g.names, g.left = len(g.vars), 0, forms
	s := ahead
	for range 1 + g.below(4) {
		s += g.dec(4) + "\n"
	}
	return s + "in " + g.exp(g.typ(2), 5)
}

func (g *author) name() string {
	g.names++
	return "v" + strconv.Itoa(g.names)
}

func (g *author) typ(depth int) api.T {
	num := xcon("int")
	if depth <= 0 {
		return oneOf(&g.chance, num, num, xcon("bool"), xtup(), xfun(num, num), xcon("c"), xcon("string"), xcon("t"), xcon("w"), xcon("k"))
	}
	some := func() api.T { return g.typ(depth - 1) }
	switch g.below(18) {
	case 12, 13:
		return xcon(oneOf(&g.chance, "c", "t", "w", "s", "u", "q", "r", "k"))
	case 14:
		return xcon("v", some())
	case 15, 16:
		return xtup(some(), some(), some())
	case 0, 1:
		return num
	case 2, 3, 4, 5:
		return xfun(some(), some())
	case 6:
		return xtup(some(), some())
	case 7:
		return xcon(oneOf(&g.chance, "ref", "array"), some())
	case 8, 9:
		return xcon(oneOf(&g.chance, "list", "o"), some())
	case 10:
		return xcon("p", some(), some())
	}
	return xcon("d")
}

// match finds what must stand in the places of the variables of of, so that it is t.
func match(of, t api.T, by map[int]api.T) bool {
	if of.Kind == api.XVar {
		if was, is := by[of.N]; is {
			return toldT(was) == toldT(t)
		}
		by[of.N] = t
		return true
	}
	return of.Kind == t.Kind && of.Name == t.Name && slices.EqualFunc(of.L, t.L, func(a, b api.T) bool { return match(a, b, by) })
}

// with is a type with others in the places of its variables, made up where nothing is known of them.
func (g *author) with(t api.T, by map[int]api.T) api.T {
	if t.Kind == api.XVar {
		if _, is := by[t.N]; !is {
			by[t.N] = g.typ(1)
		}
		return by[t.N]
	}
	t.L = each(t.L, func(x *api.T) api.T { return g.with(*x, by) })
	return t
}

// use is a variable, called with as much as gives the type; "", if there is none.
func (g *author) use(t api.T, depth int) string {
	for range 20 {
		v := g.vars[g.below(len(g.vars))]
		if n := g.first; g.below(3) > 0 && len(g.vars) > n {
			v = g.vars[n+g.below(len(g.vars)-n)]
		}
		var args []api.T
		of := v.t
		for of.Kind == api.XFun && depth > 0 && g.below(3) > 0 {
			args, of = append(args, of.L[0]), of.L[1]
		}
		by := map[int]api.T{}
		if of.Kind == api.XVar && g.below(4) > 0 || !match(of, t, by) {
			continue
		}
		s := v.name
		for _, a := range args {
			s = "(" + s + " " + g.exp(g.with(a, by), depth-1) + ")"
		}
		return s
	}
	return ""
}

// within is what is made with more variables.
func (g *author) within(more []named, do func() string) string {
	n := len(g.vars)
	g.vars = append(g.vars, more...)
	s := do()
	g.vars = g.vars[:n]
	return s
}

// exp makes an expression up, which stands in brackets or by itself.
func (g *author) exp(t api.T, depth int) string {
	g.left--
	if depth <= 0 || g.left < 0 {
		if s := g.use(t, 0); s != "" {
			return s
		}
		return g.value(t, depth)
	}
	sub := func(t api.T) string { return g.exp(t, depth-1) }
	switch g.below(20) {
	case 0:
		return "(if " + sub(xcon("bool")) + " then " + sub(t) + " else " + sub(t) + ")"
	case 1, 2:
		return g.cases(g.typ(2), t, depth)
	case 3, 4:
		return g.let(t, depth)
	case 5:
		return "(putc " + strconv.Itoa(65+g.below(26)) + "; " + sub(t) + ")"
	case 6, 7:
		return g.handle(t, depth)
	case 8:
		return "(raise " + oneOf(&g.chance, "Div", "W", "(B "+sub(xcon("t"))+")", "(X "+sub(xfun(xcon("int"), xcon("int")))+")", "(Y "+sub(xfun(xfun(xcon("int"), xcon("int")), xcon("int")))+")") + ")"
	case 9:
		return g.cell(t, depth)
	case 10, 11:
		from := g.typ(1)
		return "(" + g.exp(xfun(from, t), depth-1) + " " + sub(from) + ")"
	case 12, 13, 14, 15, 16:
		if s := g.use(t, depth); s != "" {
			return s
		}
	}
	return g.value(t, depth)
}

// body makes up what a function does: ahead of it there may be mentions of variables, which so must be known there.
func (g *author) body(t api.T, depth int, vars ...named) string {
	s := ""
	if n := len(g.vars) - g.first; n > 0 && g.below(3) == 0 {
		for range 1 + g.below(5) {
			s += g.vars[g.first+g.below(n)].name + "; "
		}
	}
	return "(" + s + g.within(vars, func() string { return g.exp(t, depth-1) }) + ")"
}

func (g *author) handle(t api.T, depth int) string {
	num := xcon("int")
	f, h := named{name: g.name(), t: xfun(num, num)}, named{name: g.name(), t: xfun(xfun(num, num), num)}
	ways := []string{
		"B " + oneOf(&g.chance, "Leaf", "_", "(Tip 1)", "(Node (Leaf, 2, _))") + " => " + g.exp(t, depth-1),
		"X " + f.name + " => " + g.within([]named{f}, func() string { return g.exp(t, depth-1) }),
		"Y " + h.name + " => " + g.within([]named{h}, func() string { return g.exp(t, depth-1) }),
		"W => " + g.exp(t, depth-1), "Match => " + g.exp(t, depth-1),
	}
	n := g.below(len(ways))
	return "(" + g.exp(t, depth-1) + " handle " + strings.Join(ways[n:n+1+g.below(len(ways)-n)], " | ") + ")"
}

// cell takes something out of what it was laid into.
func (g *author) cell(t api.T, depth int) string {
	sub := func() string { return g.exp(t, depth-1) }
	r := named{name: g.name(), t: xcon("ref", t)}
	switch g.below(4) {
	case 0:
		return "(! (ref " + sub() + "))"
	case 1:
		return "(sub (array (2, " + sub() + "), 1))"
	case 2:
		return "let val " + r.name + " = array (1, " + sub() + ") in (update (" + r.name + ", 0, " + sub() + "); sub (" + r.name + ", 0)) end"
	}
	return "let val " + r.name + " = ref " + sub() + " in (" + r.name + " := " + g.within([]named{r}, sub) + "; !" + r.name + ") end"
}

func (g *author) let(t api.T, depth int) string {
	vars := len(g.vars)
	s := "let "
	for range 1 + g.below(2) {
		s += g.dec(depth-1) + " "
	}
	s += "in " + g.exp(t, depth-1) + " end"
	g.vars = g.vars[:vars]
	return s
}

// value is an expression of the type's own form.
func (g *author) value(t api.T, depth int) string {
	sub := func(t api.T) string { return g.exp(t, depth-1) }
	switch t.Kind {
	case api.XFun:
		return g.fn(t, depth)
	case api.XTup:
		return "(" + joined(t.L, ", ", sub) + ")"
	}
	num := strconv.Itoa(g.below(5))
	if depth < -4 && t.Name != "int" {
		return "(raise Size)"
	}
	switch t.Name {
	case "int":
		return oneOf(&g.chance, num, num, "(getc ())", "("+num+" + size \"ab\")", "(1 div 0)")
	case "bool":
		return oneOf(&g.chance, "true", "false", "(!fuel < 3)")
	case "ref":
		return "(ref " + sub(t.L[0]) + ")"
	case "array":
		return "(array (1, " + sub(t.L[0]) + "))"
	case "list":
		return oneOf(&g.chance, "[]", "["+sub(t.L[0])+"]", "["+sub(t.L[0])+", "+sub(t.L[0])+"]")
	case "o":
		return oneOf(&g.chance, "None", "(Some "+sub(t.L[0])+")")
	case "p":
		return oneOf(&g.chance, "R", "(P "+sub(xfun(t.L[0], t.L[1]))+")", "(Q ("+sub(t.L[0])+", "+sub(xfun(t.L[1], t.L[0]))+"))")
	case "d":
		return oneOf(&g.chance, "Z", "(D "+sub(xfun(xcon("int"), xcon("int")))+")", "(E "+sub(xfun(t, xcon("int")))+")", "(F ["+sub(xfun(xcon("int"), t))+"])")
	}
	if cons := datas()[t.Name]; cons != nil || t.Name == "v" {
		c := oneOf(&g.chance, append(cons, named{"V", t, 1})[:max(len(cons), 1)]...)
		if t.Name == "v" {
			c.t = t.L[0]
		}
		if c.free == 0 {
			return c.name
		}
		if depth < -2 && (t.Name == "t" || t.Name == "s" || t.Name == "r" || t.Name == "q") {
			return map[string]string{"t": "Leaf", "s": "(S ([], 1))", "r": "(Ring None)", "q": "M"}[t.Name]
		}
		return "(" + c.name + " " + sub(c.t) + ")"
	}
	return oneOf(&g.chance, "\"a\"", "(\"b\" ^ \"\")")
}

func (g *author) fn(t api.T, depth int) string {
	x := named{name: g.name(), t: t.L[0]}
	if of := t.L[0]; of.Kind == api.XTup && len(of.L) == 2 && g.below(2) == 0 {
		y := named{name: g.name(), t: of.L[1]}
		x.t = of.L[0]
		return "(fn (" + x.name + ", " + y.name + ") => " + g.body(t.L[1], depth, x, y) + ")"
	}
	return "(fn " + x.name + " => " + g.body(t.L[1], depth, x) + ")"
}

// cases take a value of the type of apart.
func (g *author) cases(of, t api.T, depth int) string {
	if g.below(3) == 0 {
		of = g.parted(1)
	}
	var ways []string
	for range g.below(5) {
		var vars []named
		p := g.pat(of, 1+g.below(4), &vars)
		ways = append(ways, p+" => "+g.within(vars, func() string { return g.exp(t, depth-1) }))
	}
	x := named{name: g.name(), t: of}
	if g.below(2) == 0 {
		ways = append(ways, x.name+" => "+g.within([]named{x}, func() string { return g.exp(t, depth-1) }))
	} else {
		ways = append(ways, "_ => "+g.exp(t, depth-1))
	}
	return "(case " + g.exp(of, depth-1) + " of " + strings.Join(ways, " | ") + ")"
}

// parted is the type of a tuple of what can be taken apart.
func (g *author) parted(depth int) api.T {
	var l []api.T
	for range 2 + g.below(3) {
		some := xcon(oneOf(&g.chance, "c", "t", "w", "s", "u", "q", "r", "k", "bool", "int"))
		if depth > 0 && g.below(4) == 0 {
			some = oneOf(&g.chance, g.parted(depth-1), xcon("o", some), xcon("list", some), xcon("v", some))
		}
		l = append(l, some)
	}
	return xtup(l...)
}

// pat makes a pattern of a type up, which stands in brackets or by itself.
func (g *author) pat(t api.T, depth int, vars *[]named) string {
	if depth <= 0 || g.below(6) == 0 {
		if g.below(2) == 0 {
			return "_"
		}
		x := named{name: g.name(), t: t}
		*vars = append(*vars, x)
		return x.name
	}
	sub := func(t api.T) string { return g.pat(t, depth-1, vars) }
	if t.Kind == api.XTup {
		return "(" + joined(t.L, ", ", sub) + ")"
	}
	num := xcon("int")
	switch t.Name {
	case "int":
		return strconv.Itoa(g.below(4))
	case "bool":
		return oneOf(&g.chance, "true", "false")
	case "list":
		if g.below(2) == 0 {
			return "[]"
		}
		return "(" + sub(t.L[0]) + " :: " + sub(t) + ")"
	case "o":
		return g.conPat(depth, vars, named{"None", t, 0}, named{"Some", t.L[0], 1})
	case "p":
		return g.conPat(depth, vars, named{"R", t, 0}, named{"P", xfun(t.L[0], t.L[1]), 1}, named{"Q", xtup(t.L[0], xfun(t.L[1], t.L[0])), 1})
	case "d":
		return g.conPat(depth, vars, named{"Z", t, 0}, named{"D", xfun(num, num), 1}, named{"E", xfun(t, num), 1}, named{"F", xcon("list", xfun(num, t)), 1})
	case "v":
		return g.conPat(depth, vars, named{"V", t.L[0], 1})
	}
	if cons := datas()[t.Name]; cons != nil {
		return g.conPat(depth, vars, cons...)
	}
	return "_"
}

// datas are the constructors of datatypes without types: free is 1 of those that have something, whose type it is then.
func datas() map[string][]named {
	num, none := xcon("int"), xtup()
	return map[string][]named{
		"c": {{"Red", none, 0}, {"Green", none, 0}, {"Blue", none, 0}},
		"t": {{"Leaf", none, 0}, {"Node", xtup(xcon("t"), num, xcon("t")), 1}, {"Tip", num, 1}},
		"w": {{"Wrap", xtup(num, xcon("c")), 1}},
		"s": {{"S", xtup(xcon("list", xcon("s")), num), 1}},
		"u": {{"U", none, 0}},
		"q": {{"K", xcon("v", xcon("q")), 1}, {"L", num, 1}, {"M", none, 0}},
		"r": {{"Ring", xcon("o", xcon("v", xcon("r"))), 1}},
		"k": {{"One", xtup(num, num), 1}, {"Two", xcon("string"), 1}, {"Three", xtup(num, xtup(num, xcon("c"))), 1}, {"Four", none, 0}, {"Five", xcon("c"), 1}, {"Six", none, 0}},
	}
}

func (g *author) conPat(depth int, vars *[]named, cons ...named) string {
	c := oneOf(&g.chance, cons...)
	if c.free == 0 {
		return c.name
	}
	return "(" + c.name + " " + g.pat(c.t, depth-oneOf(&g.chance, 0, 1), vars) + ")"
}

// dec makes a declaration up, and leaves what it declares in scope.
func (g *author) dec(depth int) string {
	switch g.below(6) {
	case 0:
		return "val _ = " + g.exp(g.typ(2), depth)
	case 1, 2:
		t, x := g.typ(2), g.name()
		s := "val " + x + " = " + g.exp(t, depth)
		g.vars = append(g.vars, named{name: x, t: t})
		return s
	case 3:
		t := xtup(g.typ(1), g.typ(1))
		x, y := named{name: g.name(), t: t.L[0]}, named{name: g.name(), t: t.L[1]}
		s := "val (" + x.name + ", " + y.name + ") = " + g.exp(t, depth)
		g.vars = append(g.vars, x, y)
		return s
	}
	var all []named
	for range 1 + g.below(3) {
		all = append(all, named{name: g.name(), t: xfun(g.typ(1), g.typ(2))})
	}
	var funs []string
	for _, f := range all {
		funs = append(funs, g.fun(f, all, depth))
	}
	g.vars = append(g.vars, all...)
	return "fun " + strings.Join(funs, " and ")
}

// fun is a function that knows itself, and others, as long as there is fuel.
func (g *author) fun(f named, all []named, depth int) string {
	x := named{name: g.name(), t: f.t.L[0]}
	s := f.name + " " + x.name
	to := f.t.L[1]
	vars := []named{x}
	if to.Kind == api.XFun && g.below(2) == 0 {
		y := named{name: g.name(), t: to.L[0]}
		s, to, vars = s+" "+y.name, to.L[1], append(vars, y)
	}
	if g.below(3) == 0 {
		return s + " = " + g.body(to, depth, vars...)
	}
	return s + " = if !fuel <= 0 then " + g.body(to, depth, vars...) + " else (fuel := !fuel - 1; " + g.body(to, depth, append(vars, all...)...) + ")"
}
