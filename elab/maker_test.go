package elab

import (
	"strconv"
	"strings"

	"bellows/api"
)

// maker makes programs up that have types: each expression for a type that is wanted.
type maker struct {
	*chance
	vars  []typed // in scope, the innermost last
	left  int     // how many more forms there may be
	local int     // how many local datatypes there were
}

type typed struct {
	name string
	t    api.T
}

func newMaker(seed uint64) *maker { return &maker{chance: &chance{seed: seed}} }

// library is what programs begin with: names that are used for several types.
const library = `
datatype 'a o = None | Some of 'a
datatype ('a, 'b) e = L of 'a | R of 'b * 'a
datatype 'a tree = Leaf | Node of 'a tree * 'a * 'a tree
datatype w = W of int
exception E of int
exception F
exception G of string list * w
fun id x = x
fun const x y = x
fun compose f g x = f (g x)
fun map f l = case l of [] => [] | x :: r => f x :: map f r
fun fold f z l = case l of [] => z | x :: r => f x (fold f z r)
fun rev l m = case l of [] => m | x :: r => rev r (x :: m)
fun put t x = case t of Leaf => Node (Leaf, x, Leaf) | Node (l, y, r) => if size y < 1 then Node (put l x, y, r) else Node (l, y, put r x)
fun times n f x = if n <= 0 then x else f (times (n - 1) f x)
fun even n = if n <= 0 then true else odd (n - 1) and odd n = if n <= 0 then false else even (n - 1)
val swap = fn (x, y) => (y, x)
val none = (None, [])
`

// hidden: is there a variable that hides this name?
func (g *maker) hidden(name string) bool {
	for _, v := range g.vars {
		if v.name == name {
			return true
		}
	}
	return false
}

// typ makes up a type.
func (g *maker) typ(depth int) api.T {
	sub := func() api.T { return g.typ(depth - 1) }
	n := g.below(16)
	if depth <= 0 {
		n = g.below(7)
	}
	switch n {
	case 0, 1:
		return xcon("int")
	case 2:
		return xcon("string")
	case 3:
		return xcon("bool")
	case 4:
		return xtup()
	case 5:
		return xcon("exn")
	case 6:
		return xcon("w")
	case 7, 8:
		return xcon("list", sub())
	case 9:
		return xcon("o", sub())
	case 10:
		return xcon("e", sub(), sub())
	case 11:
		return xcon("ref", sub())
	case 12:
		return xcon("array", sub())
	case 13:
		return xfun(sub(), sub())
	case 14:
		return xtup(sub(), sub())
	}
	return xtup(sub(), sub(), sub())
}

func isA(t api.T, name string) bool { return t.Kind == api.XCon && t.Name == name }

// scope is what is made with more variables in scope.
func (g *maker) scope(more []typed, do func() string) string {
	n := len(g.vars)
	g.vars = append(g.vars, more...)
	s := do()
	g.vars = g.vars[:n]
	return s
}

func (g *maker) name() string {
	return oneOf(g.chance, strings.Fields("a b c d f g h x y z x y a' size ref id print"))
}

// lib is s, if nothing hides the names in it, else another expression.
func (g *maker) lib(t api.T, names, s string) string {
	for _, n := range strings.Fields(names) {
		switch {
		case g.hidden(n) && isA(t, "ref"):
			return "(raise F)"
		case g.hidden(n):
			return g.plain(t, 0)
		}
	}
	return s
}

// exp makes up an expression, which stands in brackets or by itself.
func (g *maker) exp(t api.T, depth int) string {
	g.left--
	if depth <= 0 || g.left < 0 {
		return g.plain(t, 0)
	}
	depth--
	some := func() api.T { return g.typ(1) }
	switch g.below(24) {
	case 0, 1:
		return "(if " + g.exp(xcon("bool"), depth) + " then " + g.exp(t, depth) + " else " + g.exp(t, depth) + ")"
	case 2, 3:
		of := g.typ(2)
		return "(case " + g.exp(of, depth) + " of " + g.ways(of, t, depth, true) + ")"
	case 4, 5, 6:
		return g.let(t, depth)
	case 7:
		of := some()
		return "((fn " + g.ways(of, t, depth, true) + ") " + g.exp(of, depth) + ")"
	case 8:
		of := some()
		return "(" + g.exp(xfun(of, t), depth) + " " + g.exp(of, depth) + ")"
	case 9, 16, 17:
		return "(" + g.unit(depth) + "; " + g.exp(t, depth) + ")"
	case 10, 11:
		return "(" + g.exp(t, depth) + " handle " + g.ways(xcon("exn"), t, depth, false) + ")"
	case 12:
		if g.below(3) == 0 {
			return "(raise " + g.exp(xcon("exn"), depth) + ")"
		}
		return "(! " + g.exp(xcon("ref", t), depth) + ")"
	case 13:
		return g.lib(t, "sub array", "(sub ("+g.exp(xcon("array", t), depth)+", "+g.exp(xcon("int"), 0)+"))")
	case 14, 15:
		return g.generalUse(t, depth)
	}
	return g.plain(t, depth)
}

// generalUse makes something of what the library has for all types.
func (g *maker) generalUse(t api.T, depth int) string {
	u := g.typ(1)
	switch g.below(9) {
	case 0:
		return g.lib(t, "id", "(id "+g.exp(t, depth)+")")
	case 1:
		return g.lib(t, "const", "(const "+g.exp(t, depth)+" "+g.exp(u, depth)+")")
	case 2:
		v := g.typ(0)
		return g.lib(t, "compose", "(compose "+g.exp(xfun(u, t), depth)+" "+g.exp(xfun(v, u), depth)+" "+g.exp(v, depth)+")")
	case 3:
		return g.lib(t, "fold", "(fold "+g.exp(xfun(u, xfun(t, t)), depth)+" "+g.exp(t, depth)+" "+g.exp(xcon("list", u), depth)+")")
	case 4:
		return g.lib(t, "times", "(times "+strconv.Itoa(g.below(4))+" "+g.exp(xfun(t, t), depth)+" "+g.exp(t, depth)+")")
	case 5:
		return g.lib(t, "swap", "(case swap ("+g.exp(t, depth)+", "+g.exp(u, depth)+") of (_, q) => q)")
	case 6:
		return g.lib(t, "none", "(case none of (Some q, _) => q | (None, q :: _) => q | _ => "+g.exp(t, depth)+")")
	case 7:
		return g.lib(t, "id", "(id id "+g.exp(t, depth)+")")
	}
	return g.lib(t, "id", "((id (fn q => id q)) "+g.exp(t, depth)+")")
}

// let makes declarations up, and what they are there for.
func (g *maker) let(t api.T, depth int) string {
	n := len(g.vars)
	s := ""
	for range 1 + g.below(3) {
		s += g.dec(depth) + " "
	}
	s = "let " + s + "in " + g.exp(t, depth) + " end"
	g.vars = g.vars[:n]
	return s
}

// dec leaves its variables in scope.
func (g *maker) dec(depth int) string {
	switch g.below(8) {
	case 0, 1:
		t, name := g.typ(2), g.name()
		s := "val " + name + " = " + g.exp(t, depth)
		g.vars = append(g.vars, typed{name, t})
		return s
	case 2:
		t := xtup(g.typ(1), g.typ(1))
		p, vars := g.wide(t, 2)
		s := "val " + p + " = " + g.exp(t, depth)
		g.vars = append(g.vars, vars...)
		return s
	case 3:
		return "val _ = " + g.exp(g.typ(1), depth)
	case 4:
		return g.general(depth)
	case 5:
		g.local++
		k := strconv.Itoa(g.local)
		return oneOf(g.chance, []string{"datatype u = K" + k + " | M" + k + " of u", "exception X" + k + " of int * exn", "exception E" + k, "datatype 'a u = K" + k + " of 'a u o * 'a"})
	}
	return g.fun(depth)
}

// fun makes up a function that calls itself a few times.
func (g *maker) fun(depth int) string {
	name, t, of := g.name(), g.typ(1), g.typ(1)
	f := typed{name, xfun(xcon("int"), xfun(of, t))}
	p, vars := g.wide(of, 1)
	for name == "n" || strings.Contains(" "+strings.NewReplacer("(", " ", ")", " ", ",", " ").Replace(p)+" ", " "+name+" ") {
		p, vars = "_", nil
	}
	s := "fun " + name + " n " + p + " = if n <= 0 then " + g.scope(append(vars, typed{"n", xcon("int")}), func() string { return g.exp(t, depth) }) +
		" else " + g.scope(append(append([]typed{f}, vars...), typed{"n", xcon("int")}), func() string {
		again := "(" + name + " (n - 1) " + g.exp(of, depth-1) + ")"
		if g.hidden(name) && g.below(2) == 0 {
			return again
		}
		return "(case " + again + " of q => " + g.exp(t, depth) + ")"
	})
	g.vars = append(g.vars, typed{name + " 3", xfun(of, t)})
	return s
}

// general makes a function up that is used for several types.
func (g *maker) general(depth int) string {
	a, b := g.typ(1), g.typ(1)
	k := "p" + strconv.Itoa(len(g.vars))
	g.vars = append(g.vars, typed{"(fn q => case " + k + " q 1 of (r, _) => r)", xfun(a, a)}, typed{"(fn q => case " + k + " q \"\" of (r, _) => r)", xfun(b, b)}, typed{k + " ()", xfun(a, xtup(xtup(), a))})
	return oneOf(g.chance, []string{"fun " + k + " x y = (x, y)", "val " + k + " = fn x => fn y => (x, y)", "fun " + k + " x = let fun in' y = (x, y) in in' end", "fun " + k + " x y = " + k + "' y x and " + k + "' x y = if true then (y, x) else " + k + " y x"})
}

// ways are exhaustive, if that is asked for.
func (g *maker) ways(of, to api.T, depth int, all bool) string {
	var l []string
	way := func(p string, vars []typed) {
		l = append(l, p+" => "+g.scope(vars, func() string { return g.exp(to, depth) }))
	}
	if all && g.below(3) == 0 {
		for _, c := range g.split(of) {
			way(c.name, nil)
		}
		if len(l) > 0 {
			return strings.Join(l, " | ")
		}
	}
	for range g.below(3) {
		way(g.pat(of, 1+g.below(3)))
	}
	if all || len(l) == 0 {
		way(g.wide(of, g.below(3)))
	}
	return strings.Join(l, " | ")
}

// split are patterns, one of which fits each value.
func (g *maker) split(t api.T) []typed {
	m := map[string]string{"bool": "true false", "list": "[] _::_", "o": "None Some(_)", "e": "L(_) R(_,_)", "w": "W(_)"}
	var l []typed
	for _, p := range strings.Fields(m[t.Name]) {
		l = append(l, typed{name: p})
	}
	return l
}

// wide is a pattern that fits all values.
func (g *maker) wide(t api.T, depth int) (string, []typed) {
	switch {
	case depth > 0 && t.Kind == api.XTup && g.below(5) > 0:
		return g.row(t.L, depth, g.wide)
	case depth > 0 && isA(t, "w"):
		p, vars := g.wide(xcon("int"), depth-1)
		return "(W " + p + ")", vars
	case g.below(4) == 0:
		return "_", nil
	}
	name := g.name()
	return name, []typed{{name, t}}
}

// row is a tuple of patterns, in which no variable stands twice.
func (g *maker) row(l []api.T, depth int, part func(api.T, int) (string, []typed)) (string, []typed) {
	var parts []string
	var all []typed
	for _, t := range l {
		p, vars := part(t, depth-1)
		for _, v := range vars {
			for _, w := range all {
				if v.name == w.name {
					p, vars = "_", nil
				}
			}
		}
		parts, all = append(parts, p), append(all, vars...)
	}
	return "(" + strings.Join(parts, ", ") + ")", all
}

// pat is a pattern that may not fit.
func (g *maker) pat(t api.T, depth int) (string, []typed) {
	if depth <= 0 || g.below(6) == 0 {
		return g.wide(t, 0)
	}
	con := func(name string, of api.T) (string, []typed) {
		p, vars := g.pat(of, depth-1)
		return "(" + name + " " + p + ")", vars
	}
	n := g.below(3)
	switch {
	case t.Kind == api.XTup:
		return g.row(t.L, depth, g.pat)
	case isA(t, "int"):
		return oneOf(g.chance, []string{"0", "1", "~1"}), nil
	case isA(t, "bool"):
		return strconv.FormatBool(n > 0), nil
	case isA(t, "exn"):
		if n == 0 {
			return con("E", xcon("int"))
		}
		return oneOf(g.chance, []string{"Div", "F", "Subscript", "Size", "Match", "(G ([], _))"}), nil
	case isA(t, "list") && n > 0:
		return con("Cons", xtup(t.L[0], t))
	case isA(t, "list"):
		return "[]", nil
	case isA(t, "o") && n > 0:
		return con("Some", t.L[0])
	case isA(t, "o"):
		return "None", nil
	case isA(t, "e") && n > 0:
		return con("L", t.L[0])
	case isA(t, "e"):
		return con("R", xtup(t.L[1], t.L[0]))
	}
	return g.wide(t, depth)
}

// plain is an expression by the type's own means, or a variable.
func (g *maker) plain(t api.T, depth int) string {
	if g.below(3) > 0 {
		if v := g.variable(t); v != "" {
			return v
		}
	}
	switch {
	case t.Kind == api.XFun:
		p, vars := g.wide(t.L[0], 1)
		return "(fn " + p + " => " + g.scope(vars, func() string { return g.exp(t.L[1], depth) }) + ")"
	case t.Kind == api.XTup && len(t.L) == 0:
		return g.unit(depth)
	case t.Kind == api.XTup:
		return "(" + rows(t.L, ", ", func(x api.T) string { return g.exp(x, depth) }) + ")"
	case isA(t, "int"):
		return g.num(depth)
	case isA(t, "string"):
		s := oneOf(g.chance, []string{"\"\"", "\"a\"", "\"bc\""})
		if depth > 0 && g.below(2) == 0 {
			return "(" + g.exp(t, depth) + " ^ " + g.exp(t, depth) + ")"
		}
		return s
	case isA(t, "bool"):
		return g.truth(depth)
	}
	return g.data(t, depth)
}

// variable is one in scope that is of the type.
func (g *maker) variable(t api.T) string {
	var l []string
	for i, v := range g.vars {
		is := toldT(v.t) == toldT(t)
		for _, w := range g.vars[i+1:] {
			a, _, _ := strings.Cut(v.name, " ")
			b, _, _ := strings.Cut(w.name, " ")
			is = is && a != b
		}
		if is {
			l = append(l, "("+v.name+")")
		}
	}
	if len(l) == 0 {
		return ""
	}
	return oneOf(g.chance, l)
}

func (g *maker) unit(depth int) string {
	if g.below(3) == 0 {
		return oneOf(g.chance, []string{"()", "(putc 66)", "(putc 67)"})
	}
	if depth <= 0 {
		return "()"
	}
	u := g.typ(1)
	switch g.below(6) {
	case 0, 4, 5:
		return g.lib(xtup(), "print", "(print "+g.exp(xcon("string"), depth)+")")
	case 1:
		return "(putc " + g.exp(xcon("int"), depth) + ")"
	case 2:
		return "(" + g.exp(xcon("ref", u), depth) + " := " + g.exp(u, depth) + ")"
	}
	return "(update (" + g.exp(xcon("array", u), depth) + ", " + g.exp(xcon("int"), 0) + ", " + g.exp(u, depth) + "))"
}

func (g *maker) num(depth int) string {
	num := xcon("int")
	if depth <= 0 || g.below(3) == 0 {
		return oneOf(g.chance, []string{"0", "1", "2", "65", "(~1)", "7", "4611686018427387903"})
	}
	switch g.below(7) {
	case 0:
		return g.lib(num, "size", "(size "+g.exp(xcon("string"), depth)+")")
	case 1:
		return "(byte (" + g.exp(xcon("string"), depth) + ", " + g.exp(num, 0) + "))"
	case 2:
		return "(cmp (" + g.exp(xcon("string"), depth) + ", " + g.exp(xcon("string"), depth) + "))"
	case 3:
		return "(length " + g.exp(xcon("array", g.typ(1)), depth) + ")"
	case 4:
		return oneOf(g.chance, []string{"(getc ())", "(getc (putc 1))", "((getc) ())", "(~ " + g.exp(num, depth) + ")"})
	}
	return "(" + g.exp(num, depth) + " " + oneOf(g.chance, strings.Fields("+ - * div mod")) + " " + g.exp(num, depth) + ")"
}

func (g *maker) truth(depth int) string {
	if depth <= 0 || g.below(3) == 0 {
		return oneOf(g.chance, []string{"true", "false"})
	}
	if g.below(3) == 0 {
		return "(" + g.exp(xcon("bool"), depth) + oneOf(g.chance, []string{" andalso ", " orelse "}) + g.exp(xcon("bool"), depth) + ")"
	}
	return "(" + g.exp(xcon("int"), depth) + " " + oneOf(g.chance, strings.Fields("< <= > >= = <>")) + " " + g.exp(xcon("int"), depth) + ")"
}

func (g *maker) data(t api.T, depth int) string {
	n := 0
	if depth > 0 {
		n = g.below(5)
	}
	depth--
	part := func(i int) string { return g.exp(t.L[i], depth) }
	switch t.Name {
	case "list":
		return g.list(t, n, depth)
	case "o":
		switch n {
		case 0:
			return "None"
		case 1:
			return "(case Some of k => k " + part(0) + ")"
		}
		return "(Some " + part(0) + ")"
	case "e":
		if n < 2 {
			return "(L " + part(0) + ")"
		}
		return "(R (" + part(1) + ", " + part(0) + "))"
	case "ref":
		return g.lib(t, "ref", "(ref "+part(0)+")")
	case "array":
		return "(array (" + []string{"2", "0", "1", "3", "~1"}[n] + ", " + part(0) + "))"
	case "w":
		return "(W " + g.exp(xcon("int"), depth) + ")"
	}
	switch n {
	case 1:
		return "(G ([" + g.exp(xcon("string"), depth) + "], " + g.exp(xcon("w"), depth) + "))"
	case 2:
		return "(E " + g.exp(xcon("int"), depth) + ")"
	}
	return oneOf(g.chance, []string{"Div", "F", "(E 1)", "Match"})
}

func (g *maker) list(t api.T, n, depth int) string {
	switch n {
	case 1:
		return "[" + g.exp(t.L[0], depth) + "]"
	case 2:
		return "(" + g.exp(t.L[0], depth) + " :: " + g.exp(t, depth) + ")"
	case 3:
		return g.lib(t, "map", "(map "+g.exp(xfun(xcon("int"), t.L[0]), depth)+" [1, 2])")
	case 4:
		return g.lib(t, "rev", "(rev "+g.exp(t, depth)+" [])")
	}
	return "[]"
}

// program is a text.
func (g *maker) program(forms int) string {
	g.vars, g.left, g.local = nil, forms, 0
	s := library
	for range g.below(4) {
		s += g.dec(4) + "\n"
	}
	return s + "in " + g.exp(g.typ(2), 6)
}
