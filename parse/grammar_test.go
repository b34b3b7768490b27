package parse

import (
	"regexp"
	"slices"
	"strings"

	"bellows/api"
)

// grammarAsTold is the chapter's grammar, letter by letter, but that the sign of a cmp is a rule.
const grammarAsTold = `
program: dec+ "in" seq | seq
seq: exp (";" exp)*
dec: "val" pat "=" exp | "fun" fun ("and" fun)* | "datatype" vars? Name "=" con ("|" con)* | "exception" con
vars: Var | "(" Var ("," Var)* ")"
con: Con ("of" ty)?
fun: Name atpat+ "=" exp
ty: tuple ("->" ty)?
tuple: apply ("*" apply)*
apply: (Var | Name | "(" ty ")" | "(" ty ("," ty)+ ")" Name) Name*
exp: "fn" match | "case" exp "of" match | "if" exp "then" exp "else" exp | "raise" exp | or ("handle" match)?
match: "|"? pat "=>" exp ("|" pat "=>" exp)*
or: and ("orelse" and)*
and: set ("andalso" set)*
set: cmp (":=" set)?
cmp: cons (sign cons)?
sign: "=" | "<>" | "<" | "<=" | ">" | ">="
cons: sum ("::" cons)?
sum: mul (("+" | "-" | "^") mul)*
mul: call (("*" | "div" | "mod") call)*
call: unary unary*
unary: "!" unary | "~" unary | atom
atom: Num | Text | Name | Con | "(" ")" | "(" exp ("," exp)+ ")" | "(" seq ")" | "let" dec* "in" seq "end" | "[" (exp ("," exp)*)? "]"
pat: apat ("::" pat)?
apat: Con atpat | atpat
atpat: "_" | Name | Num | "~" Num | Con | "(" ")" | "(" pat ("," pat)* ")" | "[" (pat ("," pat)*)? "]"
`

// part is one of a grammar: op is "sign" (the word text), "kind" (a token of the kind text), "rule" (the rule text), "row" of l, "or" of l, and ? * + of the one of l.
type part struct {
	op   string
	text string
	l    []*part
}

// grammar is its rules by name.
func grammar() map[string]*part {
	g := map[string]*part{}
	for line := range strings.SplitSeq(strings.TrimSpace(grammarAsTold), "\n") {
		name, rest, _ := strings.Cut(line, ": ")
		r := grammarReader{regexp.MustCompile(`"[^"]+"|\w+|[()|*+?]`).FindAllString(rest, -1)}
		g[name] = r.choice()
	}
	return g
}

type grammarReader struct{ rest []string }

func (r *grammarReader) choice() *part {
	l := []*part{r.row()}
	for len(r.rest) > 0 && r.rest[0] == "|" {
		r.rest = r.rest[1:]
		l = append(l, r.row())
	}
	return &part{op: "or", l: l}
}

func (r *grammarReader) row() *part {
	var l []*part
	for len(r.rest) > 0 && r.rest[0] != "|" && r.rest[0] != ")" {
		l = append(l, r.repeated())
	}
	return &part{op: "row", l: l}
}

func (r *grammarReader) repeated() *part {
	p := r.single()
	if len(r.rest) > 0 && strings.Contains("?*+", r.rest[0]) {
		p = &part{op: r.rest[0], l: []*part{p}}
		r.rest = r.rest[1:]
	}
	return p
}

func (r *grammarReader) single() *part {
	s := r.rest[0]
	r.rest = r.rest[1:]
	switch {
	case s == "(":
		p := r.choice()
		r.rest = r.rest[1:]
		return p
	case s[0] == '"':
		return &part{op: "sign", text: strings.Trim(s, `"`)}
	case s[0] <= 'Z':
		return &part{op: "kind", text: s}
	}
	return &part{op: "rule", text: s}
}

// kindsAsTold are the kinds of tokens by their names in the grammar.
func kindsAsTold() map[string]int {
	return map[string]int{"Name": api.TokName, "Con": api.TokCon, "Num": api.TokNum, "Text": api.TokText, "Var": api.TokVar}
}

// takes: is t what p, a sign or a kind, stands for?
func (p *part) takes(t api.Token) bool {
	if p.op == "sign" {
		return t.Kind == api.TokSign && t.Text == p.text
	}
	return t.Kind == kindsAsTold()[p.text]
}

// shortest is how many tokens the shortest text of a part has, by those of the rules as they are known.
func (p *part) shortest(known map[string]int) int {
	switch p.op {
	case "sign", "kind":
		return 1
	case "rule":
		if n, is := known[p.text]; is {
			return n
		}
		return 1000
	case "?", "*":
		return 0
	case "+":
		return p.l[0].shortest(known)
	}
	var sizes []int
	sum := 0
	for _, q := range p.l {
		n := q.shortest(known)
		sizes = append(sizes, n)
		sum += n
	}
	if p.op == "row" {
		return sum
	}
	return slices.Min(sizes)
}

// maker makes texts by a grammar, at random.
type maker struct {
	*chance
	rules map[string]*part
	known map[string]int
}

func newMaker(seed uint64) *maker {
	m := &maker{&chance{seed}, grammar(), map[string]int{}}
	for range len(m.rules) {
		for name, p := range m.rules {
			m.known[name] = p.shortest(m.known)
		}
	}
	return m
}

// word is a token of a kind that is no sign.
func (m *maker) word(kind string) string {
	return oneOf(m.chance, map[string][]string{
		"Name": {"x", "y", "f", "int", "list", "a'_1"},
		"Con":  {"A", "B", "true", "false", "Nil", "Cons"},
		"Num":  {"0", "1", "7", "4611686018427387903"},
		"Text": {`""`, `"a"`, `"\n\255\\"`, `"("`, `"val"`},
		"Var":  {"'a", "'b"},
	}[kind])
}

// text makes a text of a part, of some size.
func (m *maker) text(p *part, size int) []string {
	switch p.op {
	case "sign":
		return []string{p.text}
	case "kind":
		return []string{m.word(p.text)}
	case "rule":
		return m.text(m.rules[p.text], size)
	case "or":
		return m.text(m.choose(p, size), size)
	}
	parts := []*part{p}
	if p.op == "row" {
		parts = p.l
	}
	parts = m.times(parts, size)
	rooms := 0
	for _, q := range parts {
		if q.op != "sign" && q.op != "kind" {
			rooms++
		}
	}
	var l []string
	for _, q := range parts {
		l = append(l, m.text(q, (size-len(parts)+rooms)/max(rooms, 1))...)
	}
	return l
}

// times are parts, each as often as it shall stand there.
func (m *maker) times(parts []*part, size int) []*part {
	var l []*part
	for _, q := range parts {
		if !strings.Contains("?*+", q.op) {
			l = append(l, q)
			continue
		}
		if q.op == "+" {
			l = append(l, q.l[0])
		}
		for size > 0 && m.below(4) == 0 {
			l = append(l, q.l[0])
			if q.op == "?" {
				break
			}
		}
	}
	return l
}

// choose takes any way, the last one somewhat often, or, where there is no room, one of the shortest.
func (m *maker) choose(p *part, size int) *part {
	switch {
	case size > 0 && m.below(3) == 0:
		return p.l[len(p.l)-1]
	case size > 0:
		return oneOf(m.chance, p.l)
	}
	var l []*part
	for _, q := range p.l {
		if q.shortest(m.known) == p.shortest(m.known) {
			l = append(l, q)
		}
	}
	return oneOf(m.chance, l)
}

// program is a text that has a program, as tokens.
func (m *maker) program(size int) []string { return m.text(m.rules["program"], size) }

// anyWords are tokens of all kinds.
func anyWords() []string {
	return strings.Fields(`x f A true 1 "a" 'a let val fun and in end if then else case of fn datatype exception raise handle andalso orelse div mod
		( ) [ ] , ; = <> < <= > >= + - * ^ :: := ! | => -> _ ~`)
}

// spoilt is a text with something wrong in it, most likely.
func (m *maker) spoilt(l []string) []string {
	l = slices.Clone(l)
	for range 1 + m.below(2) {
		i := m.below(len(l) + 1)
		switch m.below(5) {
		case 0:
			l = slices.Delete(l, min(i, len(l)), min(i+1+m.below(2), len(l)))
		case 1:
			l = slices.Insert(l, i, oneOf(m.chance, anyWords()))
		case 2:
			if i < len(l) {
				l[i] = oneOf(m.chance, anyWords())
			}
		case 3:
			l = l[:i]
		case 4:
			if i < len(l) {
				j := m.below(len(l))
				l[i], l[j] = l[j], l[i]
			}
		}
	}
	return l
}
