package parse

import (
	"slices"

	"bellows/api"
	"bellows/lex"
)

// tree is what is read by a rule, or a token: then rule is empty.
type tree struct {
	rule string
	tok  api.Token
	l    []*tree
}

// model reads by a grammar, however deep: of the ways of a part each is tried, and the longest taken.
type model struct {
	rules  map[string]*part
	tokens []api.Token
	far    int  // the furthest place at which something is wanting
	big    bool // and there a form would stand too deep
	deep   int  // the first place at which a form begins that stands too deep
	known  map[spot]answer
}

type spot struct {
	rule      string
	at, depth int
}

type answer struct {
	t   *tree
	end int
}

// wanting keeps in mind that there is no way on at a place.
func (m *model) wanting(at int, big bool) {
	if at > m.far {
		m.far, m.big = at, false
	}
	if at == m.far && big {
		m.big = true
	}
}

// tooDeep keeps in mind that a form may stand at a place where it is too deep.
func (m *model) tooDeep(p *part, at int) {
	m.wanting(at, true)
	if at < len(m.tokens) && m.begins(p, m.tokens[at]) {
		m.deep = min(m.deep, at)
	}
}

// begins: may a part begin with t?
func (m *model) begins(p *part, t api.Token) bool {
	switch p.op {
	case "sign", "kind":
		return p.takes(t)
	case "rule":
		return m.begins(m.rules[p.text], t)
	}
	for _, q := range p.l {
		if m.begins(q, t) {
			return true
		}
		if p.op == "row" && q.op != "?" && q.op != "*" {
			return false
		}
	}
	return false
}

// read gives what is read of a part from a place on, and where that ends, -1, if it isn't there.
func (m *model) read(p *part, at, depth int) ([]*tree, int) {
	switch p.op {
	case "sign", "kind":
		if at < len(m.tokens) && p.takes(m.tokens[at]) {
			return []*tree{{tok: m.tokens[at]}}, at + 1
		}
		m.wanting(at, false)
		return nil, -1
	case "rule":
		t, end := m.rule(p.text, at, depth)
		return []*tree{t}, end
	case "row":
		return m.row(p, at, depth)
	case "or":
		var best []*tree
		end := -1
		for _, q := range p.l {
			if l, to := m.read(q, at, depth); to > end {
				best, end = l, to
			}
		}
		return best, end
	}
	return m.repeated(p, at, depth)
}

func (m *model) row(p *part, at, depth int) ([]*tree, int) {
	var l []*tree
	for i, q := range p.l {
		deeper := 0
		behind := ""
		if i > 0 {
			behind = p.l[i-1].text
		}
		if q.op == "rule" && (slices.Contains([]string{"exp", "pat", "ty"}, q.text) || slices.Contains([]string{"::", ":=", "->", "!", "~"}, behind)) {
			deeper = 1
			if depth >= api.MaxNest {
				m.tooDeep(q, at)
			}
		}
		more, end := m.read(q, at, depth+deeper)
		if end < 0 {
			return nil, -1
		}
		l, at = append(l, more...), end
	}
	return l, at
}

func (m *model) repeated(p *part, at, depth int) ([]*tree, int) {
	var l []*tree
	for n := 0; ; n++ {
		if p.op == "?" && n == 1 {
			return l, at
		}
		more, end := m.read(p.l[0], at, depth)
		if end < 0 {
			if p.op == "+" && n == 0 {
				return nil, -1
			}
			return l, at
		}
		l, at = append(l, more...), end
	}
}

func (m *model) rule(name string, at, depth int) (*tree, int) {
	key := spot{name, at, depth}
	if a, is := m.known[key]; is {
		return a.t, a.end
	}
	l, end := m.read(m.rules[name], at, depth)
	a := answer{&tree{rule: name, l: l}, end}
	m.known[key] = a
	return a.t, a.end
}

// parseAsTold is Parse by the chapter's words.
func parseAsTold(rules map[string]*part, src string) (api.Exp, api.Errno, int) {
	l, f, at := lex.Lex(src)
	if f != api.OK {
		return api.Exp{}, f, at
	}
	m := &model{rules: rules, tokens: l, known: map[spot]answer{}, deep: len(l)}
	t, end := m.rule("program", 0, 0)
	switch {
	case m.deep < len(l):
		return api.Exp{}, api.ErrBig, l[m.deep].At
	case end == len(l):
		return expAsTold(t), api.OK, 0
	}
	f, at = api.ErrParse, len(src)
	if m.big {
		f = api.ErrBig
	}
	if m.far < len(l) {
		at = l[m.far].At
	}
	return api.Exp{}, f, at
}

// first is the token with which a tree begins.
func (t *tree) first() api.Token {
	for t.rule != "" {
		t = t.l[0]
	}
	return t.tok
}

// is: is it this sign?
func (t *tree) is(sign string) bool {
	return t.rule == "" && t.tok.Kind == api.TokSign && t.tok.Text == sign
}

// of are the trees of a rule.
func (t *tree) of(rule string) []*tree {
	var l []*tree
	for _, x := range t.l {
		if x.rule == rule {
			l = append(l, x)
		}
	}
	return l
}

// all is a list made of a list.
func all[F any](l []*tree, f func(*tree) F) []F {
	var m []F
	for _, t := range l {
		m = append(m, f(t))
	}
	return m
}

func eCon(at int, name string) api.Exp { return api.Exp{Kind: api.ECon, At: at, Name: name} }

func pCon(at int, name string, l ...api.Pat) api.Pat {
	return api.Pat{Kind: api.PCon, At: at, Name: name, L: l}
}

func eCons(at int, a, b api.Exp) api.Exp {
	return api.Exp{Kind: api.EApp, At: at, L: []api.Exp{eCon(at, "Cons"), {Kind: api.ETuple, At: at, L: []api.Exp{a, b}}}}
}

func pCons(at int, a, b api.Pat) api.Pat {
	return pCon(at, "Cons", api.Pat{Kind: api.PTuple, At: at, L: []api.Pat{a, b}})
}

func trueOrFalse(at int, a, b, c api.Exp) api.Exp {
	return api.Exp{Kind: api.ECase, At: at, L: []api.Exp{a}, Cases: []api.Case{{P: pCon(at, "true"), E: b}, {P: pCon(at, "false"), E: c}}}
}

// twoAsTold is what a sign makes of its two sides.
func twoAsTold(sign string, a, b api.Exp) api.Exp {
	switch sign {
	case ";":
		return api.Exp{Kind: api.ELet, At: a.At, L: []api.Exp{b}, Decs: []api.Dec{{Kind: api.DVal, At: a.At, P: api.Pat{Kind: api.PAny, At: a.At}, E: a}}}
	case "orelse":
		return trueOrFalse(a.At, a, eCon(a.At, "true"), b)
	case "andalso":
		return trueOrFalse(a.At, a, b, eCon(a.At, "false"))
	case "::":
		return eCons(a.At, a, b)
	}
	return api.Exp{Kind: api.EPrim, At: a.At, Name: sign, L: []api.Exp{a, b}}
}

func expAsTold(t *tree) api.Exp {
	at := t.first().At
	switch t.rule {
	case "program":
		if len(t.l) == 1 {
			return expAsTold(t.l[0])
		}
		return api.Exp{Kind: api.ELet, At: at, Decs: all(t.of("dec"), decAsTold), L: all(t.of("seq"), expAsTold)}
	case "exp":
		return wordAsTold(t, at)
	case "unary":
		if len(t.l) == 1 {
			return expAsTold(t.l[0])
		}
		return api.Exp{Kind: api.EPrim, At: at, Name: t.first().Text, L: []api.Exp{expAsTold(t.l[1])}}
	case "atom":
		return atomAsTold(t, at)
	case "call":
		e := expAsTold(t.l[0])
		for _, x := range t.l[1:] {
			e = api.Exp{Kind: api.EApp, At: e.At, L: []api.Exp{e, expAsTold(x)}}
		}
		return e
	}
	e := expAsTold(t.l[0])
	for i := 1; i < len(t.l); i += 2 {
		e = twoAsTold(t.l[i].first().Text, e, expAsTold(t.l[i+1]))
	}
	return e
}

func wordAsTold(t *tree, at int) api.Exp {
	exps := all(t.of("exp"), expAsTold)
	var ways []api.Case
	for _, m := range t.of("match") {
		for i, p := range m.of("pat") {
			ways = append(ways, api.Case{P: patAsTold(p), E: expAsTold(m.of("exp")[i])})
		}
	}
	switch {
	case t.l[0].is("fn"):
		return api.Exp{Kind: api.EFn, At: at, Cases: ways}
	case t.l[0].is("case"):
		return api.Exp{Kind: api.ECase, At: at, L: exps, Cases: ways}
	case t.l[0].is("raise"):
		return api.Exp{Kind: api.ERaise, At: at, L: exps}
	case t.l[0].is("if"):
		return trueOrFalse(at, exps[0], exps[1], exps[2])
	}
	e := expAsTold(t.l[0])
	if len(t.l) > 1 {
		return api.Exp{Kind: api.EHandle, At: e.At, L: []api.Exp{e}, Cases: ways}
	}
	return e
}

func atomAsTold(t *tree, at int) api.Exp {
	tok := t.first()
	exps := all(t.of("exp"), expAsTold)
	switch {
	case tok.Kind == api.TokNum:
		return api.Exp{Kind: api.EInt, At: at, N: tok.N}
	case tok.Kind == api.TokText:
		return api.Exp{Kind: api.EText, At: at, Name: tok.Text}
	case tok.Kind == api.TokName:
		return api.Exp{Kind: api.EVar, At: at, Name: tok.Text}
	case tok.Kind == api.TokCon:
		return eCon(at, tok.Text)
	case tok.Text == "let":
		return api.Exp{Kind: api.ELet, At: at, Decs: all(t.of("dec"), decAsTold), L: all(t.of("seq"), expAsTold)}
	case tok.Text == "[":
		e := eCon(at, "Nil")
		for i := len(exps) - 1; i >= 0; i-- {
			e = eCons(at, exps[i], e)
		}
		return e
	case len(t.of("seq")) == 1:
		return expAsTold(t.of("seq")[0])
	}
	return api.Exp{Kind: api.ETuple, At: at, L: exps}
}

func decAsTold(t *tree) api.Dec {
	d := api.Dec{At: t.first().At}
	switch t.first().Text {
	case "val":
		d.Kind, d.P, d.E = api.DVal, patAsTold(t.l[1]), expAsTold(t.l[3])
	case "fun":
		d.Kind, d.Funs = api.DFun, all(t.of("fun"), funAsTold)
	case "datatype":
		d.Kind, d.Cons = api.DData, all(t.of("con"), conAsTold)
		for _, v := range t.of("vars") {
			for _, x := range v.l {
				if x.tok.Kind == api.TokVar {
					d.Params = append(d.Params, x.tok.Text)
				}
			}
		}
		for _, x := range t.of("") {
			if x.tok.Kind == api.TokName {
				d.Name = x.tok.Text
			}
		}
	case "exception":
		d.Kind, d.Cons = api.DExn, all(t.of("con"), conAsTold)
	}
	return d
}

func funAsTold(t *tree) api.Fun {
	name := t.first()
	params, e := all(t.of("atpat"), patAsTold), expAsTold(t.of("exp")[0])
	for i := len(params) - 1; i >= 0; i-- {
		e = api.Exp{Kind: api.EFn, At: name.At, Cases: []api.Case{{P: params[i], E: e}}}
	}
	return api.Fun{Name: name.Text, At: name.At, E: e}
}

func conAsTold(t *tree) api.Con {
	c := api.Con{Name: t.first().Text, At: t.first().At}
	for _, x := range t.of("ty") {
		c.Has, c.Ty = true, tyAsTold(x)
	}
	return c
}

func patAsTold(t *tree) api.Pat {
	tok := t.first()
	at := tok.At
	switch t.rule {
	case "pat":
		p := patAsTold(t.l[0])
		if len(t.l) > 1 {
			return pCons(p.At, p, patAsTold(t.l[2]))
		}
		return p
	case "apat":
		if len(t.l) == 2 {
			return pCon(at, tok.Text, patAsTold(t.l[1]))
		}
		return patAsTold(t.l[0])
	}
	pats := all(t.of("pat"), patAsTold)
	switch {
	case tok.Kind == api.TokName:
		return api.Pat{Kind: api.PVar, At: at, Name: tok.Text}
	case tok.Kind == api.TokNum:
		return api.Pat{Kind: api.PInt, At: at, N: tok.N}
	case tok.Kind == api.TokCon:
		return pCon(at, tok.Text)
	case tok.Text == "_":
		return api.Pat{Kind: api.PAny, At: at}
	case tok.Text == "~":
		return api.Pat{Kind: api.PInt, At: at, N: -t.l[1].tok.N}
	case tok.Text == "[":
		p := pCon(at, "Nil")
		for i := len(pats) - 1; i >= 0; i-- {
			p = pCons(at, pats[i], p)
		}
		return p
	case len(pats) == 1:
		return pats[0]
	}
	return api.Pat{Kind: api.PTuple, At: at, L: pats}
}

func tyAsTold(t *tree) api.Ty {
	tok := t.first()
	switch t.rule {
	case "ty":
		from := tyAsTold(t.l[0])
		if len(t.l) > 1 {
			return api.Ty{Kind: api.TArrow, At: from.At, L: []api.Ty{from, tyAsTold(t.l[2])}}
		}
		return from
	case "tuple":
		l := all(t.of("apply"), tyAsTold)
		if len(l) > 1 {
			return api.Ty{Kind: api.TTuple, At: l[0].At, L: l}
		}
		return l[0]
	}
	l := all(t.of("ty"), tyAsTold)
	e := api.Ty{Kind: api.TCon, At: tok.At, Name: tok.Text}
	rest := t.l[1:]
	switch {
	case tok.Kind == api.TokVar:
		e.Kind = api.TVar
	case len(l) == 1:
		e, rest = l[0], t.l[3:]
	case len(l) > 1:
		e.Name, e.L, rest = t.l[2*len(l)+1].tok.Text, l, t.l[2*len(l)+2:]
	}
	for _, x := range rest {
		e = api.Ty{Kind: api.TCon, At: e.At, Name: x.tok.Text, L: []api.Ty{e}}
	}
	return e
}
