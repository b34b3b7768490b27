package parse

import "bellows/api"

// program reads all tokens.
func (r *reader) program() api.Exp {
	var e api.Exp
	if r.seesDec() {
		e = r.scope(r.here().At)
	} else {
		e = r.seq()
	}
	if len(r.rest) > 0 {
		r.stop(api.ErrParse)
	}
	return e
}

// scope reads declarations, and what they are there for.
func (r *reader) scope(at int) api.Exp {
	var decs []api.Dec
	for r.seesDec() {
		decs = append(decs, r.dec())
	}
	r.need("in")
	return api.Exp{Kind: api.ELet, At: at, Decs: decs, L: []api.Exp{r.seq()}}
}

func (r *reader) seq() api.Exp { return r.seqBehind(r.exp()) }

// seqBehind reads on behind the first expression of a seq.
func (r *reader) seqBehind(first api.Exp) api.Exp { return r.repeated(first, r.exp, then, ";") }

func (r *reader) exp() api.Exp { return within(r, r.expInside) }

func (r *reader) expInside() api.Exp {
	at := r.here().At
	switch {
	case r.takes("fn"):
		return api.Exp{Kind: api.EFn, At: at, Cases: r.match()}
	case r.takes("case"):
		e := r.exp()
		r.need("of")
		return api.Exp{Kind: api.ECase, At: at, L: []api.Exp{e}, Cases: r.match()}
	case r.takes("if"):
		return r.ifBehind(at)
	case r.takes("raise"):
		return api.Exp{Kind: api.ERaise, At: at, L: []api.Exp{r.exp()}}
	}
	e := r.or()
	if r.takes("handle") {
		return api.Exp{Kind: api.EHandle, At: e.At, L: []api.Exp{e}, Cases: r.match()}
	}
	return e
}

// ifBehind reads on behind an if.
func (r *reader) ifBehind(at int) api.Exp {
	a := r.exp()
	r.need("then")
	b := r.exp()
	r.need("else")
	return choice(at, a, b, r.exp())
}

func (r *reader) match() []api.Case {
	r.takes("|")
	return row(r, "|", func() api.Case {
		p := r.pat()
		r.need("=>")
		return api.Case{P: p, E: r.exp()}
	})
}

func (r *reader) or() api.Exp {
	return r.repeated(r.and(), r.and, func(_ string, a, b api.Exp) api.Exp {
		return choice(a.At, a, constructor(a.At, "true"), b)
	}, "orelse")
}

func (r *reader) and() api.Exp {
	return r.repeated(r.set(), r.set, func(_ string, a, b api.Exp) api.Exp {
		return choice(a.At, a, b, constructor(a.At, "false"))
	}, "andalso")
}

func (r *reader) set() api.Exp {
	return r.once(r.cmp(), func() api.Exp { return within(r, r.set) }, reckoning, ":=")
}

func (r *reader) cmp() api.Exp {
	return r.once(r.cons(), r.cons, reckoning, "=", "<>", "<", "<=", ">", ">=")
}

func (r *reader) cons() api.Exp {
	return r.once(r.sum(), func() api.Exp { return within(r, r.cons) }, func(_ string, a, b api.Exp) api.Exp {
		return cell(a.At, a, b)
	}, "::")
}

func (r *reader) sum() api.Exp { return r.repeated(r.mul(), r.mul, reckoning, "+", "-", "^") }

func (r *reader) mul() api.Exp { return r.repeated(r.call(), r.call, reckoning, "*", "div", "mod") }

func (r *reader) call() api.Exp {
	e := r.unary()
	for r.seesUnary() {
		e = application(e, r.unary())
	}
	return e
}

func (r *reader) seesUnary() bool {
	return r.is(api.TokNum, api.TokText, api.TokName, api.TokCon) || r.sees("!", "~", "(", "let", "[")
}

func (r *reader) unary() api.Exp {
	t := r.here()
	if !r.takes("!", "~") {
		return r.atom()
	}
	return api.Exp{Kind: api.EPrim, At: t.At, Name: t.Text, L: []api.Exp{within(r, r.unary)}}
}

func (r *reader) atom() api.Exp {
	at := r.here().At
	switch {
	case r.takes("("):
		return r.bracketed(at)
	case r.takes("["):
		return list(at, closed(r, "]", r.exp))
	case r.takes("let"):
		e := r.scope(at)
		r.need("end")
		return e
	}
	return r.single()
}

// bracketed reads on behind an opening bracket.
func (r *reader) bracketed(at int) api.Exp {
	if r.takes(")") {
		return tuple(at)
	}
	l := row(r, ",", r.exp)
	e := tuple(at, l...)
	if len(l) == 1 {
		e = r.seqBehind(l[0])
	}
	r.need(")")
	return e
}

// single reads an expression of one token.
func (r *reader) single() api.Exp {
	t := r.needs(api.TokNum, api.TokText, api.TokName, api.TokCon)
	e := api.Exp{At: t.At, Name: t.Text, N: t.N}
	switch t.Kind {
	case api.TokNum:
		e.Kind = api.EInt
	case api.TokText:
		e.Kind = api.EText
	case api.TokName:
		e.Kind = api.EVar
	case api.TokCon:
		e.Kind = api.ECon
	}
	return e
}
