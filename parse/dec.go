package parse

import "bellows/api"

func (r *reader) seesDec() bool { return r.sees("val", "fun", "datatype", "exception") }

// dec reads a declaration, of which the first token is known to be one's.
func (r *reader) dec() api.Dec {
	at := r.here().At
	switch {
	case r.takes("val"):
		p := r.pat()
		r.need("=")
		return api.Dec{Kind: api.DVal, At: at, P: p, E: r.exp()}
	case r.takes("fun"):
		return api.Dec{Kind: api.DFun, At: at, Funs: row(r, "and", r.fun)}
	case r.takes("datatype"):
		return r.datatypeBehind(at)
	}
	r.need("exception")
	return api.Dec{Kind: api.DExn, At: at, Cons: []api.Con{r.con()}}
}

func (r *reader) fun() api.Fun {
	name := r.needs(api.TokName)
	params := []api.Pat{r.atpat()}
	for r.seesAtpat() {
		params = append(params, r.atpat())
	}
	r.need("=")
	return api.Fun{Name: name.Text, At: name.At, E: function(name.At, params, r.exp())}
}

// datatypeBehind reads on behind the word datatype.
func (r *reader) datatypeBehind(at int) api.Dec {
	d := api.Dec{Kind: api.DData, At: at, Params: r.params()}
	d.Name = r.needs(api.TokName).Text
	r.need("=")
	d.Cons = row(r, "|", r.con)
	return d
}

// params reads a datatype's type variables: none, one, or a row in brackets.
func (r *reader) params() []string {
	param := func() string { return r.needs(api.TokVar).Text }
	switch {
	case r.is(api.TokVar):
		return []string{param()}
	case r.takes("("):
		l := row(r, ",", param)
		r.need(")")
		return l
	}
	return nil
}

func (r *reader) con() api.Con {
	t := r.needs(api.TokCon)
	c := api.Con{Name: t.Text, At: t.At}
	if r.takes("of") {
		c.Has = true
		c.Ty = r.ty()
	}
	return c
}
