package parse

import "bellows/api"

func (r *reader) pat() api.Pat {
	return within(r, func() api.Pat {
		p := r.apat()
		if r.takes("::") {
			return cellPat(p.At, p, r.pat())
		}
		return p
	})
}

func (r *reader) apat() api.Pat {
	t := r.here()
	p := r.atpat()
	if t.Kind == api.TokCon && r.seesAtpat() {
		p.L = []api.Pat{r.atpat()}
	}
	return p
}

func (r *reader) seesAtpat() bool {
	return r.is(api.TokName, api.TokNum, api.TokCon) || r.sees("_", "~", "(", "[")
}

func (r *reader) atpat() api.Pat {
	at := r.here().At
	switch {
	case r.takes("_"):
		return api.Pat{Kind: api.PAny, At: at}
	case r.takes("~"):
		return api.Pat{Kind: api.PInt, At: at, N: -r.needs(api.TokNum).N}
	case r.takes("("):
		return tuplePat(at, closed(r, ")", r.pat)...)
	case r.takes("["):
		return listPat(at, closed(r, "]", r.pat))
	}
	return r.singlePat()
}

// singlePat reads a pattern of one token.
func (r *reader) singlePat() api.Pat {
	t := r.needs(api.TokName, api.TokNum, api.TokCon)
	p := api.Pat{At: t.At, Name: t.Text, N: t.N}
	switch t.Kind {
	case api.TokName:
		p.Kind = api.PVar
	case api.TokNum:
		p.Kind = api.PInt
	case api.TokCon:
		p.Kind = api.PCon
	}
	return p
}
