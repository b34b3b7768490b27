package parse

import "bellows/api"

func (r *reader) ty() api.Ty {
	return within(r, func() api.Ty {
		from := r.tupleTy()
		if r.takes("->") {
			return api.Ty{Kind: api.TArrow, At: from.At, L: []api.Ty{from, r.ty()}}
		}
		return from
	})
}

func (r *reader) tupleTy() api.Ty {
	l := row(r, "*", r.applyTy)
	if len(l) == 1 {
		return l[0]
	}
	return api.Ty{Kind: api.TTuple, At: l[0].At, L: l}
}

// applyTy reads a type, and the names of types of which it is the argument.
func (r *reader) applyTy() api.Ty {
	t := r.firstTy()
	for r.is(api.TokName) {
		t = api.Ty{Kind: api.TCon, At: t.At, Name: r.needs(api.TokName).Text, L: []api.Ty{t}}
	}
	return t
}

func (r *reader) firstTy() api.Ty {
	at := r.here().At
	if r.takes("(") {
		return r.bracketedTy(at)
	}
	t := r.needs(api.TokVar, api.TokName)
	if t.Kind == api.TokVar {
		return api.Ty{Kind: api.TVar, At: at, Name: t.Text}
	}
	return api.Ty{Kind: api.TCon, At: at, Name: t.Text}
}

// bracketedTy reads on behind an opening bracket: one type by itself, or several, behind which a name must stand.
func (r *reader) bracketedTy(at int) api.Ty {
	l := row(r, ",", r.ty)
	r.need(")")
	if len(l) == 1 {
		return l[0]
	}
	return api.Ty{Kind: api.TCon, At: at, Name: r.needs(api.TokName).Text, L: l}
}
