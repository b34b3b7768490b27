package parse

import (
	"slices"

	"bellows/api"
)

func constructor(at int, name string) api.Exp { return api.Exp{Kind: api.ECon, At: at, Name: name} }

func tuple(at int, l ...api.Exp) api.Exp { return api.Exp{Kind: api.ETuple, At: at, L: l} }

func application(f, x api.Exp) api.Exp {
	return api.Exp{Kind: api.EApp, At: f.At, L: []api.Exp{f, x}}
}

// reckoning is the EPrim of what stands on both sides of a sign.
func reckoning(sign string, a, b api.Exp) api.Exp {
	return api.Exp{Kind: api.EPrim, At: a.At, Name: sign, L: []api.Exp{a, b}}
}

// choice is the ECase of a: b, if it is true, c, if it is false.
func choice(at int, a, b, c api.Exp) api.Exp {
	return api.Exp{Kind: api.ECase, At: at, L: []api.Exp{a}, Cases: []api.Case{
		{P: constructorPat(at, "true"), E: b},
		{P: constructorPat(at, "false"), E: c},
	}}
}

// then is the ELet of what stands on both sides of a ;.
func then(_ string, a, b api.Exp) api.Exp {
	ahead := api.Dec{Kind: api.DVal, At: a.At, P: api.Pat{Kind: api.PAny, At: a.At}, E: a}
	return api.Exp{Kind: api.ELet, At: a.At, Decs: []api.Dec{ahead}, L: []api.Exp{b}}
}

func cell(at int, head, tail api.Exp) api.Exp {
	return application(constructor(at, "Cons"), tuple(at, head, tail))
}

func list(at int, l []api.Exp) api.Exp {
	e := constructor(at, "Nil")
	for _, head := range slices.Backward(l) {
		e = cell(at, head, e)
	}
	return e
}

func constructorPat(at int, name string, l ...api.Pat) api.Pat {
	return api.Pat{Kind: api.PCon, At: at, Name: name, L: l}
}

// tuplePat is a pattern that stands in brackets: one by itself is no tuple.
func tuplePat(at int, l ...api.Pat) api.Pat {
	if len(l) == 1 {
		return l[0]
	}
	return api.Pat{Kind: api.PTuple, At: at, L: l}
}

func cellPat(at int, head, tail api.Pat) api.Pat {
	return constructorPat(at, "Cons", tuplePat(at, head, tail))
}

func listPat(at int, l []api.Pat) api.Pat {
	p := constructorPat(at, "Nil")
	for _, head := range slices.Backward(l) {
		p = cellPat(at, head, p)
	}
	return p
}

// function is the EFn of the first pattern, whose one way is that of the next one, and so on.
func function(at int, params []api.Pat, e api.Exp) api.Exp {
	for _, p := range slices.Backward(params) {
		e = api.Exp{Kind: api.EFn, At: at, Cases: []api.Case{{P: p, E: e}}}
	}
	return e
}
