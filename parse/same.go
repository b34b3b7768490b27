package parse

import (
	"slices"

	"bellows/api"
)

// Same: P8.4.
func Same(a, b api.Exp) bool {
	return a.Kind == b.Kind && a.Name == b.Name && a.N == b.N &&
		slices.EqualFunc(a.L, b.L, Same) &&
		slices.EqualFunc(a.Cases, b.Cases, sameCase) &&
		slices.EqualFunc(a.Decs, b.Decs, sameDec)
}

func sameCase(a, b api.Case) bool { return samePat(a.P, b.P) && Same(a.E, b.E) }

func samePat(a, b api.Pat) bool {
	return a.Kind == b.Kind && a.Name == b.Name && a.N == b.N && slices.EqualFunc(a.L, b.L, samePat)
}

func sameDec(a, b api.Dec) bool {
	return a.Kind == b.Kind && a.Name == b.Name && slices.Equal(a.Params, b.Params) &&
		slices.EqualFunc(a.Cons, b.Cons, sameCon) &&
		samePat(a.P, b.P) && Same(a.E, b.E) &&
		slices.EqualFunc(a.Funs, b.Funs, sameFun)
}

func sameCon(a, b api.Con) bool { return a.Name == b.Name && a.Has == b.Has && sameTy(a.Ty, b.Ty) }

func sameFun(a, b api.Fun) bool { return a.Name == b.Name && Same(a.E, b.E) }

func sameTy(a, b api.Ty) bool {
	return a.Kind == b.Kind && a.Name == b.Name && slices.EqualFunc(a.L, b.L, sameTy)
}
