package code

import (
	"slices"

	"bellows/api"
)

// Same: P4.3.
func Same(a, b api.Image) bool {
	return a.Main == b.Main &&
		a.Exn == b.Exn &&
		slices.EqualFunc(a.Types, b.Types, sameType) &&
		slices.EqualFunc(a.Shapes, b.Shapes, sameShape) &&
		slices.Equal(a.Strings, b.Strings) &&
		slices.Equal(a.Names, b.Names) &&
		slices.EqualFunc(a.Funcs, b.Funcs, sameFunc)
}

func sameType(a, b api.Type) bool {
	return a.Imm == b.Imm && slices.Equal(a.Shapes, b.Shapes)
}

func sameShape(a, b api.Shape) bool {
	return a.Kind == b.Kind && a.Name == b.Name && slices.Equal(a.Fields, b.Fields)
}

func sameFunc(a, b api.Func) bool {
	return a.Result == b.Result &&
		a.Slots == b.Slots &&
		slices.Equal(a.Params, b.Params) &&
		slices.EqualFunc(a.Blocks, b.Blocks, sameBlock)
}

func sameBlock(a, b api.Block) bool {
	return slices.Equal(a.In, b.In) && slices.EqualFunc(a.Code, b.Code, sameInstr)
}

func sameInstr(a, b api.Instr) bool {
	return a.Op == b.Op &&
		a.D == b.D && a.A == b.A && a.B == b.B && a.C == b.C && a.N == b.N &&
		slices.Equal(a.L, b.L) &&
		slices.Equal(a.M, b.M) &&
		slices.Equal(a.Live, b.Live)
}
