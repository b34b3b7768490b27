package gen

import "bellows/api"

// The types that every program has.
const (
	numbers = 0
	texts   = 1
)

// printer is the function that puts a text out, from a place on. It goes round in its own frame, so that a long text needs no more stack than a short one.
func printer() api.Func {
	const text, place, size, one, byteThere, slots = 0, 1, 2, 3, 4, 5
	return api.Func{Params: []int{texts, numbers}, Result: numbers, Slots: slots, Blocks: []api.Block{
		{In: []int{texts, numbers, none, none, none}, Code: []api.Instr{
			{Op: api.OpLen, D: size, A: text},
			{Op: api.OpConst, D: one, N: 1},
			{Op: api.OpJump, A: 1},
		}},
		{In: []int{texts, numbers, numbers, numbers, none}, Code: []api.Instr{
			{Op: api.OpPrim, N: api.Lt, D: byteThere, A: place, B: size},
			{Op: api.OpIf, A: byteThere, B: 2, C: 3},
		}},
		{In: []int{texts, numbers, numbers, numbers, none}, Code: []api.Instr{
			{Op: api.OpByte, D: byteThere, A: text, B: place},
			{Op: api.OpOut, A: byteThere},
			{Op: api.OpPrim, N: api.Add, D: place, A: place, B: one},
			{Op: api.OpJump, A: 1},
		}},
		{In: []int{none, none, none, none, none}, Code: []api.Instr{
			{Op: api.OpConst, D: text},
			{Op: api.OpReturn, A: text},
		}},
	}}
}
