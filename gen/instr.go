package gen

import (
	"strings"

	"bellows/api"
	"bellows/code"
)

// sets: does an instruction set its D?
func sets(op int) bool { return strings.Contains(code.Uses(op), "D") }

// collects: may memory be collected in it?
func collects(op int) bool { return strings.Contains(code.Uses(op), "l") }

// reads gives each slot that an instruction reads, and puts what it gets in its place.
func reads(x *api.Instr, give func(slot int) int) {
	switch x.Op {
	case api.OpMove, api.OpField, api.OpLen, api.OpOut, api.OpSwitch, api.OpReturn, api.OpRaise:
		x.A = give(x.A)
	case api.OpPrim, api.OpAt, api.OpByte, api.OpCat, api.OpCmp:
		x.A = give(x.A)
		x.B = give(x.B)
	case api.OpStore:
		x.A = give(x.A)
		x.C = give(x.C)
	case api.OpPut:
		x.A = give(x.A)
		x.B = give(x.B)
		x.C = give(x.C)
	case api.OpArray:
		x.B = give(x.B)
		x.C = give(x.C)
	case api.OpNew, api.OpCall, api.OpTail, api.OpJump:
		for i := range x.L {
			x.L[i] = give(x.L[i])
		}
	}
}

// leads gives each block to which an instruction leads, and puts what it gets in its place.
func leads(x *api.Instr, give func(block int) int) {
	switch x.Op {
	case api.OpJump:
		x.A = give(x.A)
	case api.OpCall, api.OpSwitch:
		if x.Op == api.OpSwitch {
			for i := 1; i < len(x.L); i += 2 {
				x.L[i] = give(x.L[i])
			}
			for i := 1; i < len(x.M); i += 2 {
				x.M[i] = give(x.M[i])
			}
		}
		if x.B >= 0 {
			x.B = give(x.B)
		}
	}
}
