package code

import (
	"slices"

	"bellows/api"
)

// Check: P4.2.
func Check(m api.Image) api.Errno {
	if big(m) {
		return api.ErrBig
	}
	if anyInstr(m, func(x api.Instr) bool { return !Plain(x) }) {
		return api.ErrArg
	}
	return api.OK
}

// Size: P4.2.
func Size(m api.Image) int {
	n := 0
	for _, f := range m.Funcs {
		for _, b := range f.Blocks {
			n += len(b.Code)
		}
	}
	return n
}

// big goes through lists only when they are known to be short: those of an image may be one list many times, of which not all is worth a look.
func big(m api.Image) bool {
	return len(m.Types) > api.MaxTypes ||
		len(m.Shapes) > api.MaxShapes ||
		len(m.Strings) > api.MaxStrings ||
		len(m.Names) > api.MaxStrings ||
		len(m.Funcs) > api.MaxFuncs ||
		slices.ContainsFunc(m.Types, bigType) ||
		slices.ContainsFunc(m.Shapes, bigShape) ||
		slices.ContainsFunc(m.Strings, bigText) ||
		slices.ContainsFunc(m.Names, bigText) ||
		slices.ContainsFunc(m.Funcs, bigFunc) ||
		Size(m) > api.MaxInstrs ||
		anyInstr(m, bigInstr)
}

func bigType(t api.Type) bool { return len(t.Shapes) > api.MaxShapes }

func bigShape(s api.Shape) bool { return len(s.Fields) > api.MaxSlots || bigText(s.Name) }

func bigText(s string) bool { return len(s) > api.MaxText }

func bigFunc(f api.Func) bool {
	return f.Slots > api.MaxSlots ||
		len(f.Params) > api.MaxSlots ||
		len(f.Blocks) > api.MaxBlocks ||
		slices.ContainsFunc(f.Blocks, bigBlock)
}

// bigBlock leaves out the instructions, which are asked when all together are known to be few.
func bigBlock(b api.Block) bool { return len(b.In) > api.MaxSlots }

// maxWays is how long L and M may be: numbers, or shapes, and blocks by turns.
const maxWays = 2 * api.MaxShapes

func bigInstr(x api.Instr) bool {
	return len(x.L) > maxWays || len(x.M) > maxWays || len(x.Live) > api.MaxSlots
}

// anyInstr asks it of each instruction until one says so.
func anyInstr(m api.Image, so func(api.Instr) bool) bool {
	for _, f := range m.Funcs {
		for _, b := range f.Blocks {
			if slices.ContainsFunc(b.Code, so) {
				return true
			}
		}
	}
	return false
}
