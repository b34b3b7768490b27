package code

import (
	"math"
	"slices"
	"strings"
	"testing"

	"bellows/api"
)

// usesAsTold is what the chapter says of each instruction, from 1 on.
var usesAsTold = []string{
	"DN", "DAl", "DA", "DABN", "DALl", "DAB", "ABC", "DABCl", "DAB", "ABC", "DA", "DAB",
	"DABl", "DAB", "D", "A", "DABCLl", "A", "ABC", "ALMB", "AL", "A", "A",
}

// noOps are numbers of no instruction.
func noOps() []int {
	return []int{0, 24, 25, 32, 64, 100, 255, 256, 257, 1 << 32, 1<<32 + 1, -1, -2, -23, math.MaxInt, math.MinInt, math.MinInt + 1}
}

// P4.1: Uses.
func TestUses(t *testing.T) {
	if len(usesAsTold) != api.OpRaise {
		t.Fatal(len(usesAsTold))
	}
	for i, want := range usesAsTold {
		if got := Uses(i + 1); got != want {
			t.Errorf("Uses(%d) = %q, want %q", i+1, got, want)
		}
	}
	for _, op := range noOps() {
		if got := Uses(op); got != "" {
			t.Errorf("Uses(%d) = %q", op, got)
		}
	}
}

// ways are an instruction's fields by their letters, each set to something by itself.
func ways() map[string][]func(*api.Instr) {
	return map[string][]func(*api.Instr){
		"D": {func(x *api.Instr) { x.D = 1 }, func(x *api.Instr) { x.D = -1 }, func(x *api.Instr) { x.D = math.MinInt }},
		"A": {func(x *api.Instr) { x.A = 1 }, func(x *api.Instr) { x.A = -1 }, func(x *api.Instr) { x.A = math.MaxInt }},
		"B": {func(x *api.Instr) { x.B = 1 }, func(x *api.Instr) { x.B = -1 }, func(x *api.Instr) { x.B = math.MinInt }},
		"C": {func(x *api.Instr) { x.C = 1 }, func(x *api.Instr) { x.C = -1 }, func(x *api.Instr) { x.C = 1 << 32 }},
		"N": {func(x *api.Instr) { x.N = 1 }, func(x *api.Instr) { x.N = -1 }, func(x *api.Instr) { x.N = math.MinInt64 }},
		"L": {func(x *api.Instr) { x.L = []int{0} }, func(x *api.Instr) { x.L = []int{-1, 7} }},
		"M": {func(x *api.Instr) { x.M = []int{0} }, func(x *api.Instr) { x.M = []int{-1, 7} }},
		"l": {func(x *api.Instr) { x.Live = []int{0} }, func(x *api.Instr) { x.Live = []int{-1, 7} }},
	}
}

// empties are instructions whose lists are empty, each in its way.
func empties(op int) []api.Instr {
	room := make([]int, 0, 4)
	return []api.Instr{{Op: op}, {Op: op, L: []int{}, M: []int{}, Live: []int{}}, {Op: op, L: room, M: room, Live: room}}
}

// P4.1: Plain, of each instruction, with each of its fields, and with none.
func TestPlain(t *testing.T) {
	for i, uses := range usesAsTold {
		for _, x := range empties(i + 1) {
			if !Plain(x) {
				t.Errorf("nothing set, and %d isn't plain", i+1)
			}
			for letter, sets := range ways() {
				for k, set := range sets {
					y := x
					set(&y)
					if got := Plain(y); got != strings.Contains(uses, letter) {
						t.Errorf("Plain of %d with the field %s, %d = %v", i+1, letter, k, got)
					}
				}
			}
		}
	}
}

// P4.1: Plain, with all fields that are used, and with one more.
func TestPlainOfAllThatIsUsed(t *testing.T) {
	for i, uses := range usesAsTold {
		x := api.Instr{Op: i + 1}
		for letter, sets := range ways() {
			if strings.Contains(uses, letter) {
				sets[0](&x)
			}
		}
		if !Plain(x) {
			t.Errorf("all that %d uses, and it isn't plain", i+1)
		}
		for letter, sets := range ways() {
			y := x
			sets[0](&y)
			if got := Plain(y); got != strings.Contains(uses, letter) {
				t.Errorf("Plain of %d with all and %s = %v", i+1, letter, got)
			}
		}
	}
}

// P4.1: an instruction that is none isn't plain, whatever it has.
func TestPlainOfNone(t *testing.T) {
	for _, op := range noOps() {
		for _, x := range empties(op) {
			if Plain(x) {
				t.Errorf("Plain of %d", op)
			}
			for letter, sets := range ways() {
				y := x
				sets[0](&y)
				if Plain(y) {
					t.Errorf("Plain of %d with %s", op, letter)
				}
			}
		}
	}
}

// The chapter's example of P4.1.
func TestPlainExample(t *testing.T) {
	if Uses(api.OpIf) != "ABC" || !Plain(api.Instr{Op: api.OpJump, A: 3}) || Plain(api.Instr{Op: api.OpJump, A: 3, D: 1}) {
		t.Error("the example")
	}
}

// Rule 4: Plain changes nothing, spare room included.
func TestPlainChangesNothing(t *testing.T) {
	room := []int{1, 2, 3, 4}
	for op := range 25 {
		Plain(api.Instr{Op: op, L: room[:1], M: room[:2], Live: room[:3]})
		if !slices.Equal(room, []int{1, 2, 3, 4}) {
			t.Fatal(op, room)
		}
	}
}

// The shapes of the calls are those of the chapter.
var (
	_ func(int) string                    = Uses
	_ func(api.Instr) bool                = Plain
	_ func(api.Image) api.Errno           = Check
	_ func(api.Image) ([]byte, api.Errno) = Encode
	_ func([]byte) (api.Image, api.Errno) = Decode
	_ func(api.Image) int                 = Size
	_ func(api.Image, api.Image) bool     = Same
)
