package asm

import (
	"fmt"
	"math"
	"strings"
	"testing"

	"bellows/api"
	"bellows/code"
)

// P14.1: each instruction's word, and nothing of others.
func TestWord(t *testing.T) {
	for op, want := range map[int]string{
		1: "const", 2: "text", 3: "move", 4: "prim", 5: "new", 6: "field", 7: "store", 8: "array",
		9: "at", 10: "put", 11: "len", 12: "byte", 13: "cat", 14: "cmp", 15: "in", 16: "out",
		17: "call", 18: "jump", 19: "if", 20: "switch", 21: "tail", 22: "return", 23: "raise",
	} {
		if got := Word(op); got != want {
			t.Errorf("%d: %q, want %q", op, got, want)
		}
	}
	others := []int{0, 24, 25, -1, -2, -22, -23, 100, 255, 256, 257, 1<<32 + 1, -1<<32 + 1, math.MaxInt, math.MinInt, math.MinInt + 1}
	for n := range 1000 {
		others = append(others, -n, n+24)
	}
	for _, op := range others {
		if got := Word(op); got != "" {
			t.Errorf("%d: %q", op, got)
		}
	}
}

// written is Write of an image in which Check finds nothing.
func written(t testing.TB, m api.Image) string {
	t.Helper()
	s, e := Write(m)
	if e != api.OK {
		t.Fatalf("Write: %d", e)
	}
	return s
}

// taken is Read of a text that is an image's.
func taken(t testing.TB, s string) api.Image {
	t.Helper()
	m, e, at := Read(s)
	if e != api.OK || at != 0 {
		t.Fatalf("%.200q: %d, %d", s, e, at)
	}
	return m
}

// both holds an image and its text against each other.
func both(t testing.TB, m api.Image, s string) {
	t.Helper()
	if got := written(t, m); got != s {
		t.Errorf("%+v is written %q, want %q", m, got, s)
	}
	if got := taken(t, s); !code.Same(got, m) {
		t.Errorf("%q is read %+v, want %+v", s, got, m)
	}
}

// Example 1 of the chapter.
func TestExample(t *testing.T) {
	m := api.Image{
		Types:  []api.Type{{Imm: true}, {Shapes: []int{0}}},
		Shapes: []api.Shape{{Kind: api.Bytes}},
		Funcs:  []api.Func{{Slots: 1, Blocks: []api.Block{{In: []int{-1}, Code: []api.Instr{{Op: api.OpConst, N: 5}, {Op: api.OpReturn}}}}}},
	}
	both(t, m, strings.Join([]string{"type 1 ()", "type 0 (0)", "shape 3 () \"\"", "func () 0 1", "block (-1)", "const 0 5", "return 0", "main 0", "exn 0", ""}, "\n"))
}

// P14.2: an image of nothing is two lines; each kind of line, alone, several times, with lists of none, one and many.
func TestLinesByHand(t *testing.T) {
	both(t, api.Image{}, "main 0\nexn 0\n")
	both(t, api.Image{Main: 3, Exn: -4}, "main 3\nexn -4\n")
	for _, c := range []struct {
		m api.Image
		s string
	}{
		{api.Image{Types: []api.Type{{}}}, "type 0 ()\n"},
		{api.Image{Types: []api.Type{{Imm: true, Shapes: []int{7}}}}, "type 1 (7)\n"},
		{api.Image{Types: []api.Type{{Shapes: []int{3, 1, 2, 2}}, {Imm: true}}}, "type 0 (3 1 2 2)\ntype 1 ()\n"},
		{api.Image{Shapes: []api.Shape{{}}}, "shape 0 () \"\"\n"},
		{api.Image{Shapes: []api.Shape{{Kind: 1, Fields: []int{5}, Name: "Fail"}}}, "shape 1 (5) \"Fail\"\n"},
		{api.Image{Shapes: []api.Shape{{Kind: 2, Fields: []int{0, -1, 200}, Name: "a b ) (c"}, {Kind: -7}}}, "shape 2 (0 -1 200) \"a b ) (c\"\nshape -7 () \"\"\n"},
		{api.Image{Strings: []string{""}}, "string \"\"\n"},
		{api.Image{Strings: []string{"b", "a", "b"}}, "string \"b\"\nstring \"a\"\nstring \"b\"\n"},
		{api.Image{Names: []string{""}}, "name \"\"\n"},
		{api.Image{Names: []string{"Match", "Div"}}, "name \"Match\"\nname \"Div\"\n"},
		{api.Image{Strings: []string{"x"}, Names: []string{"x"}}, "string \"x\"\nname \"x\"\n"},
		{api.Image{Funcs: []api.Func{{}}}, "func () 0 0\n"},
		{api.Image{Funcs: []api.Func{{Params: []int{4}, Result: 5, Slots: 6}}}, "func (4) 5 6\n"},
		{api.Image{Funcs: []api.Func{{Params: []int{4, 4, 3}, Result: -5, Slots: -6}, {Slots: 200}}}, "func (4 4 3) -5 -6\nfunc () 0 200\n"},
		{api.Image{Funcs: []api.Func{{Blocks: []api.Block{{}}}}}, "func () 0 0\nblock ()\n"},
		{api.Image{Funcs: []api.Func{{Blocks: []api.Block{{In: []int{-1}}, {In: []int{1, -1, 2}}}}, {Blocks: []api.Block{{}}}}}, "func () 0 0\nblock (-1)\nblock (1 -1 2)\nfunc () 0 0\nblock ()\n"},
		{api.Image{Types: []api.Type{{}}, Names: []string{"n"}, Funcs: []api.Func{{}}}, "type 0 ()\nname \"n\"\nfunc () 0 0\n"},
		{api.Image{Shapes: []api.Shape{{}}, Funcs: []api.Func{{}}}, "shape 0 () \"\"\nfunc () 0 0\n"},
	} {
		both(t, c.m, c.s+"main 0\nexn 0\n")
	}
}

// inBlock is an image with one block of these instructions, and ahead and behind are what stands around their lines.
func inBlock(l ...api.Instr) api.Image {
	return api.Image{Funcs: []api.Func{{Blocks: []api.Block{{Code: l}}}}}
}

const (
	ahead  = "func () 0 0\nblock ()\n"
	behind = "main 0\nexn 0\n"
)

// P14.2: each instruction: its word, and what it uses, in the order of Uses.
func TestInstrsByHand(t *testing.T) {
	want := []string{
		"const 1 -5", "text 1 2 (9 10 11)", "move 1 2", "prim 1 2 3 -5", "new 1 2 (6 7) (9 10 11)", "field 1 2 3",
		"store 2 3 4", "array 1 2 3 4 (9 10 11)", "at 1 2 3", "put 2 3 4", "len 1 2", "byte 1 2 3", "cat 1 2 3 (9 10 11)",
		"cmp 1 2 3", "in 1", "out 2", "call 1 2 3 4 (6 7) (9 10 11)", "jump 2", "if 2 3 4", "switch 2 (6 7) (8) 3",
		"tail 2 (6 7)", "return 2", "raise 2",
	}
	for i, x := range instrs() {
		both(t, inBlock(x), ahead+want[i]+"\n"+behind)
	}
	both(t, inBlock(instrs()...), ahead+strings.Join(want, "\n")+"\n"+behind)
	empty := []string{
		"const 0 0", "text 0 0 ()", "move 0 0", "prim 0 0 0 0", "new 0 0 () ()", "field 0 0 0",
		"store 0 0 0", "array 0 0 0 0 ()", "at 0 0 0", "put 0 0 0", "len 0 0", "byte 0 0 0", "cat 0 0 0 ()",
		"cmp 0 0 0", "in 0", "out 0", "call 0 0 0 0 () ()", "jump 0", "if 0 0 0", "switch 0 () () 0",
		"tail 0 ()", "return 0", "raise 0",
	}
	for i, s := range empty {
		both(t, inBlock(api.Instr{Op: i + 1}), ahead+s+"\n"+behind)
		both(t, inBlock(api.Instr{Op: i + 1, L: []int{}, M: []int{}, Live: []int{}}), ahead+s+"\n"+behind)
	}
}

// P14.2: a number is its digits, - ahead of one below 0, to the ends of 64 bits, wherever one stands.
func TestNumbers(t *testing.T) {
	for n, s := range map[int]string{
		0: "0", 1: "1", -1: "-1", 9: "9", 10: "10", -10: "-10", 100: "100", 1234567890: "1234567890", 1 << 31: "2147483648", -1 << 32: "-4294967296",
		1 << 62: "4611686018427387904", -1 << 62: "-4611686018427387904",
		math.MaxInt: "9223372036854775807", math.MinInt: "-9223372036854775808", math.MaxInt - 1: "9223372036854775806", math.MinInt + 1: "-9223372036854775807",
	} {
		l := []int{n, 0, n}
		m := api.Image{
			Types:  []api.Type{{Shapes: l}},
			Shapes: []api.Shape{{Kind: n, Fields: l}},
			Funcs:  []api.Func{{Params: l, Result: n, Slots: min(n, 200), Blocks: []api.Block{{In: l}}}},
			Main:   n,
			Exn:    n,
		}
		text := "type 0 (n 0 n)\nshape n (n 0 n) \"\"\nfunc (n 0 n) n " + fmt.Sprint(min(n, 200)) + "\nblock (n 0 n)\n"
		for i, uses := range usesAsTold {
			m.Funcs[0].Blocks[0].Code = append(m.Funcs[0].Blocks[0].Code, filled(i+1, uses, n))
			text += Word(i + 1)
			for _, letter := range uses {
				text += map[bool]string{true: " (n 0 n)", false: " n"}[strings.ContainsRune("LMl", letter)]
			}
			text += "\n"
		}
		text = numbered(text, s)
		both(t, m, text+"main "+s+"\nexn "+s+"\n")
	}
}

// filled is an instruction all of whose numbers are n.
func filled(op int, uses string, n int) api.Instr {
	x := api.Instr{Op: op}
	l := []int{n, 0, n}
	for letter, put := range map[string]func(){
		"D": func() { x.D = n }, "A": func() { x.A = n }, "B": func() { x.B = n }, "C": func() { x.C = n }, "N": func() { x.N = int64(n) },
		"L": func() { x.L = l }, "M": func() { x.M = l }, "l": func() { x.Live = l },
	} {
		if strings.Contains(uses, letter) {
			put()
		}
	}
	return x
}

// numbered has s for each n that is a part by itself.
func numbered(text, s string) string {
	return strings.NewReplacer(" n", " "+s, "(n", "("+s).Replace(text)
}

// P14.2: a text of each byte, alone and beside others, as layer 7's Print writes it, in each line that has one.
func TestTexts(t *testing.T) {
	say := func(text, said string) {
		t.Helper()
		both(t, api.Image{Strings: []string{text}}, "string "+said+"\n"+behind)
		both(t, api.Image{Names: []string{"", text}}, "name \"\"\nname "+said+"\n"+behind)
		both(t, api.Image{Shapes: []api.Shape{{Kind: 1, Fields: []int{2, 3}, Name: text}}}, "shape 1 (2 3) "+said+"\n"+behind)
	}
	for c := range 256 {
		text := string([]byte{byte(c)})
		said := quotedAsTold(text)
		in := said[1 : len(said)-1]
		say(text, said)
		say("a"+text, "\"a"+in+"\"")
		say(text+"0", "\""+in+"0\"")
		say(text+text+"n"+text, "\""+in+in+"n"+in+"\"")
	}
	for text, said := range map[string]string{
		"a text":           `"a text"`,
		" ":                `" "`,
		"  a  ":            `"  a  "`,
		"main 0\nexn 0\n":  `"main 0\nexn 0\n"`,
		`\n`:               `"\\n"`,
		`\\`:               `"\\\\"`,
		`\065`:             `"\\065"`,
		`"`:                `"\""`,
		`""`:               `"\"\""`,
		`" "`:              `"\" \""`,
		`\"`:               `"\\\""`,
		`"\`:               `"\"\\"`,
		"\r\n":             `"\013\n"`,
		"\x00001":          `"\000001"`,
		"\xc3\xa4":         `"\195\164"`,
		"\xff\x80\x7f~":    `"\255\128\127~"`,
		"(1 2) )(":         `"(1 2) )("`,
		"\x0b\x0c\x1f\x20": `"\011\012\031 "`,
	} {
		say(text, said)
	}
}

// P14.3: Write's error is Check's, and beside it there is no text.
func TestWriteRefuses(t *testing.T) {
	wrong := inBlock(api.Instr{Op: api.OpIn, A: 1})
	big := api.Image{Types: make([]api.Type, api.MaxTypes+1)}
	worst := wrong
	worst.Types = big.Types
	for _, c := range []struct {
		m    api.Image
		want api.Errno
	}{
		{wrong, api.ErrArg},
		{inBlock(api.Instr{}), api.ErrArg},
		{inBlock(api.Instr{Op: 24}), api.ErrArg},
		{inBlock(api.Instr{Op: -1}), api.ErrArg},
		{inBlock(api.Instr{Op: api.OpReturn}, api.Instr{Op: api.OpOut, L: []int{1}}), api.ErrArg},
		{big, api.ErrBig},
		{worst, api.ErrBig},
		{api.Image{Shapes: make([]api.Shape, api.MaxShapes+1)}, api.ErrBig},
		{api.Image{Strings: make([]string, api.MaxStrings+1)}, api.ErrBig},
		{api.Image{Names: make([]string, api.MaxStrings+1)}, api.ErrBig},
		{api.Image{Funcs: make([]api.Func, api.MaxFuncs+1)}, api.ErrBig},
		{api.Image{Funcs: []api.Func{{Slots: api.MaxSlots + 1}}}, api.ErrBig},
		{api.Image{Names: []string{strings.Repeat("a", api.MaxText+1)}}, api.ErrBig},
		{inBlock(api.Instr{Op: api.OpTail, L: make([]int, 2*api.MaxShapes+1)}), api.ErrBig},
		{inBlock(make([]api.Instr, api.MaxInstrs+1)...), api.ErrBig},
	} {
		if s, e := Write(c.m); s != "" || e != c.want || e != code.Check(c.m) {
			t.Errorf("%.50q, %d, want %d", s, e, c.want)
		}
	}
}

// P14.2, P14.3: texts of all kinds of images, as the chapter's words have them.
func TestWriteAsTold(t *testing.T) {
	for _, m := range append(images(14, 5000), whole(), api.Image{}) {
		if got, want := written(t, m), textAsTold(m); got != want {
			t.Fatalf("%+v is written %q, want %q", m, got, want)
		}
	}
}
