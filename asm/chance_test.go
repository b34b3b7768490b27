package asm

import (
	"math"
	"math/bits"

	"bellows/api"
)

// chance is a row of numbers, the same in each run.
type chance struct{ seed uint64 }

func (c *chance) next() uint64 {
	c.seed = c.seed*6364136223846793005 + 1442695040888963407
	return bits.RotateLeft64(c.seed, 27) ^ c.seed>>17
}

// below is a number from 0 to n - 1.
func (c *chance) below(n int) int { return int(c.next() % uint64(n)) }

// oneOf is one of a list.
func oneOf[E any](c *chance, l ...E) E { return l[c.below(len(l))] }

// number is mostly a small one, and sometimes any.
func (c *chance) number() int {
	switch c.below(8) {
	case 0:
		return int(c.next()) >> c.below(64)
	case 1:
		return oneOf(c, math.MaxInt, math.MinInt, math.MaxInt-1, math.MinInt+1, -1, 0, 9, 10, -9, -10, 1<<62, -1<<62, 1<<31, 1<<32)
	}
	return c.below(20)
}

// some is a list of up to three; an empty one is nil, or not.
func some[E any](c *chance, one func() E) []E {
	var l []E
	if c.below(2) == 0 {
		l = []E{}
	}
	for range c.below(4) {
		l = append(l, one())
	}
	return l
}

// text is of any bytes, mostly of those that are written with a backslash, or stand beside them.
func (c *chance) text() string {
	return string(some(c, func() byte {
		if c.below(2) == 0 {
			return byte(c.next())
		}
		return oneOf[byte](c, '"', '\\', '\n', '\t', '\r', 0, 31, ' ', '!', '~', 127, 128, 255, 'n', 't', '0', '1', '6', '(', ')', 'a')
	}))
}

func (c *chance) instr() api.Instr {
	x := api.Instr{Op: 1 + c.below(len(usesAsTold))}
	for _, letter := range usesAsTold[x.Op-1] {
		switch letter {
		case 'D':
			x.D = c.number()
		case 'A':
			x.A = c.number()
		case 'B':
			x.B = c.number()
		case 'C':
			x.C = c.number()
		case 'N':
			x.N = int64(c.number())
		case 'L':
			x.L = some(c, c.number)
		case 'M':
			x.M = some(c, c.number)
		case 'l':
			x.Live = some(c, c.number)
		}
	}
	return x
}

func (c *chance) block() api.Block {
	return api.Block{In: some(c, c.number), Code: some(c, c.instr)}
}

func (c *chance) function() api.Func {
	return api.Func{Params: some(c, c.number), Result: c.number(), Slots: min(c.number(), api.MaxSlots), Blocks: some(c, c.block)}
}

// image is one in which Check finds nothing.
func (c *chance) image() api.Image {
	return api.Image{
		Types: some(c, func() api.Type {
			return api.Type{Imm: c.below(2) == 1, Shapes: some(c, c.number)}
		}),
		Shapes: some(c, func() api.Shape {
			return api.Shape{Kind: c.number(), Fields: some(c, c.number), Name: c.text()}
		}),
		Strings: some(c, c.text),
		Names:   some(c, c.text),
		Funcs:   some(c, c.function),
		Main:    c.number(),
		Exn:     c.number(),
	}
}

// images are some, the same in each run.
func images(seed uint64, n int) []api.Image {
	c := chance{seed: seed}
	l := make([]api.Image, n)
	for i := range l {
		l[i] = c.image()
	}
	return l
}

// each instruction has all that it uses, and each field another number.
func instrs() []api.Instr {
	x := api.Instr{D: 1, A: 2, B: 3, C: 4, N: -5, L: []int{6, 7}, M: []int{8}, Live: []int{9, 10, 11}}
	var l []api.Instr
	for i, uses := range usesAsTold {
		y := api.Instr{Op: i + 1}
		for _, letter := range uses {
			switch letter {
			case 'D':
				y.D = x.D
			case 'A':
				y.A = x.A
			case 'B':
				y.B = x.B
			case 'C':
				y.C = x.C
			case 'N':
				y.N = x.N
			case 'L':
				y.L = x.L
			case 'M':
				y.M = x.M
			case 'l':
				y.Live = x.Live
			}
		}
		l = append(l, y)
	}
	return l
}

// whole is an image with something in each field of everything, and each instruction.
func whole() api.Image {
	l := instrs()
	return api.Image{
		Types:   []api.Type{{Imm: true}, {Shapes: []int{0, 1}}, {Imm: true, Shapes: []int{2}}},
		Shapes:  []api.Shape{{Kind: api.Bytes}, {Kind: api.Record, Fields: []int{0, 1, 2}, Name: "Fail"}, {Kind: api.Array, Fields: []int{2}}},
		Strings: []string{"a text", "", "\x00\xff"},
		Names:   []string{"Match", "Div", "Subscript", "Size"},
		Funcs: []api.Func{
			{Params: []int{0, 1}, Result: 2, Slots: 3, Blocks: []api.Block{{In: []int{0, 1, -1}, Code: l[:12]}, {In: []int{-1, -1, -1}, Code: l[12:]}}},
			{Result: 1, Slots: 1, Blocks: []api.Block{{In: []int{-1}, Code: []api.Instr{{Op: api.OpConst, N: 9}, {Op: api.OpReturn}}}}},
			{},
		},
		Main: 1,
		Exn:  2,
	}
}
