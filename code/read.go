package code

import (
	"bellows/api"
	"bellows/word"
)

// reader takes an image's parts one behind the other. Once it is bad, what it takes means nothing.
type reader struct {
	b    []byte
	at   int
	size int // of the blocks that were taken: how many instructions
	bad  bool
}

// takeList takes how many there are, and then each.
func takeList[E any](r *reader, most int, take func() E) []E {
	n := r.length(most)
	if n == 0 {
		return nil
	}
	l := make([]E, 0, n)
	for len(l) < n && !r.bad {
		l = append(l, take())
	}
	return l
}

// length is how many elements, or letters, come. Each of them takes a byte at least: of more than that, and of more than Check allows, it refuses to make room.
func (r *reader) length(most int) int {
	n := r.number()
	if n < 0 || n > most || n > len(r.b)-r.at {
		r.bad = true
		return 0
	}
	return n
}

// image and what follows lean on the order in which Go makes a literal's calls: from the left to the right.
func (r *reader) image() api.Image {
	return api.Image{
		Types:   takeList(r, api.MaxTypes, r.kind),
		Shapes:  takeList(r, api.MaxShapes, r.shape),
		Strings: takeList(r, api.MaxStrings, r.text),
		Names:   takeList(r, api.MaxStrings, r.text),
		Funcs:   takeList(r, api.MaxFuncs, r.function),
		Main:    r.number(),
		Exn:     r.number(),
	}
}

// kind takes a type.
func (r *reader) kind() api.Type {
	return api.Type{Imm: r.yes(), Shapes: takeList(r, api.MaxShapes, r.number)}
}

func (r *reader) shape() api.Shape {
	return api.Shape{Kind: r.number(), Fields: takeList(r, api.MaxSlots, r.number), Name: r.text()}
}

func (r *reader) function() api.Func {
	return api.Func{
		Params: takeList(r, api.MaxSlots, r.number),
		Result: r.number(),
		Slots:  r.number(),
		Blocks: takeList(r, api.MaxBlocks, r.block),
	}
}

func (r *reader) block() api.Block {
	b := api.Block{In: takeList(r, api.MaxSlots, r.number), Code: takeList(r, api.MaxInstrs-r.size, r.instr)}
	r.size += len(b.Code)
	return b
}

func (r *reader) instr() api.Instr {
	x := api.Instr{Op: r.number()}
	for _, letter := range Uses(x.Op) {
		r.field(&x, letter)
	}
	return x
}

// field takes what an instruction has by a letter of Uses.
func (r *reader) field(x *api.Instr, letter rune) {
	switch letter {
	case 'D':
		x.D = r.number()
	case 'A':
		x.A = r.number()
	case 'B':
		x.B = r.number()
	case 'C':
		x.C = r.number()
	case 'N':
		x.N = r.long()
	case 'L':
		x.L = takeList(r, maxWays, r.number)
	case 'M':
		x.M = takeList(r, maxWays, r.number)
	case 'l':
		x.Live = takeList(r, api.MaxSlots, r.number)
	}
}

func (r *reader) yes() bool {
	n := r.number()
	if n != 0 && n != 1 {
		r.bad = true
	}
	return n == 1
}

func (r *reader) text() string {
	n := r.length(api.MaxText)
	r.at += n
	return string(r.b[r.at-n : r.at])
}

func (r *reader) number() int { return int(r.long()) }

func (r *reader) long() int64 {
	n, to, ok := word.Get(r.b, r.at)
	if !ok {
		r.bad = true
		return 0
	}
	r.at = to
	return n
}
