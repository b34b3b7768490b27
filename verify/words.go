package verify

import (
	"math/bits"

	"bellows/api"
)

// textShape is the shape of texts.
const textShape = 0

// rowBits is how many shapes stand in a row of words.
const rowBits = 64

// words are those that a type lets stand in a slot. A shape is a bit, so that types with many shapes, too, are soon held against one another. Slots share them: what a slot has is not changed any more.
type words struct {
	imm  bool
	rows [(api.MaxShapes + rowBits - 1) / rowBits]uint64
}

func wordsOf(t api.Type) *words {
	w := &words{imm: t.Imm}
	for _, shape := range t.Shapes {
		w.rows[shape/rowBits] |= 1 << (shape % rowBits)
	}
	return w
}

// within is Sub.
func (w *words) within(o *words) bool {
	if w == o {
		return true
	}
	if w.imm && !o.imm {
		return false
	}
	for i, row := range w.rows {
		if row&^o.rows[i] != 0 {
			return false
		}
	}
	return true
}

// add is Join.
func (w *words) add(o *words) {
	w.imm = w.imm || o.imm
	for i, row := range o.rows {
		w.rows[i] |= row
	}
}

// each goes by the shapes, and tells whether there are any.
func (w *words) each(do func(shape int)) bool {
	some := false
	for i, row := range w.rows {
		for ; row != 0; row &= row - 1 {
			do(i*rowBits + bits.TrailingZeros64(row))
			some = true
		}
	}
	return some
}
