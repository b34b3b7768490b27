package vm

import (
	"slices"

	"bellows/api"
	"bellows/word"
)

// word is what a slot has.
func (m *machine) word(slot int) uint64 {
	need(has(m.slots, slot))
	return m.slots[slot]
}

// give lets a slot have a word, and always answers true.
func (m *machine) give(slot int, w uint64) bool {
	need(has(m.slots, slot))
	m.slots[slot] = w
	return true
}

// read is the words of some slots; they stay till the next read.
func (m *machine) read(slots []int) []uint64 {
	m.words = m.words[:0]
	for _, slot := range slots {
		m.words = append(m.words, m.word(slot))
	}
	return m.words
}

// keep lets these slots have what they have, and no others.
func (m *machine) keep(live []int) {
	m.kept = m.kept[:0]
	for _, slot := range live {
		m.kept = append(m.kept, m.word(slot))
	}
	empty(m.slots)
	for i, slot := range live {
		m.slots[slot] = m.kept[i]
	}
}

// number is that in a slot.
func (m *machine) number(slot int) int64 {
	w := m.word(slot)
	need(word.IsImm(w))
	return word.Int(w)
}

// index is the number in a slot, as the heap takes it.
func (m *machine) index(slot int) int { return int(m.number(slot)) }

// object is where that in a slot stands, which must be of one of these kinds.
func (m *machine) object(slot int, kinds ...int) int {
	w := m.word(slot)
	need(!word.IsImm(w) && slices.Contains(kinds, m.heap.Kind(m.shapeOf(w))))
	return word.At(w)
}

// text is the bytes of that in a slot.
func (m *machine) text(slot int) string {
	text, _ := m.heap.Text(m.object(slot, api.Bytes))
	return text
}

// shapeOf is the shape of the object of which w is the pointer.
func (m *machine) shapeOf(w uint64) int {
	shape, _ := m.heap.Shape(word.At(w))
	return shape
}
