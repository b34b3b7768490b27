package vm

import (
	"slices"

	"bellows/api"
	"bellows/gc"
	"bellows/word"
)

// textShape is the shape of the texts that are made.
const textShape = 0

// create does what makes an object.
func (m *machine) create(x *api.Instr) bool {
	switch x.Op {
	case api.OpNew:
		need(m.heap.Kind(x.A) == api.Record && len(x.L) == len(m.image.Shapes[x.A].Fields))
		return m.createRecord(x, m.read(x.L))
	case api.OpArray:
		need(m.heap.Kind(x.A) == api.Array)
		return m.createArray(x, m.number(x.B), m.word(x.C))
	}
	need(m.heap.Kind(textShape) == api.Bytes)
	if x.Op == api.OpCat {
		return m.createText(x, m.text(x.A)+m.text(x.B))
	}
	need(has(m.image.Strings, x.A))
	return m.createText(x, m.image.Strings[x.A])
}

func (m *machine) createRecord(x *api.Instr, fields []uint64) bool {
	at := m.allocate(x, x.A, len(fields), fields)
	for i, w := range fields {
		m.heap.Set(at, i, w)
	}
	return m.give(x.D, word.Ptr(at))
}

func (m *machine) createArray(x *api.Instr, n int64, w uint64) bool {
	if n < 0 || n > api.MaxLen {
		return m.fail(api.ExnSize)
	}
	element := []uint64{w} // in a list, so that a collection can move it
	at := m.allocate(x, x.A, int(n), element)
	for i := range int(n) {
		m.heap.Set(at, i, element[0])
	}
	return m.give(x.D, word.Ptr(at))
}

func (m *machine) createText(x *api.Instr, text string) bool {
	if len(text) > api.MaxLen {
		return m.fail(api.ExnSize)
	}
	at := m.allocate(x, textShape, len(text), nil)
	for i := range len(text) {
		m.heap.SetByte(at, i, text[i])
	}
	return m.give(x.D, word.Ptr(at))
}

// allocate: P6.4; read is what a collection must keep beside the slots.
func (m *machine) allocate(x *api.Instr, shape, n int, read []uint64) int {
	m.keep(x.Live)
	asked := m.asked()
	if asked {
		m.collect(read)
	}
	at, e := m.heap.Alloc(shape, n)
	if e != api.OK && !asked {
		m.collect(read)
		at, e = m.heap.Alloc(shape, n)
	}
	if e != api.OK {
		panic(ended(api.NoHeap))
	}
	return at
}

// asked gives an object its number: does the script ask for a collection ahead of it?
func (m *machine) asked() bool {
	n := m.made
	m.made++
	return has(m.script.Collect, n) && m.script.Collect[n]
}

// collect gives the slots, and what was read, the places to which objects were moved.
func (m *machine) collect(read []uint64) {
	roots, _ := gc.Collect(m.heap, slices.Concat(m.stack, read))
	copy(read, roots[copy(m.stack, roots):])
	m.Swept++
}
