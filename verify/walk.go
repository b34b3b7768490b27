package verify

import "bellows/api"

// walk goes through the blocks of an image that is whole.
type walk struct {
	m                      api.Image
	types                  []*words // the image's
	alone                  []*words // of each shape: the type of it alone
	number, text           *words
	f                      api.Func // the one that is gone through
	function, block, instr int      // where it is
	view
}

func newWalk(m api.Image) *walk {
	w := &walk{m: m}
	for _, t := range m.Types {
		w.types = append(w.types, wordsOf(t))
	}
	for shape := range m.Shapes {
		w.alone = append(w.alone, wordsOf(api.Type{Shapes: []int{shape}}))
	}
	w.number, w.text = w.types[0], w.alone[textShape]
	return w
}

func (w *walk) image() {
	for i, f := range w.m.Funcs {
		w.function, w.f = i, f
		for j, b := range f.Blocks {
			w.block = j
			w.through(b)
		}
	}
}

// through goes through a block. An end that is wrong stands behind all instructions, so these are asked first.
func (w *walk) through(b api.Block) {
	w.view = begin(w.types, b.In)
	last := len(b.Code) - 1
	for i, x := range b.Code {
		w.instr = i
		need(i == last || !leaves(x))
		w.step(x)
	}
	w.instr = len(b.Code)
	need(last >= 0 && leaves(b.Code[last]))
}

// leaves: does a block end with this?
func leaves(x api.Instr) bool { return api.OpJump <= x.Op && x.Op <= api.OpRaise }

// numbers asks for slots that are numbers.
func (w *walk) numbers(slots ...int) {
	for _, slot := range slots {
		need(w.typed(slot).within(w.number))
	}
}

// object asks for a slot that is an object, and of each shape that this may have.
func (w *walk) object(slot int, ask func(s api.Shape)) {
	t := w.typed(slot)
	some := t.each(func(shape int) { ask(w.m.Shapes[shape]) })
	need(some && !t.imm)
}

// bytes asks for slots that are objects of the kind Bytes.
func (w *walk) bytes(slots ...int) {
	for _, slot := range slots {
		w.object(slot, func(s api.Shape) { need(s.Kind == api.Bytes) })
	}
}

// field asks for a slot that is an object of a kind, and of the type of a field that each shape of it must have.
func (w *walk) field(slot, kind, n int, ask func(t *words)) {
	w.object(slot, func(s api.Shape) {
		need(s.Kind == kind && has(s.Fields, n))
		ask(w.types[s.Fields[n]])
	})
}

// get gives D all that a field may be.
func (w *walk) get(d, slot, kind, n int) {
	var all words
	w.field(slot, kind, n, all.add)
	w.give(d, &all)
}

// set asks for a slot that may be put into a field, whatever shape the object has.
func (w *walk) set(slot, kind, n, from int) {
	t := w.typed(from)
	w.field(slot, kind, n, func(field *words) { need(t.within(field)) })
}

// row asks for as many slots as types, each within its own.
func (w *walk) row(slots, types []int) {
	need(len(slots) == len(types))
	for i, slot := range slots {
		need(w.typed(slot).within(w.types[types[i]]))
	}
}

// fields are those of a shape, which must be of that kind.
func (w *walk) fields(shape, kind int) []int {
	need(has(w.m.Shapes, shape) && w.m.Shapes[shape].Kind == kind)
	return w.m.Shapes[shape].Fields
}

// called asks for a function that may be called with these slots: it answers the type of its Result.
func (w *walk) called(n int, slots []int) *words {
	need(has(w.m.Funcs, n))
	f := w.m.Funcs[n]
	w.row(slots, f.Params)
	return w.types[f.Result]
}

// to asks for a block that all slots fit.
func (w *walk) to(block int) {
	need(has(w.f.Blocks, block))
	w.fit(w.f.Blocks[block].In)
}
