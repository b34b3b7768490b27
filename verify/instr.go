package verify

import (
	"bellows/api"
	"bellows/word"
)

// step asks all that an instruction needs, and does what it does to the slots' types.
func (w *walk) step(x api.Instr) {
	switch x.Op {
	case api.OpConst:
		need(is63(x.N))
		w.give(x.D, w.number)
	case api.OpMove:
		w.give(x.D, w.typed(x.A))
	case api.OpPrim:
		need(api.Add <= x.N && x.N <= api.Eq)
		w.numbers(x.A, x.B)
		w.give(x.D, w.number)
	case api.OpIn:
		w.give(x.D, w.number)
	case api.OpOut:
		w.numbers(x.A)
	case api.OpText, api.OpNew, api.OpArray, api.OpCat:
		w.create(x)
	case api.OpCall:
		w.call(x)
	case api.OpJump, api.OpIf, api.OpSwitch, api.OpTail, api.OpReturn, api.OpRaise:
		w.leave(x)
	default:
		w.use(x)
	}
}

// is63: is n a number of 63 bits?
func is63(n int64) bool { return word.Wrap(n) == n }

// create asks what one that makes an object needs. What it reads is asked ahead of what is kept.
func (w *walk) create(x api.Instr) {
	made := w.text
	switch x.Op {
	case api.OpText:
		need(has(w.m.Strings, x.A))
	case api.OpNew:
		w.row(x.L, w.fields(x.A, api.Record))
		made = w.alone[x.A]
	case api.OpArray:
		w.numbers(x.B)
		w.row([]int{x.C}, w.fields(x.A, api.Array))
		made = w.alone[x.A]
	case api.OpCat:
		w.bytes(x.A, x.B)
	}
	w.keep(x.Live)
	w.give(x.D, made)
}

// use asks what one that looks at an object, or puts something into it, needs.
func (w *walk) use(x api.Instr) {
	switch x.Op {
	case api.OpField:
		w.get(x.D, x.A, api.Record, x.B)
	case api.OpStore:
		w.set(x.A, api.Record, x.B, x.C)
	case api.OpAt:
		w.numbers(x.B)
		w.get(x.D, x.A, api.Array, 0)
	case api.OpPut:
		w.numbers(x.B)
		w.set(x.A, api.Array, 0, x.C)
	case api.OpLen:
		w.object(x.A, func(s api.Shape) { need(s.Kind == api.Array || s.Kind == api.Bytes) })
		w.give(x.D, w.number)
	case api.OpByte:
		w.bytes(x.A)
		w.numbers(x.B)
		w.give(x.D, w.number)
	case api.OpCmp:
		w.bytes(x.A, x.B)
		w.give(x.D, w.number)
	}
}

// call asks what OpCall needs. Where something is thrown, D is not set yet.
func (w *walk) call(x api.Instr) {
	result := w.called(x.A, x.L)
	w.keep(x.Live)
	if x.B == none {
		need(x.C == 0)
	} else {
		w.with(x.C, w.types[w.m.Exn], func() { w.to(x.B) })
	}
	w.give(x.D, result)
}

// leave asks what one that ends a block needs.
func (w *walk) leave(x api.Instr) {
	result := w.types[w.f.Result]
	switch x.Op {
	case api.OpJump:
		w.to(x.A)
	case api.OpIf:
		w.numbers(x.A)
		w.to(x.B)
		w.to(x.C)
	case api.OpSwitch:
		w.choose(x)
	case api.OpTail:
		need(w.called(x.A, x.L).within(result))
	case api.OpReturn:
		need(w.typed(x.A).within(result))
	case api.OpRaise:
		need(w.typed(x.A).within(w.types[w.m.Exn]))
	}
}

// choose asks what OpSwitch needs: there must be a way for each word that the slot may have.
func (w *walk) choose(x api.Instr) {
	t := w.typed(x.A)
	known := words{imm: x.B != none}
	w.with(x.A, w.number, func() {
		ways(x.L, func(n, block int) {
			need(is63(int64(n)))
			w.to(block)
		})
		if x.B != none {
			w.to(x.B)
		}
	})
	ways(x.M, func(shape, block int) {
		need(has(w.m.Shapes, shape))
		known.add(w.alone[shape])
		w.with(x.A, w.alone[shape], func() { w.to(block) })
	})
	need(t.within(&known))
}

// ways goes by numbers, or shapes, and blocks by turns; those ahead must rise.
func ways(l []int, way func(n, block int)) {
	need(len(l)%2 == 0)
	for i := 0; i < len(l); i += 2 {
		need(i == 0 || l[i-2] < l[i])
		way(l[i], l[i+1])
	}
}
