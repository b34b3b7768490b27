package gen

import "bellows/api"

// none is a number that nothing has.
const none = -1

// function is one that is being written: its instructions are of places at first, which get slots when it is known how long each is needed.
type function struct {
	*writer
	places []place
	blocks []*block
	begun  []*block       // in their order in the image: each behind all that lead to it
	now    *block         // where it is written on; nil where nothing comes to
	vars   map[int]int    // the places of variables that are known
	labels map[int]*block // nil: not known
	facts  *fact          // what is known of places
	slots  int            // how many it needs
}

// place is where a value is, of a type: a variable's, or one that is being worked out.
type place struct {
	ty   int
	of   *block // where it is needed first, if more than one way sets it ahead of that
	slot int
}

// block is one of the image that will be.
type block struct {
	number int // among all
	behind int // how many are begun ahead of it
	met    bool
	sets   []int // the places that are set by all that lead to it
	wants  []int // which of them are needed
	needs  []int // all places that are needed ahead of it
	facts  *fact
	code   []step
}

// step is an instruction of places, which leads to blocks by their numbers among all. An OpJump has as L what the places get that the block sets, and those as M.
type step struct {
	api.Instr
	ends []int // the places that are read here, and not needed any more
	idle bool  // is nothing needed of what it sets?
}

// fact is that what is at a place is a number, or an object of one shape.
type fact struct {
	place int
	shape int // none: a number
	outer *fact
}

func (w *writer) function(p *api.FlatFun) {
	params := each(p.Params, func(v *api.Slot) int { return v.Ty })
	if w.big = w.big || len(params) > api.MaxSlots; w.big {
		return
	}
	f := &function{writer: w, vars: map[int]int{}, labels: map[int]*block{}, slots: len(params)}
	entry := f.block()
	entry.met = true
	f.begin(entry)
	for i, v := range p.Params {
		f.vars[v.Id] = f.place(v.Ty)
		f.places[i].slot = i
	}
	f.put(&p.E, goal{answer: true})
	f.need()
	if !f.big {
		blocks := f.settled(params)
		w.m.Funcs = append(w.m.Funcs, api.Func{Params: params, Result: p.Result, Slots: f.slots, Blocks: blocks})
	}
}

// block is a new one, which sets places.
func (f *function) block(sets ...int) *block {
	b := &block{number: len(f.blocks), sets: sets}
	for _, p := range sets {
		f.places[p].of = b
	}
	f.blocks = append(f.blocks, b)
	return b
}

// begin goes on in a block, if anything comes there.
func (f *function) begin(b *block) {
	if b.met {
		b.facts, b.behind = f.facts, len(f.begun)
		f.begun = append(f.begun, b)
		f.now = b
		f.big = f.big || len(f.begun) > api.MaxBlocks
	}
}

// place is a new one for a value of a type.
func (f *function) place(ty int) int {
	f.places = append(f.places, place{ty: ty, slot: none})
	return len(f.places) - 1
}

// typeOf is the type of what is at a place, as far as it is known where it is written on.
func (f *function) typeOf(p int) api.Type {
	for k := f.facts; k != nil; k = k.outer {
		if k.place == p && k.shape == none {
			return api.Type{Imm: true}
		} else if k.place == p {
			return api.Type{Shapes: []int{k.shape}}
		}
	}
	if ty := f.places[p].ty; ty >= 0 && ty < len(f.m.Types) {
		return f.m.Types[ty]
	}
	return api.Type{}
}

// count stops what would be too much ahead of writing all of it.
func (w *writer) count(n int) {
	w.left -= n
	w.big = w.big || w.left < 0
}

// add writes an instruction, if anything comes there.
func (f *function) add(x api.Instr) {
	if f.now == nil {
		return
	}
	if x.Op != api.OpMove { // of which it isn't known yet whether it is needed
		f.count(1)
	}
	f.now.code = append(f.now.code, step{Instr: x})
	leads(&x, func(n int) int {
		f.blocks[n].met = true
		return n
	})
}

// end writes a block's last instruction.
func (f *function) end(x api.Instr) {
	f.add(x)
	f.now = nil
}
