package vm

import (
	"bellows/api"
	"bellows/word"
)

// place is where a frame stands: at an instruction of a block of its function.
type place struct {
	f    *api.Func
	code []api.Instr
	at   int
}

// jump goes to where a block begins.
func (p *place) jump(block int) {
	need(has(p.f.Blocks, block))
	p.code, p.at = p.f.Blocks[block].Code, 0
}

// instr is the one that is next; of a frame that waits for an answer, its OpCall.
func (p *place) instr() *api.Instr {
	need(p.at < len(p.code))
	return &p.code[p.at]
}

// frame is a function's that runs.
type frame struct {
	place
	from int // where in the stack its slots begin
}

// frameWords is how many words of the stack a frame takes beside its slots.
const frameWords = 2

// running is the frame that goes on, of which the slots are at hand from now on.
func (m *machine) running() *frame {
	f := &m.frames[len(m.frames)-1]
	m.slots = m.stack[f.from:]
	return f
}

// call: P6.2.
func (m *machine) call(function int, words []uint64) {
	need(has(m.image.Funcs, function))
	f := &m.image.Funcs[function]
	need(f.Slots >= len(words) && len(words) == len(f.Params) && has(f.Blocks, 0))
	from := len(m.stack)
	if from+f.Slots+frameWords*(len(m.frames)+1) > m.script.Stack {
		panic(ended(api.NoStack))
	}
	m.stack = append(m.stack, make([]uint64, f.Slots)...)
	m.frames = append(m.frames, frame{place: place{f: f}, from: from})
	m.running().jump(0)
	empty(m.slots[copy(m.slots, words):])
}

// empty makes slots what they are at first.
func empty(slots []uint64) {
	for i := range slots {
		slots[i] = word.Imm(0)
	}
}

// drop takes the frame away that runs.
func (m *machine) drop() {
	last := len(m.frames) - 1
	m.stack = m.stack[:m.frames[last].from]
	m.frames = m.frames[:last]
}

// answer is OpReturn: the frame that called goes on behind its OpCall.
func (m *machine) answer(w uint64) {
	m.drop()
	if len(m.frames) == 0 {
		panic(ended(api.Done))
	}
	f := m.running()
	m.give(f.instr().D, w)
	f.at++
}

// throw goes by the frames that wait till one takes what is thrown.
func (m *machine) throw(w uint64) {
	for {
		m.drop()
		if len(m.frames) == 0 {
			m.raised(w)
		}
		f := m.running()
		if x := f.instr(); x.B != -1 {
			f.jump(x.B)
			m.give(x.C, w)
			return
		}
	}
}
