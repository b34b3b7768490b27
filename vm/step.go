package vm

import (
	"strings"

	"bellows/api"
	"bellows/word"
)

// do does an instruction: is it the one behind it that is next?
func (m *machine) do(x *api.Instr) bool {
	switch x.Op {
	case api.OpConst:
		return m.give(x.D, word.Imm(x.N))
	case api.OpMove:
		return m.give(x.D, m.word(x.A))
	case api.OpPrim:
		return m.reckon(x)
	case api.OpIn:
		return m.give(x.D, m.in())
	case api.OpOut:
		m.Output = append(m.Output, byte(m.number(x.A)))
		return true
	case api.OpText, api.OpNew, api.OpArray, api.OpCat:
		return m.create(x)
	case api.OpField, api.OpStore, api.OpAt, api.OpPut, api.OpLen, api.OpByte, api.OpCmp:
		return m.use(x)
	}
	m.leave(x)
	return false
}

// fail throws one of the exceptions that every program has.
func (m *machine) fail(exn int64) bool {
	m.throw(word.Imm(exn))
	return false
}

// in takes a byte of the input.
func (m *machine) in() uint64 {
	if m.taken == len(m.script.Input) {
		return word.Imm(-1)
	}
	m.taken++
	return word.Imm(int64(m.script.Input[m.taken-1]))
}

func (m *machine) reckon(x *api.Instr) bool {
	need(api.Add <= x.N && x.N <= api.Eq)
	n, ok := reckoning(x.N, m.number(x.A), m.number(x.B))
	if !ok {
		return m.fail(api.ExnDiv)
	}
	return m.give(x.D, word.Imm(n))
}

// reckoning is false, if it has no answer.
func reckoning(kind, a, b int64) (int64, bool) {
	switch kind {
	case api.Add:
		return word.Add(a, b), true
	case api.Sub:
		return word.Sub(a, b), true
	case api.Mul:
		return word.Mul(a, b), true
	case api.Div:
		return word.Div(a, b)
	case api.Mod:
		return word.Mod(a, b)
	case api.Lt:
		return truth(a < b), true
	case api.Le:
		return truth(a <= b), true
	}
	return truth(a == b), true
}

func truth(so bool) int64 {
	if so {
		return 1
	}
	return 0
}

// use does what looks at an object, or puts something into it.
func (m *machine) use(x *api.Instr) bool {
	switch x.Op {
	case api.OpField:
		w, e := m.heap.Get(m.object(x.A, api.Record), x.B)
		need(e == api.OK)
		return m.give(x.D, w)
	case api.OpStore:
		need(m.heap.Set(m.object(x.A, api.Record), x.B, m.word(x.C)) == api.OK)
		return true
	case api.OpAt:
		w, e := m.heap.Get(m.object(x.A, api.Array), m.index(x.B))
		return m.found(e) && m.give(x.D, w)
	case api.OpPut:
		return m.found(m.heap.Set(m.object(x.A, api.Array), m.index(x.B), m.word(x.C)))
	case api.OpLen:
		n, _ := m.heap.Len(m.object(x.A, api.Array, api.Bytes))
		return m.give(x.D, word.Imm(int64(n)))
	case api.OpByte:
		c, e := m.heap.Byte(m.object(x.A, api.Bytes), m.index(x.B))
		return m.found(e) && m.give(x.D, word.Imm(int64(c)))
	}
	return m.give(x.D, word.Imm(int64(strings.Compare(m.text(x.A), m.text(x.B)))))
}

// found throws, if there is no such element or byte. Of an object of the right kind, and a slot's word, that alone the heap can refuse.
func (m *machine) found(e api.Errno) bool { return e == api.OK || m.fail(api.ExnSubscript) }

// leave does what goes on elsewhere.
func (m *machine) leave(x *api.Instr) {
	f := m.running()
	switch x.Op {
	case api.OpCall:
		words := m.read(x.L)
		m.keep(x.Live)
		m.call(x.A, words)
	case api.OpJump:
		f.jump(x.A)
	case api.OpIf:
		if m.number(x.A) != 0 {
			f.jump(x.B)
		} else {
			f.jump(x.C)
		}
	case api.OpSwitch:
		f.jump(m.way(x))
	case api.OpTail:
		words := m.read(x.L)
		m.drop()
		m.call(x.A, words)
	case api.OpReturn:
		m.answer(m.word(x.A))
	case api.OpRaise:
		m.throw(m.word(x.A))
	default:
		need(false)
	}
}

// noBlock is no block's number: to go there is what can't be.
const noBlock = -1

// way is the block at which OpSwitch goes on.
func (m *machine) way(x *api.Instr) int {
	w := m.word(x.A)
	if word.IsImm(w) {
		return choose(x.L, word.Int(w), x.B)
	}
	return choose(x.M, int64(m.shapeOf(w)), noBlock)
}

// choose is the block behind the first number in ways that is n, or the other one.
func choose(ways []int, n int64, other int) int {
	for i := 0; i+1 < len(ways); i += 2 {
		if int64(ways[i]) == n {
			return ways[i+1]
		}
	}
	return other
}
