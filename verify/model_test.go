package verify

import (
	"reflect"
	"slices"

	"bellows/api"
	"bellows/code"
)

// kind is a type by the chapter's words: which shapes it has, and -1, if numbers. A nil one is that of a slot without a type.
type kind map[int]bool

func kindOf(t api.Type) kind {
	k := kind{}
	if t.Imm {
		k[-1] = true
	}
	for _, shape := range t.Shapes {
		k[shape] = true
	}
	return k
}

func (k kind) in(o kind) bool {
	for w := range k {
		if !o[w] {
			return false
		}
	}
	return true
}

// wholeAsTold is Whole by the chapter's words, in their order.
func wholeAsTold(m api.Image) bool {
	if code.Check(m) != api.OK {
		return false
	}
	good := true
	must := func(so bool) { good = good && so }
	number := func(n, most int) bool { return n >= 0 && n < most }
	must(len(m.Types) > 0 && reflect.DeepEqual(kindOf(m.Types[0]), kind{-1: true}))
	must(len(m.Shapes) > 0 && m.Shapes[0].Kind == 3)
	for _, t := range m.Types {
		for i, shape := range t.Shapes {
			must(number(shape, len(m.Shapes)))
			must(i == 0 || t.Shapes[i-1] < shape)
		}
	}
	for _, s := range m.Shapes {
		must(s.Kind == 1 || s.Kind == 2 && len(s.Fields) == 1 || s.Kind == 3 && len(s.Fields) == 0)
		for _, n := range s.Fields {
			must(number(n, len(m.Types)))
		}
	}
	must(number(m.Exn, len(m.Types)) && m.Types[m.Exn].Imm)
	if good {
		for _, shape := range m.Types[m.Exn].Shapes {
			must(m.Shapes[shape].Kind == 1)
		}
	}
	must(number(m.Main, len(m.Funcs)) && len(m.Funcs[m.Main].Params) == 0)
	for _, f := range m.Funcs {
		for _, n := range append([]int{f.Result}, f.Params...) {
			must(number(n, len(m.Types)))
		}
		must(f.Slots >= 0 && len(f.Params) <= f.Slots && len(f.Blocks) > 0)
		for i, b := range f.Blocks {
			must(len(b.In) == f.Slots)
			for slot, n := range b.In {
				must(n == -1 || number(n, len(m.Types)))
				if i == 0 {
					must(slot < len(f.Params) && n == f.Params[slot] || slot >= len(f.Params) && n == -1)
				}
			}
		}
	}
	return good
}

// told is where a block is gone through by the chapter's words; bad: something wasn't so.
type told struct {
	m   api.Image
	f   api.Func
	now []kind
	bad bool
}

func beginAsTold(m api.Image, f api.Func, in []int) *told {
	s := &told{m: m, f: f, now: make([]kind, f.Slots)}
	for slot, n := range in {
		if n != -1 {
			s.now[slot] = kindOf(m.Types[n])
		}
	}
	return s
}

func (s *told) must(so bool) { s.bad = s.bad || !so }

// number is n, if it is that of one of so many, else 0, and bad.
func (s *told) number(n, most int) int {
	if n < 0 || n >= most {
		s.bad = true
		return 0
	}
	return n
}

// read is the type of a slot; one of no words, if there is none.
func (s *told) read(slot int) kind {
	if slot < 0 || slot >= len(s.now) || s.now[slot] == nil {
		s.bad = true
		return kind{}
	}
	return s.now[slot]
}

func (s *told) readNumber(slot int) { s.must(s.read(slot).in(kind{-1: true})) }

func (s *told) set(slot int, k kind) {
	if slot < 0 || slot >= len(s.now) {
		s.bad = true
		return
	}
	s.now[slot] = k
}

// object is the shapes of a slot that is an object of one of these kinds.
func (s *told) object(slot int, kinds ...int) []api.Shape {
	var l []api.Shape
	for w := range s.read(slot) {
		if w == -1 || !slices.Contains(kinds, s.m.Shapes[w].Kind) {
			s.bad = true
			return nil
		}
		l = append(l, s.m.Shapes[w])
	}
	s.must(len(l) > 0)
	return l
}

// fields is the types of a field of these shapes.
func (s *told) fields(l []api.Shape, n int) []kind {
	var out []kind
	for _, shape := range l {
		if n < 0 || n >= len(shape.Fields) {
			s.bad = true
			return nil
		}
		out = append(out, kindOf(s.m.Types[shape.Fields[n]]))
	}
	return out
}

func (s *told) joined(l []kind) kind {
	all := kind{}
	for _, k := range l {
		for w := range k {
			all[w] = true
		}
	}
	return all
}

// within asks of slots that each is Sub of a type in its place.
func (s *told) within(l, types []int) {
	s.must(len(l) == len(types))
	for i, slot := range l {
		k := s.read(slot)
		s.must(i < len(types) && k.in(kindOf(s.m.Types[types[i]])))
	}
}

func (s *told) shape(n, kind int) (int, []int) {
	if n < 0 || n >= len(s.m.Shapes) || s.m.Shapes[n].Kind != kind {
		s.bad = true
		return 0, nil
	}
	return n, s.m.Shapes[n].Fields
}

func (s *told) collect(live []int) {
	kept := make([]kind, len(s.now))
	for i, slot := range live {
		s.must(i == 0 || live[i-1] < slot)
		k := s.read(slot)
		if !s.bad {
			kept[slot] = k
		}
	}
	s.now = kept
}

// fit asks whether all slots fit a block, if this one has that type (nil: what it has).
func (s *told) fit(block, slot int, k kind) {
	if block < 0 || block >= len(s.f.Blocks) {
		s.bad = true
		return
	}
	now := slices.Clone(s.now)
	if k != nil {
		t := told{now: now}
		t.set(slot, k)
		s.must(!t.bad)
	}
	for i, n := range s.f.Blocks[block].In {
		s.must(n == -1 || now[i] != nil && now[i].in(kindOf(s.m.Types[n])))
	}
}

// value is the instructions that make no object and end no block.
func (s *told) value(x api.Instr) {
	numbers := kind{-1: true}
	switch x.Op {
	case api.OpConst:
		s.must(x.N >= -1<<62 && x.N <= 1<<62-1)
		s.set(x.D, numbers)
	case api.OpMove:
		s.set(x.D, s.read(x.A))
	case api.OpPrim:
		s.must(x.N >= 1 && x.N <= 8)
		s.readNumber(x.A)
		s.readNumber(x.B)
		s.set(x.D, numbers)
	case api.OpIn:
		s.set(x.D, numbers)
	case api.OpOut:
		s.readNumber(x.A)
	case api.OpField:
		s.set(x.D, s.joined(s.fields(s.object(x.A, 1), x.B)))
	case api.OpStore:
		for _, k := range s.fields(s.object(x.A, 1), x.B) {
			s.must(s.read(x.C).in(k))
		}
		s.read(x.C)
	case api.OpAt:
		s.readNumber(x.B)
		s.set(x.D, s.joined(s.fields(s.object(x.A, 2), 0)))
	case api.OpPut:
		s.readNumber(x.B)
		for _, k := range s.fields(s.object(x.A, 2), 0) {
			s.must(s.read(x.C).in(k))
		}
		s.read(x.C)
	case api.OpLen:
		s.object(x.A, 2, 3)
		s.set(x.D, numbers)
	case api.OpByte:
		s.object(x.A, 3)
		s.readNumber(x.B)
		s.set(x.D, numbers)
	case api.OpCmp:
		s.object(x.A, 3)
		s.object(x.B, 3)
		s.set(x.D, numbers)
	}
}

// made is the instructions that collect.
func (s *told) made(x api.Instr) {
	var k kind
	switch x.Op {
	case api.OpText:
		s.number(x.A, len(s.m.Strings))
		k = kind{0: true}
	case api.OpCat:
		s.object(x.A, 3)
		s.object(x.B, 3)
		k = kind{0: true}
	case api.OpNew:
		n, fields := s.shape(x.A, 1)
		s.within(x.L, fields)
		k = kind{n: true}
	case api.OpArray:
		n, fields := s.shape(x.A, 2)
		s.readNumber(x.B)
		s.within([]int{x.C}, fields)
		k = kind{n: true}
	case api.OpCall:
		f := s.m.Funcs[s.number(x.A, len(s.m.Funcs))]
		s.within(x.L, f.Params)
		k = kindOf(s.m.Types[f.Result])
	}
	s.collect(x.Live)
	if x.Op == api.OpCall && x.B == -1 {
		s.must(x.C == 0)
	}
	if x.Op == api.OpCall && x.B != -1 {
		s.fit(x.B, x.C, kindOf(s.m.Types[s.m.Exn]))
	}
	s.set(x.D, k)
}

// end is the instructions that end a block.
func (s *told) end(x api.Instr) {
	result := kindOf(s.m.Types[s.f.Result])
	switch x.Op {
	case api.OpJump:
		s.fit(x.A, 0, nil)
	case api.OpIf:
		s.readNumber(x.A)
		s.fit(x.B, 0, nil)
		s.fit(x.C, 0, nil)
	case api.OpSwitch:
		s.switched(x)
	case api.OpTail:
		f := s.m.Funcs[s.number(x.A, len(s.m.Funcs))]
		s.within(x.L, f.Params)
		s.must(kindOf(s.m.Types[f.Result]).in(result))
	case api.OpReturn:
		s.must(s.read(x.A).in(result))
	case api.OpRaise:
		s.must(s.read(x.A).in(kindOf(s.m.Types[s.m.Exn])))
	}
}

func (s *told) switched(x api.Instr) {
	s.must(len(x.L)%2 == 0 && len(x.M)%2 == 0)
	left := s.joined([]kind{s.read(x.A)})
	for i, n := range x.L {
		if i%2 == 1 {
			s.fit(n, x.A, kind{-1: true})
			continue
		}
		s.must(n >= -1<<62 && n <= 1<<62-1 && (i == 0 || x.L[i-2] < n))
	}
	if x.B != -1 {
		s.fit(x.B, x.A, kind{-1: true})
		delete(left, -1)
	}
	for i := 0; i+1 < len(x.M); i += 2 {
		shape := s.number(x.M[i], len(s.m.Shapes))
		s.must(i == 0 || x.M[i-2] < shape)
		s.fit(x.M[i+1], x.A, kind{shape: true})
		delete(left, shape)
	}
	s.must(len(left) == 0)
}

// instr is one instruction: is all so that it needs?
func (s *told) instr(x api.Instr) bool {
	switch {
	case slices.Contains([]int{2, 5, 8, 13, 17}, x.Op):
		s.made(x)
	case x.Op >= 18:
		s.end(x)
	default:
		s.value(x)
	}
	return !s.bad
}

// faultAsTold is Fault by the chapter's words.
func faultAsTold(m api.Image) (int, int, int, bool) {
	if !wholeAsTold(m) {
		return -1, -1, -1, false
	}
	for i, f := range m.Funcs {
		for j, b := range f.Blocks {
			s := beginAsTold(m, f, b.In)
			for k, x := range b.Code {
				if !s.instr(x) || x.Op >= 18 && k+1 < len(b.Code) {
					return i, j, k, false
				}
			}
			if len(b.Code) == 0 || b.Code[len(b.Code)-1].Op < 18 {
				return i, j, len(b.Code), false
			}
		}
	}
	return 0, 0, 0, true
}
