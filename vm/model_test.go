package vm

import (
	"cmp"
	"math/big"
	"slices"

	"bellows/api"
	"bellows/code"
)

// val is a word by the chapter's words: an object, or, where that is nil, a number.
type val struct {
	n int64
	o *obj
}

// obj is an object: its fields or elements, or its bytes.
type obj struct {
	shape int
	l     []val
	text  string
}

// toldEnd is what the model throws to end a run.
type toldEnd int

// toldFrame is a frame; by: the OpCall that called it, nil for Main's.
type toldFrame struct {
	f         api.Func
	slots     []val
	block, at int
	by        *api.Instr
}

// told is a run by the chapter's words: objects are Go's own, and a heap is a list of them, of which only the size is looked at.
type told struct {
	m      api.Image
	s      api.Script
	o      api.Outcome
	frames []*toldFrame
	heap   []*obj
	made   int
	seen   seen
}

// seen is what runs have shown: how often each instruction was done, each exception of the machine's thrown, and how often something thrown was taken.
type seen struct {
	ops   [24]int
	exns  [4]int
	taken int
	kinds [7]int
	swept int
}

func (s *seen) add(o seen) {
	for i, n := range o.ops {
		s.ops[i] += n
	}
	for i, n := range o.exns {
		s.exns[i] += n
	}
	for i, n := range o.kinds {
		s.kinds[i] += n
	}
	s.taken += o.taken
	s.swept += o.swept
}

func runAsTold(m api.Image, s api.Script) api.Outcome {
	o, _ := runAndSee(m, s)
	return o
}

func runAndSee(m api.Image, s api.Script) (o api.Outcome, shown seen) {
	r := &told{m: m, s: s}
	r.s.Fuel = max(0, min(s.Fuel, 1<<24))
	r.s.Heap = max(0, min(s.Heap, 65536))
	r.s.Stack = max(0, min(s.Stack, 65536))
	defer func() {
		r.o.Kind = int(recover().(toldEnd))
		r.seen.kinds[r.o.Kind]++
		r.seen.swept += r.o.Swept
		o, shown = r.o, r.seen
	}()
	r.must(code.Check(m) == api.OK)
	for _, s := range m.Shapes {
		r.must(s.Kind == 1 || s.Kind == 2 || s.Kind == 3)
	}
	r.must(m.Main >= 0 && m.Main < len(m.Funcs) && len(m.Funcs[m.Main].Params) == 0)
	r.call(m.Main, nil, nil)
	for {
		r.step()
	}
}

func (r *told) must(so bool) {
	if !so {
		panic(toldEnd(api.Stuck))
	}
}

func (r *told) now() *toldFrame { return r.frames[len(r.frames)-1] }

func (r *told) call(n int, words []val, by *api.Instr) {
	r.must(n >= 0 && n < len(r.m.Funcs))
	f := r.m.Funcs[n]
	r.must(f.Slots >= 0 && f.Slots >= len(words) && len(words) == len(f.Params) && len(f.Blocks) > 0)
	sum := f.Slots + 2
	for _, g := range r.frames {
		sum += len(g.slots) + 2
	}
	if sum > r.s.Stack {
		panic(toldEnd(api.NoStack))
	}
	r.frames = append(r.frames, &toldFrame{f: f, slots: append(slices.Clone(words), make([]val, f.Slots-len(words))...), by: by})
}

func (r *told) step() {
	g := r.now()
	code := g.f.Blocks[g.block].Code
	r.must(g.at < len(code))
	if r.o.Steps == r.s.Fuel {
		panic(toldEnd(api.NoFuel))
	}
	r.o.Steps++
	x := code[g.at]
	g.at++
	r.seen.ops[x.Op]++
	switch {
	case slices.Contains([]int{2, 5, 8, 13}, x.Op):
		r.create(x)
	case slices.Contains([]int{6, 7, 9, 10, 11, 12, 14}, x.Op):
		r.use(x)
	case x.Op >= 17:
		r.leave(x)
	default:
		r.value(x)
	}
}

func (r *told) get(slot int) val {
	g := r.now()
	r.must(slot >= 0 && slot < len(g.slots))
	return g.slots[slot]
}

func (r *told) set(slot int, v val) {
	g := r.now()
	r.must(slot >= 0 && slot < len(g.slots))
	g.slots[slot] = v
}

func (r *told) number(slot int) int64 {
	v := r.get(slot)
	r.must(v.o == nil)
	return v.n
}

func (r *told) object(slot int, kinds ...int) *obj {
	v := r.get(slot)
	r.must(v.o != nil && slices.Contains(kinds, r.m.Shapes[v.o.shape].Kind))
	return v.o
}

// all is the words of some slots.
func (r *told) all(slots []int) []val {
	var l []val
	for _, slot := range slots {
		l = append(l, r.get(slot))
	}
	return l
}

func (r *told) keep(live []int) {
	kept := r.all(live)
	g := r.now()
	clear(g.slots)
	for i, slot := range live {
		g.slots[slot] = kept[i]
	}
}

func (r *told) goTo(block int) {
	g := r.now()
	r.must(block >= 0 && block < len(g.f.Blocks))
	g.block, g.at = block, 0
}

// value is the instructions on numbers.
func (r *told) value(x api.Instr) {
	switch x.Op {
	case api.OpConst:
		r.set(x.D, val{n: in63(big.NewInt(x.N))})
	case api.OpMove:
		r.set(x.D, r.get(x.A))
	case api.OpIn:
		n := int64(-1)
		if len(r.s.Input) > 0 {
			n, r.s.Input = int64(r.s.Input[0]), r.s.Input[1:]
		}
		r.set(x.D, val{n: n})
	case api.OpOut:
		n := r.number(x.A) % 256
		if n < 0 {
			n += 256
		}
		r.o.Output = append(r.o.Output, byte(n))
	case api.OpPrim:
		r.must(x.N >= 1 && x.N <= 8)
		a, b := r.number(x.A), r.number(x.B)
		if b == 0 && (x.N == api.Div || x.N == api.Mod) {
			r.throwOwn(api.ExnDiv)
			return
		}
		r.set(x.D, val{n: reckonAsTold(x.N, a, b)})
	}
}

// in63 is the number of 63 bits from which n differs by a multiple of 2^63.
func in63(n *big.Int) int64 {
	half := new(big.Int).Lsh(big.NewInt(1), 62)
	whole := new(big.Int).Lsh(big.NewInt(1), 63)
	n = new(big.Int).Add(n, half)
	n.Mod(n, whole)
	return n.Sub(n, half).Int64()
}

func reckonAsTold(kind, a, b int64) int64 {
	x, y := big.NewInt(a), big.NewInt(b)
	switch kind {
	case api.Add:
		return in63(new(big.Int).Add(x, y))
	case api.Sub:
		return in63(new(big.Int).Sub(x, y))
	case api.Mul:
		return in63(new(big.Int).Mul(x, y))
	case api.Div, api.Mod:
		q := new(big.Int).Div(x, new(big.Int).Abs(y)) // rounded down by a divisor above 0
		if y.Sign() < 0 {
			q = new(big.Int).Div(new(big.Int).Neg(x), new(big.Int).Abs(y))
		}
		if kind == api.Div {
			return in63(q)
		}
		return in63(x.Sub(x, q.Mul(q, y)))
	}
	if kind == api.Lt && x.Cmp(y) < 0 || kind == api.Le && x.Cmp(y) <= 0 || kind == api.Eq && x.Cmp(y) == 0 {
		return 1
	}
	return 0
}

// use is the instructions on objects that are there.
func (r *told) use(x api.Instr) {
	switch x.Op {
	case api.OpField:
		o := r.object(x.A, 1)
		r.must(x.B >= 0 && x.B < len(o.l))
		r.set(x.D, o.l[x.B])
	case api.OpStore:
		o, v := r.object(x.A, 1), r.get(x.C)
		r.must(x.B >= 0 && x.B < len(o.l))
		o.l[x.B] = v
	case api.OpAt, api.OpPut:
		o, i := r.object(x.A, 2), r.number(x.B)
		if x.Op == api.OpPut {
			r.get(x.C)
		}
		switch {
		case i < 0 || i >= int64(len(o.l)):
			r.throwOwn(api.ExnSubscript)
		case x.Op == api.OpPut:
			o.l[i] = r.get(x.C)
		default:
			r.set(x.D, o.l[i])
		}
	case api.OpLen:
		o := r.object(x.A, 2, 3)
		r.set(x.D, val{n: int64(len(o.l) + len(o.text))})
	case api.OpByte:
		o, i := r.object(x.A, 3), r.number(x.B)
		if i < 0 || i >= int64(len(o.text)) {
			r.throwOwn(api.ExnSubscript)
			return
		}
		r.set(x.D, val{n: int64(o.text[i])})
	case api.OpCmp:
		r.set(x.D, val{n: int64(cmp.Compare(r.object(x.A, 3).text, r.object(x.B, 3).text))})
	}
}

// create is the instructions that make objects.
func (r *told) create(x api.Instr) {
	o := &obj{shape: x.A}
	kind := func(shape int) int {
		if shape < 0 || shape >= len(r.m.Shapes) {
			return 0
		}
		return r.m.Shapes[shape].Kind
	}
	var read []val
	switch x.Op {
	case api.OpText:
		r.must(kind(0) == 3 && x.A >= 0 && x.A < len(r.m.Strings))
		o.shape, o.text = 0, r.m.Strings[x.A]
	case api.OpCat:
		r.must(kind(0) == 3)
		o.shape, o.text = 0, r.object(x.A, 3).text+r.object(x.B, 3).text
		if len(o.text) > 65536 {
			r.throwOwn(api.ExnSize)
			return
		}
	case api.OpNew:
		r.must(kind(x.A) == 1 && len(r.m.Shapes[x.A].Fields) == len(x.L))
		o.l = r.all(x.L)
		read = o.l
	case api.OpArray:
		n, v := r.number(x.B), r.get(x.C)
		r.must(kind(x.A) == 2)
		if n < 0 || n > 65536 {
			r.throwOwn(api.ExnSize)
			return
		}
		o.l = of(int(n), v)
		read = []val{v}
	}
	r.keep(x.Live)
	r.room(words(r.m, o), read)
	r.heap = append(r.heap, o)
	r.set(x.D, val{o: o})
}

// words is how many an object needs.
func words(m api.Image, o *obj) int {
	if m.Shapes[o.shape].Kind == api.Bytes {
		return 1 + (len(o.text)+7)/8
	}
	return 1 + len(o.l)
}

// room looks that so many words are left.
func (r *told) room(need int, read []val) {
	n := r.made
	r.made++
	now := n < len(r.s.Collect) && r.s.Collect[n]
	if now {
		r.collect(read)
	}
	left := func() int {
		sum := r.s.Heap
		for _, o := range r.heap {
			sum -= words(r.m, o)
		}
		return sum
	}
	if need > left() && !now {
		r.collect(read)
	}
	if need > left() {
		panic(toldEnd(api.NoHeap))
	}
}

// collect leaves what is reached in the heap.
func (r *told) collect(read []val) {
	r.o.Swept++
	reached := map[*obj]bool{}
	todo := slices.Clone(read)
	for _, g := range r.frames {
		todo = append(todo, g.slots...)
	}
	for len(todo) > 0 {
		o := todo[len(todo)-1].o
		todo = todo[:len(todo)-1]
		if o != nil && !reached[o] {
			reached[o] = true
			todo = append(todo, o.l...)
		}
	}
	r.heap = slices.DeleteFunc(r.heap, func(o *obj) bool { return !reached[o] })
}

// leave is the instructions that go on elsewhere.
func (r *told) leave(x api.Instr) {
	switch x.Op {
	case api.OpCall:
		l := r.all(x.L)
		r.keep(x.Live)
		r.call(x.A, l, &x)
	case api.OpJump:
		r.goTo(x.A)
	case api.OpIf:
		if r.number(x.A) != 0 {
			r.goTo(x.B)
		} else {
			r.goTo(x.C)
		}
	case api.OpSwitch:
		v := r.get(x.A)
		l, n := x.L, v.n
		if v.o != nil {
			l, n = x.M, int64(v.o.shape)
		}
		for i := 0; i < len(l)-1; i += 2 {
			if int64(l[i]) == n {
				r.goTo(l[i+1])
				return
			}
		}
		r.must(v.o == nil)
		r.goTo(x.B)
	case api.OpTail:
		l, by := r.all(x.L), r.now().by
		r.frames = r.frames[:len(r.frames)-1]
		r.call(x.A, l, by)
	case api.OpReturn:
		v, by := r.get(x.A), r.now().by
		r.frames = r.frames[:len(r.frames)-1]
		if by == nil {
			panic(toldEnd(api.Done))
		}
		r.set(by.D, v)
	case api.OpRaise:
		r.throw(r.get(x.A))
	}
}

func (r *told) throwOwn(exn int64) {
	r.seen.exns[exn]++
	r.throw(val{n: exn})
}

func (r *told) throw(v val) {
	for by := r.now().by; by != nil; by = r.now().by {
		r.frames = r.frames[:len(r.frames)-1]
		if by.B != -1 {
			r.seen.taken++
			r.goTo(by.B)
			r.set(by.C, v)
			return
		}
	}
	if v.o != nil {
		r.o.Exn = r.m.Shapes[v.o.shape].Name
	} else if v.n >= 0 && v.n < int64(len(r.m.Names)) {
		r.o.Exn = r.m.Names[v.n]
	}
	panic(toldEnd(api.Raised))
}
