package vm

import (
	"math"
	"math/bits"
	"reflect"
	"slices"

	"bellows/api"
	"bellows/code"
	"bellows/verify"
)

// chance is a row of numbers that is the same in each run.
type chance struct{ seed uint64 }

func (c *chance) next() uint64 {
	c.seed = c.seed*6364136223846793005 + 1442695040888963407
	return bits.RotateLeft64(c.seed, 27) ^ c.seed>>17
}

// below is a number from 0 to n - 1.
func (c *chance) below(n int) int { return int(c.next() % uint64(n)) }

// oneOf is one of a list.
func oneOf[E any](c *chance, l []E) E { return l[c.below(len(l))] }

// The types of the images that chance makes.
const (
	tNum = iota
	tText
	tPair // a number, a text
	tCell // a number, a tList
	tList // a number, or a tCell
	tNums
	tLists // an array of lists
	tExn   // a number, or an exception with a text
	tFail
	tEither // a pair, or a cell
	tSeq    // a text, or an array
	tAny
	manyTypes
)

// frame is an image without functions.
func chanceFrame() api.Image {
	object := func(shapes ...int) api.Type { return api.Type{Shapes: shapes} }
	imm := func(shapes ...int) api.Type { return api.Type{Imm: true, Shapes: shapes} }
	return api.Image{
		Types: []api.Type{
			tNum: imm(), tText: object(0), tPair: object(1), tCell: object(2), tList: imm(2), tNums: object(3), tLists: object(4),
			tExn: imm(5), tFail: object(5), tEither: object(1, 2), tSeq: object(0, 3, 4), tAny: imm(0, 1, 2, 3, 4, 5, 6),
		},
		Shapes: []api.Shape{
			{Kind: api.Bytes},
			{Kind: api.Record, Fields: []int{tNum, tText}},
			{Kind: api.Record, Fields: []int{tNum, tList}},
			{Kind: api.Array, Fields: []int{tNum}},
			{Kind: api.Array, Fields: []int{tList}},
			{Kind: api.Record, Fields: []int{tText}, Name: "Fail"},
			{Kind: api.Record},
		},
		Strings: []string{"", "a", "bc", "hello, world"},
		Names:   []string{"Match", "Div", "Subscript", "Size"},
		Exn:     tExn,
	}
}

// maker makes an image that verify finds nothing in.
type maker struct {
	*chance
	m    api.Image
	f    *api.Func
	n    int         // its number
	home []int       // of each slot: the type that it mostly has
	now  []*api.Type // nil: none
	l    []api.Instr
}

func (c *chance) image() api.Image {
	k := &maker{chance: c, m: chanceFrame()}
	for i := range 2 + c.below(4) {
		f := api.Func{Result: oneOf(c, []int{tNum, tNum, tText, tPair, tList, tCell})}
		if i > 0 {
			for range c.below(4) {
				f.Params = append(f.Params, oneOf(c, []int{tNum, tNum, tText, tPair, tList, tNums, tLists, tAny}))
			}
		}
		f.Slots = len(f.Params) + 6 + c.below(8)
		f.Blocks = make([]api.Block, 1+c.below(5))
		k.m.Funcs = append(k.m.Funcs, f)
	}
	for n := range k.m.Funcs {
		k.function(n)
	}
	return k.m
}

func (k *maker) function(n int) {
	k.n, k.f = n, &k.m.Funcs[n]
	k.home = make([]int, k.f.Slots)
	for slot := range k.home {
		k.home[slot] = k.below(manyTypes)
	}
	copy(k.home, k.f.Params)
	k.home[len(k.home)-1] = tNum
	for i := range k.f.Blocks {
		in := make([]int, k.f.Slots)
		for slot := range in {
			in[slot] = -1
			if i > 0 && k.below(4) == 0 {
				in[slot] = k.home[slot]
			}
		}
		if i == 0 {
			copy(in, k.f.Params)
		}
		k.f.Blocks[i].In = in
	}
	for i := range k.f.Blocks {
		k.block(i)
	}
}

func (k *maker) block(n int) {
	k.now, k.l = make([]*api.Type, k.f.Slots), nil
	for slot, t := range k.f.Blocks[n].In {
		if t != -1 {
			k.now[slot] = &k.m.Types[t]
		}
	}
	for range 4 + k.below(14) {
		k.step()
	}
	for range 12 {
		if k.leave(n) {
			break
		}
	}
	if len(k.l) == 0 || k.l[len(k.l)-1].Op < api.OpJump {
		slot := k.f.Slots - 1
		k.add(konst(slot, int64(k.below(5))), tNum)
		k.l = append(k.l, raise(slot))
	}
	k.f.Blocks[n].Code = k.l
}

// slot is one whose type is within one of the image's; -1, if there is none.
func (k *maker) slot(t int) int {
	return k.slotOf(func(is api.Type) bool { return verify.Sub(is, k.m.Types[t]) })
}

func (k *maker) slotOf(good func(t api.Type) bool) int {
	from := k.below(len(k.now))
	for i := range k.now {
		slot := (from + i) % len(k.now)
		if k.now[slot] != nil && good(*k.now[slot]) {
			return slot
		}
	}
	return -1
}

// slots is one for each of these types; false, if one is wanting.
func (k *maker) slotsFor(types []int) ([]int, bool) {
	var l []int
	for _, t := range types {
		l = append(l, k.slot(t))
	}
	return l, !slices.Contains(l, -1)
}

// into is a slot for what has this type: mostly one where that is at home.
func (k *maker) into(t api.Type) int {
	from := k.below(len(k.now))
	for i := range k.now {
		slot := (from + i) % len(k.now)
		if verify.Sub(t, k.m.Types[k.home[slot]]) && k.below(3) > 0 {
			return slot
		}
	}
	return from
}

// live is mostly all slots that have types; the others have none any more.
func (k *maker) live() []int {
	var l []int
	for slot := range k.now {
		if k.now[slot] != nil && k.below(8) > 0 {
			l = append(l, slot)
		} else {
			k.now[slot] = nil
		}
	}
	return l
}

// add adds an instruction that lets D have a type of the image.
func (k *maker) add(x api.Instr, t int) {
	k.l = append(k.l, x)
	k.now[x.D] = &k.m.Types[t]
}

// put adds an instruction whose D chance chooses.
func (k *maker) put(x api.Instr, t int) {
	x.D = k.into(k.m.Types[t])
	k.add(x, t)
}

// create adds an instruction that keeps some slots.
func (k *maker) create(x api.Instr, t int) {
	x.Live = k.live()
	k.put(x, t)
}

func (k *maker) number() int64 {
	return oneOf(k.chance, []int64{0, 0, 1, 1, 2, 3, 4, 65, 97, 256, -1, -2, 1<<62 - 1, -1 << 62, 70000, int64(k.below(1000))})
}

// step adds an instruction, if the slots have what it needs.
func (k *maker) step() {
	num, n2 := k.slot(tNum), k.slot(tNum)
	if num < 0 || k.below(7) == 0 {
		k.put(konst(0, k.number()), tNum)
		return
	}
	switch k.below(9) {
	case 0:
		k.create(text(0, k.below(len(k.m.Strings))), tText)
	case 1, 2:
		k.record()
	case 3:
		k.array(num)
	case 4, 5:
		k.call()
	case 6:
		k.look(num, n2)
	case 7:
		k.change(num)
	case 8:
		k.reckon(num, n2)
	}
}

func (k *maker) record() {
	made := oneOf(k.chance, [][2]int{{1, tPair}, {2, tCell}, {2, tList}, {5, tFail}})
	shape, t := made[0], made[1]
	if l, ok := k.slotsFor(k.m.Shapes[shape].Fields); ok {
		k.create(record(0, shape, l), t)
	}
}

func (k *maker) array(num int) {
	if k.below(3) > 0 { // mostly of a length that is small
		k.put(konst(0, int64(k.below(9))), tNum)
		num = k.l[len(k.l)-1].D
	}
	if list := k.slot(tList); k.below(2) == 0 && list >= 0 {
		k.create(array(0, 4, num, list), tLists)
		return
	}
	k.create(array(0, 3, num, num), tNums)
}

func (k *maker) call() {
	n := k.n + 1 + k.below(2)
	if k.below(12) == 0 {
		n = k.below(len(k.m.Funcs))
	}
	if n >= len(k.m.Funcs) {
		return
	}
	l, ok := k.slotsFor(k.m.Funcs[n].Params)
	if !ok {
		return
	}
	x := call(0, n, l)
	x.Live = k.live()
	block, slot := k.below(len(k.f.Blocks)), k.below(len(k.now))
	was := k.now[slot]
	k.now[slot] = &k.m.Types[tExn]
	if k.fits(block) && k.below(4) > 0 {
		x.B, x.C = block, slot
	}
	k.now[slot] = was
	k.put(x, k.m.Funcs[n].Result)
}

// look adds an instruction that looks at an object.
func (k *maker) look(num, n2 int) {
	texts, pairs, cells, eithers := k.slot(tText), k.slot(tPair), k.slot(tCell), k.slot(tEither)
	nums, lists, seqs := k.slot(tNums), k.slot(tLists), k.slotOf(func(t api.Type) bool { return len(t.Shapes) > 0 && verify.Sub(t, k.m.Types[tSeq]) })
	switch which := k.below(9); {
	case which == 0 && texts >= 0:
		k.put(octet(0, texts, oneOf(k.chance, []int{num, n2})), tNum)
	case which == 1 && texts >= 0:
		k.put(compare(0, texts, k.slot(tText)), tNum)
	case which == 2 && texts >= 0:
		k.create(cat(0, texts, k.slot(tText)), tText)
		k.show(k.l[len(k.l)-1].D)
	case which == 3 && pairs >= 0:
		k.put(field(0, pairs, 1), tText)
	case which == 4 && cells >= 0:
		k.put(field(0, cells, 1), tList)
	case which == 5 && eithers >= 0:
		k.put(field(0, eithers, 0), tNum)
	case which == 6 && nums >= 0:
		k.put(at(0, nums, num), tNum)
	case which == 7 && lists >= 0:
		k.put(at(0, lists, num), tList)
	case seqs >= 0:
		k.put(length(0, seqs), tNum)
	}
}

// show puts a byte of a text out, if it isn't short.
func (k *maker) show(texts int) {
	n := k.f.Slots - 1
	if texts != n {
		k.add(konst(n, int64(k.below(3))), tNum)
		k.add(octet(n, texts, n), tNum)
		k.l = append(k.l, out(n))
	}
}

// change adds an instruction that puts something into an object.
func (k *maker) change(num int) {
	nums, lists, cells, list := k.slot(tNums), k.slot(tLists), k.slot(tCell), k.slot(tList)
	switch which := k.below(5); {
	case which == 0 && nums >= 0:
		k.l = append(k.l, put(nums, num, k.slot(tNum)))
	case which == 1 && lists >= 0:
		k.l = append(k.l, put(lists, num, list))
	case which == 2 && cells >= 0:
		k.l = append(k.l, store(cells, 0, num))
	case cells >= 0:
		k.l = append(k.l, store(cells, 1, list))
	}
}

func (k *maker) reckon(num, n2 int) {
	switch k.below(6) {
	case 0:
		k.put(in(0), tNum)
	case 1, 2:
		k.l = append(k.l, out(num))
	case 3:
		slot := k.slot(tAny)
		x := move(k.into(*k.now[slot]), slot)
		k.l = append(k.l, x)
		k.now[x.D] = k.now[slot]
	default:
		k.put(prim(int64(1+k.below(8)), 0, num, n2), tNum)
	}
}

// fits asks whether the slots fit a block.
func (k *maker) fits(block int) bool {
	for slot, t := range k.f.Blocks[block].In {
		if t != -1 && (k.now[slot] == nil || !verify.Sub(*k.now[slot], k.m.Types[t])) {
			return false
		}
	}
	return true
}

// fitting is a block that the slots fit: mostly one further on.
func (k *maker) fitting(n int) int {
	for range 12 {
		block := n + 1 + k.below(3)
		if k.below(40) == 0 {
			block = k.below(len(k.f.Blocks))
		}
		if block < len(k.f.Blocks) && k.fits(block) {
			return block
		}
	}
	return -1
}

// fittingAs is one that they fit, if one of them has that type.
func (k *maker) fittingAs(n, slot int, t api.Type) int {
	was := k.now[slot]
	k.now[slot] = &t
	defer func() { k.now[slot] = was }()
	return k.fitting(n)
}

// leave adds an instruction that ends a block, if the slots have what it needs.
func (k *maker) leave(n int) bool {
	switch k.below(12) {
	case 0, 1:
		if block := k.fitting(n); block >= 0 {
			k.l = append(k.l, jump(block))
			return true
		}
	case 2, 3, 4:
		num, yes, no := k.slot(tNum), k.fitting(n), k.fitting(n)
		if num >= 0 && yes >= 0 && no >= 0 {
			k.l = append(k.l, when(num, yes, no))
			return true
		}
	case 5, 6, 7:
		return k.choose(n)
	case 8:
		return k.tail()
	case 9, 10:
		if slot := k.slot(k.f.Result); slot >= 0 {
			k.l = append(k.l, answer(slot))
			return true
		}
	default:
		if slot := k.slotOf(func(t api.Type) bool { return verify.Sub(t, k.m.Types[tExn]) && len(t.Shapes) > k.below(2) }); slot >= 0 {
			k.l = append(k.l, raise(slot))
			return true
		}
	}
	return false
}

func (k *maker) choose(n int) bool {
	slot := k.slotOf(func(t api.Type) bool { return len(t.Shapes) > 0 })
	if slot < 0 || k.below(4) == 0 {
		slot = k.slot(tAny)
	}
	if slot < 0 {
		return false
	}
	x := choice(slot, nil, nil, -1)
	number := k.fittingAs(n, slot, api.Type{Imm: true})
	if k.now[slot].Imm {
		for v := range 4 {
			if k.below(2) == 0 {
				x.L = append(x.L, v-1, number)
			}
		}
		x.B = number
	}
	bad := k.now[slot].Imm && number < 0
	for _, shape := range k.now[slot].Shapes {
		block := k.fittingAs(n, slot, api.Type{Shapes: []int{shape}})
		bad = bad || block < 0
		x.M = append(x.M, shape, block)
	}
	if !bad {
		k.l = append(k.l, x)
	}
	return !bad
}

func (k *maker) tail() bool {
	n := k.below(len(k.m.Funcs))
	if n <= k.n && k.below(3) > 0 || !verify.Sub(k.m.Types[k.m.Funcs[n].Result], k.m.Types[k.f.Result]) {
		return false
	}
	l, ok := k.slotsFor(k.m.Funcs[n].Params)
	if ok {
		k.l = append(k.l, tail(n, l...))
	}
	return ok
}

// script is one with enough of most things, and seldom with little.
func (c *chance) script() api.Script {
	s := api.Script{Fuel: 500, Heap: 3000, Stack: 3000, Input: make([]byte, c.below(4))}
	for i := range s.Input {
		s.Input[i] = byte(c.below(256))
	}
	if c.below(4) == 0 {
		s.Fuel = c.below(100)
	}
	if c.below(3) == 0 {
		s.Heap = c.below(60)
	}
	if c.below(4) == 0 {
		s.Stack = c.below(120)
	}
	s.Collect = c.collect()
	return s
}

func (c *chance) collect() []bool {
	l := make([]bool, c.below(2)*c.below(60))
	often := 1 + c.below(6)
	for i := range l {
		l[i] = c.below(often) == 0
	}
	return l
}

// values calls f with each number and list of an image's functions and shapes; of an instruction with those that it uses.
func values(v reflect.Value, f func(v reflect.Value)) {
	switch v.Kind() {
	case reflect.Slice:
		f(v)
		for i := range v.Len() {
			values(v.Index(i), f)
		}
	case reflect.Struct:
		names := map[rune]string{'D': "D", 'A': "A", 'B': "B", 'C': "C", 'N': "N", 'L': "L", 'M': "M", 'l': "Live"}
		if v.Type() == reflect.TypeFor[api.Instr]() {
			for _, letter := range code.Uses(int(v.FieldByName("Op").Int())) {
				values(v.FieldByName(names[letter]), f)
			}
			return
		}
		for i := range v.NumField() {
			values(v.Field(i), f)
		}
	case reflect.Int, reflect.Int64:
		f(v)
	}
}

// other changes one thing of an image, mostly of its functions.
func (c *chance) other(m *api.Image) {
	var all []reflect.Value
	if c.below(8) == 0 {
		values(reflect.ValueOf(m).Elem(), func(v reflect.Value) { all = append(all, v) })
	} else {
		values(reflect.ValueOf(&m.Funcs).Elem(), func(v reflect.Value) { all = append(all, v) })
	}
	v := oneOf(c, all)
	if v.Kind() != reflect.Slice {
		v.SetInt([]int64{v.Int() + 1, v.Int() - 1, -1, 0, 1, 2, 3, int64(c.below(12)), math.MinInt64, math.MaxInt64, 1 << 62}[c.below(11)])
		return
	}
	if v.Len() == 0 || c.below(3) == 0 {
		e := reflect.New(v.Type().Elem()).Elem()
		if v.Len() > 0 {
			e.Set(v.Index(c.below(v.Len())))
		}
		v.Set(reflect.Append(v, e))
		return
	}
	i, j := c.below(v.Len()), c.below(v.Len())
	if c.below(2) == 0 {
		reflect.Swapper(v.Interface())(i, j)
		return
	}
	v.Set(reflect.AppendSlice(v.Slice(0, i), v.Slice(i+1, v.Len())))
}

// copied is a value that is the same, and shares no memory with it.
func copied[E any](e E) E {
	var fresh func(v reflect.Value) reflect.Value
	fresh = func(v reflect.Value) reflect.Value {
		out := reflect.New(v.Type()).Elem()
		switch v.Kind() {
		case reflect.Slice:
			out.Set(reflect.MakeSlice(v.Type(), v.Len(), v.Len()))
			for i := range v.Len() {
				out.Index(i).Set(fresh(v.Index(i)))
			}
		case reflect.Struct:
			for i := range v.NumField() {
				out.Field(i).Set(fresh(v.Field(i)))
			}
		default:
			out.Set(v)
		}
		return out
	}
	return fresh(reflect.ValueOf(e)).Interface().(E)
}
