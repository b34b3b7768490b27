package gc

import (
	"math"
	"slices"
	"strings"
	"testing"

	"bellows/api"
	"bellows/heap"
	"bellows/word"
)

// ptrs are the pointers of these places.
func ptrs(at ...int) []uint64 {
	var l []uint64
	for _, p := range at {
		l = append(l, word.Ptr(p))
	}
	return l
}

// refused asks that all calls answer ErrArg and nothing else.
func refused(t *testing.T, why string, h *heap.Heap, roots []uint64) {
	t.Helper()
	if l, e := Marks(h, roots); l != nil || e != api.ErrArg {
		t.Errorf("%s: Marks: %v, %d", why, l, e)
	}
	if n, e := Live(h, roots); n != 0 || e != api.ErrArg {
		t.Errorf("%s: Live: %d, %d", why, n, e)
	}
	if l, e := Collect(h, roots); l != nil || e != api.ErrArg {
		t.Errorf("%s: Collect: %x, %d", why, l, e)
	}
}

// stands asks where objects stand behind a Collect.
func stands(t *testing.T, h *heap.Heap, top int, at ...int) {
	t.Helper()
	if h.Top() != top || !slices.Equal(h.Objects(), at) {
		t.Errorf("objects at %v, top %d, want %v, %d", h.Objects(), h.Top(), at, top)
	}
}

// The chapter's example.
func TestExample(t *testing.T) {
	h := open(t, 9)
	for range 3 {
		made(t, h, pair, 2)
	}
	set(t, h, 6, word.Ptr(3), word.Ptr(3))
	roots := []uint64{word.Ptr(6), word.Imm(5)}
	if l, e := Marks(h, roots); e != api.OK || !slices.Equal(l, []int{3, 6}) {
		t.Error(l, e)
	}
	if n, e := Live(h, roots); e != api.OK || n != 6 {
		t.Error(n, e)
	}
	if l := hold(t, h, roots); !slices.Equal(l, []uint64{word.Ptr(3), word.Imm(5)}) {
		t.Errorf("%x", l)
	}
	stands(t, h, 6, 0, 3)
	for i := range 2 {
		if w, e := h.Get(3, i); w != word.Ptr(0) || e != api.OK {
			t.Errorf("the field %d is %#x, %d", i, w, e)
		}
	}
}

// P3.1: no heap.
func TestNilHeap(t *testing.T) {
	for _, roots := range [][]uint64{nil, {}, {word.Imm(0)}, {word.Ptr(0)}, {word.Imm(5), word.Ptr(3)}} {
		refused(t, "a nil heap", nil, roots)
	}
}

// some is a heap of 30 words with objects of all kinds at 0, 3, 7, 10, 11, 15 and 16; 17 is its top. From that at 0 those at 3 and 11 are reached.
func some(t testing.TB) *heap.Heap {
	h := open(t, 30)
	made(t, h, pair, 2)
	made(t, h, row, 3)
	written(t, h, "abcdefghi")
	made(t, h, none, 0)
	made(t, h, three, 3)
	made(t, h, row, 0)
	made(t, h, text, 0)
	set(t, h, 0, word.Ptr(3), word.Imm(-1))
	set(t, h, 3, word.Imm(7), word.Ptr(11), word.Ptr(0))
	set(t, h, 11, word.Ptr(11), word.Ptr(3), word.Ptr(0))
	if !slices.Equal(h.Objects(), []int{0, 3, 7, 10, 11, 15, 16}) || h.Top() != 17 {
		t.Fatal(h.Objects(), h.Top())
	}
	return h
}

// P3.1: roots that are no object's: nothing is done.
func TestRootsOfNothing(t *testing.T) {
	h := some(t)
	words, heads := image(h), h.Objects()
	wrong := ptrs(1, 2, 4, 5, 6, 8, 9, 12, 13, 14, 17, 18, 29, 30, 31, 60, api.MaxWords-1, api.MaxWords, api.MaxWords+3, 1<<32, 1<<32+3, 1<<61+3, 1<<62, 1<<62+3, math.MaxInt, -1)
	for _, w := range wrong {
		for _, roots := range [][]uint64{{w}, {w, w}, {w, word.Ptr(0)}, {word.Ptr(0), w}, {word.Ptr(0), w, word.Ptr(3)}, {word.Imm(1), word.Imm(2), w}, append(ptrs(0, 3, 7, 10, 11, 15, 16), w)} {
			given := slices.Clone(roots)
			refused(t, "a pointer of nothing", h, roots)
			same(t, "behind what is refused", h, words, heads, 17)
			if !slices.Equal(roots, given) {
				t.Fatal("roots that are refused are changed")
			}
		}
	}
	refused(t, "a pointer in an empty heap", open(t, 5), ptrs(0))
	refused(t, "a pointer in a heap of no words", open(t, 0), ptrs(0))
	refused(t, "a pointer of where an object stood", gone(t), ptrs(3))
}

// gone is a heap from which the object at 3 has been taken.
func gone(t *testing.T) *heap.Heap {
	h := open(t, 9)
	made(t, h, pair, 2)
	made(t, h, pair, 2)
	hold(t, h, ptrs(0))
	return h
}

// P3.2, P3.3: no roots, and roots that are all numbers, also such as look like heads, marked or turned.
func TestNoRoots(t *testing.T) {
	head := word.Head(pair, 2)
	for _, roots := range [][]uint64{nil, {}, {word.Imm(0)}, {word.Imm(-1), word.Imm(5)}, {math.MaxUint64, 1<<62 | 1, 1<<63 | 1}, {head, word.Mark(head, true), word.Turn(head, 3), word.Turn(word.Mark(head, true), -1)}} {
		h := some(t)
		if out := hold(t, h, roots); !slices.Equal(out, roots) {
			t.Errorf("numbers have become %x", out)
		}
		stands(t, h, 0)
		if !slices.Equal(image(h), make([]uint64, 30)) {
			t.Error("something is left", image(h))
		}
	}
	hold(t, open(t, 0), nil)
	hold(t, open(t, 5), []uint64{word.Imm(5)})
}

// P3.3: all roots: all stays.
func TestAllRoots(t *testing.T) {
	h := some(t)
	words := image(h)
	for _, roots := range [][]uint64{ptrs(0, 3, 7, 10, 11, 15, 16), ptrs(16, 15, 11, 10, 7, 3, 0), ptrs(0, 7, 10, 15, 16), ptrs(7, 11, 10, 15, 16), ptrs(16, 16, 15, 15, 3, 3, 10, 10, 7, 7)} {
		if out := hold(t, h, roots); !slices.Equal(out, roots) {
			t.Errorf("%x has become %x", roots, out)
		}
		same(t, "behind a Collect of all", h, words, []int{0, 3, 7, 10, 11, 15, 16}, 17)
	}
}

// P3.2, P3.3: each object as the only root.
func TestOneRoot(t *testing.T) {
	for _, c := range []struct {
		root, now, top int
		marks          []int
	}{
		{0, 0, 11, []int{0, 3, 11}}, {3, 3, 11, []int{0, 3, 11}}, {11, 7, 11, []int{0, 3, 11}},
		{7, 0, 3, []int{7}}, {10, 0, 1, []int{10}}, {15, 0, 1, []int{15}}, {16, 0, 1, []int{16}},
	} {
		h := some(t)
		if l, e := Marks(h, ptrs(c.root)); e != api.OK || !slices.Equal(l, c.marks) {
			t.Errorf("from %d: %v, %d", c.root, l, e)
		}
		if n, e := Live(h, ptrs(c.root)); e != api.OK || n != c.top {
			t.Errorf("from %d: %d words, %d", c.root, n, e)
		}
		if out := hold(t, h, ptrs(c.root)); !slices.Equal(out, ptrs(c.now)) || h.Top() != c.top {
			t.Errorf("from %d: %x, top %d", c.root, out, h.Top())
		}
	}
}

// P3.3: one object as several roots, among numbers and others.
func TestRootsTwice(t *testing.T) {
	h := open(t, 20)
	made(t, h, pair, 2)
	made(t, h, none, 0)
	made(t, h, pair, 2)
	made(t, h, none, 0)
	set(t, h, 4, word.Ptr(7), word.Ptr(7))
	roots := []uint64{word.Ptr(7), word.Imm(1), word.Ptr(4), word.Ptr(7), word.Ptr(4), word.Imm(-1), word.Ptr(7)}
	want := []uint64{word.Ptr(3), word.Imm(1), word.Ptr(0), word.Ptr(3), word.Ptr(0), word.Imm(-1), word.Ptr(3)}
	if out := hold(t, h, roots); !slices.Equal(out, want) {
		t.Errorf("%x", out)
	}
	stands(t, h, 4, 0, 3)
}

// P3.3: very many roots, more than the heap has words.
func TestManyRoots(t *testing.T) {
	h := some(t)
	var roots, want []uint64
	for i := range 200000 {
		roots = append(roots, word.Ptr(10), word.Imm(int64(i)), word.Ptr(16))
		want = append(want, word.Ptr(0), word.Imm(int64(i)), word.Ptr(1))
	}
	if out := hold(t, h, roots); !slices.Equal(out, want) {
		t.Error("roots are not what they were")
	}
	stands(t, h, 2, 0, 1)
}

// Rule 4: the roots are neither changed, nor kept, nor is their spare room; answers are new memory.
func TestRootsAreNotKept(t *testing.T) {
	h := some(t)
	room := []uint64{word.Ptr(7), word.Imm(3), 77, 78}
	roots := room[:2]
	out, _ := Collect(h, roots)
	again, _ := Collect(h, out)
	if !slices.Equal(room, []uint64{word.Ptr(7), word.Imm(3), 77, 78}) {
		t.Errorf("what was handed in is changed: %x", room)
	}
	out[0], roots[1] = 99, 99
	if !slices.Equal(again, []uint64{word.Ptr(0), word.Imm(3)}) {
		t.Errorf("two answers are one: %x", again)
	}
	a, _ := Marks(h, ptrs(0))
	b, _ := Marks(h, ptrs(0))
	a[0] = 99
	if !slices.Equal(b, []int{0}) {
		t.Error("two answers are one", b)
	}
}

// chain is as many pairs as there is room for, each of which has the next one, or that ahead, at its field i; it answers where the first one stands.
func chain(t testing.TB, h *heap.Heap, rising bool, i int) int {
	n := h.Size() / 3
	for range n {
		made(t, h, pair, 2, word.Imm(-3), word.Imm(-4))
	}
	for k := range n - 1 {
		from, to := 3*k, 3*k+3
		if !rising {
			from, to = to, from
		}
		if e := h.Set(from, i, word.Ptr(to)); e != api.OK {
			t.Fatal(e)
		}
	}
	if rising {
		return 0
	}
	return 3 * (n - 1)
}

// P3.1 to P3.3: chains through the whole of the greatest heap, in both directions, closed as rings and open.
func TestChains(t *testing.T) {
	for _, rising := range []bool{true, false} {
		for i := range 2 {
			for _, ring := range []bool{false, true} {
				h := open(t, api.MaxWords)
				first := chain(t, h, rising, i)
				last := 3*(api.MaxWords/3-1) - first
				if ring {
					set(t, h, last, ptrs(first, first)...)
				}
				hold(t, h, ptrs(first))
				if h.Top() != api.MaxWords/3*3 {
					t.Fatal("not all is kept", h.Top())
				}
				hold(t, h, ptrs(last))
				if want := map[bool]int{false: 3, true: api.MaxWords / 3 * 3}[ring]; h.Top() != want {
					t.Fatalf("from the last one %d words are kept, want %d", h.Top(), want)
				}
			}
		}
	}
}

// P3.3: a part of a chain, between what is not reached, is moved together.
func TestChainBetween(t *testing.T) {
	h := open(t, api.MaxWords)
	for range api.MaxWords / 6 {
		made(t, h, pair, 2)
		made(t, h, row, 2)
	}
	n := 0
	for at := 6; at < h.Top(); at += 6 {
		set(t, h, at, word.Ptr(at-6), word.Imm(int64(at)))
		set(t, h, at+3, word.Ptr(at), word.Ptr(at))
		n++
	}
	out := hold(t, h, []uint64{word.Ptr(6 * n), word.Ptr(6 * (n / 2))})
	if !slices.Equal(out, ptrs(3*n, 3*(n/2))) || h.Top() != 3*(n+1) {
		t.Errorf("%x, top %d, of %d", out, h.Top(), n)
	}
}

// P3.3: rings: an object that has itself, two that have one another, with and without something between them.
func TestRings(t *testing.T) {
	h := open(t, 40)
	made(t, h, three, 3)
	self := made(t, h, three, 3)
	made(t, h, none, 0)
	a := made(t, h, row, 2)
	made(t, h, none, 0)
	b := made(t, h, row, 2)
	lost := made(t, h, pair, 2)
	set(t, h, self, word.Ptr(self), word.Imm(2), word.Ptr(self))
	set(t, h, a, word.Ptr(b), word.Ptr(a))
	set(t, h, b, word.Ptr(b), word.Ptr(a))
	set(t, h, lost, word.Ptr(lost), word.Ptr(a))
	if out := hold(t, h, ptrs(b, self)); !slices.Equal(out, ptrs(7, 0)) {
		t.Errorf("%x", out)
	}
	stands(t, h, 10, 0, 4, 7)
	want := []uint64{
		word.Head(three, 3), word.Ptr(0), word.Imm(2), word.Ptr(0),
		word.Head(row, 2), word.Ptr(7), word.Ptr(4),
		word.Head(row, 2), word.Ptr(7), word.Ptr(4),
	}
	if got := image(h)[:10]; !slices.Equal(got, want) {
		t.Errorf("%x, want %x", got, want)
	}
}

// P3.3: a ladder of pairs that all have the next one twice: each is walked once, not once a way.
func TestManyWays(t *testing.T) {
	h := open(t, 3000)
	chain(t, h, true, 0)
	for k := range 999 {
		set(t, h, 3*k, ptrs(3*k+3, 3*k+3)...)
	}
	hold(t, h, ptrs(0))
	hold(t, h, ptrs(1500, 0, 2997))
}

// P3.1: bytes have no fields, whatever they look like; P3.3: they are as they were.
func TestBytes(t *testing.T) {
	for n := range 26 {
		h := open(t, 20)
		made(t, h, pair, 2)
		s := strings.Repeat("\x06\x00\x00\x00\x00\x00\x00\x00", 4)[:n] // pointers of 3
		b := written(t, h, s)
		root := made(t, h, pair, 2, word.Ptr(b))
		hold(t, h, ptrs(root))
		if got, e := h.Text(0); got != s || e != api.OK {
			t.Errorf("of %d bytes there are %q, %d", n, got, e)
		}
		if h.Top() != root { // what was lost took as many words as the root
			t.Errorf("%d bytes: top %d", n, h.Top())
		}
	}
}

// P3.3: bytes that look like heads and like pointers of what is not reached, moved by less than their length.
func TestBytesLikeWords(t *testing.T) {
	h := open(t, 40)
	made(t, h, none, 0)
	s := ""
	for _, w := range []uint64{word.Head(pair, 2), word.Mark(word.Head(pair, 2), true), word.Turn(word.Head(text, 9), 5), word.Ptr(0), word.Ptr(1), 1 << 63, math.MaxUint64} {
		for range 8 {
			s += string([]byte{byte(w)})
			w >>= 8
		}
	}
	b := written(t, h, s+"end")
	made(t, h, none, 0)
	if out := hold(t, h, ptrs(b)); !slices.Equal(out, ptrs(0)) {
		t.Errorf("%x", out)
	}
	if got, e := h.Text(0); got != s+"end" || e != api.OK || h.Top() != 9 {
		t.Errorf("%q, %d, top %d", got, e, h.Top())
	}
}

// P3.3: objects of no fields, one behind the other, of which some are reached.
func TestOfNoFields(t *testing.T) {
	h := open(t, 24)
	for i := range 12 {
		made(t, h, []int{none, row, text}[i%3], 0)
	}
	root := made(t, h, row, 5, ptrs(11, 1, 6, 1, 5)...)
	if out := hold(t, h, ptrs(root)); !slices.Equal(out, ptrs(4)) {
		t.Errorf("%x", out)
	}
	stands(t, h, 10, 0, 1, 2, 3, 4)
	want := append([]uint64{word.Head(row, 0), word.Head(text, 0), word.Head(none, 0), word.Head(text, 0), word.Head(row, 5)}, ptrs(3, 0, 2, 0, 1)...)
	if got := image(h)[:10]; !slices.Equal(got, want) {
		t.Errorf("%x, want %x", got, want)
	}
}

// P3.3: numbers are as they were, whatever heads they look like.
func TestNumbersLikeHeads(t *testing.T) {
	head := word.Head(pair, 2)
	numbers := []uint64{head, word.Mark(head, true), word.Turn(head, 1), word.Turn(word.Mark(head, true), 2), word.Head(text, 9), word.Head(none, 0), 1, math.MaxUint64, 1<<63 | 1, math.MaxInt64}
	h := open(t, 60)
	made(t, h, pair, 2)
	a := made(t, h, row, 12, append(ptrs(0, 0), numbers...)...)
	made(t, h, none, 0)
	b := made(t, h, row, 12, append(numbers, ptrs(a, a)...)...)
	made(t, h, none, 0)
	set(t, h, a, word.Ptr(b), word.Ptr(a))
	if out := hold(t, h, ptrs(b)); !slices.Equal(out, ptrs(13)) {
		t.Errorf("%x", out)
	}
	for i, w := range numbers {
		x, _ := h.Get(0, 2+i)
		y, _ := h.Get(13, i)
		if x != w || y != w {
			t.Errorf("%#x has become %#x and %#x", w, x, y)
		}
	}
}

// P3.1 to P3.3: the longest array there is room for: pointers at its first, its last, all of its elements.
func TestLongestArray(t *testing.T) {
	const n = api.MaxWords - 3
	for _, at := range [][]int{{0}, {n - 1}, {n / 2}, {0, n - 1}} {
		h := open(t, api.MaxWords)
		made(t, h, none, 0)
		long := made(t, h, row, n)
		b := made(t, h, none, 0)
		for _, i := range at {
			if h.Set(long, i, word.Ptr(b)) != api.OK {
				t.Fatal("no element", i)
			}
		}
		if out := hold(t, h, ptrs(long)); !slices.Equal(out, ptrs(0)) || h.Top() != n+2 {
			t.Errorf("%x, top %d", out, h.Top())
		}
	}
	h := open(t, api.MaxWords)
	made(t, h, none, 0)
	long := made(t, h, row, n)
	b := made(t, h, none, 0)
	for i := range n {
		h.Set(long, i, word.Ptr([]int{long, b}[i%2]))
	}
	hold(t, h, ptrs(b, long))
	if w, e := h.Get(0, n-1); w != []uint64{word.Ptr(0), word.Ptr(n + 1)}[(n-1)%2] || e != api.OK {
		t.Errorf("the last element is %#x, %d", w, e)
	}
}

// P3.3: the longest bytes.
func TestLongestBytes(t *testing.T) {
	h := open(t, api.MaxWords)
	made(t, h, pair, 2)
	b := written(t, h, strings.Repeat("\x00\x06", api.MaxLen/2))
	root := made(t, h, row, 3, ptrs(b, b, b)...)
	if out := hold(t, h, ptrs(root, b)); !slices.Equal(out, ptrs(api.MaxLen/8+1, 0)) {
		t.Errorf("%x", out)
	}
	if s, e := h.Text(0); s != strings.Repeat("\x00\x06", api.MaxLen/2) || e != api.OK {
		t.Error(len(s), e)
	}
}

// P3.3: shapes are what the heap says of them, up to the last one that it may have.
func TestManyShapes(t *testing.T) {
	many := make([]api.Layout, api.MaxShapes)
	for i := range many {
		many[i] = api.Layout{Kind: []int{api.Bytes, api.Record, api.Array}[i%3], N: i % 5}
	}
	many[api.MaxShapes-2].Kind = api.Bytes
	many[api.MaxShapes-1] = api.Layout{Kind: api.Bytes, N: 3}
	h, _ := heap.New(5000, many)
	var roots []uint64
	for shape, l := range many {
		n := 4
		if l.Kind == api.Record {
			n = l.N
		}
		at := made(t, h, shape, n)
		for i := range n {
			h.Set(at, i, word.Ptr(at))
			h.SetByte(at, i, byte(2*i+2))
		}
		if shape%2 == 1 {
			roots = append(roots, word.Ptr(at))
		}
	}
	hold(t, h, roots)
	var left []int
	for _, at := range h.Objects() {
		shape, _ := h.Shape(at)
		left = append(left, shape)
	}
	if len(left) != api.MaxShapes/2 || left[0] != 1 || left[len(left)-1] != api.MaxShapes-1 {
		t.Error("the shapes that are left are", left)
	}
}

// P3.3: the heap is closed: what is made next stands behind what is left, and nothing stands where something stood.
func TestClosedBehindCollect(t *testing.T) {
	h := some(t)
	out, _ := Collect(h, ptrs(11, 7))
	if !slices.Equal(out, ptrs(10, 7)) { // those at 0, 3, 7 are left too, and stand where they stood
		t.Fatalf("%x", out)
	}
	stands(t, h, 14, 0, 3, 7, 10)
	for _, at := range []int{11, 15, 16} {
		if h.Is(at) || h.Fits(word.Ptr(at)) || h.Set(0, 0, word.Ptr(at)) != api.ErrArg {
			t.Errorf("something stands at %d", at)
		}
	}
	for i := 14; i < 30; i++ {
		if h.Load(i) != 0 {
			t.Errorf("behind the last object the word %d is %#x", i, h.Load(i))
		}
	}
	if at := made(t, h, row, 15); at != 14 {
		t.Error("a new object stands at", at)
	}
	if _, e := h.Alloc(none, 0); e != api.ErrFull {
		t.Error("the heap is not full:", e)
	}
	hold(t, h, ptrs(14, 7))
	stands(t, h, 19, 0, 3)
}

// P3.2: behind Marks and Live the heap is closed as it was: it can be used on.
func TestUsedBehindMarks(t *testing.T) {
	h := some(t)
	for _, roots := range [][]uint64{nil, ptrs(0), ptrs(7, 15), ptrs(0, 3, 7, 10, 11, 15, 16)} {
		Marks(h, roots)
		Live(h, roots)
		at := made(t, h, pair, 2, ptrs(0, 16)...)
		if w, e := h.Get(at, 1); w != word.Ptr(16) || e != api.OK {
			t.Errorf("%#x, %d", w, e)
		}
		if n, e := Live(h, ptrs(at)); n != 3+11+1 || e != api.OK {
			t.Error(n, e)
		}
	}
	stands(t, h, 29, 0, 3, 7, 10, 11, 15, 16, 17, 20, 23, 26)
}

// P5: every call ends, and none panics, of a heap in which anything was stored, and which was not closed: it is refused and left, if it can't be closed as it is.
func TestAnythingStored(t *testing.T) {
	words := []uint64{0, 1, 2, 6, math.MaxUint64, math.MaxUint64 - 1, 1 << 63, word.Ptr(3), word.Ptr(17), word.Ptr(29), word.Ptr(31), word.Head(row, api.MaxLen), word.Head(row, 40), word.Head(row, 1), word.Head(text, api.MaxLen), word.Head(text, -1), word.Head(-1, -1), word.Head(shapes, 0), word.Mark(word.Head(pair, 2), true), word.Turn(word.Head(three, 3), 7), word.Turn(word.Mark(word.Head(pair, 2), true), 1), word.Head(none, 0)}
	for _, w := range words {
		for _, v := range words {
			for at := range 17 {
				for _, roots := range [][]uint64{nil, ptrs(0), ptrs(11, 7), {word.Ptr(at), word.Imm(4)}} {
					ends(t, at, w, v, roots)
				}
			}
		}
	}
}

// ends does all calls where two words were stored.
func ends(t *testing.T, at int, w, v uint64, roots []uint64) {
	t.Helper()
	h, twin := some(t), some(t)
	for _, g := range []*heap.Heap{h, twin} {
		g.Store(at, w)
		g.Store((at*7+3)%17, v)
	}
	if stored := image(h); twin.Close(17) != api.OK {
		refused(t, "a heap that can't be closed", h, roots)
		if !slices.Equal(image(h), stored) {
			t.Errorf("what is refused is changed: %x, %x at %d", w, v, at)
		}
		return
	}
	for _, r := range roots {
		if !twin.Fits(r) {
			refused(t, "a pointer of nothing in what was stored", h, roots)
			return
		}
	}
	hold(t, twin, roots)
	Collect(h, roots)
	if !slices.Equal(image(h), image(twin)) {
		t.Errorf("what was stored well is collected otherwise: %x, %x at %d", w, v, at)
	}
}

// The shapes of the calls are those of the chapter.
var (
	_ func(*heap.Heap, []uint64) ([]int, api.Errno)    = Marks
	_ func(*heap.Heap, []uint64) (int, api.Errno)      = Live
	_ func(*heap.Heap, []uint64) ([]uint64, api.Errno) = Collect
)
