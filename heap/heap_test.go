package heap

import (
	"math"
	"slices"
	"testing"

	"bellows/api"
	"bellows/word"
)

// The shapes of the heaps of these tests.
const (
	pair = iota
	row
	text
	none
	three
	shapes // how many there are
)

func layouts() []api.Layout {
	return []api.Layout{{Kind: api.Record, N: 2}, {Kind: api.Array}, {Kind: api.Bytes}, {Kind: api.Record}, {Kind: api.Record, N: 3}}
}

// open is an empty heap of the shapes above.
func open(t testing.TB, words int) *Heap {
	t.Helper()
	h, e := New(words, layouts())
	if h == nil || e != api.OK {
		t.Fatalf("New(%d) = %v, %d", words, h, e)
	}
	return h
}

// made is the place of a new object, which there must be room for.
func made(t testing.TB, h *Heap, shape, n int) int {
	t.Helper()
	at, e := h.Alloc(shape, n)
	if e != api.OK {
		t.Fatalf("Alloc(%d, %d): %d", shape, n, e)
	}
	return at
}

// image is all words of a heap.
func image(h *Heap) []uint64 {
	var l []uint64
	for i := range h.Size() {
		l = append(l, h.Load(i))
	}
	return l
}

// wilds are numbers that are no place, no shape, no length.
func wilds() []int {
	return []int{-1, -2, -64, -api.MaxWords, math.MinInt, math.MinInt + 1, math.MaxInt, math.MaxInt - 1, 1 << 62, 1 << 32, 1 << 20, api.MaxWords, api.MaxWords + 1, api.MaxWords - 1, api.MaxLen + 1}
}

// P2.1: how many words.
func TestNewWords(t *testing.T) {
	for _, words := range []int{0, 1, 2, 63, 64, 65, 1000, api.MaxWords - 1, api.MaxWords} {
		h, e := New(words, layouts())
		if h == nil || e != api.OK || h.Size() != words || h.Top() != 0 || len(h.Objects()) != 0 {
			t.Fatalf("New(%d): %d", words, e)
		}
		for i := range words {
			if h.Load(i) != 0 || h.Is(i) {
				t.Fatalf("New(%d): the word %d is %#x", words, i, h.Load(i))
			}
		}
	}
	for _, words := range []int{-1, api.MaxWords + 1, math.MinInt, math.MaxInt, 1 << 32} {
		if h, e := New(words, layouts()); h != nil || e != api.ErrArg {
			t.Errorf("New(%d) = %v, %d", words, h, e)
		}
	}
}

// P2.1: which layouts.
func TestNewLayouts(t *testing.T) {
	many := make([]api.Layout, api.MaxShapes)
	for i := range many {
		many[i] = api.Layout{Kind: api.Record, N: i}
	}
	h, e := New(0, many)
	if h == nil || e != api.OK {
		t.Fatal("as many shapes as may be:", e)
	}
	for i := range many {
		if need, e := h.Need(i, i); need != 1+i || e != api.OK {
			t.Fatalf("Need(%d, %d) = %d, %d", i, i, need, e)
		}
	}
	for _, l := range [][]api.Layout{nil, {}} {
		if h, e := New(5, l); h == nil || e != api.OK || h.Kind(0) != 0 {
			t.Error("no shapes:", e)
		}
	}
	for kind := -2; kind <= 6; kind++ {
		for _, n := range []int{0, 1, 2, api.MaxLen - 1, api.MaxLen, -1, api.MaxLen + 1, math.MinInt, math.MaxInt} {
			want := api.OK
			if kind < api.Record || kind > api.Bytes || n < 0 || n > api.MaxLen {
				want = api.ErrArg
			}
			one := api.Layout{Kind: kind, N: n}
			for _, l := range [][]api.Layout{{one}, {{Kind: api.Array}, one}, {one, {Kind: api.Bytes}}} {
				if h, e := New(5, l); e != want || (h != nil) != (want == api.OK) {
					t.Errorf("New(5, %v) = %v, %d, want %d", l, h, e, want)
				}
			}
		}
	}
}

// P2.1: of several errors the first.
func TestNewFirstError(t *testing.T) {
	many := make([]api.Layout, api.MaxShapes+1) // of no kind
	if h, e := New(-1, many); h != nil || e != api.ErrArg {
		t.Errorf("words below 0 and too many layouts: %d", e)
	}
	if h, e := New(api.MaxWords+1, many); h != nil || e != api.ErrArg {
		t.Errorf("too many words and too many layouts: %d", e)
	}
	if h, e := New(0, many); h != nil || e != api.ErrBig {
		t.Errorf("too many layouts, of no kind: %d", e)
	}
	for i := range many {
		many[i].Kind = api.Array
	}
	if h, e := New(0, many); h != nil || e != api.ErrBig {
		t.Errorf("too many layouts: %d", e)
	}
}

// Rule 4: the layouts are neither kept nor changed; objects of one heap are not those of another.
func TestNewKeepsNothing(t *testing.T) {
	l := append(make([]api.Layout, 0, 9), layouts()...)
	spare := l[:9]
	spare[8].N = 77
	h, _ := New(10, l)
	g, _ := New(10, l)
	if !slices.Equal(l, layouts()) || spare[8].N != 77 {
		t.Error("the layouts are changed")
	}
	for i := range l {
		l[i] = api.Layout{Kind: api.Bytes, N: 9}
	}
	if need, e := h.Need(pair, 2); need != 3 || e != api.OK || h.Kind(pair) != api.Record {
		t.Error("the layouts are kept:", need, e)
	}
	made(t, h, pair, 2)
	if g.Top() != 0 || g.Is(0) || g.Load(0) != 0 {
		t.Error("two heaps have one row of words")
	}
}

// P2.2: Need.
func TestNeed(t *testing.T) {
	h := open(t, 0)
	for _, c := range []struct {
		shape, n, need int
		e              api.Errno
	}{
		{pair, 2, 3, api.OK}, {none, 0, 1, api.OK}, {three, 3, 4, api.OK},
		{row, 0, 1, api.OK}, {row, 1, 2, api.OK}, {row, 7, 8, api.OK}, {row, api.MaxLen, api.MaxLen + 1, api.OK},
		{text, 0, 1, api.OK}, {text, 1, 2, api.OK}, {text, 7, 2, api.OK}, {text, 8, 2, api.OK}, {text, 9, 3, api.OK}, {text, 16, 3, api.OK}, {text, 17, 4, api.OK},
		{text, api.MaxLen - 1, api.MaxLen/8 + 1, api.OK}, {text, api.MaxLen, api.MaxLen/8 + 1, api.OK},
		{pair, 1, 0, api.ErrArg}, {pair, 3, 0, api.ErrArg}, {pair, 0, 0, api.ErrArg}, {pair, -2, 0, api.ErrArg}, {none, 1, 0, api.ErrArg},
		{pair, api.MaxLen + 1, 0, api.ErrArg}, {pair, math.MaxInt, 0, api.ErrArg},
		{row, -1, 0, api.ErrArg}, {text, -1, 0, api.ErrArg}, {row, math.MinInt, 0, api.ErrArg}, {text, math.MinInt, 0, api.ErrArg},
		{row, api.MaxLen + 1, 0, api.ErrBig}, {text, api.MaxLen + 1, 0, api.ErrBig}, {row, math.MaxInt, 0, api.ErrBig}, {text, math.MaxInt, 0, api.ErrBig},
		{-1, 2, 0, api.ErrArg}, {shapes, 2, 0, api.ErrArg}, {shapes, api.MaxLen + 1, 0, api.ErrArg}, {-1, api.MaxLen + 1, 0, api.ErrArg}, {math.MaxInt, 0, 0, api.ErrArg}, {math.MinInt, 0, 0, api.ErrArg},
	} {
		if need, e := h.Need(c.shape, c.n); need != c.need || e != c.e {
			t.Errorf("Need(%d, %d) = %d, %d, want %d, %d", c.shape, c.n, need, e, c.need, c.e)
		}
		want := c.e
		if want == api.OK {
			want = api.ErrFull
		}
		if at, e := h.Alloc(c.shape, c.n); at != 0 || e != want {
			t.Errorf("Alloc(%d, %d) = %d, %d, want %d", c.shape, c.n, at, e, want)
		}
	}
}

// P2.2: an Array's and a Bytes' layout say nothing of how many; a Record may be of MaxLen fields.
func TestNeedByLayout(t *testing.T) {
	h, _ := New(api.MaxWords, []api.Layout{{Kind: api.Array, N: 7}, {Kind: api.Bytes, N: 7}, {Kind: api.Record, N: api.MaxLen}})
	for _, n := range []int{0, 1, 7, 8} {
		if need, e := h.Need(0, n); need != 1+n || e != api.OK {
			t.Errorf("an array of %d: %d, %d", n, need, e)
		}
		if need, e := h.Need(1, n); need != 1+(n+7)/8 || e != api.OK {
			t.Errorf("%d bytes: %d, %d", n, need, e)
		}
	}
	if need, e := h.Need(2, api.MaxLen); need != api.MaxLen+1 || e != api.OK {
		t.Error("a record of MaxLen fields:", need, e)
	}
	if _, e := h.Need(2, api.MaxLen+1); e != api.ErrArg {
		t.Error("a record of another N, and too many:", e)
	}
	if _, e := h.Alloc(2, api.MaxLen); e != api.ErrFull {
		t.Error("more than the greatest heap:", e)
	}
}

// P2.2: how an object stands in words.
func TestAllocLays(t *testing.T) {
	h := open(t, 13)
	for _, c := range []struct{ shape, n, at int }{{pair, 2, 0}, {text, 9, 3}, {row, 0, 6}, {none, 0, 7}, {row, 3, 8}, {text, 0, 12}} {
		if at := made(t, h, c.shape, c.n); at != c.at {
			t.Errorf("Alloc(%d, %d) = %d, want %d", c.shape, c.n, at, c.at)
		}
	}
	want := []uint64{word.Head(pair, 2), 1, 1, word.Head(text, 9), 0, 0, word.Head(row, 0), word.Head(none, 0), word.Head(row, 3), 1, 1, 1, word.Head(text, 0)}
	if got := image(h); !slices.Equal(got, want) {
		t.Errorf("%x, want %x", got, want)
	}
	if got := h.Objects(); !slices.Equal(got, []int{0, 3, 6, 7, 8, 12}) || h.Top() != 13 {
		t.Error(got, h.Top())
	}
	for i := range byte(9) {
		h.SetByte(3, int(i), i+1)
	}
	if h.Load(4) != 0x0807060504030201 || h.Load(5) != 9 {
		t.Errorf("bytes stand as %#x, %#x", h.Load(4), h.Load(5))
	}
}

// P2.2: long arrays are filled to the end, and no further.
func TestAllocFillsArrays(t *testing.T) {
	for _, n := range []int{0, 1, 2, 3, 4, 5, 7, 8, 9, 31, 32, 33, 1000, api.MaxWords - 2} {
		h := open(t, n+2)
		made(t, h, row, n)
		if h.Load(0) != word.Head(row, n) || h.Load(n+1) != 0 {
			t.Fatalf("an array of %d: %#x, %#x", n, h.Load(0), h.Load(n+1))
		}
		for i := range n {
			if w, e := h.Get(0, i); w != word.Imm(0) || e != api.OK {
				t.Fatalf("an array of %d: the element %d is %#x, %d", n, i, w, e)
			}
		}
	}
}

// P2.2: what has no room, and what may not be, changes nothing.
func TestAllocRefused(t *testing.T) {
	h := open(t, 7)
	made(t, h, pair, 2)
	kept := image(h)
	for _, c := range []struct {
		shape, n int
		e        api.Errno
	}{
		{row, 4, api.ErrFull}, {row, 6, api.ErrFull}, {row, api.MaxLen, api.ErrFull}, {text, 25, api.ErrFull}, {text, api.MaxLen, api.ErrFull},
		{row, api.MaxLen + 1, api.ErrBig}, {text, math.MaxInt, api.ErrBig},
		{pair, 3, api.ErrArg}, {shapes, 0, api.ErrArg}, {-1, 0, api.ErrArg}, {row, -1, api.ErrArg},
	} {
		if at, e := h.Alloc(c.shape, c.n); at != 0 || e != c.e {
			t.Errorf("Alloc(%d, %d) = %d, %d, want %d", c.shape, c.n, at, e, c.e)
		}
		if !slices.Equal(image(h), kept) || h.Top() != 3 || !slices.Equal(h.Objects(), []int{0}) {
			t.Fatalf("Alloc(%d, %d) changed the heap", c.shape, c.n)
		}
	}
	if at := made(t, h, row, 3); at != 3 || h.Top() != 7 {
		t.Error("the last words:", at)
	}
	for _, c := range [][2]int{{none, 0}, {row, 0}, {text, 0}, {pair, 2}} {
		if _, e := h.Alloc(c[0], c[1]); e != api.ErrFull {
			t.Errorf("Alloc(%d, %d) in a full heap: %d", c[0], c[1], e)
		}
	}
}

// P2.2: the greatest object, and the most objects, that the greatest heap has room for.
func TestAllocGreatest(t *testing.T) {
	h := open(t, api.MaxWords)
	if _, e := h.Alloc(row, api.MaxLen); e != api.ErrFull {
		t.Error("one word more than the heap:", e)
	}
	made(t, h, row, api.MaxWords-1)
	if h.Top() != api.MaxWords || h.Set(0, api.MaxWords-2, word.Ptr(0)) != api.OK || h.Load(api.MaxWords-1) != word.Ptr(0) {
		t.Error("the last element of the greatest array")
	}
	h = open(t, api.MaxWords)
	for i := range api.MaxWords {
		if at := made(t, h, none, 0); at != i {
			t.Fatal(at, i)
		}
	}
	if l := h.Objects(); len(l) != api.MaxWords || l[0] != 0 || l[api.MaxWords-1] != api.MaxWords-1 || !h.Is(api.MaxWords-1) {
		t.Error("a heap of heads", len(l))
	}
	if h.Close(api.MaxWords) != api.OK || len(h.Objects()) != api.MaxWords {
		t.Error("a heap of heads is not closed")
	}
}

// P2.4: the answer of Objects is new memory.
func TestObjectsIsNew(t *testing.T) {
	h := open(t, 10)
	made(t, h, pair, 2)
	made(t, h, pair, 2)
	l := h.Objects()
	l[0], l[1] = 5, 6
	if got := h.Objects(); !slices.Equal(got, []int{0, 3}) || h.Is(5) || !h.Is(0) {
		t.Error(got)
	}
}

// P2.1 to P2.5: what a nil Heap answers.
func TestNilHeap(t *testing.T) {
	var h *Heap
	refused := func(what string, zero bool, e api.Errno) {
		t.Helper()
		if !zero || e != api.ErrArg {
			t.Errorf("%s of a nil Heap: %d", what, e)
		}
	}
	for _, i := range append(wilds(), 0, 1, 2, 9) {
		for _, n := range append(wilds(), 0, 1, 2, 9) {
			need, e := h.Need(i, n)
			refused("Need", need == 0, e)
			at, e := h.Alloc(i, n)
			refused("Alloc", at == 0, e)
			w, e := h.Get(i, n)
			refused("Get", w == 0, e)
			c, e := h.Byte(i, n)
			refused("Byte", c == 0, e)
			refused("Set", true, h.Set(i, n, word.Imm(1)))
			refused("SetByte", true, h.SetByte(i, n, 1))
		}
		s, e := h.Shape(i)
		refused("Shape", s == 0, e)
		n, e := h.Len(i)
		refused("Len", n == 0, e)
		b, e := h.Text(i)
		refused("Text", b == "", e)
		refused("Close", true, h.Close(i))
		h.Store(i, 3)
		if h.Kind(i) != 0 || h.Is(i) || h.Load(i) != 0 || h.Fits(word.Ptr(i)) || h.Fits(word.Imm(int64(i))) {
			t.Errorf("a nil Heap has something at %d", i)
		}
	}
	if len(h.Objects()) != 0 || h.Size() != 0 || h.Top() != 0 {
		t.Error("a nil Heap has something")
	}
}

// The shapes of the calls are those of the chapter.
var (
	_ func(int, []api.Layout) (*Heap, api.Errno) = New
	_ func(*Heap, int, int) (int, api.Errno)     = (*Heap).Need
	_ func(*Heap, int, int) (int, api.Errno)     = (*Heap).Alloc
	_ func(*Heap, int) int                       = (*Heap).Kind
	_ func(*Heap, int) bool                      = (*Heap).Is
	_ func(*Heap, uint64) bool                   = (*Heap).Fits
	_ func(*Heap, int) (int, api.Errno)          = (*Heap).Shape
	_ func(*Heap, int) (int, api.Errno)          = (*Heap).Len
	_ func(*Heap, int, int) (uint64, api.Errno)  = (*Heap).Get
	_ func(*Heap, int, int, uint64) api.Errno    = (*Heap).Set
	_ func(*Heap, int, int) (byte, api.Errno)    = (*Heap).Byte
	_ func(*Heap, int, int, byte) api.Errno      = (*Heap).SetByte
	_ func(*Heap, int) (string, api.Errno)       = (*Heap).Text
	_ func(*Heap) []int                          = (*Heap).Objects
	_ func(*Heap) int                            = (*Heap).Size
	_ func(*Heap) int                            = (*Heap).Top
	_ func(*Heap, int) uint64                    = (*Heap).Load
	_ func(*Heap, int, uint64)                   = (*Heap).Store
	_ func(*Heap, int) api.Errno                 = (*Heap).Close
)
