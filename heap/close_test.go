package heap

import (
	"math"
	"slices"
	"testing"

	"bellows/api"
	"bellows/word"
)

// holding is a heap of some words that hold these, and noughts behind them; nothing is closed yet.
func holding(t testing.TB, words int, l ...uint64) *Heap {
	t.Helper()
	h := open(t, words)
	for i, w := range l {
		h.Store(i, w)
	}
	return h
}

// P2.5: Load, Store.
func TestLoadStore(t *testing.T) {
	h := open(t, 5)
	for i := range 5 {
		for _, w := range []uint64{1, 2, math.MaxUint64, 1 << 63, uint64(i)} {
			h.Store(i, w)
			if got := h.Load(i); got != w {
				t.Fatalf("Load(%d) = %#x, want %#x", i, got, w)
			}
		}
	}
	for _, i := range append(wilds(), 5, 6, 64) {
		h.Store(i, 77)
		if got := h.Load(i); got != 0 {
			t.Errorf("Load(%d) = %#x", i, got)
		}
	}
	if got := image(h); !slices.Equal(got, []uint64{0, 1, 2, 3, 4}) {
		t.Errorf("Store beyond the end changed the heap to %x", got)
	}
	if h.Size() != 5 || h.Top() != 0 {
		t.Error("Store changed Size or Top", h.Size(), h.Top())
	}
}

// P2.5: Close, where it takes what was stored.
func TestCloseTakes(t *testing.T) {
	for _, c := range []struct {
		why string
		l   []uint64
		at  []int
	}{
		{"nothing", nil, nil},
		{"a head alone", []uint64{word.Head(none, 0)}, []int{0}},
		{"an array of none", []uint64{word.Head(row, 0)}, []int{0}},
		{"no bytes", []uint64{word.Head(text, 0)}, []int{0}},
		{"a pair of numbers", []uint64{word.Head(pair, 2), word.Imm(-1), word.Imm(5)}, []int{0}},
		{"a pair that has itself", []uint64{word.Head(pair, 2), word.Ptr(0), word.Ptr(0)}, []int{0}},
		{"a pointer of what stands behind", []uint64{word.Head(pair, 2), word.Ptr(4), 1, word.Head(none, 0), word.Head(row, 1), word.Ptr(3)}, []int{0, 3, 4}},
		{"one byte", []uint64{word.Head(text, 1), 255}, []int{0}},
		{"seven bytes", []uint64{word.Head(text, 7), 1<<56 - 1}, []int{0}},
		{"eight bytes", []uint64{word.Head(text, 8), math.MaxUint64}, []int{0}},
		{"nine bytes", []uint64{word.Head(text, 9), math.MaxUint64, 255}, []int{0}},
		{"bytes that look like a pointer of nothing", []uint64{word.Head(text, 3), word.Ptr(77)}, []int{0}},
		{"numbers that look like heads", []uint64{word.Head(pair, 2), word.Head(none, 0), word.Head(row, 9)}, []int{0}},
		{"to the last word", []uint64{word.Head(three, 3), 1, 1, 1, word.Head(row, 3), 1, 1, 1}, []int{0, 4}},
	} {
		h := holding(t, 8, c.l...)
		for i := len(c.l); i < 8; i++ {
			h.Store(i, word.Head(none, 0))
		}
		if e := h.Close(len(c.l)); e != api.OK {
			t.Errorf("%s: %d", c.why, e)
			continue
		}
		want := append(slices.Clone(c.l), make([]uint64, 8-len(c.l))...)
		if got := image(h); !slices.Equal(got, want) {
			t.Errorf("%s: the words are %x, want %x", c.why, got, want)
		}
		if h.Top() != len(c.l) || !slices.Equal(h.Objects(), c.at) || h.Size() != 8 {
			t.Errorf("%s: %v, top %d", c.why, h.Objects(), h.Top())
		}
	}
}

// P2.5: Close, where it refuses what was stored, and changes nothing.
func TestCloseRefuses(t *testing.T) {
	good := word.Head(pair, 2)
	for _, c := range []struct {
		why string
		top int
		l   []uint64
	}{
		{"a top below 0", -1, nil},
		{"a top far below 0", math.MinInt, nil},
		{"a top above Size", 9, nil},
		{"a top far above Size", math.MaxInt, nil},
		{"noughts", 1, nil},
		{"noughts behind an object", 4, []uint64{good, 1, 1}},
		{"a number", 1, []uint64{word.Imm(77777777)}},
		{"a pointer", 1, []uint64{word.Ptr(0)}},
		{"a head without its lowest bit", 3, []uint64{good &^ 1, 1, 1}},
		{"a head with the mark", 3, []uint64{word.Mark(good, true), 1, 1}},
		{"a head with a count", 3, []uint64{word.Turn(good, 1), 1, 1}},
		{"a head with the greatest count", 3, []uint64{word.Turn(good, -1), 1, 1}},
		{"a head with bit 62", 3, []uint64{good | 1<<62, 1, 1}},
		{"a head with bit 63", 3, []uint64{good | 1<<63, 1, 1}},
		{"no such shape", 3, []uint64{word.Head(shapes, 2), 1, 1}},
		{"no such shape, far", 3, []uint64{word.Head(-1, 2), 1, 1}},
		{"the number 0, which is the head of a pair of none", 1, []uint64{word.Imm(0)}},
		{"a record of another n", 2, []uint64{word.Head(pair, 1), 1}},
		{"a record of another n", 4, []uint64{word.Head(pair, 3), 1, 1, 1}},
		{"an array of too many", 8, []uint64{word.Head(row, api.MaxLen+1), 1, 1, 1, 1, 1, 1, 1}},
		{"an array of far too many", 8, []uint64{word.Head(row, -1), 1, 1, 1, 1, 1, 1, 1}},
		{"bytes of too many", 8, []uint64{word.Head(text, api.MaxLen+1)}},
		{"a word wanting", 2, []uint64{good, 1, 1}},
		{"all words wanting", 1, []uint64{good, 1, 1}},
		{"a word of an array wanting", 3, []uint64{word.Head(row, 3), 1, 1, 1}},
		{"words beyond the heap wanting", 8, []uint64{word.Head(row, 8), 1, 1, 1, 1, 1, 1, 1}},
		{"words far beyond the heap wanting", 8, []uint64{word.Head(row, api.MaxLen), 1, 1, 1, 1, 1, 1, 1}},
		{"a word of bytes wanting", 2, []uint64{word.Head(text, 9), 1, 1}},
		{"a pointer of no head", 3, []uint64{good, 1, word.Ptr(1)}},
		{"a pointer of the last word", 3, []uint64{good, word.Ptr(2), 1}},
		{"a pointer of top", 3, []uint64{good, word.Ptr(3), 1}},
		{"a pointer of a head behind top", 3, []uint64{good, word.Ptr(3), 1, word.Head(none, 0)}},
		{"a pointer beyond the heap", 3, []uint64{good, word.Ptr(8), 1}},
		{"a pointer far beyond the heap", 3, []uint64{good, word.Ptr(-1), 1}},
		{"a pointer of no head in an array's last element", 5, []uint64{word.Head(none, 0), word.Head(row, 3), 1, 1, word.Ptr(2)}},
		{"a pointer of no head in an array's first element", 5, []uint64{word.Head(none, 0), word.Head(row, 3), word.Ptr(2), 1, 1}},
		{"a pointer of no head in the last object", 6, []uint64{good, 1, 1, good, 1, word.Ptr(4)}},
		{"a pointer of no head in the first object", 6, []uint64{good, word.Ptr(5), 1, good, 1, 1}},
		{"something behind one byte", 2, []uint64{word.Head(text, 1), 256}},
		{"something behind seven bytes", 2, []uint64{word.Head(text, 7), 1 << 56}},
		{"something behind nine bytes", 3, []uint64{word.Head(text, 9), 0, 256}},
		{"something behind nine bytes, far", 3, []uint64{word.Head(text, 9), 0, 1 << 63}},
		{"a word behind no bytes", 2, []uint64{word.Head(text, 0), 0}},
		{"a word behind eight bytes", 3, []uint64{word.Head(text, 8), 0, 0}},
	} {
		h := open(t, 8)
		for _, o := range [][2]int{{text, 3}, {pair, 2}, {none, 0}} {
			made(t, h, o[0], o[1])
		}
		stored := make([]uint64, 8)
		copy(stored, c.l)
		for i, w := range stored {
			h.Store(i, w)
		}
		if e := h.Close(c.top); e != api.ErrArg {
			t.Errorf("%s: %d", c.why, e)
		}
		if !slices.Equal(image(h), stored) || h.Size() != 8 || h.Top() != 6 || !slices.Equal(h.Objects(), []int{0, 2, 5}) {
			t.Errorf("%s: the heap is changed: %x, %v, top %d", c.why, image(h), h.Objects(), h.Top())
		}
	}
}

// P2.5: a heap whose Close was refused is as it was when what was stored is taken back.
func TestCloseRefusedThenMended(t *testing.T) {
	h := mixed(t)
	h.Set(0, 1, word.Ptr(3))
	h.SetByte(3, 8, 'x')
	kept := image(h)
	for i := range h.Size() {
		h.Store(i, 2*uint64(i)+200)
	}
	for _, top := range []int{1, 16, 20, -1, 21} {
		if e := h.Close(top); e != api.ErrArg {
			t.Fatal(top, e)
		}
	}
	for i, w := range kept {
		h.Store(i, w)
	}
	if s, e := h.Text(3); s != "\x00\x00\x00\x00\x00\x00\x00\x00x" || e != api.OK {
		t.Errorf("%q %d", s, e)
	}
	if w, e := h.Get(0, 1); w != word.Ptr(3) || e != api.OK {
		t.Errorf("%#x %d", w, e)
	}
	if h.Close(16) != api.OK || !slices.Equal(image(h), kept) || h.Top() != 16 {
		t.Error("what is mended is not closed")
	}
}

// P2.5, P2.8: objects at the end are given up by a lower top, unless somebody points at them; their words are free then, and 0.
func TestCloseLower(t *testing.T) {
	h := mixed(t)
	h.Set(0, 0, word.Ptr(10))
	if h.Close(10) != api.ErrArg || h.Close(9) != api.ErrArg || h.Top() != 16 {
		t.Fatal("what is pointed at is given up")
	}
	if h.Close(14) != api.OK || h.Top() != 14 || !slices.Equal(h.Objects(), []int{0, 3, 6, 9, 10}) {
		t.Fatal("the last two objects are not given up", h.Objects())
	}
	for i := 14; i < 20; i++ {
		if h.Load(i) != 0 || h.Is(i) || h.Fits(word.Ptr(i)) || h.Set(0, 0, word.Ptr(i)) != api.ErrArg {
			t.Errorf("something stands at %d", i)
		}
	}
	for _, top := range []int{1, 2, 4, 5, 7, 8, 11, 12, 13, 15, 16, 20} {
		if h.Close(top) != api.ErrArg || h.Top() != 14 {
			t.Errorf("Close(%d) within an object, or behind the last one", top)
		}
	}
	if at := made(t, h, row, 5); at != 14 || h.Load(19) != word.Imm(0) {
		t.Error("the room of what is given up", at)
	}
	h.Set(0, 0, word.Imm(4))
	if h.Close(0) != api.OK || h.Top() != 0 || len(h.Objects()) != 0 || !slices.Equal(image(h), make([]uint64, 20)) {
		t.Error("all is not given up")
	}
	if at := made(t, h, text, 160-8); at != 0 || h.Load(0) != word.Head(text, 152) || h.Top() != 20 {
		t.Error("the room of all", at)
	}
}

// P2.5: heads of before are none any more, if Close found others.
func TestCloseMovesHeads(t *testing.T) {
	h := open(t, 200)
	for range 60 {
		made(t, h, pair, 2)
	}
	h.Store(0, word.Head(row, 130))
	for i := 1; i <= 130; i++ {
		h.Store(i, word.Imm(int64(i)))
	}
	h.Store(131, word.Head(row, 1))
	h.Store(132, word.Ptr(131))
	h.Store(133, word.Ptr(77))
	if h.Close(133) != api.OK || h.Top() != 133 || !slices.Equal(h.Objects(), []int{0, 131}) || h.Load(133) != 0 {
		t.Fatal(h.Objects(), h.Top())
	}
	for i := 1; i < 131; i++ {
		if h.Is(i) || h.Fits(word.Ptr(i)) {
			t.Errorf("an old head at %d", i)
		}
	}
	if n, e := h.Len(0); n != 130 || e != api.OK {
		t.Error(n, e)
	}
	if at := made(t, h, pair, 2); at != 133 {
		t.Error(at)
	}
}

// P2.2, P2.5: what Store put behind top is not to be seen in a new object.
func TestAllocOverWhatWasStored(t *testing.T) {
	for shape := range shapes {
		h := open(t, 9)
		for i := range 9 {
			h.Store(i, math.MaxUint64)
		}
		n := 0
		switch shape {
		case pair:
			n = 2
		case three:
			n = 3
		case row, text:
			n = 5
		}
		made(t, h, shape, n)
		top := h.Top()
		kept := image(h)
		if h.Close(top) != api.OK || !slices.Equal(image(h)[:top], kept[:top]) {
			t.Errorf("an object of the shape %d with %d: %x", shape, n, kept)
		}
		for i := range n {
			w, _ := h.Get(0, i)
			b, _ := h.Byte(0, i)
			if w != word.Imm(0) && shape != text || b != 0 {
				t.Errorf("an object of the shape %d has %#x, %d", shape, w, b)
			}
		}
	}
}

// P5: with anything stored, every call ends, and none panics, at all arguments.
func TestEndsWithAnythingStored(t *testing.T) {
	words := []uint64{0, 1, 2, math.MaxUint64, 1 << 63, word.Head(row, api.MaxLen), word.Head(row, 8), word.Head(text, api.MaxLen), word.Head(text, -1), word.Head(-1, -1), word.Mark(word.Head(pair, 2), true), word.Turn(word.Head(three, 3), 7), word.Head(three, 3)}
	places := append(wilds(), 0, 1, 2, 3, 4, 5, 6, 7, 8, 9, 63, 64)
	for _, w := range words {
		for _, v := range words {
			h := open(t, 8)
			made(t, h, pair, 2)
			made(t, h, text, 9)
			made(t, h, row, 1)
			h.Store(0, w)
			h.Store(3, v)
			h.Store(5, w)
			h.Store(7, v)
			for _, at := range places {
				h.Is(at)
				h.Shape(at)
				h.Len(at)
				h.Text(at)
				h.Fits(word.Ptr(at))
				for _, i := range places {
					h.Get(at, i)
					h.Byte(at, i)
					h.Set(at, i, w)
					h.SetByte(at, i, 7)
					h.Need(at, i)
				}
				h.Close(at)
			}
			h.Objects()
			h.Alloc(none, 0)
		}
	}
}
