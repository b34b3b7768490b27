package gc

import (
	"slices"
	"testing"

	"bellows/api"
	"bellows/heap"
	"bellows/word"
)

// The shapes of the heaps of these tests.
const (
	pair = iota
	row
	text
	none
	three
	shapes // how many there are
)

func layouts() []api.Layout {
	return []api.Layout{{Kind: api.Record, N: 2}, {Kind: api.Array}, {Kind: api.Bytes}, {Kind: api.Record}, {Kind: api.Record, N: 3}}
}

// open is an empty heap of the shapes above.
func open(t testing.TB, words int) *heap.Heap {
	t.Helper()
	h, e := heap.New(words, layouts())
	if h == nil || e != api.OK {
		t.Fatalf("New(%d): %d", words, e)
	}
	return h
}

// made is the place of a new object, with these fields or elements; others than those that are given are the number 0.
func made(t testing.TB, h *heap.Heap, shape, n int, fields ...uint64) int {
	t.Helper()
	at, e := h.Alloc(shape, n)
	if e != api.OK {
		t.Fatalf("Alloc(%d, %d): %d", shape, n, e)
	}
	set(t, h, at, fields...)
	return at
}

// set gives an object its first fields or elements.
func set(t testing.TB, h *heap.Heap, at int, fields ...uint64) {
	t.Helper()
	for i, w := range fields {
		if e := h.Set(at, i, w); e != api.OK {
			t.Fatalf("Set(%d, %d, %#x): %d", at, i, w, e)
		}
	}
}

// written is the place of new bytes.
func written(t testing.TB, h *heap.Heap, s string) int {
	t.Helper()
	at := made(t, h, text, len(s))
	for i := range len(s) {
		if e := h.SetByte(at, i, s[i]); e != api.OK {
			t.Fatal(at, i, e)
		}
	}
	return at
}

// image is all words of a heap.
func image(h *heap.Heap) []uint64 {
	l := make([]uint64, h.Size())
	for i := range l {
		l[i] = h.Load(i)
	}
	return l
}

// told is an object as its heap tells it: its words, and which of them are fields or elements.
type told struct {
	words  []uint64
	fields []uint64
}

// tell is all objects of a heap, by their places.
func tell(t testing.TB, h *heap.Heap) map[int]told {
	t.Helper()
	all := map[int]told{}
	for _, at := range h.Objects() {
		shape, _ := h.Shape(at)
		n, _ := h.Len(at)
		need, e := h.Need(shape, n)
		if e != api.OK {
			t.Fatalf("at %d no object stands: %d", at, e)
		}
		var o told
		for i := range need {
			o.words = append(o.words, h.Load(at+i))
		}
		if h.Kind(shape) != api.Bytes {
			o.fields = o.words[1:]
		}
		all[at] = o
	}
	return all
}

// reached is what can be reached by the chapter's words: places, rising, and how many words they need.
func reached(all map[int]told, roots []uint64) ([]int, int) {
	var places []int
	live := 0
	seen := map[int]bool{}
	left := slices.Clone(roots)
	for len(left) > 0 {
		w := left[len(left)-1]
		left = left[:len(left)-1]
		if w%2 == 1 || seen[int(w/2)] {
			continue
		}
		at := int(w / 2)
		seen[at] = true
		places = append(places, at)
		live += len(all[at].words)
		left = append(left, all[at].fields...)
	}
	slices.Sort(places)
	return places, live
}

// moved is what a heap, and roots, are behind a Collect by the chapter's words.
func moved(all map[int]told, places []int, roots []uint64, size int) (heads []int, words, out []uint64) {
	to := map[int]int{}
	top := 0
	for _, at := range places {
		to[at] = top
		heads = append(heads, top)
		top += len(all[at].words)
	}
	now := func(w uint64) uint64 {
		if w%2 == 1 {
			return w
		}
		return 2 * uint64(to[int(w/2)])
	}
	for _, at := range places {
		o := all[at]
		words = append(words, o.words[:len(o.words)-len(o.fields)]...)
		for _, w := range o.fields {
			words = append(words, now(w))
		}
	}
	for _, w := range roots {
		out = append(out, now(w))
	}
	return heads, append(words, make([]uint64, size-top)...), out
}

// same asks that a heap is exactly this.
func same(t testing.TB, why string, h *heap.Heap, words []uint64, heads []int, top int) {
	t.Helper()
	if got := image(h); !slices.Equal(got, words) {
		t.Fatalf("%s: the words are %x, want %x", why, short(got), short(words))
	}
	if !slices.Equal(h.Objects(), heads) {
		t.Fatalf("%s: objects at %v, want %v", why, short(h.Objects()), short(heads))
	}
	if h.Top() != top || h.Size() != len(words) {
		t.Fatalf("%s: top %d, size %d, want %d, %d", why, h.Top(), h.Size(), top, len(words))
	}
}

// short keeps what is told of a great heap within bounds.
func short[E any](l []E) []E { return l[:min(len(l), 60)] }

// hold does all calls on a heap, and holds it and their answers against the model; it answers what Collect did.
func hold(t testing.TB, h *heap.Heap, roots []uint64) []uint64 {
	t.Helper()
	all, words, heads, top := tell(t, h), image(h), h.Objects(), h.Top()
	given := slices.Clone(roots)
	places, live := reached(all, roots)
	wantHeads, wantWords, wantRoots := moved(all, places, roots, h.Size())

	marks, e := Marks(h, roots)
	if e != api.OK || !slices.Equal(marks, places) {
		t.Fatalf("Marks: %v, %d, want %v", short(marks), e, short(places))
	}
	same(t, "behind Marks", h, words, heads, top)
	if n, e := Live(h, roots); e != api.OK || n != live {
		t.Fatalf("Live: %d, %d, want %d", n, e, live)
	}
	same(t, "behind Live", h, words, heads, top)
	out, e := Collect(h, roots)
	if e != api.OK || !slices.Equal(out, wantRoots) {
		t.Fatalf("Collect: %x, %d, want %x", short(out), e, short(wantRoots))
	}
	same(t, "behind Collect", h, wantWords, wantHeads, live)
	if !slices.Equal(roots, given) {
		t.Fatal("the roots that were handed in are changed")
	}
	again(t, h, out)
	return out
}

// again is P3.5 and P3.6: all that stands is reached then, and stays as it is.
func again(t testing.TB, h *heap.Heap, roots []uint64) {
	t.Helper()
	words, heads, top := image(h), h.Objects(), h.Top()
	if marks, e := Marks(h, roots); e != api.OK || !slices.Equal(marks, heads) {
		t.Fatalf("Marks behind Collect: %v, %d, want %v", short(marks), e, short(heads))
	}
	if n, e := Live(h, roots); e != api.OK || n != top {
		t.Fatalf("Live behind Collect: %d, %d, want %d", n, e, top)
	}
	out, e := Collect(h, roots)
	if e != api.OK || !slices.Equal(out, roots) {
		t.Fatalf("Collect behind Collect: %x, %d, want %x", short(out), e, short(roots))
	}
	same(t, "behind two Collects", h, words, heads, top)
}

// drawer draws numbers, the same in each run.
type drawer uint64

func (d *drawer) below(n int) int {
	*d = *d*6364136223846793005 + 1442695040888963407
	return int(uint64(*d)>>33) % n
}

// word is a pointer of one of these places, or a number: small, or like a head, with marks or without.
func (d *drawer) word(at []int) uint64 {
	if len(at) > 0 && d.below(3) > 0 {
		return word.Ptr(at[d.below(len(at))])
	}
	h := word.Head(d.below(shapes+1), d.below(5))
	switch d.below(4) {
	case 0:
		return word.Mark(h, true)
	case 1:
		return word.Turn(h, d.below(5))
	case 2:
		return h
	}
	return word.Imm(int64(d.below(100)) - 50)
}

// fill makes objects of all kinds in a heap till one more has no room.
func (d *drawer) fill(t testing.TB, h *heap.Heap) {
	t.Helper()
	for {
		shape, n := d.below(shapes), d.below(12)
		if l := layouts()[shape]; l.Kind == api.Record {
			n = l.N
		}
		at, e := h.Alloc(shape, n)
		if e != api.OK {
			return
		}
		for i := range n {
			h.SetByte(at, i, byte(d.below(256)))
		}
	}
}

// join gives fields and elements pointers and numbers, to objects ahead and behind.
func (d *drawer) join(t testing.TB, h *heap.Heap, oneOf int) {
	t.Helper()
	places := h.Objects()
	for _, at := range places {
		n, _ := h.Len(at)
		for i := range n {
			if d.below(oneOf) == 0 {
				h.Set(at, i, d.word(places))
			}
		}
	}
}

// P3.1 to P3.6: any heaps, with any roots, over and over.
func TestAsTold(t *testing.T) {
	d := drawer(1)
	for range 1500 {
		h := open(t, d.below(120))
		oneOf := 1 + d.below(6)
		for range 3 {
			d.fill(t, h)
			d.join(t, h, oneOf)
			places := h.Objects()
			var roots []uint64
			for range d.below(5) {
				roots = append(roots, d.word(places))
			}
			hold(t, h, roots)
		}
	}
}

// P3.4: from the roots the same is seen, step by step: the two heaps are gone through side by side by layer 2's calls.
func TestSameIsSeen(t *testing.T) {
	d := drawer(7)
	for range 300 {
		h := open(t, 200)
		d.fill(t, h)
		d.join(t, h, 3)
		roots := []uint64{d.word(h.Objects()), d.word(h.Objects()), d.word(h.Objects())}
		was := tell(t, h)
		now, e := Collect(h, roots)
		if e != api.OK || len(now) != len(roots) {
			t.Fatal(now, e)
		}
		twin := map[uint64]uint64{}
		left := [][2]uint64{{roots[0], now[0]}, {roots[1], now[1]}, {roots[2], now[2]}}
		for len(left) > 0 {
			a, b := left[0][0], left[0][1]
			left = left[1:]
			if word.IsImm(a) || word.IsImm(b) {
				if a != b {
					t.Fatalf("%#x has become %#x", a, b)
				}
				continue
			}
			if c, ok := twin[a]; ok {
				if c != b {
					t.Fatalf("%#x has become %#x and %#x", a, b, c)
				}
				continue
			}
			twin[a] = b
			old, at := was[word.At(a)], word.At(b)
			shape, e1 := h.Shape(at)
			n, e2 := h.Len(at)
			if e1 != api.OK || e2 != api.OK || word.Head(shape, n) != old.words[0] {
				t.Fatalf("the head %#x has become that of %d, %d: %d, %d", old.words[0], shape, n, e1, e2)
			}
			for i, w := range old.fields {
				v, e := h.Get(at, i)
				if e != api.OK {
					t.Fatal(e)
				}
				left = append(left, [2]uint64{w, v})
			}
			if h.Kind(shape) == api.Bytes {
				for i := range n {
					c, e := h.Byte(at, i)
					if e != api.OK || c != byte(old.words[1+i/8]>>(i%8*8)) {
						t.Fatalf("the byte %d is %d: %d", i, c, e)
					}
				}
			}
		}
		apart := map[uint64]bool{}
		for _, b := range twin {
			if apart[b] {
				t.Fatalf("two objects have become the one at %d", word.At(b))
			}
			apart[b] = true
		}
	}
}
