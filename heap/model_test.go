package heap

import (
	"slices"
	"testing"

	"bellows/api"
	"bellows/word"
)

// told is an object by the chapter's words, kept apart from any row of words.
type told struct {
	at, shape, n int
	fields       []uint64
	bytes        []byte
}

// need is how many words it takes.
func (o *told) need() int {
	if o.shape == text {
		n := 1
		for b := 0; b < o.n; b += 8 {
			n++
		}
		return n
	}
	return 1 + o.n
}

// words is how it stands.
func (o *told) words() []uint64 {
	l := append([]uint64{1 + 2*uint64(o.shape) + uint64(o.n)<<21}, o.fields...)
	for i, c := range o.bytes {
		if i%8 == 0 {
			l = append(l, 0)
		}
		l[len(l)-1] += uint64(c) << (i % 8 * 8)
	}
	return l
}

// model is a heap by the chapter's words.
type model struct {
	size, top int
	objects   []*told
}

func (m *model) at(at int) *told {
	for _, o := range m.objects {
		if o.at == at {
			return o
		}
	}
	return nil
}

func (m *model) fits(w uint64) bool { return w%2 == 1 || m.at(int(w/2)) != nil }

func (m *model) alloc(shape, n int) (int, api.Errno) {
	if shape < 0 || shape >= shapes || n < 0 {
		return 0, api.ErrArg
	}
	if l := layouts()[shape]; l.Kind == api.Record && l.N != n {
		return 0, api.ErrArg
	}
	if n > 65536 {
		return 0, api.ErrBig
	}
	o := &told{at: m.top, shape: shape, n: n}
	if m.top+o.need() > m.size {
		return 0, api.ErrFull
	}
	if shape == text {
		o.bytes = make([]byte, n)
	} else {
		o.fields = slices.Repeat([]uint64{1}, n)
	}
	m.objects = append(m.objects, o)
	m.top += o.need()
	return o.at, api.OK
}

func (m *model) get(at, i int) (uint64, api.Errno) {
	if o := m.at(at); o != nil && i >= 0 && i < len(o.fields) {
		return o.fields[i], api.OK
	}
	return 0, api.ErrArg
}

func (m *model) set(at, i int, w uint64) api.Errno {
	if o := m.at(at); o != nil && i >= 0 && i < len(o.fields) && m.fits(w) {
		o.fields[i] = w
		return api.OK
	}
	return api.ErrArg
}

func (m *model) byteOf(at, i int) (byte, api.Errno) {
	if o := m.at(at); o != nil && i >= 0 && i < len(o.bytes) {
		return o.bytes[i], api.OK
	}
	return 0, api.ErrArg
}

func (m *model) setByte(at, i int, c byte) api.Errno {
	if o := m.at(at); o != nil && i >= 0 && i < len(o.bytes) {
		o.bytes[i] = c
		return api.OK
	}
	return api.ErrArg
}

func (m *model) close(top int) api.Errno {
	var kept []*told
	end := 0
	for _, o := range m.objects {
		if o.at < top {
			kept, end = append(kept, o), o.at+o.need()
		}
	}
	if end != top {
		return api.ErrArg
	}
	less := model{objects: kept}
	for _, o := range kept {
		if !slices.ContainsFunc(o.fields, func(w uint64) bool { return !less.fits(w) }) {
			continue
		}
		return api.ErrArg
	}
	m.objects, m.top = kept, top
	return api.OK
}

// same holds all of a heap against what is told of it.
func (m *model) same(t *testing.T, h *Heap) {
	t.Helper()
	var at []int
	want := make([]uint64, 0, m.size)
	for _, o := range m.objects {
		at = append(at, o.at)
		want = append(want, o.words()...)
	}
	if len(want) != m.top || h.Top() != m.top || h.Size() != m.size { // P2.7: the words that they need are Top, in all
		t.Fatalf("%d words, top %d, size %d, want %d, %d", len(want), h.Top(), h.Size(), m.top, m.size)
	}
	want = append(want, make([]uint64, m.size-m.top)...)
	if got := image(h); !slices.Equal(got, want) {
		t.Fatalf("the words are %x, want %x", got, want)
	}
	if got := h.Objects(); !slices.Equal(got, at) {
		t.Fatalf("objects at %v, want %v", got, at)
	}
	for i := -1; i <= m.size; i++ {
		m.sameAt(t, h, i)
	}
}

// sameAt holds one place against what is told of it.
func (m *model) sameAt(t *testing.T, h *Heap, at int) {
	t.Helper()
	o := m.at(at)
	shape, e1 := h.Shape(at)
	n, e2 := h.Len(at)
	s, e3 := h.Text(at)
	if h.Is(at) != (o != nil) || at >= 0 && h.Fits(word.Ptr(at)) != (o != nil) {
		t.Fatalf("Is(%d): %v", at, h.Is(at))
	}
	if o == nil {
		o = &told{}
		if e1 != api.ErrArg || e2 != api.ErrArg {
			t.Fatalf("Shape, Len of %d: %d, %d", at, e1, e2)
		}
	}
	if shape != o.shape || n != o.n || s != string(o.bytes) || (e3 == api.OK) != (o.shape == text) {
		t.Fatalf("at %d: shape %d, %d, %q, %d, want %v", at, shape, n, s, e3, o)
	}
}

// drawer draws numbers, the same in each run.
type drawer uint64

func (d *drawer) below(n int) int {
	*d = *d*6364136223846793005 + 1442695040888963407
	return int(uint64(*d)>>33) % n
}

// P2.2 to P2.8: any calls answer, and change, what the chapter tells, and nothing else.
func TestAsTold(t *testing.T) {
	d := drawer(1)
	for range 60 {
		size := d.below(90)
		h, m := open(t, size), &model{size: size}
		for range 120 {
			step(t, &d, h, m)
			m.same(t, h)
		}
	}
}

// place is one at which an object stands, mostly.
func (m *model) place(d *drawer) int {
	if len(m.objects) > 0 && d.below(8) > 0 {
		return m.objects[d.below(len(m.objects))].at
	}
	return d.below(m.size+3) - 1
}

// step does one call to both, and holds the answers against each other.
func step(t *testing.T, d *drawer, h *Heap, m *model) {
	t.Helper()
	at, i := m.place(d), d.below(6)-1
	switch d.below(10) {
	case 0, 1:
		shape, n := d.below(shapes+2)-1, d.below(22)-1
		if shape >= 0 && shape < shapes && layouts()[shape].Kind == api.Record && d.below(5) > 0 {
			n = layouts()[shape].N
		}
		got, e := h.Alloc(shape, n)
		if want, we := m.alloc(shape, n); got != want || e != we {
			t.Fatalf("Alloc(%d, %d) = %d, %d, want %d, %d", shape, n, got, e, want, we)
		}
	case 2, 3, 4:
		w := word.Ptr(m.place(d))
		if d.below(2) == 0 {
			w = word.Imm(int64(d.below(1000)) - 500)
		}
		if e, we := h.Set(at, i, w), m.set(at, i, w); e != we {
			t.Fatalf("Set(%d, %d, %#x): %d, want %d", at, i, w, e, we)
		}
	case 5, 6:
		i, c := d.below(24)-1, byte(d.below(256))
		if e, we := h.SetByte(at, i, c), m.setByte(at, i, c); e != we {
			t.Fatalf("SetByte(%d, %d): %d, want %d", at, i, e, we)
		}
	case 7:
		w, e := h.Get(at, i)
		if want, we := m.get(at, i); w != want || e != we {
			t.Fatalf("Get(%d, %d) = %#x, %d, want %#x, %d", at, i, w, e, want, we)
		}
	case 8:
		c, e := h.Byte(at, i)
		if want, we := m.byteOf(at, i); c != want || e != we {
			t.Fatalf("Byte(%d, %d) = %d, %d, want %d, %d", at, i, c, e, want, we)
		}
	case 9:
		top := m.top // P2.8: what is right is closed as it is
		if d.below(3) == 0 {
			top = m.place(d)
		}
		if e, we := h.Close(top), m.close(top); e != we {
			t.Fatalf("Close(%d): %d, want %d", top, e, we)
		}
	}
}
