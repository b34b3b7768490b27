package heap

import (
	"bellows/api"
	"bellows/word"
)

// How many bytes, and how many bits of a byte, stand in a word.
const (
	wordBytes = 8
	byteBits  = 8
)

// wordsOf is how many words n bytes take.
func wordsOf(n int) int { return (n + wordBytes - 1) / wordBytes }

// object is what a head says: its shape's number and kind, how many fields, elements or bytes, and how many words in all.
type object struct {
	shape, kind, n, need int
}

// read takes the word at a place as a head; false, if none may say that, or asks for words from top on.
func (h *Heap) read(at, top int) (object, bool) {
	w := h.words[at]
	o := object{shape: word.Shape(w), n: word.Len(w)}
	need, e := h.Need(o.shape, o.n)
	if e != api.OK || need > top-at {
		return object{}, false
	}
	o.kind, o.need = h.Kind(o.shape), need
	return o, true
}

// object is the one at a place. Its head is read with care: Store may have put anything there.
func (h *Heap) object(at int) (object, bool) {
	if !h.Is(at) {
		return object{}, false
	}
	return h.read(at, len(h.words))
}

// Is: P2.3.
func (h *Heap) Is(at int) bool { return h != nil && h.heads.has(at) }

// Fits: P2.3.
func (h *Heap) Fits(w uint64) bool { return h != nil && h.heads.fits(w) }

// Shape: P2.3.
func (h *Heap) Shape(at int) (int, api.Errno) {
	o, ok := h.object(at)
	if !ok {
		return 0, api.ErrArg
	}
	return o.shape, api.OK
}

// Len: P2.3.
func (h *Heap) Len(at int) (int, api.Errno) {
	o, ok := h.object(at)
	if !ok {
		return 0, api.ErrArg
	}
	return o.n, api.OK
}

// field is the word of the field or element i of the object at a place; nil, if there is none.
func (h *Heap) field(at, i int) *uint64 {
	o, ok := h.object(at)
	if !ok || o.kind == api.Bytes || i < 0 || i >= o.n {
		return nil
	}
	return &h.words[at+1+i]
}

// Get: P2.3.
func (h *Heap) Get(at, i int) (uint64, api.Errno) {
	f := h.field(at, i)
	if f == nil {
		return 0, api.ErrArg
	}
	return *f, api.OK
}

// Set: P2.3.
func (h *Heap) Set(at, i int, w uint64) api.Errno {
	f := h.field(at, i)
	if f == nil || !h.Fits(w) {
		return api.ErrArg
	}
	*f = w
	return api.OK
}

// octet is the word in which the byte i of the object at a place stands, and from which bit on; nil, if there is none.
func (h *Heap) octet(at, i int) (*uint64, int) {
	o, ok := h.object(at)
	if !ok || o.kind != api.Bytes || i < 0 || i >= o.n {
		return nil, 0
	}
	return &h.words[at+1+i/wordBytes], i % wordBytes * byteBits
}

// Byte: P2.3.
func (h *Heap) Byte(at, i int) (byte, api.Errno) {
	w, from := h.octet(at, i)
	if w == nil {
		return 0, api.ErrArg
	}
	return byte(*w >> from), api.OK
}

// SetByte: P2.3.
func (h *Heap) SetByte(at, i int, c byte) api.Errno {
	w, from := h.octet(at, i)
	if w == nil {
		return api.ErrArg
	}
	*w = *w&^(0xff<<from) | uint64(c)<<from
	return api.OK
}

// Text: P2.3.
func (h *Heap) Text(at int) (string, api.Errno) {
	o, ok := h.object(at)
	if !ok || o.kind != api.Bytes {
		return "", api.ErrArg
	}
	b := make([]byte, o.n)
	for i := range o.n {
		b[i] = byte(h.words[at+1+i/wordBytes] >> (i % wordBytes * byteBits))
	}
	return string(b), api.OK
}
