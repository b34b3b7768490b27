package heap

import (
	"bellows/api"
	"bellows/word"
)

// Load: P2.5.
func (h *Heap) Load(i int) uint64 {
	if i < 0 || i >= h.Size() {
		return 0
	}
	return h.words[i]
}

// Store: P2.5.
func (h *Heap) Store(i int, w uint64) {
	if i < 0 || i >= h.Size() {
		return
	}
	h.words[i] = w
}

// Close: P2.5. The heads are gathered apart, so that words that are refused change nothing.
func (h *Heap) Close(top int) api.Errno {
	if h == nil || top < 0 || top > h.Size() {
		return api.ErrArg
	}
	heads, ok := h.laid(top)
	if !ok || !h.filled(top, &heads) {
		return api.ErrArg
	}
	h.heads, h.top = heads, top
	clear(h.words[top:])
	return api.OK
}

// walk goes from object to object up to top; false, if something else stands there, or an object isn't good.
func (h *Heap) walk(top int, good func(at int, o object) bool) bool {
	for at := 0; at < top; {
		o, ok := h.read(at, top)
		if !ok || !good(at, o) {
			return false
		}
		at += o.need
	}
	return true
}

// laid is where heads stand, if there are heads one object behind the other up to top.
func (h *Heap) laid(top int) (places, bool) {
	var heads places
	ok := h.walk(top, func(at int, o object) bool {
		heads.put(at)
		return h.words[at] == word.Head(o.shape, o.n)
	})
	return heads, ok
}

// filled asks whether the words between the heads may be. It is asked when all heads are known, for a field may point at what stands behind it.
func (h *Heap) filled(top int, heads *places) bool {
	return h.walk(top, func(at int, o object) bool {
		return o.holds(h.words[at+1:at+o.need], heads)
	})
}

// holds: may these be the words behind an object's head?
func (o object) holds(words []uint64, heads *places) bool {
	if o.kind == api.Bytes {
		return o.n%wordBytes == 0 || words[len(words)-1]>>(o.n%wordBytes*byteBits) == 0
	}
	for _, w := range words {
		if !heads.fits(w) {
			return false
		}
	}
	return true
}
