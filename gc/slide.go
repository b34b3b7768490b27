package gc

import "bellows/word"

// slide moves the objects that are marked together, takes their marks, and answers where the last one ends.
//
// A thread goes from an object's head through all words that point at it, and ends in the head's own word, which alone is no pointer. The first round unties what the roots, and objects that stand ahead, have tied; the second one what objects that stand behind have, none of which has been moved by then.
func (c *collector) slide() int {
	for i := range c.roots {
		c.tie(c.h.Size() + i)
	}
	c.each(func(at, _ int, head uint64) {
		for k := range c.fields(head) {
			c.tie(at + 1 + k)
		}
	})
	return c.each(func(at, to int, head uint64) {
		c.h.Store(to, word.Mark(head, false))
		for i := 1; i < c.need(head); i++ {
			c.h.Store(to+i, c.h.Load(at+i))
		}
	})
}

// tie lays the word at a place, if it is a pointer, into the thread of the object at which it points.
func (c *collector) tie(place int) {
	w := c.load(place)
	if word.IsImm(w) {
		return
	}
	at := word.At(w)
	c.store(place, c.h.Load(at))
	c.h.Store(at, word.Ptr(place))
}

// untie gives all words of an object's thread the pointer of the place where it shall stand, puts its head back, and answers it.
func (c *collector) untie(at, to int) uint64 {
	w := c.h.Load(at)
	for !word.IsImm(w) {
		place := word.At(w)
		w = c.load(place)
		c.store(place, word.Ptr(to))
	}
	c.h.Store(at, w)
	return w
}

// load is the word at a place; the roots have the places behind the heap's, so that threads go through them too.
func (c *collector) load(place int) uint64 {
	if i := place - c.h.Size(); i >= 0 {
		return c.roots[i]
	}
	return c.h.Load(place)
}

// store puts a word at a place of load's.
func (c *collector) store(place int, w uint64) {
	if i := place - c.h.Size(); i >= 0 {
		c.roots[i] = w
		return
	}
	c.h.Store(place, w)
}
