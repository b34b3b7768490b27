package gc

import "bellows/word"

// mark marks all objects that are reached.
func (c *collector) mark() {
	for _, w := range c.roots {
		if c.fresh(w) {
			c.walk(w)
		}
	}
}

// fresh: is w the pointer of an object to which no walk has come yet?
func (c *collector) fresh(w uint64) bool {
	return !word.IsImm(w) && !word.Marked(c.h.Load(word.At(w)))
}

// walk marks the object of which here is the pointer, and all that are reached from it. A stack might need as many words as the heap; instead the pointer by which it leaves an object is turned round: that field holds where the walk came from (of the first object a number), and the object's count says which field it is.
func (c *collector) walk(here uint64) {
	back := word.Imm(0)
walk:
	for {
		at := word.At(here)
		head := word.Mark(c.h.Load(at), true)
		c.h.Store(at, head) // ahead of its fields, for one of them may point at it
		for k := word.Turned(head); k < c.fields(head); k++ {
			next := c.h.Load(at + 1 + k)
			if c.fresh(next) {
				c.h.Store(at, word.Turn(head, k))
				c.h.Store(at+1+k, back)
				here, back = next, here
				continue walk
			}
		}
		c.h.Store(at, word.Turn(head, 0))
		if word.IsImm(back) {
			return
		}
		here, back = back, c.turnBack(back, here)
	}
}

// turnBack gives the field by which the walk left an object its pointer again, and answers where the walk had come to that object from. The count is the next field's then.
func (c *collector) turnBack(object, pointer uint64) uint64 {
	at := word.At(object)
	head := c.h.Load(at)
	k := word.Turned(head)
	from := c.h.Load(at + 1 + k)
	c.h.Store(at+1+k, pointer)
	c.h.Store(at, word.Turn(head, k+1))
	return from
}
