package heap

import (
	"bellows/api"
	"bellows/word"
)

// groupBits is how many places stand in one group of bits.
const groupBits = 64

// places is a set of the places of words: a bit for each that a heap may have.
type places [api.MaxWords / groupBits]uint64

// has takes any number: those that are no places are in no set.
func (p *places) has(at int) bool {
	return at >= 0 && at < api.MaxWords && p[at/groupBits]>>(at%groupBits)&1 == 1
}

func (p *places) put(at int) { p[at/groupBits] |= 1 << (at % groupBits) }

// fits: may w be a field, if heads stand at these places?
func (p *places) fits(w uint64) bool { return word.IsImm(w) || p.has(word.At(w)) }
