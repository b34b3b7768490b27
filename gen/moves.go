package gen

// Moves: P13.4.
func Moves(from, to []int, spare int) [][2]int {
	n := min(len(from), len(to))
	m := mover{waits: map[int]int{}, at: map[int]int{}}
	for i, slot := range from[:n] {
		m.at[slot] = slot
		if slot != to[i] {
			m.waits[to[i]] = slot
		}
	}
	for _, slot := range to[:n] {
		if _, read := m.at[slot]; !read {
			m.set(slot)
		}
	}
	for _, slot := range to[:n] {
		if _, waits := m.waits[slot]; waits {
			m.move(slot, spare)
			m.at[slot] = spare
			m.set(slot)
		}
	}
	return m.l
}

// mover makes moves, one behind the other.
type mover struct {
	waits map[int]int // slots that are still to be set, each with the one of which it gets what that was ahead
	at    map[int]int // where what a slot was ahead stands now
	l     [][2]int
}

func (m *mover) move(from, to int) { m.l = append(m.l, [2]int{from, to}) }

// set sets a slot, if it is to be set, of which nothing needs any more what it is. Where the slot that is read is to be set, too, nothing needs any more what that one is, since from now on it can be read here, and so on.
func (m *mover) set(slot int) {
	for of, waits := m.waits[slot]; waits; of, waits = m.waits[slot] {
		delete(m.waits, slot)
		m.move(m.at[of], slot)
		if _, next := m.waits[of]; next {
			m.at[of] = slot
		}
		slot = of
	}
}
