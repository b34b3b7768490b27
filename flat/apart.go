package flat

import (
	"math"
	"strconv"

	"bellows/api"
)

// switches looks at what is needed of the whole, till it is known which way fits first. Where the same would be written again and again, so that all of it is too much, it is written by itself, once, and jumped to; where that is too much, too, each way is looked at by itself.
func (m *matching) switches() api.Flat {
	m.most = m.w.most[0] + m.size
	e := m.first(m.rests(m.ways))
	if m.spent > m.most {
		m.spent, m.most, m.apart = 0, m.w.most[1]+m.size, &apart{found: map[string]int{}}
		e = m.apart.around(m, m.first(m.rests(m.ways)))
	}
	if m.spent > m.most {
		m.spent, m.most, m.apart = 0, math.MaxInt, nil
		e = m.oneByOne()
	}
	return e
}

func (m *matching) rests(l []*way) []rest {
	return each(l, func(x **way) rest { return rest{*x, 0, len((*x).asks)} })
}

// oneByOne looks at each way by itself: where it doesn't fit there is a jump to the next one.
func (m *matching) oneByOne() api.Flat {
	e := m.none()
	for i := len(m.ways) - 1; i >= 0; i-- {
		label := m.w.number()
		m.none = func() api.Flat { return m.jump(label, nil) }
		e = m.join(label, nil, e, m.first(m.rests(m.ways[i:i+1])))
	}
	return e
}

// apart is what is written by itself: by what isn't known yet, and which parts are bound.
type apart struct {
	found map[string]int
	all   []*shared
}

// shared is a label, and what is done there.
type shared struct {
	label  int
	params []api.Slot
	e      api.Flat
}

// first is a jump to where the first one of some ways is found.
func (a *apart) first(m *matching, l []rest) api.Flat {
	needed := m.needed(l)
	key := keyOf(l, needed)
	m.spent += len(key)
	label, is := a.found[key]
	if !is {
		label = m.w.number()
		a.found[key] = label
		a.write(m, label, l, needed)
	}
	return m.jump(label, each(needed, func(p **place) api.Flat { return variable((*p).id, (*p).ty) }))
}

// write adds what is done at a label, where the needed places are bound to its parameters.
func (a *apart) write(m *matching, label int, l []rest, needed []*place) {
	was := each(needed, func(p **place) int { return (*p).id })
	params := each(needed, func(p **place) api.Slot {
		(*p).id = m.w.number()
		return api.Slot{Id: (*p).id, Ty: (*p).ty}
	})
	e := m.look(l)
	for i, p := range needed {
		p.id = was[i]
	}
	a.all = append(a.all, &shared{label, params, e})
}

// around lays what was written by itself around the rest: what was written first jumps to nothing that was written behind it.
func (a *apart) around(m *matching, e api.Flat) api.Flat {
	for i := len(a.all) - 1; i >= 0; i-- {
		s := a.all[i]
		e = m.join(s.label, s.params, s.e, e)
	}
	return e
}

// needed are the places that are bound, of which, or of whose parts, something may still be asked, or is a variable of some ways; and what may be thrown on.
func (m *matching) needed(l []rest) []*place {
	var all []*place
	met := map[int]int{}
	need := func(p *place) {
		for !p.bound {
			p = p.in
		}
		if met[p.n] == 0 {
			all = append(all, p)
			met[p.n] = len(all)
		}
	}
	if m.thrown != nil {
		need(m.thrown)
	}
	for _, r := range l {
		for _, p := range r.asks {
			if !p.known {
				need(p)
			}
		}
		for _, p := range parts(r.vars) {
			need(p)
		}
	}
	return all
}

// keyOf tells what isn't known yet of some ways from what isn't known elsewhere.
func keyOf(l []rest, needed []*place) string {
	var key []byte
	add := func(n int) { key = append(strconv.AppendInt(key, int64(n), 36), ' ') }
	for _, r := range l {
		add(r.n)
		for _, p := range r.asks {
			if !p.known {
				add(p.n)
			}
		}
		key = append(key, ';')
	}
	for _, p := range needed {
		add(p.n)
		add(p.ty)
	}
	return string(key)
}
