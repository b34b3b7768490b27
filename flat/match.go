package flat

import (
	"cmp"
	"slices"

	"bellows/api"
)

// matching is the ways of a KCase or a KHandle.
type matching struct {
	w      *writer
	ty     int // of what all of it gives
	ways   []*way
	thrown *place          // what is thrown on where no way fits
	none   func() api.Flat // what is done there
	places int
	size   int    // how much there is of patterns, and of what they ask
	spent  int    // how much was written
	most   int    // how much may be
	apart  *apart // what is written by itself, if anything is
}

// way is one: what must be so that it fits, in an order in which nothing is asked of a part ahead of what it stands in, and what its variables are.
type way struct {
	n     int
	label int
	asks  []*place
	vars  []bound
}

// bound is a variable of a pattern, and the place where what it is stands.
type bound struct {
	id, ty int
	at     *place
}

// rest is a way, and what isn't known yet of what it asks.
type rest struct {
	*way
	from int // what stands ahead of that is known
	left int // how much isn't
}

// cased is a KCase: what is looked at is bound to a variable. (No program that Defun answers comes to where no way fits.)
func (w *writer) cased(c *api.Core) api.Flat {
	e := w.core(only(c.L))
	whole := &place{bound: true, id: w.number(), ty: e.Ty}
	m := &matching{w: w, ty: w.of(&c.T)}
	m.none = func() api.Flat { return raised(m.ty, number(api.ExnMatch)) }
	return let(whole.id, e, m.match(whole, c.Ways))
}

// handle is a KHandle: what no way fits is thrown on.
func (w *writer) handle(c *api.Core) api.Flat {
	e := w.core(only(c.L))
	whole := &place{bound: true, id: c.Id, ty: w.exn}
	m := &matching{w: w, ty: w.of(&c.T), thrown: whole}
	m.none = func() api.Flat { return raised(m.ty, variable(whole.id, whole.ty)) }
	return api.Flat{Kind: api.LHandle, Id: c.Id, Ty: m.ty, L: []api.Flat{e, m.match(whole, c.Ways)}}
}

func raised(ty int, e api.Flat) api.Flat {
	return api.Flat{Kind: api.LRaise, Ty: ty, L: []api.Flat{e}}
}

// match is some ways, of what is bound to a variable.
func (m *matching) match(whole *place, ways []api.Way) api.Flat {
	for i := range ways {
		x := &way{n: i, label: m.w.number()}
		m.ways = append(m.ways, x)
		m.open(&ways[i].P, whole, x)
	}
	e := m.switches()
	for i := len(m.ways) - 1; i >= 0; i-- {
		x := m.ways[i]
		params := each(x.vars, func(v *bound) api.Slot { return api.Slot{Id: v.id, Ty: v.ty} })
		e = m.join(x.label, params, m.w.core(&ways[i].E), e)
	}
	return e
}

// join is e, in which there are jumps to what the label does.
func (m *matching) join(label int, params []api.Slot, does, e api.Flat) api.Flat {
	return api.Flat{Kind: api.LJoin, Id: label, Ty: m.ty, Params: params, L: []api.Flat{does, e}}
}

func (m *matching) jump(label int, l []api.Flat) api.Flat {
	return api.Flat{Kind: api.LJump, Id: label, Ty: m.ty, L: l}
}

// open finds what a pattern asks of what stands at a place.
func (m *matching) open(c *api.CPat, p *place, x *way) {
	m.size += 16
	k := m.w.cons[c.Name]
	switch {
	case c.Kind == api.PVar:
		x.vars = append(x.vars, bound{c.Id, m.w.of(&c.T), p})
	case c.Kind == api.PTuple:
		m.openTuple(c, p, x)
	case p.tuple != nil: // it is no number, nor a constructor's
	case c.Kind == api.PInt:
		m.ask(p, nil, head{n: c.N}, x)
	case c.Kind == api.PCon && k != nil:
		m.openCon(c, k, p, x)
	}
}

func (m *matching) ask(p *place, of *data, h head, x *way) {
	if p.asked == nil {
		p.of, p.asked = of, map[int]head{}
	}
	p.asked[x.n] = h
	x.asks = append(x.asks, p)
}

func (m *matching) openTuple(c *api.CPat, p *place, x *way) {
	l := p.tuple
	if l == nil && len(c.L) > 0 {
		l = m.inside(p, m.w.shapeOf(p.ty))
	}
	for i := range min(len(l), len(c.L)) {
		m.open(&c.L[i], l[i], x)
	}
}

// openCon asks for a constructor, if there are several ones, and opens what it has.
func (m *matching) openCon(c *api.CPat, k *con, p *place, x *way) {
	has := k.has && len(c.L) > 0
	if k.of.through {
		if has {
			m.open(&c.L[0], p, x)
		}
		return
	}
	if len(k.of.cons) > 1 {
		m.size += len(k.of.shapes)
		m.ask(p, k.of, head{shape: k.has, n: int64(k.n)}, x)
	}
	if has {
		m.open(&c.L[0], m.what(p, k), x)
	}
}

// what is the place of what a constructor's Record has.
func (m *matching) what(p *place, k *con) *place {
	l := m.inside(p, k.n)
	if isTuple(k.arg) {
		return &place{tuple: l}
	}
	return l[0]
}

// first finds the first one of some ways that fits.
func (m *matching) first(l []rest) api.Flat {
	m.spent += 1 + len(l)
	switch {
	case m.spent > m.most:
		return api.Flat{}
	case len(l) == 0:
		return m.none()
	case l[0].left == 0:
		return m.end(l[0].way)
	case m.apart != nil:
		return m.apart.first(m, l)
	}
	return m.look(l)
}

// look looks at what the first one of some ways asks first.
func (m *matching) look(l []rest) api.Flat {
	x := &l[0]
	for x.asks[x.from].known {
		x.from++
	}
	p := x.asks[x.from]
	return m.reach(p, func() api.Flat { return m.fork(p, l) })
}

// end goes on at a way that fits.
func (m *matching) end(x *way) api.Flat {
	l := parts(x.vars)
	m.spent += len(l)
	return m.reachAll(l, func() api.Flat {
		return m.jump(x.label, each(x.vars, m.value))
	})
}

// parts are the places that must be bound for variables.
func parts(vars []bound) []*place {
	var l []*place
	for _, v := range vars {
		if v.at.tuple == nil {
			l = append(l, v.at)
		} else {
			l = append(l, v.at.tuple...)
		}
	}
	return l
}

// arm is what a value is, and the ways that may fit where it is that.
type arm struct {
	head
	ways []rest
}

// ended: does the last one of some ways fit, whatever else there is?
func ended(l []rest) bool { return len(l) > 0 && l[len(l)-1].left == 0 }

// takes adds a way, if it may be the first one that fits.
func (m *matching) takes(l []rest, r rest) []rest {
	if ended(l) {
		return l
	}
	m.spent++
	return append(l, r)
}

// sorted are the arms of a place, and the ways that ask nothing of it.
func (m *matching) sorted(p *place, l []rest) ([]arm, []rest) {
	var arms []arm
	var other []rest
	at := map[head]int{}
	for _, r := range l {
		h, asks := p.asked[r.n]
		switch i, is := at[h]; {
		case m.spent > m.most:
			return nil, nil
		case ended(other):
			return arms, other
		case !asks:
			other = m.takes(other, r)
			for i := range arms {
				arms[i].ways = m.takes(arms[i].ways, r)
			}
		case is:
			r.left--
			arms[i].ways = m.takes(arms[i].ways, r)
		default:
			r.left--
			at[h] = len(arms)
			m.spent += len(other)
			arms = append(arms, arm{h, m.takes(slices.Clone(other), r)})
		}
	}
	return arms, other
}

// fork looks at what stands at a place, which is bound to a variable.
func (m *matching) fork(p *place, l []rest) api.Flat {
	arms, other := m.sorted(p, l)
	p.known = true
	e := api.Flat{Kind: api.LSwitch, Ty: m.ty, L: []api.Flat{variable(p.id, p.ty)}}
	e.Nums, e.Shapes = m.nums(arms), m.shapes(p, arms, other)
	if p.of == nil || len(e.Nums) < p.of.numbers {
		e.L = append(e.L, m.first(other))
	}
	p.known = false
	return e
}

// nums are the arms of numbers, rising.
func (m *matching) nums(arms []arm) []api.Arm {
	var l []api.Arm
	for _, a := range arms {
		if !a.shape {
			l = append(l, api.Arm{N: a.n, E: m.first(a.ways)})
		}
	}
	slices.SortFunc(l, func(a, b api.Arm) int { return cmp.Compare(a.N, b.N) })
	return l
}

// shapes are the arms of all shapes of the type.
func (m *matching) shapes(p *place, arms []arm, other []rest) []api.Arm {
	if p.of == nil {
		return nil
	}
	at := map[int]int{}
	for i, a := range arms {
		if a.shape {
			at[int(a.n)] = i + 1
		}
	}
	return each(p.of.shapes, func(shape *int) api.Arm {
		ways := other
		if i := at[*shape]; i > 0 {
			ways = arms[i-1].ways
		}
		return api.Arm{N: int64(*shape), E: m.as(p, *shape, func() api.Flat { return m.first(ways) })}
	})
}
