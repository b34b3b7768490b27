package flat

import "bellows/api"

// place is where a part stands of a value that is looked at, and what is known of it on the way on which the writer is.
type place struct {
	n     int
	in    *place           // what it is a part of: nil of the whole
	field int              // which one
	inner map[int][]*place // its own parts, by the shape of which it must be for that
	tuple []*place         // of a tuple that a Record has in parts: these parts

	bound bool
	id    int // the variable to which it is bound
	ty    int // that one's type

	of    *data        // a datatype that has several constructors; nil: it is a number
	asked map[int]head // what ways ask, by their numbers
	known bool         // it was looked at
}

// head is what a value is: a number, or of a shape.
type head struct {
	shape bool
	n     int64
}

// inside are the parts of a place, where it is of a shape.
func (m *matching) inside(p *place, shape int) []*place {
	l, is := p.inner[shape]
	if !is {
		for i, ty := range m.w.shapes[shape].Fields {
			m.places++
			l = append(l, &place{n: m.places, in: p, field: i, ty: ty})
		}
		if p.inner == nil {
			p.inner = map[int][]*place{}
		}
		p.inner[shape] = l
	}
	return l
}

// reach binds a place to a variable, if it isn't bound on this way; then is what is done with it.
func (m *matching) reach(p *place, then func() api.Flat) api.Flat {
	if p.bound {
		return then()
	}
	return m.reach(p.in, func() api.Flat {
		id := m.w.number()
		part := field(p.field, p.ty, variable(p.in.id, p.in.ty))
		p.bound, p.id = true, id
		e := then()
		p.bound = false
		return let(id, part, e)
	})
}

// reachAll likewise binds several ones.
func (m *matching) reachAll(l []*place, then func() api.Flat) api.Flat {
	if len(l) == 0 {
		return then()
	}
	return m.reach(l[0], func() api.Flat { return m.reachAll(l[1:], then) })
}

// value is what stands at a place: a tuple that there isn't is made of its parts.
func (m *matching) value(v *bound) api.Flat {
	p := v.at
	if p.tuple == nil {
		return variable(p.id, p.ty)
	}
	var l []api.Flat
	for _, part := range p.tuple {
		l = append(l, variable(part.id, part.ty))
	}
	return m.w.made(api.LNew, v.ty, l)
}

// as is what is written where a place is of one shape alone.
func (m *matching) as(p *place, shape int, write func() api.Flat) api.Flat {
	was := p.ty
	p.ty = m.w.onlyOf(shape)
	e := write()
	p.ty = was
	return e
}
