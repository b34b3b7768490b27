package gen

import (
	"maps"
	"slices"

	"bellows/api"
)

// A name is a variable's number, or an expression that is worked out as a part of another one.
type name any

type names map[name]bool

func (s names) with(more ...name) names {
	s = maps.Clone(s)
	for _, n := range more {
		s[n] = true
	}
	return s
}

func (s names) without(n name) names {
	s = maps.Clone(s)
	delete(s, n)
	return s
}

func (s names) and(more names) names { return s.with(slices.Collect(maps.Keys(more))...) }

// reader knows of a function what is needed behind each expression, by going from what is done last to what is done first.
type reader struct {
	x      api.FlatProg
	behind map[*api.Flat]names // what is needed behind each expression, ahead of its value
	most   int                 // how much is needed at a time
	labels map[int]target
	wants  map[*api.Flat][]bool // of jumps, which values are needed
	facts  map[int]api.Type     // what more is known of variables in ways
}

// target is what is needed at a label.
type target struct {
	needs names
	wants []bool
}

func newReader(x api.FlatProg) *reader {
	return &reader{x: x, behind: map[*api.Flat]names{}, labels: map[int]target{}, wants: map[*api.Flat][]bool{}, facts: map[int]api.Type{}}
}

func (r *reader) at(s names, more int) names {
	r.most = max(r.most, len(s)+more)
	return s
}

// need is what is needed ahead of an expression, where after is needed behind it, and its own value, if it is wanted.
func (r *reader) need(e *api.Flat, after names, wanted bool) names {
	r.behind[e] = after
	r.at(after, 1)
	switch e.Kind {
	case api.LVar:
		if !wanted {
			return after
		}
		return r.at(after.with(e.Id), 0)
	case api.LLet:
		there := r.need(&e.L[1], after, wanted)
		return r.need(&e.L[0], there.without(e.Id), there[e.Id])
	case api.LSwitch:
		return r.needWays(e, after, wanted)
	case api.LHandle:
		there := r.need(&e.L[1], after, wanted).without(e.Id)
		r.at(there, 1)
		call := &e.L[0]
		return r.needParts(call, after.and(there), nil)
	case api.LJoin:
		there := r.need(&e.L[0], after, wanted)
		r.labels[e.Id] = target{there, nil}
		t := target{there, nil}
		for _, p := range e.Params {
			t.wants = append(t.wants, there[p.Id])
			t.needs = t.needs.without(p.Id)
		}
		r.labels[e.Id] = t
		return r.need(&e.L[1], after, wanted)
	case api.LRaise:
		return r.needParts(e, names{}, nil)
	case api.LJump:
		t := r.labels[e.Id]
		r.wants[e] = t.wants
		return r.needParts(e, t.needs, t.wants)
	}
	return r.needParts(e, after, nil)
}

// needParts: parts are worked out from the left to the right, and needed till all are.
func (r *reader) needParts(e *api.Flat, after names, wants []bool) names {
	r.behind[e] = after
	s := after
	for i := range e.L {
		if wants != nil && !wants[i] {
			continue
		}
		if e.L[i].Kind == api.LVar {
			s = s.with(e.L[i].Id)
		} else {
			s = s.with(&e.L[i])
		}
	}
	r.at(s, 0)
	for i := len(e.L) - 1; i >= 0; i-- {
		if e.L[i].Kind != api.LVar {
			s = r.need(&e.L[i], s.without(&e.L[i]), s[&e.L[i]])
		}
	}
	return s
}

// needWays: ways for what the variable can't be aren't gone.
func (r *reader) needWays(e *api.Flat, after names, wanted bool) names {
	id := e.L[0].Id
	s := names{id: true}
	t, was := r.facts[id]
	if !was {
		t = r.x.Types[e.L[0].Ty]
	}
	way := func(e *api.Flat, known api.Type) {
		r.facts[id] = known
		s = s.and(r.need(e, after, wanted))
	}
	for i := range e.Nums {
		if t.Imm {
			way(&e.Nums[i].E, api.Type{Imm: true})
		}
	}
	for i := range e.Shapes {
		if shape := int(e.Shapes[i].N); slices.Contains(t.Shapes, shape) {
			way(&e.Shapes[i].E, api.Type{Shapes: []int{shape}})
		}
	}
	if len(e.L) == 2 && t.Imm {
		way(&e.L[1], api.Type{Imm: true})
	}
	if delete(r.facts, id); was {
		r.facts[id] = t
	}
	return r.at(s, 0)
}
