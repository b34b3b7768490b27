package defun

// place is where functions come to: a variable, a core, or whatever holds functions of one type. Those that are joined lead to one, their last, which alone tells what their functions are called with, and what these answer: nil, where nothing has asked for that yet, or where it is no function.
type place struct {
	next   *place
	typ    int
	with   *place
	answer *place
}

func (p *place) last() *place {
	for p.next != nil {
		if p.next.next != nil {
			p.next = p.next.next
		}
		p = p.next
	}
	return p
}

// join makes one place of two. To nil nothing comes.
func join(a, b *place) {
	if a == nil || b == nil {
		return
	}
	a, b = a.last(), b.last()
	if a == b {
		return
	}
	b.next = a
	joinInto(&a.with, b.with)
	joinInto(&a.answer, b.answer)
}

func joinInto(a **place, b *place) {
	if *a == nil {
		*a = b
		return
	}
	join(*a, b)
}

// place is a new one for a type; nil, if it is no function's.
func (f *flow) place(typ int) *place {
	if !f.isFun(typ) {
		return nil
	}
	return &place{typ: typ}
}

// with is what the functions are called with that come to p.
func (f *flow) with(p *place) *place {
	p = p.last()
	if p.with == nil {
		p.with = f.place(f.part(p.typ, 0))
	}
	return p.with
}

// answer is what the functions answer that come to p.
func (f *flow) answer(p *place) *place {
	p = p.last()
	if p.answer == nil {
		p.answer = f.place(f.part(p.typ, 1))
	}
	return p.answer
}

// held is where functions of a type come to that are laid into tuples, constructors, refs and arrays, and from where they are taken out; nil, if it is no function's.
func (f *flow) held(typ int) *place {
	if f.isFun(typ) && f.holds[typ] == nil {
		f.holds[typ] = f.place(typ)
	}
	return f.holds[typ]
}

// hold joins a place with that of all of its type that are laid into something.
func (f *flow) hold(p *place) {
	if p != nil {
		join(p, f.held(p.typ))
	}
}
