package defun

import "bellows/api"

// flow finds out which functions may come to one place.
type flow struct {
	types
	known  *gatherer
	vars   map[int]variable
	cores  map[*api.Core]*place
	holds  map[int]*place    // by the numbers of types
	fns    map[int]*function // by what they are called with
	named  map[int]*function // by the variables that a KFix binds
	made   []*function
	values []*function // those that aren't only called
	next   int         // no variable has this number, or a greater one
}

// variable is one that is bound. Its place is nil, if it is no function.
type variable struct {
	typ int
	at  *place
}

// function is what a KFn is written as.
type function struct {
	at     *place
	knows  *knowledge
	number int
	valued bool // does it stand anywhere but where it is called?
}

func newFlow(g *gatherer) *flow {
	return &flow{
		types: newTypes(), known: g, vars: map[int]variable{}, cores: map[*api.Core]*place{},
		holds: map[int]*place{}, fns: map[int]*function{}, named: map[int]*function{},
	}
}

func (f *flow) bind(id, typ int, at *place) {
	f.vars[id] = variable{typ, at}
	f.next = max(f.next, id+1)
}

func (f *flow) function(at *place, k *knowledge) *function {
	fn := &function{at: at, knows: k}
	f.made = append(f.made, fn)
	return fn
}

// value notes that a function stands where it isn't called.
func (f *flow) value(fn *function) {
	if !fn.valued {
		fn.valued = true
		f.values = append(f.values, fn)
	}
}

// at is a core's place; nil, if it is no function.
func (f *flow) at(c *api.Core) *place {
	if c.T.Kind != api.XFun && c.Kind != api.KFn {
		return nil
	}
	p := f.cores[c]
	if p == nil {
		p = &place{typ: f.read(&c.T)}
		f.cores[c] = p
	}
	return p
}

// calls: is it a KApp of a function?
func calls(c *api.Core) bool {
	return c.Kind == api.KApp && len(c.L) == 2 && c.L[0].T.Kind == api.XFun
}

// core joins the places in a core. It answers the core's own.
func (f *flow) core(c *api.Core) *place {
	at := f.at(c)
	switch c.Kind {
	case api.KVar:
		if fn := f.named[c.Id]; fn != nil {
			f.value(fn)
		}
		join(at, f.vars[c.Id].at)
	case api.KApp:
		f.app(c, at)
	case api.KFn:
		fn := f.function(at, f.known.of[c.Id])
		f.fns[c.Id] = fn
		f.value(fn)
		f.body(c, fn)
	case api.KCase:
		f.cases(c, at)
	case api.KHandle:
		f.handle(c, at)
	case api.KLet:
		f.let(c, at)
	case api.KFix:
		f.fix(c, at)
	case api.KPrim:
		f.lay(c.L)
		f.hold(at)
	default:
		f.lay(c.L)
	}
	return at
}

// ends joins a place with those of what it ends with.
func (f *flow) ends(at *place, l []api.Core) {
	for i := range l {
		join(at, f.core(&l[i]))
	}
}

// lay joins the places of what is laid into something.
func (f *flow) lay(l []api.Core) {
	for i := range l {
		f.hold(f.core(&l[i]))
	}
}

func (f *flow) app(c *api.Core, at *place) {
	if !calls(c) {
		f.lay(c.L)
		return
	}
	of := f.called(&c.L[0])
	join(f.with(of), f.core(&c.L[1]))
	join(f.answer(of), at)
}

// called is the place of what is called. A function that a KFix binds is no value there.
func (f *flow) called(c *api.Core) *place {
	if c.Kind != api.KVar {
		return f.core(c)
	}
	at := f.at(c)
	join(at, f.vars[c.Id].at)
	return at
}

// body goes over the KFn that a function is written for.
func (f *flow) body(c *api.Core, fn *function) {
	f.bind(c.Id, f.part(fn.at.typ, 0), f.with(fn.at))
	f.ends(f.answer(fn.at), c.L)
}

func (f *flow) cases(c *api.Core, at *place) {
	var from *place
	for i := range c.L {
		from = f.core(&c.L[i])
	}
	f.ways(c.Ways, from, at)
}

func (f *flow) handle(c *api.Core, at *place) {
	f.ends(at, c.L)
	t := exn()
	f.bind(c.Id, f.read(&t), nil)
	f.ways(c.Ways, nil, at)
}

func (f *flow) ways(l []api.Way, from, at *place) {
	for i := range l {
		f.pat(&l[i].P, from)
		join(at, f.core(&l[i].E))
	}
}

// pat binds a pattern's variables; from is where that comes from which it is held against.
func (f *flow) pat(p *api.CPat, from *place) {
	if p.Kind == api.PVar {
		f.bind(p.Id, f.read(&p.T), from)
	}
	for i := range p.L {
		f.pat(&p.L[i], f.held(f.read(&p.L[i].T)))
	}
}

func (f *flow) let(c *api.Core, at *place) {
	for i := range c.Funs {
		v := &c.Funs[i]
		n := f.read(&v.T)
		p := f.place(n)
		join(p, f.core(&v.E))
		f.bind(v.Id, n, p)
	}
	f.ends(at, c.L)
}

func (f *flow) fix(c *api.Core, at *place) {
	for i := range c.Funs {
		v := &c.Funs[i]
		n := f.read(&v.T)
		fn := f.function(&place{typ: n}, f.known.shared[v.Id])
		f.named[v.Id] = fn
		f.bind(v.Id, n, fn.at)
	}
	for i := range c.Funs {
		v := &c.Funs[i]
		f.body(&v.E, f.named[v.Id])
	}
	f.ends(at, c.L)
}
