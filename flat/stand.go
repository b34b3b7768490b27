package flat

import "bellows/api"

// The types and the shape that every program has.
const (
	numbers = 0
	texts   = 1
	bytes   = 0
)

// standing is how the values of a program's types stand in memory.
type standing struct {
	forms  types
	found  map[int]int // how a type stands, by its number among the forms
	alone  map[int]int // the types of one shape alone
	empty  int         // that of no values, if there is one
	datas  map[string]*data
	cons   map[string]*con
	types  []api.Type
	shapes []api.Shape
	exn    int
}

// data is a datatype: as is how its values stand, once that is found.
type data struct {
	cons    []*con
	numbers int   // how many of these are numbers
	shapes  []int // of the others
	through bool  // its values are what its one constructor has
	as      int
	found   bool
}

// con is a constructor: the number that it is, or the shape of its Record.
type con struct {
	of        *data
	has       bool
	arg       *api.T // what it has
	n         int
	exception string
}

func newStanding(datas []api.Data) standing {
	s := standing{forms: newTypes(), found: map[int]int{}, alone: map[int]int{bytes: texts}, datas: map[string]*data{}, cons: map[string]*con{}}
	s.types = []api.Type{{Imm: true}, {Shapes: []int{bytes}}}
	s.shapes = []api.Shape{{Kind: api.Bytes}}
	var all []*data
	for i := range datas {
		all = append(all, s.newData(&datas[i], i == 0))
	}
	s.findThrough(all)
	for i, d := range all {
		as := s.data(d)
		if i == 0 {
			s.exn = as
		}
	}
	return s
}

// newData is a datatype of which it isn't known yet how its values stand; the first one is that of exceptions.
func (s *standing) newData(x *api.Data, first bool) *data {
	d := &data{}
	for i := range x.Cons {
		c := &x.Cons[i]
		k := &con{of: d, has: c.Has}
		if c.Has {
			k.arg = &c.Arg
		} else {
			k.n = d.numbers
			d.numbers++
		}
		if first {
			k.exception = declared(c.Name)
		}
		d.cons = append(d.cons, k)
		if s.cons[c.Name] == nil {
			s.cons[c.Name] = k
		}
	}
	if s.datas[x.Name] == nil {
		s.datas[x.Name] = d
	}
	return d
}

// of is the number of the type of what stands where values of the type t are.
func (s *standing) of(t *api.T) int { return s.at(s.forms.read(t)) }

// at is that of the type with a number among the forms.
func (s *standing) at(n int) int {
	as, is := s.found[n]
	if is {
		return as
	}
	t := s.forms.all[n]
	d := s.datas[t.name]
	switch {
	case t.kind == api.XTup && len(t.parts) > 0:
		return s.object(n, api.Record)
	case t.kind != api.XCon || t.name == "int":
		as = numbers
	case t.name == "string":
		as = texts
	case t.name == "ref":
		return s.object(n, api.Record)
	case t.name == "array":
		return s.object(n, api.Array)
	case d != nil:
		as = s.data(d)
	}
	s.found[n] = as
	return as
}

// object lays the type of a tuple, a cell or an array: it is found ahead of its parts, in which it may stand.
func (s *standing) object(n, kind int) int {
	shape := s.shape(api.Shape{Kind: kind})
	as := s.onlyOf(shape)
	s.found[n] = as
	s.fill(shape, s.forms.all[n].parts)
	return as
}

func (s *standing) shape(x api.Shape) int {
	s.shapes = append(s.shapes, x)
	return len(s.shapes) - 1
}

// fill says how the parts of a shape stand.
func (s *standing) fill(shape int, parts []int) {
	fields := each(parts, func(n *int) int { return s.at(*n) })
	s.shapes[shape].Fields = fields
}

// onlyOf is the type of one shape alone.
func (s *standing) onlyOf(shape int) int {
	as, is := s.alone[shape]
	if !is {
		as = s.typ(api.Type{Shapes: []int{shape}})
		s.alone[shape] = as
	}
	return as
}

func (s *standing) typ(x api.Type) int {
	s.types = append(s.types, x)
	return len(s.types) - 1
}

// data lays the type of a datatype, likewise ahead of its parts.
func (s *standing) data(d *data) int {
	if d.found {
		return d.as
	}
	d.found = true
	if d.through {
		d.as = s.of(d.cons[0].arg)
		return d.as
	}
	for _, k := range d.cons {
		if k.has {
			k.n = s.shape(api.Shape{Kind: api.Record, Name: k.exception})
			d.shapes = append(d.shapes, k.n)
		}
	}
	d.as = s.either(d.numbers > 0, d.shapes)
	for _, k := range d.cons {
		if k.has {
			s.fill(k.n, s.parts(k))
		}
	}
	return d.as
}

// either is the type of numbers, if there are any, and of shapes.
func (s *standing) either(imm bool, shapes []int) int {
	switch {
	case imm && len(shapes) == 0:
		return numbers
	case !imm && len(shapes) == 1:
		return s.onlyOf(shapes[0])
	case !imm && len(shapes) == 0 && s.empty > 0:
		return s.empty
	}
	n := s.typ(api.Type{Imm: imm, Shapes: shapes})
	if !imm && len(shapes) == 0 {
		s.empty = n
	}
	return n
}

// parts are the types of what a constructor's Record has.
func (s *standing) parts(k *con) []int {
	n := s.forms.read(k.arg)
	if isTuple(k.arg) {
		return s.forms.all[n].parts
	}
	return []int{n}
}
