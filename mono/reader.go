package mono

import "bellows/api"

// reader reads types that have type variables: in their places stand the types by.
type reader struct {
	*types
	by   map[int]int
	done map[list]int // rows that were read with these: lists that types share are read once
}

// list is where one stands in memory.
type list struct {
	first *api.T
	n     int
}

func newReader(s *types) *reader {
	return &reader{types: s, by: map[int]int{}, done: map[list]int{}}
}

// put lays a row's types into the places of variables. What it answers goes back to what was read ahead.
func (r *reader) put(vars []int, row int) func() {
	for i, n := range r.parts(row) {
		if i < len(vars) {
			r.by[vars[i]] = n
		}
	}
	done := r.done
	r.done = map[list]int{}
	return func() { r.done = done }
}

// read is a type's number. Of a variable that isn't known it is that of ().
func (r *reader) read(t *api.T) int {
	if t.Kind != api.XVar {
		return r.typ(form{t.Kind, t.Name, r.row(t.L)})
	}
	n, is := r.by[t.N]
	if !is {
		n = r.typ(form{kind: api.XTup})
	}
	return n
}

// row is a row's number.
func (r *reader) row(l []api.T) int {
	if len(l) == 0 {
		return 0
	}
	at := list{&l[0], len(l)}
	n, is := r.done[at]
	if !is {
		for i := range l {
			n = r.behind(n, r.read(&l[i]))
		}
		r.done[at] = n
	}
	return n
}

// t is how the answer writes a type.
func (r *reader) t(t *api.T) api.T { return r.all[r.read(t)].t }
