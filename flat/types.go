package flat

import "bellows/api"

// types are the types of a program. Each has a number, by which it is looked at once, however often, and with however many parts, it stands there.
type types struct {
	forms map[form]int
	all   []typ
	ends  map[row]int
	rows  int          // rows of types have numbers, too: 0 is the empty one
	done  map[list]int // the rows of lists: those that types share are read once
}

// form is what a type is made of: parts is its parts' row.
type form struct {
	kind  int
	name  string
	parts int
}

// row is a row of types: another one, and what stands behind it.
type row struct{ ahead, last int }

// list is where one stands in memory.
type list struct {
	first *api.T
	n     int
}

type typ struct {
	kind  int
	name  string
	parts []int
}

func newTypes() types {
	return types{forms: map[form]int{}, ends: map[row]int{}, done: map[list]int{}}
}

// read is a type's number.
func (s *types) read(t *api.T) int {
	f := form{t.Kind, t.Name, s.row(t.L)}
	n, is := s.forms[f]
	if !is {
		parts := each(t.L, s.read)
		n = len(s.all)
		s.forms[f] = n
		s.all = append(s.all, typ{t.Kind, t.Name, parts})
	}
	return n
}

// row is a row's number.
func (s *types) row(l []api.T) int {
	if len(l) == 0 {
		return 0
	}
	at := list{&l[0], len(l)}
	n, is := s.done[at]
	if !is {
		for i := range l {
			n = s.behind(row{n, s.read(&l[i])})
		}
		s.done[at] = n
	}
	return n
}

func (s *types) behind(r row) int {
	n, is := s.ends[r]
	if !is {
		s.rows++
		n = s.rows
		s.ends[r] = n
	}
	return n
}

// isTuple: is it the type of a tuple that has parts?
func isTuple(t *api.T) bool { return t.Kind == api.XTup && len(t.L) > 0 }
