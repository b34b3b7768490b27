package mono

import (
	"slices"

	"bellows/api"
)

// types are the types that are reached, none with a type variable. Each has a number, by which it is written once, however often, and with however many parts, it stands in a program.
type types struct {
	tally
	datas map[string]*api.Data
	made  []family // the instances of datatypes

	forms map[form]int
	all   []typ
	ends  map[row]int
	rows  []row // rows of types have numbers, too: 0 is the empty one
}

// form is what a type is made of: parts is its parts' row.
type form struct {
	kind  int
	name  string
	parts int
}

// typ is how a type is written. The mark stands behind the names of a datatype's instance, and of its constructors.
type typ struct {
	t    api.T
	mark string
}

// row is a row of types: another one, and what stands behind it.
type row struct{ ahead, last int }

func newTypes(datas []api.Data, most int) *types {
	s := &types{
		tally: tally{most: most}, datas: map[string]*api.Data{},
		forms: map[form]int{}, ends: map[row]int{}, rows: make([]row, 1),
	}
	for i := range datas {
		if d := &datas[i]; s.datas[d.Name] == nil {
			s.datas[d.Name] = d
		}
	}
	return s
}

// typ is a type's number. A datatype's type that is new makes an instance.
func (s *types) typ(f form) int {
	n, is := s.forms[f]
	if !is {
		n = len(s.all)
		s.forms[f] = n
		s.all = append(s.all, s.write(f))
	}
	return n
}

func (s *types) write(f form) typ {
	if d := s.datas[f.name]; d != nil && f.kind == api.XCon {
		return s.newFamily(d, f.parts)
	}
	t := api.T{Kind: f.kind, Name: f.name}
	for _, n := range s.parts(f.parts) {
		t.L = append(t.L, s.all[n].t)
	}
	return typ{t: t}
}

// behind is the row with one type more.
func (s *types) behind(ahead, last int) int {
	r := row{ahead, last}
	n, is := s.ends[r]
	if !is {
		n = len(s.rows)
		s.ends[r] = n
		s.rows = append(s.rows, r)
	}
	return n
}

// parts are a row's types.
func (s *types) parts(n int) []int {
	var l []int
	for ; n > 0; n = s.rows[n].ahead {
		l = append(l, s.rows[n].last)
	}
	slices.Reverse(l)
	return l
}
