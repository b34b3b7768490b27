package elab

import (
	"strconv"
	"strings"

	"bellows/api"
)

// speller writes a type; vars are how many type variables stood ahead of each.
type speller struct {
	strings.Builder
	vars map[int]int
}

func (s *speller) t(t *api.T) {
	switch t.Kind {
	case api.XVar:
		s.v(t.N)
	case api.XCon:
		s.args(t.L)
		s.WriteString(t.Name)
	case api.XFun:
		s.row(t.L, " -> ")
	case api.XTup:
		s.row(t.L, " * ")
	}
}

func (s *speller) v(number int) {
	n, is := s.vars[number]
	if !is {
		n = len(s.vars)
		s.vars[number] = n
	}
	s.WriteString("'")
	if n < 26 {
		s.WriteByte(byte('a' + n))
		return
	}
	s.WriteString("a" + strconv.Itoa(n))
}

// args are what stands ahead of a name.
func (s *speller) args(l []api.T) {
	if len(l) == 0 {
		return
	}
	if len(l) == 1 {
		s.t(&l[0])
	} else {
		s.row(l, ", ")
	}
	s.WriteString(" ")
}

func (s *speller) row(l []api.T, sign string) {
	s.WriteString("(")
	for i := range l {
		if i > 0 {
			s.WriteString(sign)
		}
		s.t(&l[i])
	}
	s.WriteString(")")
}
