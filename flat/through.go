package flat

import "bellows/api"

// findThrough finds the datatypes whose values are what their one constructor has: those that don't stand in that, nor in the constructors of datatypes in it, and so on.
func (s *standing) findThrough(all []*data) {
	for _, d := range all {
		each(d.cons, func(k **con) int { return s.read(*k) })
	}
	numbers := map[*data]int{}
	for i, d := range all {
		numbers[d] = i
	}
	first := len(all) // a type's number in the graph is first and that among the forms
	round := rounds(first+len(s.forms.all), func(at int, visit func(to int)) {
		if at < first {
			for _, k := range all[at].cons {
				if k.has {
					visit(first + s.read(k))
				}
			}
			return
		}
		t := s.forms.all[at-first]
		for _, n := range t.parts {
			visit(first + n)
		}
		if d := s.datas[t.name]; t.kind == api.XCon && d != nil {
			visit(numbers[d])
		}
	})
	for i, d := range all {
		d.through = len(d.cons) == 1 && d.cons[0].has && !round[i]
	}
}

// read is the number of the type of what a constructor has; of nothing it is 0.
func (s *standing) read(k *con) int {
	if !k.has {
		return 0
	}
	return s.forms.read(k.arg)
}

// rounds are those of n things from which a way leads, by way of others, back to themselves; next visits what a thing leads to.
func rounds(n int, next func(at int, visit func(to int))) []bool {
	round := make([]bool, n)
	met := make([]int, n)  // as which one each was met, from 1 on; 0: not yet
	back := make([]int, n) // which one that was met first a way leads to; 0: all of it is known
	var open []int         // those of which not all is known
	count := 0
	var visit func(at int)
	visit = func(at int) {
		count++
		met[at], back[at] = count, count
		open = append(open, at)
		next(at, func(to int) {
			if met[to] == 0 {
				visit(to)
			}
			if back[to] > 0 {
				back[at] = min(back[at], back[to])
			}
		})
		if back[at] < met[at] {
			round[at] = true
			return
		}
		for last := -1; last != at; {
			last = open[len(open)-1]
			open = open[:len(open)-1]
			back[last] = 0
			round[at] = round[at] || last != at
		}
	}
	for at := range n {
		if met[at] == 0 {
			visit(at)
		}
	}
	return round
}
