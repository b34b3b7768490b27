package gen

import (
	"fmt"
	"math"
	"reflect"
	"slices"
	"testing"
)

// after is what slots are behind some moves, if each was its own number ahead.
func after(moves [][2]int) map[int]int {
	now := map[int]int{}
	get := func(slot int) int {
		if v, is := now[slot]; is {
			return v
		}
		return slot
	}
	for _, m := range moves {
		now[m[1]] = get(m[0])
	}
	return now
}

// fewest are how many moves are needed at least: found by trying all of them out, each slot that is to be set, or the spare one, from any slot.
func fewest(from, to []int, spare int) int {
	type state [6]int8 // what each slot is
	n := min(len(from), len(to))
	var first state
	for i := range first {
		first[i] = int8(i)
	}
	done := func(s state) bool {
		for i := range n {
			if s[to[i]] != int8(from[i]) {
				return false
			}
		}
		return true
	}
	now, met := []state{first}, map[state]bool{first: true}
	for count := 0; ; count++ {
		var next []state
		for _, s := range now {
			if done(s) {
				return count
			}
			for _, slot := range append([]int{spare}, to[:n]...) {
				for of := range s {
					x := s
					if x[slot] = s[of]; !met[x] {
						met[x] = true
						next = append(next, x)
					}
				}
			}
		}
		now = next
	}
}

// moved looks at what Moves answers, for lists as it asks for: P13.4.
func moved(t *testing.T, from, to []int, spare int) [][2]int {
	t.Helper()
	l := Moves(from, to, spare)
	what := fmt.Sprint("Moves(", from, ", ", to, ", ", spare, "): ", l)
	now := after(l)
	n := min(len(from), len(to))
	sets, spares, round := 0, 0, goesRound(from[:n], to[:n])
	for i := range n {
		v, is := now[to[i]]
		if is && v != from[i] || !is && to[i] != from[i] {
			t.Fatal(what, " sets another one: ", to[i])
		}
		if to[i] != from[i] {
			sets++
		}
	}
	for _, m := range l {
		switch {
		case m[0] == m[1]:
			t.Fatal(what, " has one of a slot to itself")
		case m[1] == spare:
			spares++
		case !slices.Contains(to[:n], m[1]):
			t.Fatal(what, " sets one that isn't to be set: ", m[1])
		}
		if !round && (m[0] == spare || m[1] == spare) {
			t.Fatal(what, " goes by way of the spare slot")
		}
	}
	if len(l)-spares != sets || 2*spares > sets {
		t.Fatal(what, " has too many")
	}
	return l
}

// goesRound: does a way lead from a slot back to itself, by what is read and set?
func goesRound(from, to []int) bool {
	for i := range to {
		at := i
		for range to {
			if at = slices.Index(to, from[at]); at < 0 {
				break
			}
			if at == i && from[i] != to[i] {
				return true
			}
		}
	}
	return false
}

// allLists calls for each list of so many slots below most.
func allLists(n, most int, do func(l []int)) {
	l := make([]int, n)
	for {
		do(l)
		i := 0
		for i < n && l[i] == most-1 {
			l[i] = 0
			i++
		}
		if i == n {
			return
		}
		l[i]++
	}
}

func twice(l []int) bool {
	l = slices.Sorted(slices.Values(l))
	return len(slices.Compact(slices.Clone(l))) < len(l)
}

// P13.4: all lists of up to four slots, of which none is set twice: as few moves as can be.
func TestAllShortMoves(t *testing.T) {
	t.Parallel()
	rounds := 0
	for n := range 5 {
		allLists(n, 5, func(to []int) {
			if twice(to) {
				return
			}
			allLists(n, 5, func(from []int) {
				l := moved(t, from, to, 5)
				if n < 3 || slices.Equal(to, []int{0, 1, 2, 3}[:n]) {
					if best := fewest(from, to, 5); len(l) != best {
						t.Fatal(from, to, l, best)
					}
				}
				if goesRound(from, to) {
					rounds++
				}
			})
		})
	}
	if rounds < 1000 {
		t.Error(rounds)
	}
}

// P13.4: by hand.
func TestMoves(t *testing.T) {
	for _, x := range []struct {
		from, to []int
		spare    int
		want     [][2]int
	}{
		{nil, nil, 9, nil},
		{[]int{3}, []int{3}, 9, nil},
		{[]int{3, 1, 2}, []int{3, 1, 2}, 9, nil},
		{[]int{3}, []int{4}, 9, [][2]int{{3, 4}}},
		{[]int{0, 1}, []int{1, 0}, 9, [][2]int{{1, 9}, {0, 1}, {9, 0}}},
		{[]int{0, 1}, []int{1, 0}, 2, [][2]int{{1, 2}, {0, 1}, {2, 0}}},
		{[]int{0, 1, 2}, []int{1, 2, 0}, 9, [][2]int{{1, 9}, {0, 1}, {2, 0}, {9, 2}}},
		{[]int{0, 1, 2}, []int{1, 2, 3}, 9, [][2]int{{2, 3}, {1, 2}, {0, 1}}},
		{[]int{0, 0, 0}, []int{1, 2, 3}, 9, [][2]int{{0, 1}, {0, 2}, {0, 3}}},
		{[]int{0, 0, 1}, []int{0, 1, 2}, 9, [][2]int{{1, 2}, {0, 1}}},
		{[]int{1, 0, 3, 2}, []int{0, 1, 2, 3}, 9, [][2]int{{0, 9}, {1, 0}, {9, 1}, {2, 9}, {3, 2}, {9, 3}}},
		{[]int{0, 1, 0}, []int{1, 0, 2}, 9, [][2]int{{0, 2}, {1, 0}, {2, 1}}},                       // what goes round is read once more
		{[]int{0, 1, 2, 5}, []int{1, 2, 0, 6}, 9, [][2]int{{5, 6}, {1, 9}, {0, 1}, {2, 0}, {9, 2}}}, // beside a round
		{[]int{0, 1, 7}, []int{1, 0}, 9, [][2]int{{1, 9}, {0, 1}, {9, 0}}},
		{[]int{0}, []int{1, 0}, 9, [][2]int{{0, 1}}},
		{[]int{0, 1}, nil, 9, nil},
		{nil, []int{0, 1}, 9, nil},
		{[]int{math.MaxInt, math.MinInt}, []int{math.MinInt, math.MaxInt}, -1, [][2]int{{math.MinInt, -1}, {math.MaxInt, math.MinInt}, {-1, math.MaxInt}}},
	} {
		if l := moved(t, x.from, x.to, x.spare); !slices.Equal(l, x.want) {
			t.Error(x.from, x.to, x.spare, l)
		}
	}
}

// P13.4: long lists, rounds of all lengths, some of whose slots are read once more, and lists of different lengths.
func TestManyMoves(t *testing.T) {
	t.Parallel()
	c := &chance{seed: 1}
	for range 3000 {
		n := 1 + c.below(60)
		slots := make([]int, n)
		for i := range slots {
			slots[i] = i
		}
		for i := range slots {
			j := i + c.below(n-i)
			slots[i], slots[j] = slots[j], slots[i]
		}
		to := slices.Clone(slots)
		from := slices.Clone(to)
		rounds, least := 0, 0
		for first := 0; first < n; { // rounds, one behind the other
			k := min(1+c.below(5), n-first)
			for i := range k {
				from[first+i] = to[first+(i+1)%k]
			}
			if first += k; k > 1 {
				rounds, least = rounds+1, least+k
			}
		}
		l := moved(t, from, to, n)
		if len(l) != least+rounds {
			t.Fatal(from, to, l)
		}
		for range c.below(4) { // others that read in rounds
			from, to = append(from, c.below(n)), append(to, len(to)+1)
		}
		moved(t, from, to, n)
		moved(t, from[:c.below(n)], to, n)
		moved(t, from, to[:c.below(n)], n)
	}
}

// P13.4: very long lists: a row, a round, one that all read.
func TestLongestMoves(t *testing.T) {
	const n = 1 << 17
	up := make([]int, n)
	next := make([]int, n)
	for i := range up {
		up[i], next[i] = i, (i+1)%n
	}
	if l := Moves(up, next, n); len(l) != n+1 || after(l)[0] != n-1 || after(l)[1] != 0 {
		t.Error("round", len(l))
	}
	if l := Moves(up[:n-1], next, n); len(l) != n-1 || l[0] != [2]int{n - 2, n - 1} {
		t.Error("row", len(l))
	}
	if l := Moves(make([]int, n), up, n); len(l) != n-1 {
		t.Error("one", len(l))
	}
}

// P5, rules 4 and 6: any lists: an end, the same again, in new memory; what is handed in stays.
func TestAnyMovesEnd(t *testing.T) {
	t.Parallel()
	c := &chance{seed: 2}
	for range 200000 {
		list := func() []int {
			l := make([]int, c.below(6), 8)
			for i := range l {
				l[i] = oneOf(c, 0, 1, 2, 3, 4, 5, -1, math.MaxInt)
			}
			return l
		}
		from, to, spare := list(), list(), oneOf(c, 0, 1, 2, 9, -1)
		f, o := slices.Clone(from), slices.Clone(to)
		l := Moves(from, to, spare)
		if !slices.Equal(l, Moves(from, to, spare)) || !slices.Equal(f, from) || !slices.Equal(o, to) || !reflect.DeepEqual(from[len(f):8], make([]int, 8-len(f))) {
			t.Fatal(f, o, spare)
		}
		if n := min(len(from), len(to)); !twice(to[:n]) && !slices.Contains(to[:n], spare) && !slices.Contains(from[:n], spare) {
			moved(t, from, to, spare)
		}
	}
}
