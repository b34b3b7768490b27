package parse

import (
	"slices"

	"bellows/api"
)

// plainRule is one way of a name of a plain grammar, in which there is nothing but rows.
type plainRule struct {
	name string
	row  []*part
}

// plain writes a grammar with rows alone: what is repeated, and what has several ways, gets a name.
func plain(rules map[string]*part) []plainRule {
	var l []plainRule
	var name func(p *part) *part
	names := map[*part]*part{}
	row := func(parts []*part) []*part {
		var r []*part
		for _, q := range parts {
			r = append(r, name(q))
		}
		return r
	}
	add := func(to *part, parts ...*part) { l = append(l, plainRule{to.text, row(parts)}) }
	name = func(p *part) *part {
		if p.op == "sign" || p.op == "kind" || p.op == "rule" {
			return p
		}
		if to := names[p]; to != nil {
			return to
		}
		to := &part{op: "rule", text: "#" + string(rune('A'+len(names)))}
		names[p] = to
		switch p.op {
		case "or":
			for _, q := range p.l {
				add(to, q)
			}
		case "row":
			add(to, p.l...)
		case "?":
			add(to)
			add(to, p.l[0])
		case "*":
			add(to)
			add(to, to, p.l[0])
		case "+":
			add(to, p.l[0])
			add(to, to, p.l[0])
		}
		return to
	}
	for _, key := range sortedNames(rules) {
		add(&part{text: key}, rules[key])
	}
	return l
}

func sortedNames(rules map[string]*part) []string {
	var l []string
	for name := range rules {
		l = append(l, name)
	}
	slices.Sort(l)
	return l
}

// item is a rule, of which the first parts are there since a place.
type item struct{ rule, done, from int }

// viable finds out, without choosing any way, how many of the tokens some program begins with, and whether all of them are a program.
type viable struct {
	rules []plainRule
	ways  map[string][]int
	sets  [][]item
}

func newViable(rules []plainRule) *viable {
	v := &viable{rules: rules, ways: map[string][]int{}}
	for i, r := range rules {
		v.ways[r.name] = append(v.ways[r.name], i)
	}
	return v
}

// next is the part behind what is there of an item, nil, if all is there.
func (v *viable) next(x item) *part {
	if r := v.rules[x.rule].row; x.done < len(r) {
		return r[x.done]
	}
	return nil
}

// fill adds what follows from the items of the last set.
func (v *viable) fill(seen map[item]bool) {
	at := len(v.sets) - 1
	add := func(x item) {
		if !seen[x] {
			seen[x] = true
			v.sets[at] = append(v.sets[at], x)
		}
	}
	empty := map[string]bool{} // names that are there, with no token
	for i := 0; i < len(v.sets[at]); i++ {
		x := v.sets[at][i]
		p := v.next(x)
		switch {
		case p == nil:
			name := v.rules[x.rule].name
			if x.from == at {
				empty[name] = true
			}
			for _, y := range slices.Clone(v.sets[x.from]) {
				if q := v.next(y); q != nil && q.op == "rule" && q.text == name {
					add(item{y.rule, y.done + 1, y.from})
				}
			}
		case p.op == "rule":
			for _, way := range v.ways[p.text] {
				add(item{way, 0, at})
			}
			if empty[p.text] {
				add(item{x.rule, x.done + 1, x.from})
			}
		}
	}
}

// count is how many tokens some program begins with, and whether they are all, and are one.
func (v *viable) count(tokens []api.Token) (int, bool) {
	v.sets = [][]item{nil}
	seen := map[item]bool{}
	for _, way := range v.ways["program"] {
		v.sets[0] = append(v.sets[0], item{way, 0, 0})
		seen[item{way, 0, 0}] = true
	}
	for at, t := range tokens {
		v.fill(seen)
		var set []item
		seen = map[item]bool{}
		for _, x := range v.sets[at] {
			if p := v.next(x); p != nil && p.op != "rule" && p.takes(t) {
				y := item{x.rule, x.done + 1, x.from}
				set = append(set, y)
				seen[y] = true
			}
		}
		if len(set) == 0 {
			return at, false
		}
		v.sets = append(v.sets, set)
	}
	v.fill(seen)
	for _, x := range v.sets[len(tokens)] {
		if v.next(x) == nil && x.from == 0 && v.rules[x.rule].name == "program" {
			return len(tokens), true
		}
	}
	return len(tokens), false
}
