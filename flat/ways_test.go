package flat

import (
	"fmt"
	"maps"
	"slices"
	"strconv"

	"bellows/api"
)

// walk is one of a way through the switches of a case: what is known there.
type walk struct {
	c      *pairing
	k      *api.Core
	root   api.T
	labels map[int]int       // the ways of labels
	apart  map[int]*api.Flat // what else stands at labels
	vars   map[int]string    // at which places the variables stand
	bound  map[string]bool   // places that were bound on the way
	known  map[string]fact   // of places
	used   map[int]bool
}

// fact is what is known of a place: the number or the shape that it is, or that it is no shape, and none of some numbers.
type fact struct {
	shape, other bool
	n            int64
	none         []int64
}

// The answers to a question about what is known.
const (
	no = iota
	unknown
	yes
)

// ways: P12.4.
func (c *pairing) ways(k *api.Core, id, ty int, root api.T, x *api.Flat) {
	w := &walk{c: c, k: k, root: root, labels: map[int]int{}, apart: map[int]*api.Flat{}, vars: map[int]string{id: "."}, bound: map[string]bool{".": true}, known: map[string]fact{}, used: map[int]bool{id: true}}
	for i := range k.Ways {
		c.must(x.Kind == api.LJoin && len(x.L) == 2, "a way", x)
		_, is := w.labels[x.Id]
		c.must(!is, "a label twice", x.Id)
		w.labels[x.Id] = i
		vars := varsOf(&k.Ways[i].P)
		c.must(len(vars) == len(x.Params), "how many variables", x.Params)
		for j, v := range vars {
			c.must(x.Params[j].Id == v.Id, "a pattern's variable", x.Params[j])
			c.stands(v.T, x.Params[j].Ty)
		}
		c.core(&k.Ways[i].E, &x.L[0])
		c.stands(k.T, x.Ty)
		x = &x.L[1]
	}
	w.flat(x)
}

// varsOf are the variables of a pattern, in the order in which they stand.
func varsOf(p *api.CPat) []*api.CPat {
	if p.Kind == api.PVar {
		return []*api.CPat{p}
	}
	var l []*api.CPat
	for i := range p.L {
		l = append(l, varsOf(&p.L[i])...)
	}
	return l
}

func (w *walk) must(is bool, what string, x any) {
	if !is {
		w.c.must(false, fmt.Sprint(what, " where ", w.known), x)
	}
}

// flat goes on through what is done where that is known.
func (w *walk) flat(x *api.Flat) {
	switch x.Kind {
	case api.LLet:
		w.part(x)
	case api.LSwitch:
		w.branch(x)
	case api.LJump:
		w.jump(x)
	case api.LJoin: // what is written by itself, since else there would be too much
		w.c.count["apart"]++
		w.apart[x.Id] = x
		w.flat(&x.L[1])
	case api.LRaise:
		w.must(w.k.Kind == api.KHandle && x.L[0].Kind == api.LVar && w.vars[x.L[0].Id] == ".", "what is raised", x)
		w.used[x.L[0].Id] = true
		for i := range w.k.Ways {
			w.must(w.fits(&w.k.Ways[i].P, ".") == no, "a way that fits", i)
		}
		w.c.count["raised again"]++
	default:
		w.must(false, "no switch", x)
	}
}

// part is one that is bound: never twice on a way, and not without need.
func (w *walk) part(x *api.Flat) {
	e := x.L[0]
	w.must(e.Kind == api.LField && e.L[0].Kind == api.LVar, "a part", e)
	in, is := w.vars[e.L[0].Id]
	w.must(is, "a variable of a place", e)
	w.used[e.L[0].Id] = true
	place := w.place(in, e)
	w.must(!w.bound[place], "a part twice", place)
	_, is = w.vars[x.Id]
	w.must(!is && !w.used[x.Id], "a variable twice", x.Id)
	w.vars[x.Id], w.bound[place] = place, true
	w.flat(&x.L[1])
	w.must(w.used[x.Id], "a part without need", place)
	delete(w.vars, x.Id)
	delete(w.bound, place)
}

// place is what a field is of: it is told by the shape that holds it, and by which one it is.
func (w *walk) place(in string, e api.Flat) string {
	shapes := w.c.x.Types[e.L[0].Ty].Shapes
	w.must(len(shapes) == 1, "a part of what isn't of one shape alone", e)
	if f, is := w.known[in]; is {
		w.must(f.shape && f.n == int64(shapes[0]), "a part of what is something else", e)
	}
	return in + strconv.Itoa(shapes[0]) + "-" + strconv.FormatInt(e.N, 10) + "."
}

// branch is a switch: on what isn't known, and is asked by the first way that may fit.
func (w *walk) branch(x *api.Flat) {
	v := x.L[0]
	place, is := w.vars[v.Id]
	w.must(v.Kind == api.LVar && is, "what is looked at", v)
	_, is = w.known[place]
	w.must(!is, "looked at twice", place)
	w.used[v.Id] = true
	of := w.needs(place)
	w.arms(x, of, place)
	var none []int64
	for i := range x.Nums {
		none = append(none, x.Nums[i].N)
	}
	ends := w.ends(x, place, none)
	if w.c.random != nil {
		ends = []func(){ends[w.c.random.below(len(ends))]}
	}
	for _, end := range ends {
		end()
	}
	delete(w.known, place)
}

// ends are where a switch may go on.
func (w *walk) ends(x *api.Flat, place string, none []int64) []func() {
	var l []func()
	to := func(f fact, e *api.Flat) {
		l = append(l, func() { w.known[place] = f; w.flat(e) })
	}
	for i := range x.Nums {
		to(fact{n: x.Nums[i].N}, &x.Nums[i].E)
	}
	for i := range x.Shapes {
		to(fact{shape: true, n: x.Shapes[i].N}, &x.Shapes[i].E)
	}
	if len(x.L) == 2 {
		to(fact{other: true, none: none}, &x.L[1])
	}
	w.must(len(l) > 0, "a switch that goes nowhere", x)
	return l
}

// needs is the pattern by which the first way that may fit asks of a place.
func (w *walk) needs(place string) *api.CPat {
	for i := range w.k.Ways {
		switch w.fits(&w.k.Ways[i].P, ".") {
		case unknown:
			p := w.asks(&w.k.Ways[i].P, ".", place)
			w.must(p != nil, "looked at without need", place)
			return p
		case yes:
			w.must(false, "looked at where it is known which way fits", place)
		}
	}
	w.must(false, "looked at where no way fits", place)
	return nil
}

// arms looks at those of a switch that the pattern asks for.
func (w *walk) arms(x *api.Flat, p *api.CPat, place string) {
	rising := func(a, b api.Arm) int { return int(min(max(a.N-b.N, -1), 1)) }
	w.must(slices.IsSortedFunc(x.Nums, rising) && slices.IsSortedFunc(x.Shapes, rising), "arms that don't rise", x)
	for i := range max(len(x.Nums), 1) - 1 {
		w.must(x.Nums[i].N != x.Nums[i+1].N, "a number twice", x)
	}
	w.c.count["switches of "+strconv.Itoa(min(len(x.Nums), 2))+" numbers, "+strconv.Itoa(min(len(x.Shapes), 2))+" shapes, "+strconv.Itoa(len(x.L)-1)+" other"]++
	for _, a := range x.Nums {
		w.must(w.named(fact{n: a.N}, place), "a number without need", a.N)
	}
	if p.Kind == api.PInt {
		w.must(len(x.Shapes) == 0 && len(x.Nums) > 0 && len(x.L) == 2, "a switch on an int", x)
		return
	}
	d := w.c.cons[p.Name].all
	shapes := w.c.x.Types[w.c.stood[d.Name]].Shapes
	var have []int
	for _, a := range x.Shapes {
		have = append(have, int(a.N))
	}
	w.must(slices.Equal(have, shapes), "the shapes of "+d.Name, x)
	for _, s := range w.c.x.Types[x.L[0].Ty].Shapes {
		w.must(slices.Contains(have, s), "a shape of the variable's type", x)
	}
	for _, a := range x.Nums {
		w.must(a.N >= 0 && a.N < int64(numbersOf(d)), "a number of "+d.Name, a.N)
	}
	w.must((len(x.L) == 2) == (len(x.Nums) < numbersOf(d)), "whether there is an else", x)
	w.must(len(d.Cons) > 1, "a switch without need", d)
}

// named: does a way that may be the first one that fits ask whether a place is that?
func (w *walk) named(f fact, place string) bool {
	w.known[place] = f
	defer delete(w.known, place)
	for i := range w.k.Ways {
		p := &w.k.Ways[i].P
		is := w.fits(p, ".")
		if is != no && w.asksFor(p, ".", place) {
			return true
		}
		if is == yes {
			return false
		}
	}
	return false
}

// asksFor: does the pattern ask what stands at a place?
func (w *walk) asksFor(p *api.CPat, at, place string) bool {
	if at == place && (p.Kind == api.PInt || p.Kind == api.PCon && !w.c.through(w.c.cons[p.Name].all)) {
		return true
	}
	for i := range p.L {
		if w.asksFor(&p.L[i], w.inside(p, at, i), place) {
			return true
		}
	}
	return false
}

// jump is an end: the first way that fits.
func (w *walk) jump(x *api.Flat) {
	if j := w.apart[x.Id]; j != nil {
		w.jumpApart(x, j)
		return
	}
	n, is := w.labels[x.Id]
	w.must(is, "a jump to nowhere", x)
	for i := range w.k.Ways[:n] {
		w.must(w.fits(&w.k.Ways[i].P, ".") == no, "another way that may fit ahead of "+strconv.Itoa(n), i)
	}
	p := &w.k.Ways[n].P
	w.must(w.fits(p, ".") == yes, "a way that may not fit", n)
	w.c.count["jumps"]++
	var l []*api.Flat
	for i := range x.L {
		l = append(l, &x.L[i])
	}
	w.must(len(w.variables(p, ".", l)) == 0, "what is jumped with", x)
}

// jumpApart goes on at a label, whose parameters stand where what is jumped with did.
func (w *walk) jumpApart(x, j *api.Flat) {
	inner := *w
	inner.vars, inner.bound, inner.used = map[int]string{}, maps.Clone(w.bound), map[int]bool{}
	w.must(len(x.L) == len(j.Params), "what is jumped with", x)
	for i, p := range j.Params {
		w.must(x.L[i].Kind == api.LVar && w.vars[x.L[i].Id] != "", "what is jumped with", x)
		w.used[x.L[i].Id] = true
		inner.vars[p.Id] = w.vars[x.L[i].Id]
	}
	inner.flat(&j.L[0])
}

// variables looks that what is jumped with is what the pattern's variables stand for; what is left is of those behind.
func (w *walk) variables(p *api.CPat, place string, l []*api.Flat) []*api.Flat {
	if p.Kind == api.PVar {
		w.must(len(l) > 0, "too little is jumped with", p)
		w.argument(l[0], place)
		return l[1:]
	}
	for i := range p.L {
		l = w.variables(&p.L[i], w.inside(p, place, i), l)
	}
	return l
}

// argument is what stands at a place; at that of a tuple which a constructor has in parts it is a new one.
func (w *walk) argument(x *api.Flat, place string) {
	if place[len(place)-1] == '.' {
		w.must(x.Kind == api.LVar && w.vars[x.Id] == place, "an argument isn't what stands at "+place, x)
		w.used[x.Id] = true
		return
	}
	w.c.count["tuples made"]++
	w.must(x.Kind == api.LNew, "a tuple that is made", x)
	for i := range x.L {
		w.argument(&x.L[i], place+strconv.Itoa(i)+".")
	}
}

// inside is the place of a part of a pattern. (Where a constructor has a tuple in parts, that of the tuple ends as the beginning of those of its parts does.)
func (w *walk) inside(p *api.CPat, place string, i int) string {
	if p.Kind == api.PTuple {
		if place[len(place)-1] != '.' {
			return place + strconv.Itoa(i) + "."
		}
		return place + strconv.Itoa(w.c.of[toldT(p.T)]) + "-" + strconv.Itoa(i) + "."
	}
	k := w.c.cons[p.Name]
	if w.c.through(k.all) {
		return place
	}
	place += strconv.Itoa(w.c.of["con "+p.Name]) + "-"
	if len(k.has()) == 1 {
		place += "0."
	}
	return place
}

// fits: does the pattern fit what stands at a place, as far as it is known?
func (w *walk) fits(p *api.CPat, place string) int {
	is := w.here(p, place)
	for i := 0; i < len(p.L) && is != no; i++ {
		is = min(is, w.fits(&p.L[i], w.inside(p, place, i)))
	}
	return is
}

// here is what is known of the pattern itself, without its parts.
func (w *walk) here(p *api.CPat, place string) int {
	f, is := w.known[place]
	want := fact{n: p.N}
	switch p.Kind {
	case api.PAny, api.PVar, api.PTuple:
		return yes
	case api.PCon:
		k := w.c.cons[p.Name]
		if len(k.all.Cons) == 1 {
			return yes
		}
		n, number := k.number()
		want = fact{n: int64(n)}
		if !number {
			want = fact{shape: true, n: int64(w.c.of["con "+p.Name])}
		}
	}
	switch {
	case !is:
		return unknown
	case f.other && (want.shape || slices.Contains(f.none, want.n)):
		return no
	case f.other:
		return unknown
	case f.shape == want.shape && f.n == want.n:
		return yes
	}
	return no
}

// asks is the pattern that stands at a place in one, if it isn't known there whether it fits.
func (w *walk) asks(p *api.CPat, at, place string) *api.CPat {
	if at == place && w.here(p, at) == unknown {
		return p
	}
	for i := range p.L {
		if x := w.asks(&p.L[i], w.inside(p, at, i), place); x != nil {
			return x
		}
	}
	return nil
}
