package elab

import "bellows/api"

// writer writes cores, with the numbers of the type variables that are bound where it is; others are () for good.
type writer struct {
	gens  map[*typ]int
	done  map[*typ]api.T // types that were written here
	count int            // how many type variables were bound
	cover cover
}

func newWriter(datas []api.Data) *writer {
	return &writer{gens: map[*typ]int{}, done: map[*typ]api.T{}, cover: newCover(datas)}
}

func (w *writer) t(t *typ) api.T {
	t = t.last()
	if x, is := w.done[t]; is {
		return x
	}
	x := api.T{Kind: t.kind, Name: t.name, L: w.ts(t.args)}
	if t.kind == api.XVar {
		x = w.v(t)
	}
	w.done[t] = x
	return x
}

func (w *writer) v(t *typ) api.T {
	if n, is := w.gens[t]; is {
		return api.T{Kind: api.XVar, N: n}
	}
	return api.T{Kind: api.XTup}
}

func (w *writer) ts(l []*typ) []api.T {
	var types []api.T
	for _, t := range l {
		types = append(types, w.t(t))
	}
	return types
}

func (w *writer) each(l []part) []api.Core {
	var cores []api.Core
	for _, p := range l {
		cores = append(cores, p(w))
	}
	return cores
}

func (w *writer) pats(l []patPart) []api.CPat {
	var pats []api.CPat
	for _, p := range l {
		pats = append(pats, p(w))
	}
	return pats
}

// bind writes what a variable is, in which its type variables are known. They are only there: two functions of one fun may have the same ones, each by numbers of its own.
func (w *writer) bind(v *variable, x part) api.CoreFun {
	f := api.CoreFun{Id: v.id}
	if len(v.gens) > 0 {
		done := w.done
		w.done = map[*typ]api.T{}
		defer func() {
			w.done = done
			for _, g := range v.gens {
				delete(w.gens, g)
			}
		}()
	}
	for _, g := range v.gens {
		w.gens[g] = w.count
		f.Gen = append(f.Gen, w.count)
		w.count++
	}
	f.T, f.E = w.t(v.t), x(w)
	return f
}

// choice is a KCase, of which some way must fit.
func (w *writer) choice(x api.Core, ways []api.Way, t api.T) api.Core {
	var l []api.CPat
	for i := range ways {
		l = append(l, ways[i].P)
	}
	if !w.cover.each(x.T, l) {
		panic(refused{api.ErrType, 0})
	}
	return api.Core{Kind: api.KCase, T: t, L: []api.Core{x}, Ways: ways}
}

// written are the datatypes.
func (c *checker) written() []api.Data {
	var l []api.Data
	for _, f := range c.datas {
		w := newWriter(nil)
		d := api.Data{Name: f.name}
		for i, v := range f.vars {
			w.gens[v] = i
			d.Vars = append(d.Vars, i)
		}
		for _, k := range f.cons {
			con := api.DataCon{Name: k.name, Has: k.has}
			if k.has {
				con.Arg = w.t(k.arg)
			}
			d.Cons = append(d.Cons, con)
		}
		l = append(l, d)
	}
	return l
}
