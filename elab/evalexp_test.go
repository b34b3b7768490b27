package elab

import (
	"strconv"
	"strings"

	"bellows/api"
)

// what is what names mean while an expression is worked out: values, and which constructor it is (by where it is declared).
type what struct {
	name string
	con  bool
	v    any
	next *what
}

func (w *what) add(name string, v any) *what { return &what{name, false, v, w} }

func (w *what) addCon(k api.Con) *what { return &what{k.Name, true, k, w} }

func (w *what) get(name string, con bool) any {
	for ; w != nil; w = w.next {
		if w.name == name && w.con == con {
			return w.v
		}
	}
	panic("a name that isn't known: " + name)
}

// place tells constructors apart: those that there are to begin with stand nowhere.
func place(k api.Con) string { return k.Name + "@" + strconv.Itoa(k.At) }

// ofName is a constructor that there is to begin with.
func ofName(name string) *built {
	return &built{id: place(api.Con{Name: name, At: -1}), name: name}
}

// evalExp is what an expression does by itself, as the document says.
func evalExp(e api.Exp, in string, fuel int) ran {
	r := &run{in: []byte(in), fuel: fuel, exn: ofName}
	return r.all(func() any { return r.exp(&e, r.begin()) })
}

func isTrue(is bool) any { return ofName(strconv.FormatBool(is)) }

func (r *run) begin() *what {
	var w *what
	for _, name := range strings.Fields("true false Nil Match Div Subscript Size") {
		w = w.addCon(api.Con{Name: name, At: -1})
	}
	w = w.addCon(api.Con{Name: "Cons", At: -1, Has: true})
	for _, name := range strings.Fields("print putc size ref length") {
		w = w.add(name, func(x any) any { return r.reckon(name, []any{x}, isTrue) })
	}
	for _, name := range strings.Fields("getc byte cmp array sub update") {
		w = w.add(name, func(x any) any { return r.reckon(name, x.([]any), isTrue) })
	}
	return w
}

func (r *run) exps(l []api.Exp, w *what) []any {
	all := []any{}
	for i := range l {
		all = append(all, r.exp(&l[i], w))
	}
	return all
}

func (r *run) exp(e *api.Exp, w *what) any {
	r.step()
	switch e.Kind {
	case api.EInt:
		return e.N
	case api.EText:
		return e.Name
	case api.EVar:
		return w.get(e.Name, false)
	case api.ECon:
		k := w.get(e.Name, true).(api.Con)
		if k.Has {
			return func(x any) any { return &built{place(k), k.Name, x} }
		}
		return &built{place(k), k.Name, nil}
	case api.EApp:
		l := r.exps(e.L, w)
		return l[0].(func(any) any)(l[1])
	case api.EFn:
		return func(x any) any { return r.must(e.Cases, x, w) }
	case api.ECase:
		return r.must(e.Cases, r.exp(&e.L[0], w), w)
	case api.ELet:
		for i := range e.Decs {
			w = r.dec(&e.Decs[i], w)
		}
		return r.exp(&e.L[0], w)
	case api.ETuple:
		return r.exps(e.L, w)
	case api.ERaise:
		panic(thrown{r.exp(&e.L[0], w).(*built)})
	case api.EHandle:
		v, m := r.caught(func() any { return r.exp(&e.L[0], w) })
		if m == nil {
			return v
		}
		x, is := r.first(e.Cases, m, w)
		if !is {
			panic(thrown{m})
		}
		return x
	}
	return r.reckon(e.Name, r.exps(e.L, w), isTrue)
}

func (r *run) must(l []api.Case, v any, w *what) any {
	x, is := r.first(l, v, w)
	if !is {
		panic("no way fits")
	}
	return x
}

func (r *run) first(l []api.Case, v any, w *what) (any, bool) {
	for i := range l {
		if in, is := expFits(&l[i].P, v, w); is {
			return r.exp(&l[i].E, in), true
		}
	}
	return nil, false
}

// expFits adds a pattern's variables, if it fits.
func expFits(p *api.Pat, v any, w *what) (*what, bool) {
	switch p.Kind {
	case api.PVar:
		return w.add(p.Name, v), true
	case api.PInt:
		return w, v.(int64) == p.N
	case api.PCon:
		m := v.(*built)
		if m.id != place(w.get(p.Name, true).(api.Con)) {
			return w, false
		}
		if len(p.L) > 0 {
			return expFits(&p.L[0], m.arg, w)
		}
	case api.PTuple:
		for i, x := range v.([]any) {
			var is bool
			if w, is = expFits(&p.L[i], x, w); !is {
				return w, false
			}
		}
	}
	return w, true
}

func (r *run) dec(d *api.Dec, w *what) *what {
	switch d.Kind {
	case api.DVal:
		in, is := expFits(&d.P, r.exp(&d.E, w), w)
		if !is {
			panic("a val that doesn't fit")
		}
		return in
	case api.DFun:
		in := w
		for i := range d.Funs {
			in = in.add(d.Funs[i].Name, nil)
		}
		for i, x := len(d.Funs)-1, in; i >= 0; i, x = i-1, x.next {
			x.v = r.exp(&d.Funs[i].E, in)
		}
		return in
	}
	for _, k := range d.Cons {
		w = w.addCon(k)
	}
	return w
}
