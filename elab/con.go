package elab

import (
	"slices"
	"strconv"

	"bellows/api"
)

// family is what a type's name means: the types that it makes, of others in the places of vars.
type family struct {
	name string
	vars []*typ
	t    *typ
	cons []*constructor
}

// constructor is one: its name, which family's, what it has.
type constructor struct {
	name string
	of   *family
	has  bool
	arg  *typ
}

// next is a name, and how many of it there were ahead.
func next(counts map[string]int, name string) string {
	n := counts[name]
	counts[name]++
	if n == 0 {
		return name
	}
	return name + "#" + strconv.Itoa(n)
}

func (c *checker) addFamily(name string, vars ...*typ) *family {
	f := &family{name: next(c.typeNames, name), vars: vars}
	f.t = named(f.name, vars...)
	c.types.add(name, f)
	return f
}

// addCon adds what a declaration says of a constructor.
func (c *checker) addCon(f *family, d *api.Con, params map[string]*typ) {
	k := &constructor{of: f, has: d.Has}
	if d.Has {
		k.arg = c.ty(&d.Ty, params, f)
	}
	k.name = next(c.conNames, d.Name)
	f.cons = append(f.cons, k)
	c.cons.add(d.Name, k)
}

// construct is a constructor that isn't called.
func (c *checker) construct(k *constructor) (*typ, part) {
	if k.has {
		return c.function(c.constructOf(k))
	}
	inst, with := c.anew(k.of.vars)
	t := with(k.of.t)
	return t, func(w *writer) api.Core {
		return api.Core{Kind: api.KCon, Name: k.name, T: w.t(t), Inst: w.ts(inst)}
	}
}

// constructOf makes what a constructor is of x.
func (c *checker) constructOf(k *constructor) func(*typ, part) (*typ, part) {
	return func(from *typ, x part) (*typ, part) {
		inst, with := c.anew(k.of.vars)
		t := with(k.of.t)
		c.same(with(k.arg), from)
		return t, func(w *writer) api.Core {
			return api.Core{Kind: api.KCon, Name: k.name, T: w.t(t), Inst: w.ts(inst), L: []api.Core{x(w)}}
		}
	}
}

// ty is a written type: params are the type variables that it may have, own is what is being declared.
func (c *checker) ty(t *api.Ty, params map[string]*typ, own *family) *typ {
	switch t.Kind {
	case api.TVar:
		v := params[t.Name]
		if v == nil {
			refuseName(t.At)
		}
		return v
	case api.TCon:
		return c.applied(t, params, own)
	case api.TArrow:
		form(len(t.L) == 2)
		return made(api.XFun, "", c.tys(t.L, params, own)...)
	case api.TTuple:
		return tuple(c.tys(t.L, params, own)...)
	}
	panic(refused{api.ErrArg, 0})
}

func (c *checker) tys(l []api.Ty, params map[string]*typ, own *family) []*typ {
	var types []*typ
	for i := range l {
		types = append(types, c.ty(&l[i], params, own))
	}
	return types
}

// applied is what a type's name makes of others.
func (c *checker) applied(t *api.Ty, params map[string]*typ, own *family) *typ {
	args := c.tys(t.L, params, own)
	f := known(&c.types, t.Name, t.At)
	if len(args) != len(f.vars) || f == own && !slices.Equal(args, f.vars) {
		c.note(api.ErrType)
		return c.unit
	}
	return named(f.name, args...)
}
