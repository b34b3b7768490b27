package verify

import (
	"slices"

	"bellows/api"
	"bellows/code"
)

// needWhole asks for the limits first: lists that are known to be short can be gone through.
func needWhole(m api.Image) {
	need(code.Check(m) == api.OK)
	need(has(m.Types, 0) && m.Types[0].Imm && len(m.Types[0].Shapes) == 0)
	need(has(m.Shapes, textShape) && m.Shapes[textShape].Kind == api.Bytes)
	for _, t := range m.Types {
		need(rises(t.Shapes) && hasAll(m.Shapes, t.Shapes))
	}
	for _, s := range m.Shapes {
		need(mayBe(s) && hasAll(m.Types, s.Fields))
	}
	need(has(m.Types, m.Exn) && thrown(m, m.Types[m.Exn]))
	need(has(m.Funcs, m.Main) && len(m.Funcs[m.Main].Params) == 0)
	for _, f := range m.Funcs {
		needWholeFunc(m, f)
	}
}

func needWholeFunc(m api.Image, f api.Func) {
	need(hasAll(m.Types, f.Params) && has(m.Types, f.Result))
	need(len(f.Params) <= f.Slots) // so Slots is 0 or more
	need(len(f.Blocks) > 0)
	for _, b := range f.Blocks {
		need(len(b.In) == f.Slots)
		for _, n := range b.In {
			need(n == none || has(m.Types, n))
		}
	}
	first := f.Blocks[0].In
	need(slices.Equal(first[:len(f.Params)], f.Params))
	for _, n := range first[len(f.Params):] {
		need(n == none)
	}
}

// mayBe: does a shape have as many Fields as one of its kind may?
func mayBe(s api.Shape) bool {
	switch s.Kind {
	case api.Record:
		return true
	case api.Array:
		return len(s.Fields) == 1
	case api.Bytes:
		return len(s.Fields) == 0
	}
	return false
}

// thrown: may a type be that of exceptions?
func thrown(m api.Image, t api.Type) bool {
	return t.Imm && !slices.ContainsFunc(t.Shapes, func(shape int) bool { return m.Shapes[shape].Kind != api.Record })
}

// has: is n the number of an element?
func has[E any](l []E, n int) bool { return 0 <= n && n < len(l) }

func hasAll[E any](l []E, numbers []int) bool {
	return !slices.ContainsFunc(numbers, func(n int) bool { return !has(l, n) })
}

// rises: is each number above the one ahead of it?
func rises(l []int) bool {
	for i := range l {
		if i > 0 && l[i-1] >= l[i] {
			return false
		}
	}
	return true
}
