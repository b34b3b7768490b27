package gen

import "bellows/api"

// made writes an instruction of values that are worked out ahead of it.
func (f *function) made(e *api.Flat, g goal) {
	l := f.values(e.L)
	at := func(i int) int {
		for i >= len(l) {
			l = append(l, f.constant(0))
		}
		return l[i]
	}
	if e.Kind == api.LPrim && e.Name == "print" { // of the image's last function
		f.call(f.m.Main+1, []int{at(0), f.constant(0)}, g)
		return
	}
	n := int(e.N)
	d := f.into(e.Ty, g)
	switch e.Kind {
	case api.LText:
		f.add(api.Instr{Op: api.OpText, D: d, A: f.texts[e.Name]})
	case api.LNew:
		f.add(api.Instr{Op: api.OpNew, D: d, A: n, L: l})
	case api.LField:
		f.add(api.Instr{Op: api.OpField, D: d, A: at(0), B: n})
	case api.LSet:
		f.add(api.Instr{Op: api.OpStore, A: at(0), B: n, C: at(1)})
		f.nothing(d)
	case api.LArray:
		f.add(api.Instr{Op: api.OpArray, D: d, A: n, B: at(0), C: at(1)})
	case api.LPrim:
		f.prim(e.Name, d, at)
	default:
		f.add(api.Instr{Op: api.OpConst, D: d, N: e.N})
	}
	f.done(d, g)
}

// nothing is the value of what is done for something else.
func (f *function) nothing(d int) { f.add(api.Instr{Op: api.OpConst, D: d}) }

// prim writes a reckoning of values that are asked for by their numbers.
func (f *function) prim(name string, d int, at func(i int) int) {
	switch name {
	case ">":
		f.reckon(api.Lt, d, at(1), at(0))
	case ">=":
		f.reckon(api.Le, d, at(1), at(0))
	case "<>":
		is := f.place(numbers)
		f.reckon(api.Eq, is, at(0), at(1))
		f.reckon(api.Eq, d, f.constant(0), is)
	case "^":
		f.add(api.Instr{Op: api.OpCat, D: d, A: at(0), B: at(1)})
	case "size", "length":
		f.add(api.Instr{Op: api.OpLen, D: d, A: at(0)})
	case "byte":
		f.add(api.Instr{Op: api.OpByte, D: d, A: at(0), B: at(1)})
	case "cmp":
		f.add(api.Instr{Op: api.OpCmp, D: d, A: at(0), B: at(1)})
	case "sub":
		f.add(api.Instr{Op: api.OpAt, D: d, A: at(0), B: at(1)})
	case "update":
		f.add(api.Instr{Op: api.OpPut, A: at(0), B: at(1), C: at(2)})
		f.nothing(d)
	case "putc":
		f.add(api.Instr{Op: api.OpOut, A: at(0)})
		f.nothing(d)
	case "getc":
		f.add(api.Instr{Op: api.OpIn, D: d})
	default:
		f.reckon(reckoning(name), d, at(0), at(1))
	}
}

func (f *function) reckon(n int64, d, a, b int) {
	f.add(api.Instr{Op: api.OpPrim, N: n, D: d, A: a, B: b})
}

// reckoning is a reckoning's number, if it is the machine's own.
func reckoning(name string) int64 {
	switch name {
	case "+":
		return api.Add
	case "-":
		return api.Sub
	case "*":
		return api.Mul
	case "div":
		return api.Div
	case "mod":
		return api.Mod
	case "<":
		return api.Lt
	case "<=":
		return api.Le
	case "=":
		return api.Eq
	}
	return 0
}
