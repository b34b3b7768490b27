package elab

import "bellows/api"

// thing is a value, as far as patterns ask for it: a number, a constructor with what it has, a tuple, or what nothing asks for.
type thing struct {
	kind int
	name string
	n    int64
	l    []thing
}

func fits(p api.CPat, v thing) bool {
	switch p.Kind {
	case api.PAny, api.PVar:
		return true
	case api.PInt:
		return v.kind == api.PInt && p.N == v.n
	case api.PCon:
		return v.kind == api.PCon && p.Name == v.name && fitAll(p.L, v.l)
	case api.PTuple:
		return v.kind == api.PTuple && fitAll(p.L, v.l)
	}
	return false
}

func fitAll(l []api.CPat, of []thing) bool {
	if len(l) != len(of) {
		return false
	}
	for i, p := range l {
		if !fits(p, of[i]) {
			return false
		}
	}
	return true
}

// rowsOf are all rows of one of each list.
func rowsOf(l [][]thing) [][]thing {
	all := [][]thing{nil}
	for _, some := range l {
		var more [][]thing
		for _, row := range all {
			for _, x := range some {
				more = append(more, append(row[:len(row):len(row)], x))
			}
		}
		all = more
	}
	return all
}

// things are values of a type, all that are told apart by patterns.
func things(datas []api.Data, t api.T, l []api.CPat) []thing {
	asked := false
	for _, p := range l {
		asked = asked || p.Kind != api.PAny && p.Kind != api.PVar
	}
	if !asked {
		return []thing{{}}
	}
	switch {
	case t.Kind == api.XTup:
		return thingsOf(datas, thing{kind: api.PTuple}, t.L, l)
	case t.Kind == api.XCon && t.Name == "int":
		all := []thing{{kind: api.PInt, n: 1 << 60}}
		for _, p := range l {
			if p.Kind == api.PInt {
				all = append(all, thing{kind: api.PInt, n: p.N})
			}
		}
		return all
	case t.Kind == api.XCon:
		for _, d := range datas {
			if d.Name == t.Name {
				return dataThings(datas, d, t.L, l)
			}
		}
	}
	return []thing{{}}
}

func dataThings(datas []api.Data, d api.Data, args []api.T, l []api.CPat) []thing {
	var all []thing
	if d.Name == "exn" || len(d.Cons) == 0 {
		all = append(all, thing{})
	}
	for _, c := range d.Cons {
		var of []api.T
		if c.Has {
			of = []api.T{putT(c.Arg, d.Vars, args)}
		}
		all = append(all, thingsOf(datas, thing{kind: api.PCon, name: c.Name}, of, l)...)
	}
	return all
}

// thingsOf are values that are made in one way, of parts of these types.
func thingsOf(datas []api.Data, made thing, of []api.T, l []api.CPat) []thing {
	var parts [][]thing
	for i, t := range of {
		var sub []api.CPat
		for _, p := range l {
			if p.Kind == made.kind && p.Name == made.name && len(p.L) == len(of) {
				sub = append(sub, p.L[i])
			}
		}
		parts = append(parts, things(datas, t, sub))
	}
	var all []thing
	for _, row := range rowsOf(parts) {
		made.l = row
		all = append(all, made)
	}
	return all
}

// modelCovers tries each value that the patterns tell apart.
func modelCovers(datas []api.Data, t api.T, l []api.CPat) bool {
	for _, v := range things(datas, t, l) {
		some := false
		for _, p := range l {
			some = some || fits(p, v)
		}
		if !some {
			return false
		}
	}
	return true
}
