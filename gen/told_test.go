package gen

import (
	"strconv"
	"strings"
	"testing"

	"bellows/api"
	"bellows/code"
	"bellows/defun"
	"bellows/elab"
	"bellows/flat"
	"bellows/mono"
	"bellows/parse"
)

// written is what Flatten answers of a text that has types, and not too many instances.
func written(t testing.TB, src string) api.FlatProg {
	t.Helper()
	e, f, at := parse.Parse(src)
	if f != api.OK {
		t.Fatalf("Parse(%s): %d, %d", short(src), f, at)
	}
	p, f, at := elab.Elab(e)
	if f != api.OK {
		t.Fatalf("Elab(%s): %d, %d", short(src), f, at)
	}
	q, f := mono.Mono(p, api.MaxCap)
	if f != api.OK {
		t.Fatalf("Mono(%s): %d", short(src), f)
	}
	return flat.Flatten(defun.Defun(q))
}

// short keeps what is told of a long text short.
func short(s string) string {
	if len(s) > 3000 {
		s = s[:3000] + " .."
	}
	return "\"" + s + "\""
}

// joined are the parts of a list, with a sign between two.
func joined[E any](l []E, sign string, told func(E) string) string {
	var parts []string
	for _, x := range l {
		parts = append(parts, told(x))
	}
	return strings.Join(parts, sign)
}

// toldT writes a type out.
func toldT(t api.T) string {
	switch {
	case t.Kind == api.XTup:
		return "(" + joined(t.L, ", ", toldT) + ")"
	case len(t.L) > 0:
		return t.Name + "[" + joined(t.L, ", ", toldT) + "]"
	}
	return t.Name
}

// toldInstr is an instruction: its name, and what it uses.
func toldInstr(x api.Instr) string {
	names := strings.Fields("0 Const Text Move Prim New Field Store Array At Put Len Byte Cat Cmp In Out Call Jump If Switch Tail Return Raise")
	s := names[x.Op]
	list := func(l []int) string { return "(" + joined(l, " ", strconv.Itoa) + ")" }
	for _, field := range code.Uses(x.Op) {
		s += " "
		switch field {
		case 'D':
			s += strconv.Itoa(x.D) + " ="
		case 'A':
			s += strconv.Itoa(x.A)
		case 'B':
			s += strconv.Itoa(x.B)
		case 'C':
			s += strconv.Itoa(x.C)
		case 'N':
			s += strconv.FormatInt(x.N, 10)
		case 'L':
			s += list(x.L)
		case 'M':
			s += list(x.M)
		case 'l':
			s += "live " + list(x.Live)
		}
	}
	return s
}

// toldFunc are a function's blocks.
func toldFunc(f api.Func) string {
	return joined(f.Blocks, " | ", func(b api.Block) string { return joined(b.Code, "; ", toldInstr) })
}
