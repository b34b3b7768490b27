package asm

import (
	"strconv"
	"strings"

	"bellows/api"
	"bellows/code"
)

// writer lays an image's lines one behind the other.
type writer struct{ b strings.Builder }

// line lays one, of its parts.
func (w *writer) line(parts ...string) {
	for i, part := range parts {
		if i > 0 {
			w.b.WriteByte(' ')
		}
		w.b.WriteString(part)
	}
	w.b.WriteByte('\n')
}

// each lays one thing behind the other.
func each[E any](l []E, lay func(E)) {
	for _, e := range l {
		lay(e)
	}
}

func (w *writer) image(m api.Image) {
	each(m.Types, w.kind)
	each(m.Shapes, w.shape)
	each(m.Strings, w.text)
	each(m.Names, w.name)
	each(m.Funcs, w.function)
	w.line(mainWord, number(m.Main))
	w.line(exnWord, number(m.Exn))
}

// kind lays a type.
func (w *writer) kind(t api.Type) {
	w.line(typeWord, yes(t.Imm), list(t.Shapes))
}

func (w *writer) shape(s api.Shape) {
	w.line(shapeWord, number(s.Kind), list(s.Fields), quoted(s.Name))
}

func (w *writer) text(s string) { w.line(stringWord, quoted(s)) }

func (w *writer) name(s string) { w.line(nameWord, quoted(s)) }

func (w *writer) function(f api.Func) {
	w.line(funcWord, list(f.Params), number(f.Result), number(f.Slots))
	each(f.Blocks, w.block)
}

func (w *writer) block(b api.Block) {
	w.line(blockWord, list(b.In))
	each(b.Code, w.instr)
}

func (w *writer) instr(x api.Instr) {
	parts := []string{Word(x.Op)}
	for _, letter := range code.Uses(x.Op) {
		parts = append(parts, field(x, letter))
	}
	w.line(parts...)
}

// field is what an instruction has by a letter of Uses.
func field(x api.Instr, letter rune) string {
	switch letter {
	case 'D':
		return number(x.D)
	case 'A':
		return number(x.A)
	case 'B':
		return number(x.B)
	case 'C':
		return number(x.C)
	case 'N':
		return long(x.N)
	case 'L':
		return list(x.L)
	case 'M':
		return list(x.M)
	case 'l':
		return list(x.Live)
	}
	return ""
}

func yes(so bool) string {
	if so {
		return "1"
	}
	return "0"
}

func list(l []int) string {
	var b strings.Builder
	b.WriteByte('(')
	for i, n := range l {
		if i > 0 {
			b.WriteByte(' ')
		}
		b.WriteString(number(n))
	}
	b.WriteByte(')')
	return b.String()
}

func number(n int) string { return long(int64(n)) }

func long(n int64) string { return strconv.FormatInt(n, 10) }
