package code

import (
	"bellows/api"
	"bellows/word"
)

// writer lays an image's parts one behind the other.
type writer struct{ b []byte }

// putList writes how many there are, and then each.
func putList[E any](w *writer, l []E, put func(E)) {
	w.number(len(l))
	for _, e := range l {
		put(e)
	}
}

func (w *writer) image(m api.Image) {
	putList(w, m.Types, w.kind)
	putList(w, m.Shapes, w.shape)
	putList(w, m.Strings, w.text)
	putList(w, m.Names, w.text)
	putList(w, m.Funcs, w.function)
	w.number(m.Main)
	w.number(m.Exn)
}

// kind writes a type.
func (w *writer) kind(t api.Type) {
	w.yes(t.Imm)
	putList(w, t.Shapes, w.number)
}

func (w *writer) shape(s api.Shape) {
	w.number(s.Kind)
	putList(w, s.Fields, w.number)
	w.text(s.Name)
}

func (w *writer) function(f api.Func) {
	putList(w, f.Params, w.number)
	w.number(f.Result)
	w.number(f.Slots)
	putList(w, f.Blocks, w.block)
}

func (w *writer) block(b api.Block) {
	putList(w, b.In, w.number)
	putList(w, b.Code, w.instr)
}

func (w *writer) instr(x api.Instr) {
	w.number(x.Op)
	for _, letter := range Uses(x.Op) {
		w.field(x, letter)
	}
}

// field writes what an instruction has by a letter of Uses.
func (w *writer) field(x api.Instr, letter rune) {
	switch letter {
	case 'D':
		w.number(x.D)
	case 'A':
		w.number(x.A)
	case 'B':
		w.number(x.B)
	case 'C':
		w.number(x.C)
	case 'N':
		w.long(x.N)
	case 'L':
		putList(w, x.L, w.number)
	case 'M':
		putList(w, x.M, w.number)
	case 'l':
		putList(w, x.Live, w.number)
	}
}

func (w *writer) yes(so bool) {
	if so {
		w.number(1)
	} else {
		w.number(0)
	}
}

func (w *writer) text(s string) {
	w.number(len(s))
	w.b = append(w.b, s...)
}

func (w *writer) number(n int) { w.long(int64(n)) }

func (w *writer) long(n int64) { w.b = append(w.b, word.Put(n)...) }
