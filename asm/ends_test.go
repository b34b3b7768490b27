package asm

import (
	"reflect"
	"slices"
	"strings"
	"testing"
	"unsafe"

	"bellows/api"
	"bellows/code"
)

// P5: no text makes Read panic, or long.
func TestAnyTextsEnd(t *testing.T) {
	c := &chance{seed: 8}
	for range 20000 {
		b := make([]byte, c.below(40))
		for i := range b {
			b[i] = byte(c.next())
			if c.below(4) > 0 {
				b[i] = oneOf[byte](c, ' ', '\n', '(', ')', '"', '\\', '0', '1', '-', 'm', 'a', 'i', 'n', 'e', 'x')
			}
		}
		held(t, string(b))
	}
	for _, l := range right() {
		line := strings.Join(l[1:], " ")
		for i := range line {
			for _, s := range []string{line[:i], line[i:], line[:i] + "\n", line[i:] + "\n", line[:i] + line + "\n"} {
				front, back := around(l[0])
				held(t, s)
				held(t, front+s)
				held(t, front+s+back)
			}
		}
	}
}

// P5: long lines, and many, of which nothing is an image's.
func TestLongTextsEnd(t *testing.T) {
	const most = 1 << 20
	for _, part := range []string{"(", ")", "()", "( ", "1 ", "-", "9", "\"", "\\", "\"\\", "\\0", "\\000", " ", "\n", "main 0\n", "func () 0 0\n", "block ()\n", "in 0\n", "string \"\"\n", "type 1 ()\n", "type 1 (1 1 1)\n", "\x00", "\xff"} {
		for _, front := range []string{"", "type 1 ", "type 1 (", "shape 1 () ", "string \"", "name \"a\\", ahead, ahead + "switch 1 (", "main ", "main -", "main 0\nexn "} {
			s := front + strings.Repeat(part, most/len(part)+1)[:most-len(front)]
			m, e, at := Read(s)
			if e != api.ErrCode || at < 1 || at > strings.Count(s, "\n")+1 || !reflect.DeepEqual(m, api.Image{}) {
				t.Errorf("%q, %q: %d, %d", front, part, e, at)
			}
			bigRefused(t, s+part)
		}
	}
}

// FuzzRead holds Read of any texts against the chapter's words.
func FuzzRead(f *testing.F) {
	for _, m := range append(images(9, 20), whole(), api.Image{}) {
		s, _ := Write(m)
		f.Add(s)
	}
	f.Fuzz(func(t *testing.T, s string) { held(t, s) })
}

// P5: Write ends at images of which each limit is reached.
func TestGreatImagesAreWritten(t *testing.T) {
	l := make([]int, 1024)
	x := api.Instr{Op: api.OpSwitch, L: l, M: l}
	m := inBlock(slices.Repeat([]api.Instr{x}, 2000)...)
	m.Strings = slices.Repeat([]string{strings.Repeat("\xff", api.MaxText)}, api.MaxStrings)
	s := written(t, m)
	if n := 256*(4*api.MaxText+10) + len(ahead+behind) + 2000*(2*2049+len("switch 0   0\n")); len(s) != n {
		t.Error(len(s), n)
	}
	bigRefused(t, s)
}

// walked calls f with each list of a value.
func walked(v reflect.Value, f func(v reflect.Value)) {
	switch v.Kind() {
	case reflect.Slice:
		f(v)
		for i := range v.Len() {
			walked(v.Index(i), f)
		}
	case reflect.Struct:
		for i := range v.NumField() {
			walked(v.Field(i), f)
		}
	}
}

// Rule 4: what is handed in to Write is not changed, its spare room included.
func TestWriteChangesNothing(t *testing.T) {
	for _, m := range append(images(10, 100), whole()) {
		s := written(t, m)
		roomy := taken(t, s)
		var rooms [][]int
		walked(reflect.ValueOf(&roomy).Elem(), func(v reflect.Value) {
			long := reflect.MakeSlice(v.Type(), v.Len()+3, v.Len()+3)
			reflect.Copy(long, v)
			if l, ok := long.Interface().([]int); ok {
				for i := v.Len(); i < len(l); i++ {
					l[i] = 900 + i
				}
				rooms = append(rooms, l)
			}
			v.Set(long.Slice(0, v.Len()))
		})
		kept := make([][]int, len(rooms))
		for i, l := range rooms {
			kept[i] = slices.Clone(l)
		}
		if written(t, roomy) != s || !code.Same(roomy, m) || !slices.EqualFunc(rooms, kept, slices.Equal) {
			t.Fatalf("%q: an image is changed", s)
		}
	}
}

// Rule 4: what Read answers is new memory: no two lists share any, two answers neither, and no text is kept.
func TestReadIsNew(t *testing.T) {
	for _, m := range append(images(11, 100), whole()) {
		s := written(t, m)
		n, other := taken(t, s), taken(t, s)
		from := uintptr(unsafe.Pointer(unsafe.StringData(s)))
		texts := slices.Concat(n.Strings, n.Names)
		for _, x := range n.Shapes {
			texts = append(texts, x.Name)
		}
		for _, x := range texts {
			if at := uintptr(unsafe.Pointer(unsafe.StringData(x))); x != "" && at >= from && at < from+uintptr(len(s)) {
				t.Fatalf("%q stands in the text", x)
			}
		}
		var all [][]int
		walked(reflect.ValueOf(&n).Elem(), func(v reflect.Value) {
			if l, ok := v.Interface().([]int); ok {
				l = l[:cap(l)]
				all = append(all, l)
				for i := range l {
					l[i] = len(all)
				}
			}
		})
		for i, l := range all {
			if slices.ContainsFunc(l, func(n int) bool { return n != i+1 }) {
				t.Fatal("two lists share memory")
			}
		}
		if !code.Same(other, m) || !code.Same(taken(t, s), m) {
			t.Fatal("two answers share memory")
		}
	}
}

// Rule 6: what a call answers hangs on its arguments alone.
func TestSameAgain(t *testing.T) {
	for _, m := range images(12, 200) {
		s := written(t, m)
		Read("x\n")
		Read(s[:len(s)/2])
		Write(inBlock(api.Instr{}))
		Write(whole())
		if written(t, m) != s || !code.Same(taken(t, s), m) {
			t.Fatal(s)
		}
	}
}
