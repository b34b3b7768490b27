package asm

import (
	"bytes"
	"slices"
	"strings"
	"testing"

	"bellows/api"
	"bellows/code"
	"bellows/defun"
	"bellows/elab"
	"bellows/flat"
	"bellows/gen"
	"bellows/mono"
	"bellows/parse"
	"bellows/verify"
)

// P14.4: what is written is read as the same, and what is read is written as the same text.
func TestWrittenAndRead(t *testing.T) {
	for _, m := range append(images(4, 5000), whole(), api.Image{}) {
		s := written(t, m)
		n := taken(t, s)
		if !code.Same(n, m) || written(t, n) != s {
			t.Fatalf("%+v is read %+v of %q", m, n, s)
		}
		if want, e, _ := readAsTold(s); e != api.OK || !code.Same(n, want) {
			t.Fatalf("%q is read %+v, want %+v", s, n, want)
		}
		a, _ := code.Encode(m)
		b, e := code.Encode(n)
		if e != api.OK || !bytes.Equal(a, b) {
			t.Fatalf("%+v has other bytes when it is read", m)
		}
	}
}

// compiled is the image of a program.
func compiled(t *testing.T, src string) api.Image {
	t.Helper()
	x, e, at := parse.Parse(src)
	if e != api.OK {
		t.Fatal(src, e, at)
	}
	p, e, at := elab.Elab(x)
	if e != api.OK {
		t.Fatal(src, e, at)
	}
	q, e := mono.Mono(p, api.MaxCap)
	if e != api.OK {
		t.Fatal(src, e)
	}
	m, e := gen.Generate(flat.Flatten(defun.Defun(q)))
	if e != api.OK {
		t.Fatal(src, e)
	}
	return m
}

// P14.4, P4: what is compiled is read from its text as the same.
func TestCompiledIsReadAsTheSame(t *testing.T) {
	for _, src := range []string{
		"putc 65",
		"()",
		`print "a\n\t\000\255\"\\ b"`,
		"fun f n = if n = 0 then () else (putc (64 + n); f (n - 1)) in f 3",
		"fun id x = x in (id 1, id true)",
		"(1 div 0) handle Div => 2",
		"val r = ref [] in (r := [1]; r)",
		"exception A of int * string exception B in ((raise A (4611686018427387903, \"x\")) handle A (n, s) => print s | B => ())",
		"datatype 'a t = Leaf | Node of 'a t * 'a * 'a t fun sum t = case t of Leaf => 0 | Node (a, n, b) => sum a + n + sum b in sum (Node (Leaf, ~4611686018427387903, Leaf))",
		"fun map f l = case l of [] => [] | x :: r => f x :: map f r in map (fn x => x + 1) [1, 2, 3]",
		"val a = array (10, \"x\") in (update (a, 1, \"y\" ^ sub (a, 0)); print (sub (a, 1)); length a)",
	} {
		m := compiled(t, src)
		s := written(t, m)
		n := taken(t, s)
		if !code.Same(m, n) || written(t, n) != s || s != textAsTold(m) || verify.Verify(n) != api.OK {
			t.Errorf("%s: %q", src, s)
		}
	}
}

// Of the whole's examples the tenth: an image that is read and may not run.
func TestReadMayNotRun(t *testing.T) {
	m := taken(t, "type 1 ()\ntype 0 (0)\nshape 3 () \"\"\nfunc () 0 1\nblock (-1)\nreturn 0\nmain 0\nexn 0\n")
	if e := verify.Verify(m); e != api.ErrVerify {
		t.Error(e)
	}
}

// more are lines of all kinds, right ones and others.
func more() []string {
	var l []string
	for _, k := range "tsgnfbimex" {
		l = append(l, kindLines[k])
	}
	return append(l, "\n", "type 1 (1 2)\n", "string \"main 0\\n\"\n", "const 1 -9223372036854775808\n", "const 1 9223372036854775808\n", "call 1 2 3 4 (5) (6)\n", "main -1\n", " exn 0\n")
}

// edited: behind one edit, from the line number at on (from 1), the text is told there or a line behind, or is another image's.
func edited(t *testing.T, was api.Image, lines []string, at, wide int) {
	t.Helper()
	s := strings.Join(lines, "")
	m, e, to := Read(s)
	switch {
	case e == api.OK:
		if code.Same(m, was) || written(t, m) != s {
			t.Errorf("%q is read %+v", s, m)
		}
	case e != api.ErrCode || to < at || to > at+wide:
		t.Errorf("%q: %d, %d, want from %d on", s, e, to, at)
	}
	held(t, s)
}

// P14.5: a line more, or less, another one, two lines exchanged.
func TestEdits(t *testing.T) {
	for _, m := range append(images(5, 40), whole(), api.Image{}) {
		lines := strings.SplitAfter(written(t, m), "\n")
		lines = lines[:len(lines)-1]
		for i := range len(lines) + 1 {
			for _, line := range append(more(), lines[min(i, len(lines)-1)]) {
				edited(t, m, slices.Insert(slices.Clone(lines), i, line), i+1, 1)
				if i < len(lines) && lines[i] != line {
					other := slices.Clone(lines)
					other[i] = line
					edited(t, m, other, i+1, 1)
				}
			}
			if i == len(lines) {
				break
			}
			edited(t, m, slices.Delete(slices.Clone(lines), i, i+1), i+1, 0)
			for j := i + 1; j < len(lines); j++ {
				if other := slices.Clone(lines); lines[i] != lines[j] {
					other[i], other[j] = lines[j], lines[i]
					edited(t, m, other, i+1, j-i+1)
				}
			}
		}
	}
}

// P14.5: the line that is told, by hand: text is whole's, number by number.
func TestEditsByHand(t *testing.T) {
	lines := []string{"type 1 ()\n", "type 0 (0)\n", "shape 3 () \"\"\n", "func () 0 1\n", "block (-1)\n", "const 0 5\n", "return 0\n", "main 0\n", "exn 0\n"}
	less := func(i int) string { return strings.Join(slices.Delete(slices.Clone(lines), i-1, i), "") }
	for i, line := range map[int]int{4: 4, 5: 5, 8: 8, 9: 9} {
		refused(t, less(i), line)
	}
	for _, i := range []int{1, 2, 3, 6, 7} {
		if got := written(t, taken(t, less(i))); got != less(i) {
			t.Errorf("without %d: %q", i, got)
		}
	}
	insert := func(i int, line string) string {
		return strings.Join(slices.Insert(slices.Clone(lines), i-1, line), "")
	}
	for _, c := range []struct {
		i    int
		line string
		want int
	}{
		{1, "shape 3 () \"\"\n", 2}, {2, "string \"\"\n", 3}, {3, "func () 0 1\n", 4}, {4, "main 0\n", 5}, {4, "block ()\n", 4}, {5, "in 0\n", 5},
		{6, "func () 0 1\n", 7}, {8, "main 0\n", 9}, {8, "exn 0\n", 8}, {9, "return 0\n", 9}, {10, "exn 0\n", 10}, {10, "type 1 ()\n", 10}, {10, "\n", 10}, {6, "\n", 6}, {6, "const 0 5 \n", 6},
	} {
		refused(t, insert(c.i, c.line), c.want)
	}
	for i := range len(lines) - 1 {
		other := slices.Clone(lines)
		other[i], other[i+1] = other[i+1], other[i]
		want := []int{0, 3, 4, 4, 5, 0, 8, 8}[i]
		if want > 0 {
			refused(t, strings.Join(other, ""), want)
		} else if s := strings.Join(other, ""); written(t, taken(t, s)) != s {
			t.Errorf("%q", s)
		}
	}
}

// P14.3, P14.5: any edits, of letters and of lines, by the chapter's words.
func TestAnyEdits(t *testing.T) {
	c := &chance{seed: 7}
	good := 0
	for range 30000 {
		s := written(t, c.image())
		for range 1 + c.below(2) {
			s = c.edit(s)
		}
		if held(t, s) {
			good++
		}
	}
	if good < 3000 || good > 27000 {
		t.Error("too few of one kind:", good)
	}
}

// edit is a text in which something is another thing.
func (c *chance) edit(s string) string {
	if s == "" {
		return "\n"
	}
	i := c.below(len(s))
	letter := string(oneOf(c, '0', '1', '9', '-', '(', ')', ' ', '"', '\\', '\n', 'n', 't', 'a', '\t', '\r'))
	lines := strings.SplitAfter(s, "\n")
	j, k := c.below(len(lines)), c.below(len(lines))
	switch c.below(8) {
	case 0:
		return s[:i] + s[i+1:]
	case 1:
		return s[:i] + letter + s[i:]
	case 2:
		return s[:i] + letter + s[i+1:]
	case 3:
		return s[:i]
	case 4:
		lines = slices.Delete(lines, j, j+1)
	case 5:
		lines = slices.Insert(lines, j, oneOf(c, append(more(), lines[k])...))
	case 6:
		lines[j] = oneOf(c, append(more(), lines[k])...)
	case 7:
		lines[j], lines[k] = lines[k], lines[j]
	}
	return strings.Join(lines, "")
}

// P14.5: one letter that is another one, or less, or more: another image's text, or none.
func TestOneLetterAnother(t *testing.T) {
	for _, m := range append(images(6, 20), whole()) {
		s := written(t, m)
		for i := range s {
			for _, letter := range "0519- ()\"\\\nantx\r" {
				for _, other := range []string{s[:i] + string(letter) + s[i+1:], s[:i] + string(letter) + s[i:], s[:i] + s[i+1:]} {
					n, e, _ := Read(other)
					if e == api.OK && (code.Same(n, m) != (other == s) || written(t, n) != other) {
						t.Fatalf("%q and %q are the same image's", s, other)
					}
				}
			}
		}
	}
}
