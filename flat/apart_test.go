package flat

import (
	"strings"
	"testing"

	"bellows/api"
)

// rowsOf is a case in which the way n asks of the part n alone, by the pattern of it.
func rowsOf(n int, of func(i int) string) string {
	var ways []string
	for i := range n {
		l := strings.Split(strings.Repeat("_ ", n), " ")[:n]
		l[i] = of(i)
		ways = append(ways, "("+strings.Join(l, ", ")+") => putc "+[]string{"65", "66", "67", "68", "69", "70", "71", "72", "73", "74"}[i])
	}
	return "case x of " + strings.Join(ways, " | ") + " | _ => ()"
}

// P12.4: patterns of which there would be very many ways, if each were written as often as it is come to.
func TestManyWaysToTheSame(t *testing.T) {
	for _, v := range []struct {
		n      int
		of, is string
	}{{9, "(1, 1, 1, 1)", "(1, 0, 1, 1)"}, {8, "(1, 1, 1, 1, 1)", "(1, 1, 1, 1, 0)"}, {8, "(1 :: 2 :: _)", "[1, 3]"}, {9, "(y, 1, Some 1, z)", "(1, 1, None, 0)"}} {
		src := "datatype 'a o = None | Some of 'a fun f x = " + rowsOf(v.n, func(int) string { return v.of }) + " in ("
		for i := range v.n {
			l := strings.Split(strings.Repeat(v.is+"|", v.n), "|")[:v.n]
			fits := strings.NewReplacer("y", "3", "z", "4", "_", "[]")
			src += "f (" + strings.Join(l, ", ") + "); "
			l[i] = fits.Replace(v.of)
			src += "f (" + strings.Join(l, ", ") + "); "
			l[(i+3)%v.n] = fits.Replace(v.of)
			src += "f (" + strings.Join(l, ", ") + "); "
		}
		p := written(t, src+"1)")
		g := &chance{seed: 5}
		x := Flatten(p)
		for range 200 {
			if c := paired(t, src, p, x, g); c.count["apart"] == 0 {
				t.Fatal("nothing is apart", v)
			}
		}
		sound(t, src, x)
		if o := does(t, src, paired(t, src, p, x, g), ""); o.end != "done 1" || len(o.out) != 2*v.n {
			t.Fatal(o)
		}
		if n := sizeOf(&x.Funs[0].E); n > 1000 {
			t.Error("too much is written", n)
		}
	}
}

// sizeOf is how many expressions there are in one.
func sizeOf(e *api.Flat) int {
	n := 1
	for i := range e.L {
		n += sizeOf(&e.L[i])
	}
	for i := range e.Nums {
		n += sizeOf(&e.Nums[i].E)
	}
	for i := range e.Shapes {
		n += sizeOf(&e.Shapes[i].E)
	}
	return n
}
