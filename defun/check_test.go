package defun

import (
	"slices"
	"strconv"
	"strings"
	"testing"

	"bellows/api"
)

// checked is a text's program and its answer, which is what P11.2 says, and has right types.
func checked(t testing.TB, src string) *pairer {
	t.Helper()
	p := written(t, src)
	x := Defun(p)
	c := paired(t, src, p, x)
	sound(t, src, x)
	return c
}

// firstNumber is the first number in a core: -1, if there is none.
func firstNumber(c *api.Core) int {
	n := -1
	var visit func(c *api.Core)
	visit = func(c *api.Core) {
		if c.Kind == api.KInt && n < 0 {
			n = int(c.N)
		}
		inside(c, visit)
	}
	visit(c)
	return n
}

// classed tells the classes of a text: of each function in them the first number in it (a function within it is another one).
func classed(t testing.TB, src string) string {
	t.Helper()
	c := checked(t, src)
	of := map[string]string{}
	for id, con := range c.cons {
		of[con] = strconv.Itoa(firstNumber(&c.own[id].E))
	}
	var all []string
	for _, d := range c.x.Datas[len(c.p.Datas):] {
		var l []string
		for _, k := range d.Cons {
			l = append(l, of[k.Name])
		}
		slices.Sort(l)
		all = append(all, "["+strings.Join(l, " ")+"]")
	}
	slices.Sort(all)
	return strings.Join(all, " ")
}

// classes looks which functions have one class.
func classes(t *testing.T, want string, texts ...string) {
	t.Helper()
	for _, src := range texts {
		if got := classed(t, src); got != want {
			t.Errorf("%s: %s, want %s", short(src), got, want)
		}
	}
}

// writes looks what a text is written as.
func writes(t *testing.T, src string, want ...string) {
	t.Helper()
	c := checked(t, src)
	if got, want := toldProg(c.p, c.x), strings.Join(want, "; "); got != want {
		t.Errorf("%s:\n%s, want\n%s", short(src), got, want)
	}
}
