package flat

import (
	"strings"
	"testing"

	"bellows/api"
	"bellows/defun"
	"bellows/elab"
	"bellows/mono"
	"bellows/parse"
)

// typed calls for texts that are made up, have types, and not too many instances.
func typed(t testing.TB, seed uint64, n int, do func(g *author, src string, p api.FProg)) {
	t.Helper()
	g := &author{chance: chance{seed: seed}}
	refused := 0
	for i := 0; i < n; {
		src := g.program(20 + i%300)
		e, f, _ := parse.Parse(src)
		if f != api.OK {
			refused++
			continue
		}
		p, f, at := elab.Elab(e)
		if f != api.OK {
			t.Fatal(src, f, at)
		}
		if q, f := mono.Mono(p, api.MaxCap); f == api.OK {
			do(g, src, defun.Defun(q))
			i++
		}
	}
	if refused > n {
		t.Error("too few are read", refused)
	}
}

// does looks that an answer does what its program does, as far as that is known: P12.6.
func does(t testing.TB, src string, c *pairing, in string) outcome {
	t.Helper()
	a := runFirst(c.p, in, 10000)
	b := runFlat(c.x, in, 100000, func(v any, exception bool) string {
		if exception {
			return c.shownData(v, &c.p.Datas[0], c.shapes)
		}
		return c.shownAs(v, c.p.Main.T, c.shapes)
	})
	if a.end == "no fuel" {
		if !strings.HasPrefix(b.out, a.out) {
			t.Fatalf("%q, %q: %s", a, b, short(src))
		}
	} else if a != b || strings.HasPrefix(a.end, "stuck") {
		t.Fatalf("%q, %q: %s", a, b, short(src))
	}
	return a
}

// P12.1 to P12.6: texts that are made up, each held against the chapter's words, looked at for its types, and run.
func TestTextsThatAreMadeUp(t *testing.T) {
	for seed := range uint64(8) {
		t.Run("", func(t *testing.T) {
			t.Parallel()
			count := map[string]int{}
			typed(t, 100+seed, 500, func(_ *author, src string, p api.FProg) {
				c := paired(t, src, p, Flatten(p), nil)
				sound(t, src, c.x)
				end, _, _ := strings.Cut(does(t, src, c, "ab").end, " ")
				count[end]++
				for what, n := range c.count {
					count[what] += n
				}
			})
			t.Log(count)
		})
	}
}
