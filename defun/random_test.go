package defun

import (
	"strconv"
	"strings"
	"testing"

	"bellows/api"
	"bellows/elab"
	"bellows/mono"
	"bellows/parse"
)

// typed calls for texts that are made up, have types, and not too many instances.
func typed(t testing.TB, seed uint64, n int, do func(g *author, src string, p api.Prog)) {
	t.Helper()
	g := &author{chance: chance{seed: seed}}
	refused := 0
	for i := 0; i < n; {
		src := g.program(20 + i%300)
		e, f, _ := parse.Parse(src)
		if f != api.OK {
			refused++
			continue
		}
		p, f, at := elab.Elab(e)
		if f != api.OK {
			t.Fatal(src, f, at)
		}
		if q, f := mono.Mono(p, api.MaxCap); f == api.OK {
			do(g, src, q)
			i++
		}
	}
	if refused > n {
		t.Error("too few are read", refused)
	}
}

// does looks that an answer does what its program does, as far as that is known: P11.4.
func does(t testing.TB, src string, p api.Prog, x api.FProg, in string) outcome {
	t.Helper()
	a := run(p.Main, nil, in, 3000)
	b := runFirst(x, in, 100000) // each step of p's is some of x's: what is known is handed on
	if a.end == "no fuel" {
		if !strings.HasPrefix(b.out, a.out) {
			t.Fatalf("%s: %q, %q", short(src), a, b)
		}
	} else if a != b || strings.HasPrefix(a.end, "stuck") {
		t.Fatalf("%s: %q, %q", short(src), a, b)
	}
	return a
}

// P11.1 to P11.4: texts that are made up, each held against the model, looked at for its types, and run.
func TestTextsThatAreMadeUp(t *testing.T) {
	for seed := range uint64(8) {
		t.Run("", func(t *testing.T) {
			t.Parallel()
			count := map[string]int{}
			typed(t, 100+seed, 1500, func(_ *author, src string, p api.Prog) {
				x := Defun(p)
				c := paired(t, src, p, x)
				sound(t, src, x)
				end, _, _ := strings.Cut(does(t, src, p, x, "ab").end, " ")
				count[end]++
				for _, d := range x.Datas[len(p.Datas):] {
					count["classes of "+strconv.Itoa(min(len(d.Cons), 3))]++
				}
				for id := range c.m.fns {
					count["functions that know "+strconv.Itoa(min(len(c.m.know[id]), 3))]++
					if !c.m.value[id] {
						count["functions that are only called"]++
					}
				}
			})
			for what, least := range map[string]int{
				"done": 600, "raised": 300, "classes of 0": 1000, "classes of 1": 5000, "classes of 2": 1000, "classes of 3": 500,
				"functions that know 0": 5000, "functions that know 1": 2000, "functions that know 2": 500, "functions that know 3": 300, "functions that are only called": 1000,
			} {
				if count[what] < least {
					t.Error("too few", what, count)
				}
			}
		})
	}
}
