package mono

import (
	"reflect"
	"strings"
	"testing"

	"bellows/api"
	"bellows/elab"
	"bellows/parse"
)

// typed calls for texts that are made up and have types.
func typed(seed uint64, n int, do func(g *author, src string, p api.Prog)) {
	g := &author{chance: chance{seed: seed}}
	for i := 0; i < n; {
		src := g.program(20 + i%200)
		e, f, _ := parse.Parse(src)
		if f != api.OK {
			continue
		}
		if p, f, _ := elab.Elab(e); f == api.OK {
			do(g, src, p)
			i++
		}
	}
}

// P10.1 to P10.7: texts that are made up, each held against the model, looked at for its types, and run.
func TestTextsThatAreMadeUp(t *testing.T) {
	for seed := range uint64(8) {
		t.Run("", func(t *testing.T) {
			t.Parallel()
			count := map[string]int{}
			typed(100+seed, 2500, func(g *author, src string, p api.Prog) {
				n := Instances(p)
				if n > api.MaxCap {
					return
				}
				q, f := Mono(p, n)
				if f != api.OK {
					t.Fatal(src, n, f)
				}
				m := copied(t, src, p, q)
				if m.count != n {
					t.Fatal(src, m.count, n)
				}
				sound(t, src, q)
				tooManyOf(t, src, p, n-1)
				if x, f := Mono(p, n+g.below(5)); f != api.OK || !reflect.DeepEqual(x, q) {
					t.Fatal(src, "isn't the same with more")
				}
				end, _, _ := strings.Cut(does(t, src, p, q, "ab").end, " ")
				count[end]++
				for at, l := range m.rows {
					if len(l) > 1 {
						count["rows"]++
					}
					if strings.Contains(at, "[") {
						count["within"]++
					}
				}
			})
			t.Log(count)
			if count["done"] < 1000 || count["raised"] < 500 || count["rows"] < 1000 || count["within"] < 4000 {
				t.Error("too few", count)
			}
		})
	}
}
