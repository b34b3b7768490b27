package verify

import (
	"testing"

	"bellows/api"
	"bellows/code"
)

// held holds what Whole, Fault and Verify answer of an image against the chapter's words.
func held(t testing.TB, m api.Image) (int, int, int, bool) {
	t.Helper()
	f, b, i, ok := Fault(m)
	if wf, wb, wi, want := faultAsTold(m); f != wf || b != wb || i != wi || ok != want {
		t.Fatalf("Fault = %d, %d, %d, %v, want %d, %d, %d, %v: %+v", f, b, i, ok, wf, wb, wi, want, m)
	}
	if got, want := Whole(m), wholeAsTold(m); got != want {
		t.Fatalf("Whole = %v: %+v", got, m)
	}
	want := api.ErrVerify
	if ok {
		want = api.OK
	}
	if got := Verify(m); got != want {
		t.Fatalf("Verify = %d: %+v", got, m)
	}
	return f, b, i, ok
}

// P5.2 to P5.4: of images that mostly may run, and of such ones with a thing changed, all is as told.
func TestAgainstTheModel(t *testing.T) {
	c := chance{seed: 7}
	right, torn := 0, 0
	var wrong, fine [24]int // by the instruction
	for range 2500 {
		m := c.image()
		if _, _, _, ok := held(t, m); ok {
			right++
			for _, f := range m.Funcs {
				for _, b := range f.Blocks {
					for _, x := range b.Code {
						fine[x.Op]++
					}
				}
			}
		}
		for range 20 {
			n := copied(m)
			for range 1 + c.below(2) {
				c.other(&n)
			}
			f, b, i, ok := held(t, n)
			if f < 0 {
				torn++
			} else if !ok && i < len(n.Funcs[f].Blocks[b].Code) {
				wrong[n.Funcs[f].Blocks[b].Code[i].Op]++
			}
		}
	}
	if right < 1500 || torn < 5000 {
		t.Error("too few of one kind", right, torn)
	}
	for op := api.OpConst; op <= api.OpRaise; op++ {
		if fine[op] < 80 || wrong[op] < 60 {
			t.Errorf("too few of the instruction %d: %d, %d", op, fine[op], wrong[op])
		}
	}
}

// P5.6: an image that may run may run with any function more, that may itself.
func TestWithAFunctionMore(t *testing.T) {
	tried := 0
	for _, m := range images(3000) {
		if Verify(m) != api.OK {
			continue
		}
		for n := range m.Funcs {
			few := copied(m)
			few.Funcs = append(few.Funcs, copied(m).Funcs[n])
			if f, b, i, ok := held(t, few); !ok {
				t.Fatalf("with the function %d twice: %d, %d, %d: %+v", n, f, b, i, m)
			}
			tried++
		}
	}
	if tried < 3000 {
		t.Error("too few", tried)
	}
}

// P5.6: a function more changes nothing of what is told of those ahead of it, and what is wrong of it is told of it.
func TestWithAWrongFunctionMore(t *testing.T) {
	c := chance{seed: 9}
	tried := 0
	for range 800 {
		m := c.image()
		one := m.Funcs[len(m.Funcs)-1]
		for range 12 {
			n := copied(m)
			n.Funcs = append(n.Funcs, copied(api.Image{Funcs: []api.Func{one}}).Funcs[0])
			more := api.Image{Funcs: n.Funcs[len(m.Funcs):]}
			c.other(&more)
			n.Funcs = append(n.Funcs[:len(m.Funcs)], more.Funcs...)
			f, b, i, ok := held(t, n)
			if f == -1 || ok || len(more.Funcs) != 1 {
				continue
			}
			wf, wb, wi, was := Fault(m)
			if !was && (f != wf || b != wb || i != wi) || was && f != len(m.Funcs) {
				t.Fatalf("%d, %d, %d, but without the function %d, %d, %d: %+v", f, b, i, wf, wb, wi, n)
			}
			tried++
		}
	}
	if tried < 2000 {
		t.Error("too few", tried)
	}
}

// Rule 4: nothing that is handed in is changed.
func TestChangesNothing(t *testing.T) {
	c := chance{seed: 11}
	for range 500 {
		m := c.image()
		for range 10 {
			kept := copied(m)
			Whole(m)
			Fault(m)
			Verify(m)
			if !code.Same(m, kept) {
				t.Fatalf("an image is changed: %+v", m)
			}
			c.other(&m)
		}
	}
}

// P5: no bytes that are an image's make it panic, and what it answers is as told.
func FuzzFault(f *testing.F) {
	for _, m := range images(30) {
		b, _ := code.Encode(m)
		f.Add(b)
	}
	f.Fuzz(func(t *testing.T, b []byte) {
		if m, e := code.Decode(b); e == api.OK {
			held(t, m)
		}
	})
}
