package vm

import (
	"bytes"
	"reflect"
	"testing"

	"bellows/api"
	"bellows/code"
	"bellows/verify"
)

// held runs an image, and holds the outcome against the chapter's words.
func held(t testing.TB, m api.Image, s api.Script) (api.Outcome, seen) {
	t.Helper()
	got := Run(m, s)
	want, shown := runAndSee(m, s)
	if !same(got, want) {
		t.Fatalf("got %+v, want %+v: %+v with %+v", got, want, m, s)
	}
	return got, shown
}

// P6.1 to P6.7: of images that may run, and of such ones with things changed, all is as told; the first ones, and those among the others that may run, too, are never Stuck.
func TestAgainstTheModel(t *testing.T) {
	c := &chance{seed: 3}
	var right, other seen
	may := 0
	for range 1500 {
		m := c.image()
		if f, b, i, ok := verify.Fault(m); !ok {
			t.Fatalf("made wrong: %d, %d, %d: %+v", f, b, i, m.Funcs[f].Blocks[b])
		}
		for range 4 {
			o, shown := held(t, m, c.script())
			if o.Kind == api.Stuck {
				t.Fatalf("stuck: %+v", m)
			}
			right.add(shown)
		}
		for range 8 {
			n := copied(m)
			for range 1 + c.below(3) {
				c.other(&n)
			}
			o, shown := held(t, n, c.script())
			other.add(shown)
			if verify.Verify(n) != api.OK {
				continue
			}
			if may++; o.Kind == api.Stuck {
				t.Fatalf("stuck: %+v", n)
			}
		}
	}
	enough(t, right, other, may)
}

// enough looks that the runs have shown enough of each kind.
func enough(t *testing.T, right, other seen, may int) {
	for op := api.OpConst; op <= api.OpRaise; op++ {
		if right.ops[op] < 500 || other.ops[op] < 500 {
			t.Error("too few of an instruction", op, right.ops[op], other.ops[op])
		}
	}
	for _, exn := range []int{api.ExnDiv, api.ExnSubscript, api.ExnSize} {
		if right.exns[exn] < 50 {
			t.Error("too few of an exception", exn, right.exns[exn])
		}
	}
	for kind := api.Done; kind <= api.NoStack; kind++ {
		if right.kinds[kind] < 200 || other.kinds[kind] < 200 {
			t.Error("too few of an end", kind, right.kinds[kind], other.kinds[kind])
		}
	}
	if right.taken < 1000 || right.swept < 5000 || other.kinds[api.Stuck] < 500 || may < 600 {
		t.Error("too few", right.taken, right.swept, other.kinds[api.Stuck], may)
	}
}

// unswept is an outcome without what hangs on when memory is collected.
func unswept(o api.Outcome) api.Outcome {
	o.Swept = 0
	return o
}

// P6.8: whenever memory is collected, kind, output, exception and steps are the same.
func TestWheneverCollected(t *testing.T) {
	c := &chance{seed: 5}
	noHeap, swept := 0, 0
	for range 1500 {
		m, s := c.image(), c.script()
		s.Collect = nil
		want := Run(m, s)
		if want.Kind == api.NoHeap {
			noHeap++
		}
		for i := range 8 {
			s.Collect = c.collect()
			if i == 0 {
				s.Collect = of(3000, true)
			}
			got := Run(m, s)
			if !same(unswept(got), unswept(want)) {
				t.Fatalf("got %+v, want %+v: %+v with %+v", got, want, m, s)
			}
			swept += got.Swept
		}
	}
	if noHeap < 50 || swept < 5000 {
		t.Error("too few", noHeap, swept)
	}
}

// P6.9: with less fuel, memory or stack the output is a beginning of what it is with more, and no step more is done; a run that doesn't end for want of them is the same with more.
func TestWithMore(t *testing.T) {
	c := &chance{seed: 7}
	done := 0
	for range 1500 {
		m, s := c.image(), c.script()
		if c.below(3) == 0 {
			c.other(&m)
		}
		less := Run(m, s)
		for range 8 {
			more := s
			more.Fuel += c.below(2) * c.below(50)
			more.Heap += c.below(2) * c.below(100)
			more.Stack += c.below(2) * c.below(100)
			o := Run(m, more)
			if !bytes.HasPrefix(o.Output, less.Output) || o.Steps < less.Steps {
				t.Fatalf("got %+v, with less %+v: %+v with %+v", o, less, m, more)
			}
			if less.Kind == api.NoFuel || less.Kind == api.NoHeap || less.Kind == api.NoStack {
				continue
			}
			if done++; !same(unswept(o), unswept(less)) {
				t.Fatalf("got %+v, with less %+v: %+v with %+v", o, less, m, more)
			}
		}
	}
	if done < 4000 {
		t.Error("too few", done)
	}
}

// P6.9: of each fuel up to where a run ends, steps and output are those of the run that far.
func TestEachFuel(t *testing.T) {
	c := &chance{seed: 9}
	for range 200 {
		m, s := c.image(), c.script()
		s.Fuel = 200
		whole := Run(m, s)
		var ahead []byte
		for s.Fuel = range whole.Steps {
			o := Run(m, s)
			if o.Kind != api.NoFuel || o.Steps != s.Fuel || !bytes.HasPrefix(o.Output, ahead) || !bytes.HasPrefix(whole.Output, o.Output) || o.Exn != "" {
				t.Fatalf("got %+v of %+v: %+v with %+v", o, whole, m, s)
			}
			ahead = o.Output
		}
		s.Fuel = whole.Steps
		if o := Run(m, s); whole.Kind != api.Stuck && !same(o, whole) {
			t.Fatalf("got %+v, want %+v", o, whole)
		}
	}
}

// Rules 4 and 6: nothing that is handed in is changed, spare room included; a run is the same each time, and its output is new memory.
func TestChangesNothing(t *testing.T) {
	c := &chance{seed: 11}
	for range 400 {
		m, s := c.image(), c.script()
		if c.below(2) == 0 {
			c.other(&m)
		}
		s.Input = append(s.Input, 1, 2, 3, 4)[:len(s.Input)]
		s.Collect = append(s.Collect, true, true)[:len(s.Collect)]
		keptImage, keptScript := copied(m), copied(s)
		spare := bytes.Clone(s.Input[:cap(s.Input)])
		first := Run(m, s)
		kept := bytes.Clone(first.Output)
		if !code.Same(m, keptImage) || !reflect.DeepEqual(copied(s), keptScript) || !bytes.Equal(spare, s.Input[:cap(s.Input)]) || !s.Collect[:cap(s.Collect)][len(s.Collect)] {
			t.Fatalf("changed: %+v with %+v", m, s)
		}
		for i := range s.Input {
			s.Input[i]++
		}
		copy(s.Input, keptScript.Input)
		second := Run(m, s)
		if !same(first, second) {
			t.Fatalf("%+v, and then %+v", first, second)
		}
		clear(second.Output[:cap(second.Output)])
		if !bytes.Equal(first.Output, kept) || !same(first, Run(m, s)) {
			t.Fatalf("outputs are one memory")
		}
	}
}

// P5: no bytes that are an image's make it panic, and the outcome is as told.
func FuzzRun(f *testing.F) {
	c := &chance{seed: 13}
	for range 30 {
		b, _ := code.Encode(c.image())
		f.Add(b, []byte("ab"), 100, 100, 100, uint64(5))
	}
	f.Fuzz(func(t *testing.T, b, input []byte, fuel, heap, stack int, collect uint64) {
		m, e := code.Decode(b)
		if e != api.OK {
			return
		}
		s := api.Script{Input: input, Fuel: min(fuel, 3000), Heap: heap, Stack: stack}
		for i := range 64 {
			s.Collect = append(s.Collect, collect>>i&1 == 1)
		}
		o, _ := held(t, m, s)
		if o.Kind == api.Stuck && verify.Verify(m) == api.OK {
			t.Errorf("stuck: %+v", m)
		}
	})
}
