package gc

import (
	"runtime"
	"slices"
	"testing"

	"bellows/api"
	"bellows/heap"
	"bellows/word"
)

// taken is how many bytes of memory a call takes.
func taken(call func()) int {
	var ahead, behind runtime.MemStats
	runtime.ReadMemStats(&ahead)
	call()
	runtime.ReadMemStats(&behind)
	return int(behind.TotalAlloc - ahead.TotalAlloc)
}

// own is how many bytes a call takes, less what the heap takes by itself for being closed ahead and behind.
func own(h *heap.Heap, call func()) int {
	h.Close(h.Top())
	closed := taken(func() { h.Close(h.Top()) })
	return taken(call) - 2*closed
}

// full are heaps of the greatest size, whose objects are all reached from the first root: a chain in each direction, a row of all, pairs that stand in pairs.
func full(t *testing.T) map[string]*heap.Heap {
	all := map[string]*heap.Heap{}
	for _, name := range []string{"rising", "falling", "row", "tree"} {
		all[name] = open(t, api.MaxWords)
	}
	chain(t, all["rising"], true, 1)
	chain(t, all["falling"], false, 0)
	made(t, all["row"], row, api.MaxWords/2)
	for i := range api.MaxWords/2 - 1 {
		all["row"].Set(0, i, word.Ptr(made(t, all["row"], none, 0)))
	}
	for range api.MaxWords / 3 {
		made(t, all["tree"], pair, 2)
	}
	for k := 1; k < api.MaxWords/3; k++ {
		all["tree"].Set((k-1)/2*3, (k-1)%2, word.Ptr(3*k))
	}
	return all
}

// P3.7: no memory is needed but some words: so many however many objects there are, and however they point at one another.
func TestMemory(t *testing.T) {
	const most = 2000 // far less than a bit for each word
	for name, h := range full(t) {
		roots := ptrs(0)
		if name == "falling" {
			roots = ptrs(3 * (api.MaxWords/3 - 1))
		}
		kept := image(h)
		live := 0
		if n := own(h, func() { live, _ = Live(h, roots) }); n > most {
			t.Errorf("%s: Live takes %d bytes", name, n)
		}
		if live < api.MaxWords-3 {
			t.Errorf("%s: only %d words are reached", name, live)
		}
		if n := own(h, func() { Collect(h, roots) }); n > most {
			t.Errorf("%s: Collect takes %d bytes", name, n)
		}
		if n := own(h, func() { Collect(h, nil) }); n > most || h.Top() != 0 {
			t.Errorf("%s: Collect of all takes %d bytes, top %d", name, n, h.Top())
		}
		if slices.Equal(image(h), kept) {
			t.Errorf("%s: nothing was there", name)
		}
	}
}

// P3.7: marks, counts and pointers that are turned round are as they were at the end: nothing of them is in what Collect leaves, moved or not.
func TestNothingLeft(t *testing.T) {
	for name, h := range full(t) {
		kept := image(h)
		first := ptrs(0)
		if name == "falling" {
			first = ptrs(3 * (api.MaxWords/3 - 1))
		}
		for range 2 {
			Marks(h, first)
			Live(h, first)
			out, e := Collect(h, first)
			if e != api.OK || !slices.Equal(out, first) || !slices.Equal(image(h), kept) {
				t.Errorf("%s: words are not as they were: %x, %d", name, out, e)
			}
		}
	}
}
