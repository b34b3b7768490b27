package code

import (
	"bytes"
	"reflect"
	"runtime"
	"slices"
	"testing"

	"bellows/api"
)

// taken is how many bytes of memory a call takes.
func taken(call func()) int {
	var ahead, behind runtime.MemStats
	runtime.ReadMemStats(&ahead)
	call()
	runtime.ReadMemStats(&behind)
	return int(behind.TotalAlloc - ahead.TotalAlloc)
}

// P5: bytes that tell of lists which aren't there make Decode take no more memory than bytes that have them, or not much.
func TestDecodeTakesLittleForWhatIsNotThere(t *testing.T) {
	const most = 1 << 18
	for _, c := range []struct {
		why string
		b   []byte
	}{
		{"types", laid(1024)},
		{"types without end", laid(1 << 40)},
		{"a type's shapes", laid(1, 0, 512)},
		{"a text", laid(0, 0, 1, 16384)},
		{"a text without end", laid(0, 0, 1, 1<<40)},
		{"blocks", laid(0, 0, 0, 0, 1, 0, 0, 0, 2000)},
		{"code", laid(0, 0, 0, 0, 1, 0, 0, 0, 1, 0, 20000)},
		{"code without end", laid(0, 0, 0, 0, 1, 0, 0, 0, 1, 0, 1<<40)},
		{"L", laid(0, 0, 0, 0, 1, 0, 0, 0, 1, 0, 1, 21, 0, 1024)},
	} {
		if n := taken(func() { Decode(c.b) }); n > most {
			t.Errorf("%s: %d bytes", c.why, n)
		}
	}
	noughts := make([]byte, 1<<20)
	for _, b := range [][]byte{laid(1 << 19), laid(0, 0, 0, 0, 1<<19), laid(0, 0, 0, 0, 1, 0, 0, 0, 1<<19), laid(0, 0, 0, 0, 1, 0, 0, 0, 1, 0, 1<<19), laid(0, 0, 1<<19), laid(0, 0, 1, 1<<19)} {
		long := append(b, noughts...)
		if n := taken(func() { Decode(long) }); n > most {
			t.Errorf("%d bytes for lists that may not be so long", n)
		}
	}
}

// P5: more instructions than there may be are refused ahead of room for them all, in how many blocks ever they stand.
func TestDecodeTakesLittleForTooManyInstrs(t *testing.T) {
	m := coded(20, 1, of(20000, api.Instr{Op: api.OpIn})...)
	b := bytesAsTold(m)
	if n := taken(func() { refused(t, "too many", b[:len(b):len(b)]) }); n > 8<<20 {
		t.Errorf("%d bytes", n)
	}
}

// lists calls f with each list of numbers, and with each other list, of an image.
func lists(m *api.Image, f func(v reflect.Value)) {
	var walk func(v reflect.Value)
	walk = func(v reflect.Value) {
		switch v.Kind() {
		case reflect.Slice:
			f(v)
			for i := range v.Len() {
				walk(v.Index(i))
			}
		case reflect.Struct:
			for i := range v.NumField() {
				walk(v.Field(i))
			}
		}
	}
	walk(reflect.ValueOf(m).Elem())
}

// Rule 4: what Decode answers is new memory: it shares none with the bytes, nor does one list of it with another, in their spare room.
func TestDecodeIsNew(t *testing.T) {
	for _, m := range append(images(100), whole()) {
		b := encoded(t, m)
		kept := bytes.Clone(b)
		n, _ := Decode(b)
		other, _ := Decode(b)
		if !bytes.Equal(b, kept) {
			t.Fatal("Decode changed its bytes")
		}
		for i := range b {
			b[i] = ^b[i]
		}
		if !alike(n, m) {
			t.Fatal("an image shares memory with its bytes")
		}
		id := 0
		var all [][]int
		lists(&n, func(v reflect.Value) {
			if l, ok := v.Interface().([]int); ok {
				id++
				l = l[:cap(l)]
				for i := range l {
					l[i] = id
				}
				all = append(all, l)
			}
		})
		for i, l := range all {
			if !slices.Equal(l, of(len(l), i+1)) {
				t.Fatal("two lists share memory", i, l)
			}
		}
		if !alike(other, m) {
			t.Fatal("two answers share memory")
		}
	}
}

// Rule 4: what Encode answers is new memory, each time.
func TestEncodeIsNew(t *testing.T) {
	for _, m := range append(images(100), whole(), api.Image{}) {
		kept := copied(m)
		a, b := encoded(t, m), encoded(t, m)
		a = a[:cap(a)]
		for i := range a {
			a[i] = ^a[i]
		}
		if !bytes.Equal(b, bytesAsTold(kept)) || !bytes.Equal(encoded(t, m), b) || !alike(m, kept) {
			t.Fatal("the bytes are shared")
		}
	}
}

// Rule 4: the spare room of what is handed in is not changed.
func TestSpareRoomIsLeft(t *testing.T) {
	roomy := func(m api.Image) api.Image {
		m = copied(m)
		lists(&m, func(v reflect.Value) {
			long := reflect.MakeSlice(v.Type(), v.Len()+3, v.Len()+3)
			reflect.Copy(long, v)
			if v.Type().Elem().Kind() == reflect.Int {
				for i := v.Len(); i < long.Len(); i++ {
					long.Index(i).SetInt(int64(900 + i))
				}
			}
			v.Set(long.Slice(0, v.Len()))
		})
		return m
	}
	full := func(m api.Image) api.Image {
		m.Funcs = slices.Clone(m.Funcs)
		out := copied(m)
		var rest [][]int
		lists(&m, func(v reflect.Value) {
			if l, ok := v.Interface().([]int); ok {
				rest = append(rest, slices.Clone(l[:cap(l)]))
			}
		})
		out.Types = nil
		for _, l := range rest {
			out.Types = append(out.Types, api.Type{Shapes: l})
		}
		return out
	}
	for _, m := range append(images(50), whole()) {
		r := roomy(m)
		kept := full(r)
		b := encoded(t, r)
		Check(r)
		Size(r)
		Same(r, m)
		if !alike(full(r), kept) || !alike(r, m) {
			t.Fatal("an image's spare room is changed")
		}
		long := append(bytes.Clone(b), 1, 2, 3)
		Decode(long[:len(b)])
		if !bytes.Equal(long[len(b):], []byte{1, 2, 3}) {
			t.Fatal("the bytes' spare room is changed")
		}
	}
}
