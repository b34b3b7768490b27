package code

import (
	"bytes"
	"math"
	"reflect"
	"testing"

	"bellows/api"
	"bellows/word"
)

// encoded is what Encode must answer without an error.
func encoded(t testing.TB, m api.Image) []byte {
	t.Helper()
	b, e := Encode(m)
	if e != api.OK {
		t.Fatal(e)
	}
	return b
}

// refused looks that these bytes are no image's.
func refused(t testing.TB, why string, b []byte) {
	t.Helper()
	m, e := Decode(b)
	if e != api.ErrCode || !reflect.DeepEqual(m, api.Image{}) {
		t.Errorf("%s: %d of % x", why, e, b[:min(len(b), 100)])
	}
}

// laid is BEL1, and then each number by Put, each text as it is.
func laid(parts ...any) []byte {
	b := []byte("BEL1")
	for _, p := range parts {
		switch x := p.(type) {
		case int:
			b = append(b, word.Put(int64(x))...)
		case string:
			b = append(b, x...)
		}
	}
	return b
}

// inFunction is what is laid of an image that has but one function, and in that one block: the function from its In on.
func inFunction(parts ...any) []byte {
	ahead := []any{0, 0, 0, 0, 1, 0, 0, 0, 1}
	return laid(append(append(ahead, parts...), 0, 0)...)
}

// P4.3: the bytes of images that are laid by hand.
func TestEncodeByHand(t *testing.T) {
	for _, c := range []struct {
		why string
		m   api.Image
		b   []byte
	}{
		{"an empty image", api.Image{}, []byte("BEL1\x00\x00\x00\x00\x00\x00\x00")},
		{"empty lists", api.Image{Types: []api.Type{}, Shapes: []api.Shape{}, Strings: []string{}, Names: []string{}, Funcs: []api.Func{}}, []byte("BEL1\x00\x00\x00\x00\x00\x00\x00")},
		{"Main and Exn", api.Image{Main: 1, Exn: -1}, []byte("BEL1\x00\x00\x00\x00\x00\x02\x01")},
		{"Main and Exn, far", api.Image{Main: 64, Exn: math.MinInt}, append([]byte("BEL1\x00\x00\x00\x00\x00\x80\x01"), word.Put(math.MinInt64)...)},
		{"types", api.Image{Types: []api.Type{{}, {Imm: true, Shapes: []int{3, 64}}}}, laid(2, 0, 0, 1, 2, 3, 64, 0, 0, 0, 0, 0, 0)},
		{"shapes", api.Image{Shapes: []api.Shape{{Kind: 3}, {Kind: 1, Fields: []int{5, -1}, Name: "Ab"}}}, laid(0, 2, 3, 0, 0, 1, 2, 5, -1, 2, "Ab", 0, 0, 0, 0, 0)},
		{"strings", api.Image{Strings: []string{"", "x\x00y"}}, laid(0, 0, 2, 0, 3, "x\x00y", 0, 0, 0, 0)},
		{"names", api.Image{Names: []string{"Div", "\xff"}}, laid(0, 0, 0, 2, 3, "Div", 1, "\xff", 0, 0, 0)},
		{"functions", api.Image{Funcs: []api.Func{{}, {Params: []int{8, 9}, Result: 3, Slots: 4}}, Main: 1}, laid(0, 0, 0, 0, 2, 0, 0, 0, 0, 2, 8, 9, 3, 4, 0, 1, 0)},
		{"blocks", api.Image{Funcs: []api.Func{{Blocks: []api.Block{{}, {In: []int{-1, 5}}}}}}, laid(0, 0, 0, 0, 1, 0, 0, 0, 2, 0, 0, 2, -1, 5, 0, 0, 0)},
		{"all of it", api.Image{
			Types:   []api.Type{{Imm: true}},
			Shapes:  []api.Shape{{Kind: 3}},
			Strings: []string{"s"},
			Names:   []string{"n"},
			Funcs:   []api.Func{{Result: 2, Blocks: []api.Block{{Code: []api.Instr{{Op: api.OpReturn, A: 6}}}}}},
			Main:    4,
			Exn:     5,
		}, laid(1, 1, 0, 1, 3, 0, 0, 1, 1, "s", 1, 1, "n", 1, 0, 2, 0, 1, 0, 1, 22, 6, 4, 5)},
	} {
		b, e := Encode(c.m)
		if e != api.OK || !bytes.Equal(b, c.b) {
			t.Errorf("%s: % x, %d, want % x", c.why, b, e, c.b)
		}
		if m, e := Decode(c.b); e != api.OK || !alike(m, c.m) {
			t.Errorf("%s: %+v, %d", c.why, m, e)
		}
	}
}

// P4.3: what an instruction uses stands in the order of its letters.
func TestEncodeInstrByHand(t *testing.T) {
	x := api.Instr{D: 1, A: 2, B: 3, C: 4, N: -5, L: []int{6, 7}, M: []int{8}, Live: []int{9, 10, 11}}
	plain := func(op int) api.Instr {
		y := x
		y.Op = op
		for letter, clear := range map[string]func(){
			"D": func() { y.D = 0 }, "A": func() { y.A = 0 }, "B": func() { y.B = 0 }, "C": func() { y.C = 0 }, "N": func() { y.N = 0 },
			"L": func() { y.L = nil }, "M": func() { y.M = nil }, "l": func() { y.Live = nil },
		} {
			if !bytes.Contains([]byte(usesAsTold[op-1]), []byte(letter)) {
				clear()
			}
		}
		return y
	}
	for op, parts := range [][]any{
		1:  {1, -5},
		2:  {1, 2, 3, 9, 10, 11},
		3:  {1, 2},
		4:  {1, 2, 3, -5},
		5:  {1, 2, 2, 6, 7, 3, 9, 10, 11},
		6:  {1, 2, 3},
		7:  {2, 3, 4},
		8:  {1, 2, 3, 4, 3, 9, 10, 11},
		9:  {1, 2, 3},
		10: {2, 3, 4},
		11: {1, 2},
		12: {1, 2, 3},
		13: {1, 2, 3, 3, 9, 10, 11},
		14: {1, 2, 3},
		15: {1},
		16: {2},
		17: {1, 2, 3, 4, 2, 6, 7, 3, 9, 10, 11},
		18: {2},
		19: {2, 3, 4},
		20: {2, 2, 6, 7, 1, 8, 3},
		21: {2, 2, 6, 7},
		22: {2},
		23: {2},
	} {
		if op == 0 {
			continue
		}
		m := coded(1, 1, plain(op))
		want := inFunction(append([]any{0, 1, op}, parts...)...)
		if b := encoded(t, m); !bytes.Equal(b, want) {
			t.Errorf("%d: % x, want % x", op, b, want)
		}
		if n, e := Decode(want); e != api.OK || !alike(n, m) {
			t.Errorf("%d: %+v, %d", op, n, e)
		}
	}
}

// P4.3, P4.4: what is encoded is as told, and is decoded as the same.
func TestEncodeDecode(t *testing.T) {
	for _, m := range append(images(3000), whole()) {
		b := encoded(t, m)
		if want := bytesAsTold(m); !bytes.Equal(b, want) {
			t.Fatalf("%+v: % x, want % x", m, b, want)
		}
		n, e := Decode(b)
		if e != api.OK || !Same(m, n) || !alike(m, n) || Check(n) != api.OK || Size(n) != Size(m) {
			t.Fatalf("%+v is decoded as %+v, %d", m, n, e)
		}
		if again := encoded(t, n); !bytes.Equal(again, b) {
			t.Fatalf("% x is encoded again as % x", b, again)
		}
	}
}

// P4.3: bytes of no image.
func TestDecodeRefuses(t *testing.T) {
	for _, c := range []struct {
		why string
		b   []byte
	}{
		{"nothing", nil},
		{"nothing", []byte{}},
		{"letters wanting", []byte("BEL")},
		{"letters alone", []byte("BEL1")},
		{"other letters", []byte("BEL2\x00\x00\x00\x00\x00\x00\x00")},
		{"other letters", []byte("bel1\x00\x00\x00\x00\x00\x00\x00")},
		{"no letters", make([]byte, 11)},
		{"no letters, and all that is behind them", make([]byte, 7)},
		{"letters behind", []byte("\x00BEL1\x00\x00\x00\x00\x00\x00\x00")},
		{"a number wanting", laid(0, 0, 0, 0, 0, 0)},
		{"a number more", laid(0, 0, 0, 0, 0, 0, 0, 0)},
		{"a number too long", []byte("BEL1\x80\x00\x00\x00\x00\x00\x00\x00")},
		{"the last number too long", []byte("BEL1\x00\x00\x00\x00\x00\x00\x80\x00")},
		{"a number of more than 64 bits", append(laid(0, 0, 0, 0, 0, 0), 0x80, 0x80, 0x80, 0x80, 0x80, 0x80, 0x80, 0x80, 0x80, 2)},
		{"a number that doesn't end", append(laid(0, 0, 0, 0, 0, 0), 0x80)},
		{"Imm 2", laid(1, 2, 0, 0, 0, 0, 0, 0, 0)},
		{"Imm -1", laid(1, -1, 0, 0, 0, 0, 0, 0, 0)},
		{"Imm far", laid(1, math.MaxInt, 0, 0, 0, 0, 0, 0, 0)},
		{"Imm wanting", laid(1)},
		{"types below 0", laid(-1, 0, 0, 0, 0, 0, 0)},
		{"types far below 0", laid(math.MinInt, 0, 0, 0, 0, 0, 0)},
		{"types far too many", laid(math.MaxInt, 0, 0, 0, 0, 0, 0)},
		{"types 2^32", laid(1<<32, 0, 0, 0, 0, 0, 0)},
		{"a type's shapes below 0", laid(1, 0, -1, 0, 0, 0, 0, 0, 0)},
		{"shapes below 0", laid(0, -1, 0, 0, 0, 0, 0)},
		{"fields below 0", laid(0, 1, 3, -1, 0, 0, 0, 0, 0, 0)},
		{"fields wanting", laid(0, 1, 3, 9, 0, 0, 0, 0, 0)},
		{"a Name below 0", laid(0, 1, 3, 0, -1, 0, 0, 0, 0, 0)},
		{"a Name of far too many", laid(0, 1, 3, 0, math.MaxInt, 0, 0, 0, 0, 0)},
		{"a Name's bytes wanting", laid(0, 1, 3, 0, 6, 0, 0, 0, 0, 0)},
		{"all of a Name that is behind", laid(0, 1, 3, 0, 5, 0, 0, 0, 0, 0)},
		{"strings below 0", laid(0, 0, -1, 0, 0, 0, 0)},
		{"a string below 0", laid(0, 0, 1, -1, 0, 0, 0, 0)},
		{"a string of far too many", laid(0, 0, 1, math.MaxInt, 0, 0, 0, 0)},
		{"a string's bytes wanting", laid(0, 0, 1, 4, "abc")},
		{"names below 0", laid(0, 0, 0, -1, 0, 0, 0)},
		{"a name below 0", laid(0, 0, 0, 1, math.MinInt, 0, 0, 0)},
		{"functions below 0", laid(0, 0, 0, 0, -1, 0, 0)},
		{"params below 0", laid(0, 0, 0, 0, 1, -1, 0, 0, 0, 0, 0)},
		{"slots above the limit", laid(0, 0, 0, 0, 1, 0, 0, 201, 0, 0, 0)},
		{"slots far above the limit", laid(0, 0, 0, 0, 1, 0, 0, math.MaxInt, 0, 0, 0)},
		{"blocks below 0", laid(0, 0, 0, 0, 1, 0, 0, 0, -1, 0, 0)},
		{"In below 0", inFunction(-1, 0)},
		{"code below 0", inFunction(0, -1)},
		{"code wanting", inFunction(0, 3)},
		{"the instruction 0", inFunction(0, 1, 0)},
		{"the instruction 24", inFunction(0, 1, 24)},
		{"the instruction -1", inFunction(0, 1, -1)},
		{"the instruction 2^32 and 22", inFunction(0, 1, 1<<32+22, 0)},
		{"the instruction 0 ahead of a good one", inFunction(0, 2, 0, 22, 0)},
		{"a field wanting", inFunction(0, 1, 22)[:16]},
		{"L below 0", inFunction(0, 1, 21, 0, -1)},
		{"M below 0", inFunction(0, 1, 20, 0, 0, -1, 0)},
		{"Live below 0", inFunction(0, 1, 2, 0, 0, -1)},
		{"L far too many", inFunction(0, 1, 21, 0, math.MaxInt)},
	} {
		refused(t, c.why, c.b)
		if _, ok := imageAsTold(c.b); ok {
			t.Error("the model takes", c.why)
		}
	}
	if _, e := Decode(inFunction(0, 1, 22, 5)); e != api.OK {
		t.Error("what these are made of is refused", e)
	}
}

// P4.5: no beginning of an image's bytes is an image's, and nothing with more behind it.
func TestBeginningsAndMore(t *testing.T) {
	for _, m := range append(images(150), whole(), api.Image{}) {
		b := encoded(t, m)
		for i := range b {
			refused(t, "a beginning", b[:i])
			refused(t, "a beginning, the rest in spare room", b[:i:len(b)])
		}
		for c := range 256 {
			refused(t, "a byte more", append(bytes.Clone(b), byte(c)))
		}
		refused(t, "an image twice", append(bytes.Clone(b), b...))
		refused(t, "many bytes more", append(bytes.Clone(b), make([]byte, 5000)...))
	}
}

// P4.6: with one byte that is another one it is another image's, or none's.
func TestOneByteAnother(t *testing.T) {
	none, other := 0, 0
	for _, m := range append(short(images(2000), 60)[:20], whole(), api.Image{}) {
		b := encoded(t, m)
		for i, was := range b {
			for c := range 256 {
				if byte(c) == was {
					continue
				}
				b[i] = byte(c)
				n, e := Decode(b)
				if held(t, b, n, e) {
					other++
				} else {
					none++
				}
				if e == api.OK && (Same(m, n) || Check(n) != api.OK) {
					t.Fatalf("the byte %d is another one, and the image is the same: % x", i, b)
				}
			}
			b[i] = was
		}
	}
	if none < 40000 || other < 40000 {
		t.Error("too few of one kind", none, other)
	}
}

// short is those of some images that have at most so many bytes.
func short(l []api.Image, most int) []api.Image {
	var out []api.Image
	for _, m := range l {
		if len(bytesAsTold(m)) <= most {
			out = append(out, m)
		}
	}
	return out
}

// held holds what Decode answered of some bytes against the chapter's words: is there an image?
func held(t testing.TB, b []byte, m api.Image, e api.Errno) bool {
	t.Helper()
	want, ok := imageAsTold(b)
	if ok && (e != api.OK || !alike(m, want) || !bytes.Equal(encoded(t, m), b)) {
		t.Fatalf("% x: %+v, %d", b, m, e)
	}
	if !ok && (e != api.ErrCode || !reflect.DeepEqual(m, api.Image{})) {
		t.Fatalf("% x, of no image: %+v, %d", b, m, e)
	}
	return ok
}

// P4.3: of any bytes Decode answers the image of which they are Encode, or that there is none.
func TestDecodeAnyBytes(t *testing.T) {
	c := chance{seed: 5}
	good := 0
	for range 20000 {
		b := encoded(t, c.image())
		for range 1 + c.below(3) {
			i := 4 + c.below(len(b)-4)
			switch c.below(4) {
			case 0:
				b[i] = byte(c.below(4))
			case 1:
				b = append(b[:i], b[i+1:]...)
			case 2:
				b = append(b[:i], append([]byte{byte(c.next())}, b[i:]...)...)
			case 3:
				b[i] ^= 1 << c.below(8)
			}
			if len(b) < 5 {
				break
			}
		}
		m, e := Decode(b)
		if held(t, b, m, e) {
			good++
		}
	}
	if good < 2000 {
		t.Error("too few are an image's:", good)
	}
}

// FuzzDecode holds Decode of any bytes against the chapter's words.
func FuzzDecode(f *testing.F) {
	for _, m := range append(images(20), whole(), api.Image{}) {
		b, _ := Encode(m)
		f.Add(b)
	}
	f.Fuzz(func(t *testing.T, b []byte) {
		m, e := Decode(b)
		held(t, b, m, e)
	})
}

// P4.3: Encode answers no bytes beside an error.
func TestEncodeRefuses(t *testing.T) {
	for _, c := range []struct {
		m    api.Image
		want api.Errno
	}{
		{coded(1, 1, api.Instr{}), api.ErrArg},
		{coded(1, 1, api.Instr{Op: api.OpJump, D: 1}), api.ErrArg},
		{api.Image{Funcs: []api.Func{{Slots: 201}}}, api.ErrBig},
		{api.Image{Types: make([]api.Type, 1025)}, api.ErrBig},
	} {
		if b, e := Encode(c.m); b != nil || e != c.want {
			t.Errorf("% x, %d, want %d", b, e, c.want)
		}
	}
}
