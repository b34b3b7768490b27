package code

import (
	"math"
	"math/bits"
	"reflect"
	"strings"

	"bellows/api"
	"bellows/word"
)

// bytesAsTold is Encode's bytes by the chapter's words: a kind of thing after the other, the fields of each in the order in which api has them, but for an instruction's.
func bytesAsTold(m api.Image) []byte {
	b := []byte("BEL1")
	var lay func(v reflect.Value)
	lay = func(v reflect.Value) {
		switch v.Kind() {
		case reflect.Bool:
			b = append(b, map[bool]byte{true: 2, false: 0}[v.Bool()])
		case reflect.Int, reflect.Int64:
			b = append(b, word.Put(v.Int())...)
		case reflect.String:
			b = append(append(b, word.Put(int64(v.Len()))...), v.String()...)
		case reflect.Slice:
			b = append(b, word.Put(int64(v.Len()))...)
			for i := range v.Len() {
				lay(v.Index(i))
			}
		case reflect.Struct:
			for _, name := range order(v) {
				lay(v.FieldByName(name))
			}
		}
	}
	lay(reflect.ValueOf(m))
	return b
}

// order is the names of a struct's fields, as they are written.
func order(v reflect.Value) []string {
	var names []string
	if x, ok := v.Interface().(api.Instr); ok {
		names = append(names, "Op")
		if x.Op < 1 || x.Op > len(usesAsTold) {
			return names
		}
		for _, letter := range usesAsTold[x.Op-1] {
			names = append(names, strings.Replace(string(letter), "l", "Live", 1))
		}
		return names
	}
	for i := range v.NumField() {
		names = append(names, v.Type().Field(i).Name)
	}
	return names
}

// imageAsTold is the image of which these are the bytes, by the chapter's words; false, if there is none. It makes lists of a byte's length at most for each byte, so the bytes should be few.
func imageAsTold(b []byte) (m api.Image, ok bool) {
	defer func() {
		if recover() != nil {
			m, ok = api.Image{}, false
		}
	}()
	at := 4
	must := func(so bool) {
		if !so {
			panic("no image")
		}
	}
	must(len(b) >= at && string(b[:at]) == "BEL1")
	number := func() int64 {
		n, to, ok := word.Get(b, at)
		must(ok)
		at = to
		return n
	}
	var take func(v reflect.Value)
	take = func(v reflect.Value) {
		switch v.Kind() {
		case reflect.Bool:
			n := number()
			must(n == 0 || n == 1)
			v.SetBool(n == 1)
		case reflect.Int, reflect.Int64:
			v.SetInt(number())
		case reflect.String:
			n := number()
			must(n >= 0 && n <= int64(len(b)-at))
			v.SetString(string(b[at : at+int(n)]))
			at += int(n)
		case reflect.Slice:
			n := number()
			must(n >= 0 && n <= int64(len(b)-at))
			v.Set(reflect.MakeSlice(v.Type(), int(n), int(n)))
			for i := range int(n) {
				take(v.Index(i))
			}
		case reflect.Struct:
			if op := v.FieldByName("Op"); op.IsValid() {
				op.SetInt(number())
				must(op.Int() >= 1 && op.Int() <= int64(len(usesAsTold)))
				for _, name := range order(v)[1:] {
					take(v.FieldByName(name))
				}
				return
			}
			for _, name := range order(v) {
				take(v.FieldByName(name))
			}
		}
	}
	take(reflect.ValueOf(&m).Elem())
	must(at == len(b) && fitsAsTold(m))
	return m, true
}

// fitsAsTold asks the limits that the chapter names.
func fitsAsTold(m api.Image) bool {
	size := 0
	good := len(m.Types) <= 1024 && len(m.Shapes) <= 512 && len(m.Strings) <= 256 && len(m.Names) <= 256 && len(m.Funcs) <= 1024
	for _, x := range m.Types {
		good = good && len(x.Shapes) <= 512
	}
	for _, x := range m.Shapes {
		good = good && len(x.Fields) <= 200 && len(x.Name) <= 16384
	}
	for _, l := range [][]string{m.Strings, m.Names} {
		for _, x := range l {
			good = good && len(x) <= 16384
		}
	}
	for _, f := range m.Funcs {
		good = good && f.Slots <= 200 && len(f.Params) <= 200 && len(f.Blocks) <= 2000
		for _, b := range f.Blocks {
			size += len(b.Code)
			good = good && len(b.In) <= 200
			for _, x := range b.Code {
				good = good && len(x.L) <= 1024 && len(x.M) <= 1024 && len(x.Live) <= 200
			}
		}
	}
	return good && size <= 20000
}

// alike is Same by going through all fields, whatever they are.
func alike(a, b api.Image) bool {
	var same func(x, y reflect.Value) bool
	same = func(x, y reflect.Value) bool {
		switch x.Kind() {
		case reflect.Slice:
			if x.Len() != y.Len() {
				return false
			}
			for i := range x.Len() {
				if !same(x.Index(i), y.Index(i)) {
					return false
				}
			}
			return true
		case reflect.Struct:
			for i := range x.NumField() {
				if !same(x.Field(i), y.Field(i)) {
					return false
				}
			}
			return true
		}
		return x.Equal(y)
	}
	return same(reflect.ValueOf(a), reflect.ValueOf(b))
}

// copied is an image that is the same as m, and shares no memory with it.
func copied(m api.Image) api.Image {
	var fresh func(v reflect.Value) reflect.Value
	fresh = func(v reflect.Value) reflect.Value {
		out := reflect.New(v.Type()).Elem()
		switch v.Kind() {
		case reflect.Slice:
			out.Set(reflect.MakeSlice(v.Type(), v.Len(), v.Len()))
			for i := range v.Len() {
				out.Index(i).Set(fresh(v.Index(i)))
			}
		case reflect.Struct:
			for i := range v.NumField() {
				out.Field(i).Set(fresh(v.Field(i)))
			}
		default:
			out.Set(v)
		}
		return out
	}
	return fresh(reflect.ValueOf(m)).Interface().(api.Image)
}

// chance is a row of numbers that is the same in each run.
type chance struct{ seed uint64 }

func (c *chance) next() uint64 {
	c.seed = c.seed*6364136223846793005 + 1442695040888963407
	return bits.RotateLeft64(c.seed, 27) ^ c.seed>>17
}

// below is a number from 0 to n - 1.
func (c *chance) below(n int) int { return int(c.next() % uint64(n)) }

// number is mostly a small one, and sometimes any.
func (c *chance) number() int {
	switch c.below(8) {
	case 0:
		return int(c.next()) >> c.below(64)
	case 1:
		return []int{math.MaxInt, math.MinInt, -1, 1 << 62, -1 << 62, 63, 64, -64, -65, 127, 128}[c.below(11)]
	}
	return c.below(20)
}

// some is a list of up to four; an empty one is nil, or not.
func some[E any](c *chance, one func() E) []E {
	var l []E
	if c.below(2) == 0 {
		l = []E{}
	}
	for range c.below(5) {
		l = append(l, one())
	}
	return l
}

func (c *chance) text() string { return string(some(c, func() byte { return byte(c.next()) })) }

func (c *chance) instr() api.Instr {
	x := api.Instr{Op: 1 + c.below(23)}
	for _, letter := range usesAsTold[x.Op-1] {
		switch letter {
		case 'D':
			x.D = c.number()
		case 'A':
			x.A = c.number()
		case 'B':
			x.B = c.number()
		case 'C':
			x.C = c.number()
		case 'N':
			x.N = int64(c.number())
		case 'L':
			x.L = some(c, c.number)
		case 'M':
			x.M = some(c, c.number)
		case 'l':
			x.Live = some(c, c.number)
		}
	}
	return x
}

func (c *chance) block() api.Block {
	return api.Block{In: some(c, c.number), Code: some(c, c.instr)}
}

func (c *chance) function() api.Func {
	return api.Func{Params: some(c, c.number), Result: c.number(), Slots: min(c.number(), api.MaxSlots), Blocks: some(c, c.block)}
}

// image is one in which Check finds nothing.
func (c *chance) image() api.Image {
	return api.Image{
		Types: some(c, func() api.Type {
			return api.Type{Imm: c.below(2) == 1, Shapes: some(c, c.number)}
		}),
		Shapes: some(c, func() api.Shape {
			return api.Shape{Kind: c.number(), Fields: some(c, c.number), Name: c.text()}
		}),
		Strings: some(c, c.text),
		Names:   some(c, c.text),
		Funcs:   some(c, c.function),
		Main:    c.number(),
		Exn:     c.number(),
	}
}

// images are some, the same in each run.
func images(n int) []api.Image {
	c := chance{seed: 4}
	l := make([]api.Image, n)
	for i := range l {
		l[i] = c.image()
	}
	return l
}

// whole is an image with something in each field of everything, and each instruction.
func whole() api.Image {
	var l []api.Instr
	for op, uses := range usesAsTold {
		x := api.Instr{Op: op + 1}
		for i, letter := range uses {
			switch letter {
			case 'D':
				x.D = 10 + i
			case 'A':
				x.A = 70 + i
			case 'B':
				x.B = -1 - i
			case 'C':
				x.C = 30 + i
			case 'N':
				x.N = -1 << 62
			case 'L':
				x.L = []int{5, 6}
			case 'M':
				x.M = []int{7, 300}
			case 'l':
				x.Live = []int{8}
			}
		}
		l = append(l, x)
	}
	return api.Image{
		Types:   []api.Type{{Imm: true}, {Shapes: []int{0, 1}}, {Imm: true, Shapes: []int{2}}},
		Shapes:  []api.Shape{{Kind: api.Bytes}, {Kind: api.Record, Fields: []int{0, 1, 2}, Name: "Fail"}, {Kind: api.Array, Fields: []int{2}}},
		Strings: []string{"a text", "", "\x00\xff"},
		Names:   []string{"Match", "Div", "Subscript", "Size"},
		Funcs: []api.Func{
			{Params: []int{0, 1}, Result: 2, Slots: 3, Blocks: []api.Block{{In: []int{0, 1, -1}, Code: l[:12]}, {In: []int{-1, -1, -1}, Code: l[12:]}}},
			{Result: 1, Slots: 1, Blocks: []api.Block{{In: []int{-1}, Code: []api.Instr{{Op: api.OpConst, N: 9}, {Op: api.OpReturn}}}}},
		},
		Main: 1,
		Exn:  2,
	}
}
