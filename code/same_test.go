package code

import (
	"reflect"
	"testing"

	"bellows/api"
)

// changes calls f with each image that differs from m in one field, or by one element more or less of a list, and with what was changed.
func changes(m api.Image, f func(n api.Image, where string)) {
	n := copied(m)
	var walk func(v reflect.Value, where string)
	turn := func(v, to reflect.Value, where string) {
		was := reflect.New(v.Type()).Elem()
		was.Set(v)
		v.Set(to)
		f(n, where)
		v.Set(was)
	}
	walk = func(v reflect.Value, where string) {
		switch v.Kind() {
		case reflect.Bool:
			turn(v, reflect.ValueOf(!v.Bool()), where)
		case reflect.Int, reflect.Int64:
			for _, d := range []int64{1, -1, 1 << 32, -1 << 63} {
				turn(v, reflect.ValueOf(v.Int()+d).Convert(v.Type()), where)
			}
		case reflect.String:
			turn(v, reflect.ValueOf(v.String()+"x"), where)
			turn(v, reflect.ValueOf("y"+v.String()), where)
		case reflect.Slice:
			more := reflect.Append(v.Slice3(0, v.Len(), v.Len()), reflect.Zero(v.Type().Elem()))
			turn(v, more, where+" with one more")
			if v.Len() > 0 {
				turn(v, v.Slice(0, v.Len()-1), where+" with one less")
				turn(v, v.Slice(1, v.Len()), where+" without the first")
			}
			for i := range v.Len() {
				walk(v.Index(i), where+" of "+v.Type().String())
			}
		case reflect.Struct:
			for i := range v.NumField() {
				walk(v.Field(i), v.Type().Field(i).Name+" of "+v.Type().String())
			}
		}
	}
	walk(reflect.ValueOf(&n).Elem(), "")
}

// P4.3: Same, with each field of everything changed by itself.
func TestSameAsksAllFields(t *testing.T) {
	m := whole()
	if !Same(m, m) || !Same(m, copied(m)) || !Same(copied(m), m) {
		t.Fatal("an image is not the same as itself")
	}
	seen := 0
	changes(m, func(n api.Image, where string) {
		seen++
		if alike(m, n) {
			t.Fatal("nothing is changed:", where)
		}
		if Same(m, n) || Same(n, m) {
			t.Error("Same takes no notice of", where)
		}
	})
	if seen < 900 {
		t.Error(seen)
	}
	if !alike(m, whole()) {
		t.Error("an image is changed")
	}
}

// P4.3, P4.6: no two images that differ in what is written have the same bytes.
func TestChangesChangeBytes(t *testing.T) {
	m := whole()
	kept := string(encoded(t, m))
	changes(m, func(n api.Image, where string) {
		if b, e := Encode(n); e == api.OK && string(b) == kept {
			t.Error("other images have the same bytes:", where)
		}
	})
}

// P4.3: Same asks of fields that an instruction doesn't use too, and of images in which Check finds something.
func TestSameOfAnyImages(t *testing.T) {
	for letter, sets := range ways() {
		for op := range 25 {
			x := api.Instr{Op: op}
			sets[0](&x)
			a, b := coded(1, 1, x), coded(1, 1, api.Instr{Op: op})
			if Same(a, b) || Same(b, a) || !Same(a, a) || !Same(a, copied(a)) {
				t.Errorf("%d with %s", op, letter)
			}
		}
	}
	big := api.Image{Types: make([]api.Type, 2000), Strings: make([]string, 3000), Funcs: []api.Func{{Slots: 1 << 40, Blocks: make([]api.Block, 3000)}}}
	if !Same(big, copied(big)) || Same(big, api.Image{}) || Same(api.Image{}, big) {
		t.Error("a big image")
	}
}

// P4.3, rule 3: nil and empty lists are the same.
func TestSameOfEmptyLists(t *testing.T) {
	room := make([]int, 0, 3)
	instr := api.Instr{L: []int{}, M: room, Live: []int{}}
	full := func(types []api.Type, shapes []api.Shape, strings, names []string, funcs []api.Func) api.Image {
		return api.Image{Types: types, Shapes: shapes, Strings: strings, Names: names, Funcs: funcs}
	}
	for _, c := range []struct {
		why  string
		a, b api.Image
	}{
		{"an image's", api.Image{}, full([]api.Type{}, []api.Shape{}, []string{}, []string{}, []api.Func{})},
		{"a type's", full([]api.Type{{}}, nil, nil, nil, nil), full([]api.Type{{Shapes: room}}, nil, nil, nil, nil)},
		{"a shape's", full(nil, []api.Shape{{}}, nil, nil, nil), full(nil, []api.Shape{{Fields: room}}, nil, nil, nil)},
		{"a function's", full(nil, nil, nil, nil, []api.Func{{}}), full(nil, nil, nil, nil, []api.Func{{Params: room, Blocks: []api.Block{}}})},
		{"a block's", full(nil, nil, nil, nil, []api.Func{{Blocks: []api.Block{{}}}}), full(nil, nil, nil, nil, []api.Func{{Blocks: []api.Block{{In: room, Code: []api.Instr{}}}}})},
		{"an instruction's", coded(1, 1, api.Instr{}), coded(1, 1, instr)},
	} {
		if !Same(c.a, c.b) || !Same(c.b, c.a) {
			t.Errorf("%s empty lists are not the same as none", c.why)
		}
	}
}

// P4.3: Same of any two images.
func TestSameOfDraws(t *testing.T) {
	l := append(images(200), short(images(2000), 14)...)
	for i, a := range l {
		for j, b := range l {
			if got := Same(a, b); got != alike(a, b) {
				t.Fatalf("Same of %d and %d: %v", i, j, got)
			}
		}
		if !Same(a, copied(a)) {
			t.Fatal("a copy is another image", i)
		}
	}
}
