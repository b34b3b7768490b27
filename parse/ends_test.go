package parse

import (
	"math"
	"reflect"
	"slices"
	"strings"
	"testing"

	"bellows/api"
)

// anyExp is an expression of any parts, most of which no text is read as.
func (c *chance) anyExp(depth int) api.Exp {
	var e api.Exp
	c.fill(reflect.ValueOf(&e).Elem(), depth)
	return e
}

// fill makes up a part.
func (c *chance) fill(v reflect.Value, depth int) {
	switch v.Kind() {
	case reflect.Struct:
		for i := range v.NumField() {
			c.fill(v.Field(i), depth)
		}
	case reflect.Slice:
		if depth <= 0 || c.below(3) > 0 {
			return
		}
		n := c.below(4)
		v.Set(reflect.MakeSlice(v.Type(), n, n))
		for i := range n {
			c.fill(v.Index(i), depth-1)
		}
	case reflect.Int, reflect.Int64:
		v.SetInt(oneOf(c, []int64{0, 1, 1, 2, 3, 4, 5, 6, 7, 8, 9, 10, 11, 12, 13, -1, math.MinInt64, math.MaxInt64}))
	case reflect.String:
		v.SetString(oneOf(c, []string{"", "", "x", "A", "+", "*", "!", "'a", "(*", "*)", "\"", "a b", "\x00\xff", "true"}))
	case reflect.Bool:
		v.SetBool(c.below(2) == 0)
	}
}

// P5: of any expressions there is a text, which can be read, or is refused, and they are the same as themselves.
func TestAnyExpressionsEnd(t *testing.T) {
	c := &chance{seed: 20}
	for range 20000 {
		e := c.anyExp(4)
		if !Same(e, e) {
			t.Fatalf("%+v", e)
		}
		s := Print(e)
		if Print(e) != s {
			t.Fatal(s)
		}
		p, f, at := Parse(s)
		if f != api.OK && !reflect.DeepEqual(p, api.Exp{}) || f == api.OK && at != 0 {
			t.Fatal(s, p, f, at)
		}
	}
}

// deepest are expressions that go in by one of their lists, or parts, as deep as promises hold.
func deepest(n int) map[string]api.Exp {
	grow := func(in func(e api.Exp) api.Exp) api.Exp {
		e := api.Exp{Kind: api.EInt}
		for range n {
			e = in(e)
		}
		return e
	}
	pat, ty := api.Pat{}, api.Ty{}
	one, arrow := api.Pat{}, api.Ty{Kind: api.TVar}
	for range n {
		pat = api.Pat{Kind: api.PTuple, L: []api.Pat{pat}}
		one = api.Pat{Kind: api.PCon, Name: "A", L: []api.Pat{one}}
		ty = api.Ty{Kind: api.TCon, Name: "t", L: []api.Ty{ty}}
		arrow = api.Ty{Kind: api.TArrow, L: []api.Ty{arrow, {Kind: api.TVar}}}
	}
	con := func(t api.Ty) api.Exp {
		return api.Exp{Kind: api.ELet, Decs: []api.Dec{{Kind: api.DExn, Cons: []api.Con{{Has: true, Ty: t}}}}}
	}
	m := map[string]api.Exp{
		"handle": grow(func(e api.Exp) api.Exp {
			return api.Exp{Kind: api.EHandle, L: []api.Exp{e}, Cases: []api.Case{{E: api.Exp{}}}}
		}),
		"case": grow(func(e api.Exp) api.Exp { return api.Exp{Kind: api.ECase, Cases: []api.Case{{}, {E: e}}} }),
		"fn":   grow(func(e api.Exp) api.Exp { return api.Exp{Kind: api.EFn, Cases: []api.Case{{E: e}}} }),
		"val":  grow(func(e api.Exp) api.Exp { return api.Exp{Kind: api.ELet, Decs: []api.Dec{{Kind: api.DVal, E: e}}} }),
		"fun": grow(func(e api.Exp) api.Exp {
			return api.Exp{Kind: api.ELet, Decs: []api.Dec{{Kind: api.DFun, Funs: []api.Fun{{E: e}}}}}
		}),
		"in":  grow(func(e api.Exp) api.Exp { return api.Exp{Kind: api.ELet, L: []api.Exp{e}} }),
		"pat": {Kind: api.EFn, Cases: []api.Case{{P: pat}}}, "con": {Kind: api.EFn, Cases: []api.Case{{P: one}}},
		"ty": con(ty), "arrow": con(arrow),
	}
	params := grow(func(e api.Exp) api.Exp { return api.Exp{Kind: api.EFn, Cases: []api.Case{{E: e}}} })
	m["params"] = api.Exp{Kind: api.ELet, Decs: []api.Dec{{Kind: api.DFun, Funs: []api.Fun{{E: params}}}}}
	for kind := range 14 {
		m["l"+string(rune('a'+kind))] = grow(func(e api.Exp) api.Exp { return api.Exp{Kind: kind, Name: "x", L: []api.Exp{e}} })
	}
	return m
}

// P5: expressions that go in as deep as promises hold.
func TestDeepestExpressionsEnd(t *testing.T) {
	for name, e := range deepest(1 << 16) {
		s := Print(e)
		if len(s) < 1 && name != "l@" || !Same(e, e) {
			t.Error(name, len(s))
		}
		if _, f, _ := Parse(s); f != api.ErrBig && len(s) > api.MaxText {
			t.Error(name, f)
		}
	}
}

// P5: no text makes Parse panic, and none makes it long.
func TestLongTextsEnd(t *testing.T) {
	for _, part := range []string{"(", ")", "[", "]", "(1,", "[1,", "(1;", "let ", "let in ", "let val x=", "let in 1 end ", "fn x=>", "fn (", "fn [", "fn A(", "fn x::", "case ", "case 1 of x=>", "if ", "if 1 then ", "if 1 then 1 else ", "raise ", "1 handle x=>", "1+", "1*", "1::", "1:=", "1=", "!", "~", "f ", "()", "[]", "f!", "a andalso ", "a orelse ", ";", "1;", "val x=1 ", "fun f x=1 ", "fun f x=", "and f x=1 ", "exception E ", "exception E of (", "exception E of a->", "datatype t=A ", "|A", "x ", "\"a\"", "'a ", "(* ", "*", "=>", "1 2 3 ", "\xff"} {
		for _, n := range []int{1000, api.MaxText - 1, api.MaxText, api.MaxText + 1} {
			src := strings.Repeat(part, n/len(part)+1)[:n]
			for _, s := range []string{src, "fun f " + src, "datatype t = A of " + src, "exception E of " + src, "fn " + src, "(" + src, src + " 1"} {
				e, f, at := Parse(s)
				if f == api.OK && at != 0 || f != api.OK && !reflect.DeepEqual(e, api.Exp{}) || at < 0 || at > len(s) {
					t.Errorf("%q: %d, %d", part, f, at)
				}
				if f == api.OK {
					Same(e, e)
					Print(e)
				}
			}
		}
	}
}

// P5: bytes and tokens in any row.
func TestAnyTextsEnd(t *testing.T) {
	c := &chance{seed: 21}
	words := anyWords()
	for range 20000 {
		var l []string
		for range c.below(30) {
			l = append(l, oneOf(c, words))
		}
		b := make([]byte, c.below(8))
		for i := range b {
			b[i] = byte(c.next())
		}
		for _, src := range []string{strings.Join(l, " "), string(b), strings.Join(l, " ") + string(b)} {
			e, f, at := Parse(src)
			if f == api.OK && at != 0 || f != api.OK && !reflect.DeepEqual(e, api.Exp{}) || at < 0 || at > len(src) {
				t.Fatal(src, f, at)
			}
		}
	}
}

// cleared makes all parts of a thing's lists zero, those that stand in others first.
func cleared(x any) {
	var all []reflect.Value
	parts(reflect.ValueOf(x).Elem(), "", func(_ string, v reflect.Value) { all = append(all, v) })
	for _, v := range slices.Backward(all) {
		if v.Kind() == reflect.Slice {
			for i := range v.Len() {
				v.Index(i).SetZero()
			}
		}
	}
}

// Rules 4 and 6: what is handed in is not changed, spare room included; the same is answered again; answers share nothing.
func TestAnswersAreNewAndArgumentsStay(t *testing.T) {
	c := &chance{seed: 22}
	m := newMaker(22)
	for range 500 {
		src := strings.Join(m.program(40), " ")
		a, f, at := Parse(src)
		kept := copied(a)
		b, g, to := Parse(src)
		if f != g || at != to || !alike(a, b) {
			t.Fatal(src)
		}
		cleared(&a)
		if !alike(b, kept) {
			t.Fatal(src)
		}
		e := c.anyExp(4)
		parts(reflect.ValueOf(&e).Elem(), "", func(path string, v reflect.Value) {
			if v.Kind() == reflect.Slice {
				room := reflect.MakeSlice(v.Type(), v.Len(), v.Len()+2)
				reflect.Copy(room, v)
				v.Set(room)
			}
		})
		before := copied(e)
		s := Print(e)
		if !Same(e, e) || Print(e) != s || !alike(e, before) {
			t.Fatalf("%+v", e)
		}
		parts(reflect.ValueOf(&e).Elem(), "", func(path string, v reflect.Value) {
			if v.Kind() == reflect.Slice && !v.Slice(v.Len(), v.Cap()).IsZero() {
				for i := v.Len(); i < v.Cap(); i++ {
					if !v.Slice(0, v.Cap()).Index(i).IsZero() {
						t.Fatal(path)
					}
				}
			}
		})
	}
}
