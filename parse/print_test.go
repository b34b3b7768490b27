package parse

import (
	"reflect"
	"strings"
	"testing"

	"bellows/api"
	"bellows/lex"
)

// P8.4: how programs are printed.
func TestPrintExamples(t *testing.T) {
	for _, c := range [][2]string{
		{"1 + 2 * 3", "(1 + (2 * 3))"},
		{"a - b - c", "((a - b) - c)"},
		{"f x y", "((f x) y)"},
		{"if a then b else c", "(case a of true => b | false => c)"},
		{"x :: y :: z", "(Cons (x, (Cons (y, z))))"},
		{"fun f x = x in f 1", "let fun f x = x in (f 1) end"},
		{"[]", "Nil"},
		{`"a\010\"\\" ^ "\200"`, `("a\n\"\\" ^ "\200")`},
		{"()", "()"},
		{"(1, (2, x), A)", "(1, (2, x), A)"},
		{"fn A x => 1 | _ => fn ~1 => 2", "(fn A x => 1 | _ => (fn ~1 => 2))"},
		{"raise x handle [] => 1", "(raise (x handle Nil => 1))"},
		{"!x + ~ ~ 5", "(!x + ~~5)"},
		{"!(f x) (!y)", "(!(f x) !y)"},
		{"x := !x + 1; x", "let val _ = (x := (!x + 1)) in x end"},
		{"let in 1 end", "let in 1 end"},
		{"val x :: A (y, _) = z fun f A (B x) = 1 and g x = fn 1 => 2 | _ => 3 in 0", "let val Cons (x, A (y, _)) = z fun f A (B x) = 1 and g x = (fn 1 => 2 | _ => 3) in 0 end"},
		{"fun f x = fn y => fn (A z) => 1 in f", "let fun f x y (A z) = 1 in f end"},
		{"datatype t = A | B of t -> (t -> t) * t list -> 'a in 1", "let datatype t = A | B of t -> (t -> t) * t list -> 'a in 1 end"},
		{"datatype 'a t = A of (t -> t) -> t in 1", "let datatype 'a t = A of (t -> t) -> t in 1 end"},
		{"datatype ('a, 'b) t = A of (t * t) u list in 1", "let datatype ('a, 'b) t = A of (t * t) u list in 1 end"},
		{"exception E of (a -> b, c * d, (e, f) u list) t exception F in 1", "let exception E of (a -> b, c * d, (e, f) u list) t exception F in 1 end"},
		{"exception E of (a * b) * c * (d -> e) in 1", "let exception E of (a * b) * c * (d -> e) in 1 end"},
	} {
		if s := Print(read(t, c[0])); s != c[1] {
			t.Errorf("Print(%s) = %s, want %s", c[0], s, c[1])
		}
		same(t, c[0], c[1])
	}
}

// P8.4, P8.5: what is printed is read as the same program, if it is no more, and no deeper, than a text may be.
func TestPrintedIsRead(t *testing.T) {
	m := newMaker(10)
	good, big := 0, 0
	for n := range 4000 {
		src := strings.Join(m.program(5+n%60), " ")
		if n%4 == 0 {
			src = m.deepText(5 + n%35)
		}
		e, f, _ := Parse(src)
		if f != api.OK {
			continue
		}
		s := Print(e)
		again, f, _ := Parse(s)
		if f == api.ErrBig {
			big++
			if _, want, _ := parseAsTold(m.rules, s); want != f {
				t.Fatalf("%s is printed %s: %d, want %d", src, s, f, want)
			}
			continue
		}
		good++
		if f != api.OK || !Same(e, again) || !alikeButAt(e, again) {
			t.Fatalf("%s is printed %s: %d", src, s, f)
		}
		if Print(again) != s {
			t.Fatalf("%s is printed %s, and then %s", src, s, Print(again))
		}
	}
	t.Log(good, big)
	if good < 3000 || big < 50 {
		t.Error("too few", good, big)
	}
}

// alikeButAt: are they the same, wherever they stand?
func alikeButAt(a, b api.Exp) bool {
	a, b = copied(a), copied(b)
	for _, e := range []*api.Exp{&a, &b} {
		places(reflect.ValueOf(e).Elem(), func(at reflect.Value) { at.SetZero() })
	}
	return alike(a, b)
}

// P8.4: each byte in a text, each number, and names with all letters are printed so that they are read.
func TestPrintedTokensAreRead(t *testing.T) {
	for n := range 256 {
		e := api.Exp{Kind: api.EText, Name: string([]byte{byte(n), '0', byte(n)})}
		if !Same(read(t, Print(e)), e) {
			t.Error(n)
		}
	}
	for n := range 62 {
		for _, x := range []int64{1 << n, 1<<n - 1, 1<<n + 1} {
			e := api.Exp{Kind: api.EInt, N: x}
			if !Same(read(t, Print(e)), e) {
				t.Error(x)
			}
			for _, y := range []int64{x, -x} {
				e = api.Exp{Kind: api.EFn, Cases: []api.Case{{P: api.Pat{Kind: api.PInt, N: y}, E: e}}}
				if !Same(read(t, Print(e)), e) {
					t.Error(y)
				}
			}
		}
	}
	for _, src := range []string{"a'_Z09", "true", "A'_z09", "f'", "x_", "aand", "in'", "lets"} {
		same(t, src, Print(read(t, src)))
		same(t, "fn "+src+" => 1", Print(read(t, "fn "+src+" => 1")))
	}
}

// P8.4, P8.5: texts that are printed as long, as many tokens, as deep as may be.
func TestPrintedAtTheLimits(t *testing.T) {
	deep := "x" + strings.Repeat(" + x", api.MaxNest-1)
	same(t, deep, Print(read(t, deep)))
	refuses(t, Print(read(t, deep+" + x")), api.ErrBig, api.MaxNest)
	params := "fun f " + strings.Repeat("x ", 1000) + "= 1 in f"
	same(t, params, Print(read(t, params)))
	unary := strings.Repeat("!", api.MaxNest-1) + "x"
	same(t, unary, Print(read(t, unary)))
	arrows := "exception E of t" + strings.Repeat(" -> t", api.MaxNest-2) + " in 1"
	same(t, arrows, Print(read(t, arrows)))
	deeper := "exception E of t" + strings.Repeat(" -> t", api.MaxNest-1) + " in 1"
	refuses(t, Print(read(t, deeper)), api.ErrBig, len("let "+deeper)-len("t in 1"))
	pats := "fn x" + strings.Repeat(" :: x", api.MaxNest-3) + " => 1"
	same(t, pats, Print(read(t, pats)))
	long := `"` + strings.Repeat("a", api.MaxText-2) + `"`
	if s := Print(read(t, long)); s != long {
		t.Error(len(s))
	}
	wide := `"` + strings.Repeat("\x80", api.MaxText/4) + `"`
	refuses(t, Print(read(t, wide)), api.ErrBig, 0)
	many := "(1" + strings.Repeat(",1", api.MaxTokens/2-2) + ")"
	same(t, many, Print(read(t, many)))
	l, _, _ := lex.Lex(Print(read(t, many)))
	if len(l) != api.MaxTokens-1 {
		t.Error(len(l))
	}
}

// parts calls for each part of v that is no list and no struct, and for each list: v itself can be changed then.
func parts(v reflect.Value, path string, do func(path string, v reflect.Value)) {
	switch v.Kind() {
	case reflect.Struct:
		for i := range v.NumField() {
			parts(v.Field(i), path+"."+v.Type().Field(i).Name, do)
		}
	case reflect.Slice:
		do(path, v)
		for i := range v.Len() {
			parts(v.Index(i), path+"[]", do)
		}
	default:
		do(path, v)
	}
}

// changed calls with v changed in each way that a part of it can be changed a little, and puts back what was there.
func changed(v reflect.Value, with func()) {
	old := reflect.New(v.Type()).Elem()
	old.Set(v)
	switch v.Kind() {
	case reflect.Int, reflect.Int64:
		for _, by := range []int64{1, -1, 1 << 40, -1 << 62} {
			v.SetInt(old.Int() + by)
			with()
		}
	case reflect.String:
		for _, s := range []string{old.String() + "x", "x" + old.String(), old.String() + "\x00", strings.ToUpper(old.String()) + "X"} {
			v.SetString(s)
			with()
		}
	case reflect.Bool:
		v.SetBool(!old.Bool())
		with()
	case reflect.Slice:
		v.Set(reflect.Append(old.Slice3(0, old.Len(), old.Len()), reflect.Zero(v.Type().Elem())))
		with()
		if old.Len() > 0 {
			v.Set(old.Slice(0, old.Len()-1))
			with()
			v.Set(old.Slice(1, old.Len()))
			with()
		}
	}
	v.Set(old)
}

// rich is a program in which there is something of each kind.
func rich(t testing.TB) api.Exp { return read(t, "(("+strings.Join(richParts(), "), (")+"))") }

func richParts() []string {
	l := forms()
	for i, src := range l {
		if strings.HasPrefix(src, "val") || strings.HasPrefix(src, "fun") || strings.HasPrefix(src, "datatype") || strings.HasPrefix(src, "exception") {
			l[i] = "let " + src + " end"
		}
	}
	return l
}

// eachPart looks that Same is false of e and what differs from it in one part, but for At, and that their texts are the same where it is true.
func eachPart(t *testing.T, e api.Exp) {
	t.Helper()
	text := Print(e)
	c := copied(e)
	parts(reflect.ValueOf(&c).Elem(), "", func(path string, v reflect.Value) {
		at := strings.HasSuffix(path, ".At")
		changed(v, func() {
			if Same(e, c) != at || Same(c, e) != at {
				t.Fatalf("%+v: %s: Same is %v", e, path, !at)
			}
			if s := Print(c); at && s != text {
				t.Fatalf("%s: %s: %s", path, text, s)
			}
		})
	})
	if !alike(e, c) || !Same(e, c) || !Same(c, e) {
		t.Fatalf("%+v: not the same as itself", e)
	}
}

// P8.4: Same is false where any part but At differs, in whatever it stands, and true where At alone does; then the texts are the same.
func TestSameInAllParts(t *testing.T) {
	eachPart(t, rich(t))
}

// P8.4: also of parts that mean nothing where they stand.
func TestSameOfPartsThatMeanNothing(t *testing.T) {
	c := &chance{seed: 13}
	for kind := -1; kind <= 13; kind++ {
		eachPart(t, api.Exp{Kind: kind, L: []api.Exp{{}}, Cases: []api.Case{{}}, Decs: []api.Dec{{Kind: kind, Params: []string{""}, Cons: []api.Con{{Ty: api.Ty{Kind: kind, L: []api.Ty{{}}}}}, P: api.Pat{Kind: kind, L: []api.Pat{{}}}, Funs: []api.Fun{{}}}}})
	}
	for range 100 {
		eachPart(t, c.anyExp(3))
	}
}

// P8.4: nil and empty lists are the same, and are printed the same.
func TestNilAndEmptyAreTheSame(t *testing.T) {
	c := &chance{seed: 12}
	for range 300 {
		e := c.anyExp(4)
		full := copied(e)
		parts(reflect.ValueOf(&full).Elem(), "", func(path string, v reflect.Value) {
			if v.Kind() == reflect.Slice && v.Len() == 0 {
				v.Set(reflect.MakeSlice(v.Type(), 0, 2))
			}
		})
		none := copied(e)
		emptied(reflect.ValueOf(&none).Elem())
		if !Same(full, none) || !Same(none, full) || Print(full) != Print(none) {
			t.Fatalf("%+v", e)
		}
	}
}
