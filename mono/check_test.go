package mono

import (
	"reflect"
	"testing"

	"bellows/api"
)

// checked is the program without type variables, which has n instances, is of the right form, and has right types.
func checked(t testing.TB, src string, n int) api.Prog {
	t.Helper()
	p := elaborated(t, src)
	if got := Instances(p); got != n {
		t.Fatalf("Instances(%s): %d, want %d", short(src), got, n)
	}
	q, f := Mono(p, n)
	if f != api.OK {
		t.Fatalf("Mono(%s, %d): %d", short(src), n, f)
	}
	tooManyOf(t, src, p, n-1)
	if m := copied(t, src, p, q); m.count != n {
		t.Fatalf("%s: the model has %d, not %d", short(src), m.count, n)
	}
	sound(t, src, q)
	return q
}

// tooManyOf looks that there are more than most instances.
func tooManyOf(t testing.TB, src string, p api.Prog, most int) {
	t.Helper()
	if q, f := Mono(p, most); f != api.ErrMany || !reflect.DeepEqual(q, api.Prog{}) {
		t.Fatalf("%s, %d: %d", short(src), most, f)
	}
}

// counts looks how many instances texts have: exn and bool, and more.
func counts(t *testing.T, more int, texts ...string) {
	t.Helper()
	for _, src := range texts {
		checked(t, src, 2+more)
	}
}

// writes looks what a text, whose instances are exn, bool, and more, is written as.
func writes(t *testing.T, more int, src, want string) {
	t.Helper()
	if got := toldProg(checked(t, src, 2+more)); got != want {
		t.Errorf("%s:\n%s, want\n%s", short(src), got, want)
	}
}
