package mono

import (
	"math"
	"reflect"
	"strconv"
	"strings"
	"testing"

	"bellows/api"
)

// chain is a text in which n variables reach one another.
func chain(n int) string { return "val a = 1 " + strings.Repeat("val a = a ", n-1) + "in a" }

// twofold is a text in which functions are reached at 1, 2, 4, .. rows: 2^n - 1 instances.
func twofold(n int) string {
	s := "fun f0 x = x "
	for i := 1; i < n; i++ {
		f := "f" + strconv.Itoa(i-1)
		s += "fun f" + strconv.Itoa(i) + " x = (" + f + " (x, 1); " + f + " (1, x)) "
	}
	return s + "in f" + strconv.Itoa(n-1) + " \"\""
}

// manyDatas is a text in which list is reached at n rows.
func manyDatas(n int) string {
	return "val a = 1 " + strings.Repeat("val (a, _) = ([a], 1) ", n) + "in 1"
}

// P10.2, P10.4, P10.7: of n instances no fewer are enough, and any more; all of these answer the same.
func TestMost(t *testing.T) {
	for src, n := range map[string]int{
		"1": 2, "[1]": 3, "fun f x = [x] in (f 1, f \"\")": 6, chain(1): 3, chain(5): 7, chain(300): 302, chain(998): 1000,
		twofold(1): 3, twofold(4): 17, twofold(9): 513, manyDatas(1): 4, manyDatas(250): 253,
	} {
		p := elaborated(t, src)
		if got := Instances(p); got != n {
			t.Fatalf("%s: %d, want %d", short(src), got, n)
		}
		for _, most := range []int{math.MinInt, -1000, -1, 0, 1, 2, n / 2, n - 1} {
			if most < n {
				tooManyOf(t, src, p, most)
			}
		}
		want, f := Mono(p, n)
		if f != api.OK {
			t.Fatal(short(src), f)
		}
		for _, most := range []int{n + 1, 2 * n, api.MaxCap - 1, api.MaxCap, api.MaxCap + 1, math.MaxInt} {
			if q, f := Mono(p, most); most >= n && (f != api.OK || !reflect.DeepEqual(q, want)) {
				t.Fatal(short(src), most, f)
			}
		}
	}
}

// P10.2, P10.4: of more than MaxCap instances there are MaxCap + 1, and they are too many whatever most is.
func TestMoreThanMaxCap(t *testing.T) {
	for _, src := range []string{
		chain(999), twofold(10), twofold(14), twofold(30), "fun f x = x in (f 1, " + within(twofold(10)) + ")", "fun g x = " + within(twofold(10)) + " in g 1",
		"fun g x = " + within(twofold(8)) + " in (g 1, g \"\", g (), g (g, 1))", "val x = " + within(twofold(10)) + " in 1",
	} {
		p := elaborated(t, src)
		if got := Instances(p); got != api.MaxCap+1 {
			t.Fatalf("%s: %d", short(src), got)
		}
		for _, most := range []int{-1, 0, 500, api.MaxCap - 1, api.MaxCap, api.MaxCap + 1, math.MaxInt} {
			tooManyOf(t, src, p, most)
		}
	}
	counts(t, 0, "fun g x = "+within(twofold(10))+" in 1")
}

func within(src string) string { return "let " + src + " end" }
