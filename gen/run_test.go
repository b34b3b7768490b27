package gen

import (
	"bytes"
	"strings"
	"testing"

	"bellows/api"
	"bellows/vm"
)

// P13.6: what programs put out, and how they end, by hand.
func TestWhatProgramsDo(t *testing.T) {
	for src, want := range map[string]string{
		"putc 65":       "done, A",
		"print \"abc\"": "done, abc",
		"print \"\"":    "done, ",
		"1 div 0":       "raised Div, ",
		"raise Size":    "raised Size, ",
		"print (\"a\" ^ \"b\"); print \"c\"; putc 10":                                                                          "done, abc\n",
		"fun f n = if n = 0 then () else (putc (64 + n); f (n - 1)) in f 3":                                                    "done, CBA",
		"(1 div 0) handle Div => 2":                                                                                            "done, ",
		"case [1, 2] of [] => putc 0 | x :: _ => putc (64 + x)":                                                                "done, A",
		"fun twice f x = f (f x) in putc (twice (fn n => n + 1) 64)":                                                           "done, B",
		"exception A of int in raise A 1":                                                                                      "raised A, ",
		"exception A exception B of int in ((raise A) handle B n => putc n) handle A => putc 67":                               "done, C",
		"exception B of int in ((putc 65; raise B 66) handle B n => putc n)":                                                   "done, AB",
		"exception B of int in ((raise B 66) handle B 1 => putc 65)":                                                           "raised B, ",
		"val r = ref 1 in (r := !r + 1; putc (64 + !r))":                                                                       "done, B",
		"val a = array (3, 65) in (update (a, 1, 67); putc (sub (a, 1)); putc (sub (a, 2)); putc (64 + length a); sub (a, 3))": "raised Subscript, CAC",
		"fun loop () = let val c = getc () in if c < 0 then () else (putc (c + 1); loop ()) end in loop ()":                    "done, bcd",
		"putc (64 + size \"abc\"); putc (byte (\"abc\", 1)); putc (66 + cmp (\"a\", \"b\")); byte (\"abc\", 3)":                "raised Subscript, CbA",
		"array (0 - 1, 4); ()": "raised Size, ",
		"fun yes b = putc (if b then 89 else 78) in (yes (1 > 2); yes (2 > 1); yes (1 >= 1); yes (1 <> 1); yes (1 <> 2); yes (1 <= 0))":               "done, NYYNYN",
		"putc (~ 5 + 70); putc (130 mod 100 + 35); putc (130 div 2)":                                                                                  "done, AAA",
		"fun f x = case x of (0, y) => y | (z, _) => z in (putc (f (0, 65)); putc (f (66, 1)))":                                                       "done, AB",
		"datatype t = L | N of t * int * t fun f t = case t of L => () | N (a, n, b) => (f a; putc n; f b) in f (N (N (L, 65, L), 66, N (L, 67, L)))": "done, ABC",
		"fun f n = (if n = 3 then raise Match else f (n + 1); putc n) in (f 0) handle Match => putc 77":                                               "done, M",
		"fun f n = ((if n = 3 then raise Match else f (n + 1)); putc (64 + n)) handle Div => putc 1 in (f 0) handle Match => putc 77":                 "done, M",
		"fun f n = ((if n = 3 then raise Match else f (n + 1)); putc (64 + n)) handle Match => putc (48 + n) in f 0":                                  "done, 3BA@",
	} {
		p := written(t, src)
		o := held(t, src, p).does("abc", 10000)
		got := "done, "
		if o.kind == api.Raised {
			got = "raised " + o.exn + ", "
		}
		if got += string(o.out); got != want {
			t.Errorf("%s: %s", src, got)
		}
	}
}

// least is an image, and how much heap and stack there may be.
func least(t *testing.T, src string, heap, stack int, collect bool) api.Outcome {
	t.Helper()
	c := held(t, src, written(t, src))
	s := api.Script{Fuel: api.MaxFuel, Heap: heap, Stack: stack, Input: []byte("abcdefgh")}
	if collect {
		s.Collect = make([]bool, 1000)
		for i := range s.Collect {
			s.Collect[i] = i%3 > 0
		}
	}
	return vm.Run(c.m, s)
}

// P13.7: memory that isn't needed is free: long runs on little heap, and little stack.
func TestLittleMemory(t *testing.T) {
	t.Parallel()
	const loop = "fun f n = if n = 0 then print \"!\" else "
	for src, most := range map[string][2]int{
		loop + "f (n - 1) in f 100000":                                                            {2, 10},
		loop + "(f (n - 1)) in f 100000":                                                          {2, 10},
		loop + "(ref n; f (n - 1)) in f 30000":                                                    {2, 20},
		loop + "let val r = ref n in (r := !r - 1; f (!r)) end in f 30000":                        {2, 20},
		loop + "let val (a, b) = (n, n - 1) in f b end in f 30000":                                {4, 20},
		loop + "case [n, n - 1, 5] of a :: b :: _ => f b | _ => f 0 in f 10000":                   {9, 20},
		loop + "(print (\"a\" ^ \"b\"); f (n - 1)) in f 1000":                                     {6, 20},
		loop + "((if n mod 2 = 0 then raise Div else f 0) handle Div => (); f (n - 2)) in f 1000": {4, 30},
		"fun up (l, n) = if n = 0 then l else up (n :: l, n - 1) fun sum (l, s) = case l of [] => s | x :: r => sum (r, s + x) in sum (up ([], 1000), 0); print \"!\"":                                                            {3010, 30},
		"fun up (l, n) = if n = 0 then l else up (n :: l, n - 1) fun len (l, s) = case l of [] => s | x :: r => len (r, s + 1) fun each n = if n = 0 then () else (len (up ([], 100), 0); each (n - 1)) in each 100; print \"!\"": {310, 40},
		"fun eat l = case l of [] => () | x :: r => (array (x, 0); eat r) in eat [100, 200, 300, 400]; print \"!\"":                                                                                                               {402, 40},
		"val l = [1, 2, 3, 4, 5, 6, 7, 8] in (case l of x :: _ => array (100, x) | [] => array (1, 1); print \"!\")":                                                                                                              {101, 40},
		"fun f x = (array (100, 0); g 5) and g y = (array (100, y); ()) in f (array (100, 1)); print \"!\"":                                                                                                                       {202, 40},
		"val a = array (100, 1) val n = length a val b = array (n, 2) in print \"!\"":                                                                                                                                             {101, 40},
		"fun f a = let val n = length a in (array (100, n); print \"!\") end in f (array (100, 1))":                                                                                                                               {101, 40},
		"val r = ref [1, 2, 3] in (r := []; array (100, 1); print \"!\")":                                                                                                                                                         {105, 40},
	} {
		for _, collect := range []bool{false, true} {
			o := least(t, src, most[0], most[1], collect)
			if o.Kind != api.Done || !bytes.HasSuffix(o.Output, []byte("!")) {
				t.Error(src, o)
			}
		}
		held(t, src, written(t, src)).does("abcdefgh", 1<<20)
	}
}

// P13.6, P13.7: what is needed is held: too little memory is no memory, whatever was put out till then a beginning.
func TestTooLittle(t *testing.T) {
	t.Parallel()
	src := "fun up (l, n) = if n = 0 then l else (putc (65 + n mod 26); up (n :: l, n - 1)) in up ([], 10000)"
	for heap := range 1000 {
		if o := least(t, src, heap, 100, heap%2 == 0); o.Kind != api.NoHeap || len(o.Output) < heap/3 || len(o.Output) > heap {
			t.Fatal(heap, o)
		}
	}
	src = "fun f n = if n = 0 then 0 else (putc 65; 1 + f (n - 1)) in f 100000"
	for stack := range 1000 {
		if o := least(t, src, 100, stack, false); o.Kind != api.NoStack || !strings.HasPrefix(strings.Repeat("A", 1000), string(o.Output)) {
			t.Fatal(stack, o)
		}
	}
	src = "fun loop n = loop (n + 1) in loop 0"
	c := held(t, src, written(t, src))
	for fuel := range 1000 {
		if o := vm.Run(c.m, api.Script{Fuel: fuel, Stack: 10}); o.Kind != api.NoFuel || o.Steps != fuel {
			t.Fatal(fuel, o)
		}
	}
}
