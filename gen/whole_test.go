package gen

import "testing"

// P13.6, P13.7: programs as one writes them.
func TestWholePrograms(t *testing.T) {
	t.Parallel()
	for src, want := range map[string]string{
		`fun app (a, b) = case a of [] => b | x :: r => x :: app (r, b)
fun filter f l = case l of [] => [] | x :: r => if f x then x :: filter f r else filter f r
fun sort l = case l of [] => [] | x :: r => app (sort (filter (fn y => y < x) r), x :: sort (filter (fn y => y >= x) r))
fun read () = let val c = getc () in if c < 0 then [] else c :: read () end
fun each f l = case l of [] => () | x :: r => (f x; each f r)
in each putc (sort (read ()))`: " bdeelloorsstw",
		`fun digits n = (if n >= 10 then digits (n div 10) else (); putc (48 + n mod 10))
fun safe (q, d, l) = case l of [] => true | x :: r => if x = q then false else if x - q = d then false else if q - x = d then false else safe (q, d + 1, r)
fun place (k, n, l) = if k = 0 then 1 else let fun try q = if q > n then 0 else (if safe (q, 1, l) then place (k - 1, n, q :: l) else 0) + try (q + 1) in try 1 end
in (digits (place (6, 6, [])); putc 32; digits (place (5, 5, [])))`: "4 10",
		`val n = 60 val a = array (n, true)
fun strike (i, step) = if i >= n then () else (update (a, i, false); strike (i + step, step))
fun go i = if i >= n then () else (if sub (a, i) then (putc (i mod 94 + 33); strike (i + i, i)) else (); go (i + 1))
in go 2`: "#$&(,.248>@FJLPV\\",
		`datatype e = N of int | Add of e * e | Mul of e * e | Neg of e | Div2 of e * e
exception Bad of string
fun eval x = case x of N n => n | Add (a, b) => eval a + eval b | Mul (N 0, _) => 0 | Mul (a, b) => eval a * eval b | Neg a => ~ (eval a) | Div2 (a, b) => (eval a div eval b handle Div => raise Bad "by 0")
fun show x = putc (eval x) handle Bad s => print s | Size => print "?"
in (show (Add (N 60, N 5)); show (Mul (N 0, Div2 (N 1, N 0))); show (Div2 (N 1, Add (N 1, Neg (N 1)))); show (Mul (N 11, N 6)))`: "A\x00by 0B",
		`fun fold f a l = case l of [] => a | x :: r => fold f (f (a, x)) r
fun comp fs = fold (fn (f, g) => fn x => g (f x)) (fn x => x) fs
fun rev l = fold (fn (a, x) => x :: a) [] l
fun times (n, s) = if n = 0 then "" else s ^ times (n - 1, s)
in (putc (comp [fn x => x + 1, fn x => x * 2, fn x => x - 5] 35); fold (fn (_, c) => putc c) () (rev [67, 66, 65]); print (times (5, "ab")))`: "CABCababababab",
	} {
		a := held(t, src, written(t, src)).does("sorted bellows", 1<<20)
		if string(a.out) != want {
			t.Errorf("%s: %q", src, a.out)
		}
	}
}
