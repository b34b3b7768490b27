/- Plain. -/
import Derived.Test.YtjeehbcbflofpaaUses
import Derived.Test.YtjeehbcbflofpaaHas
import Derived.Lib.SmallJoins
namespace Go.Proofs.Ytjeehbcbflofpaa
set_option linter.unusedVariables false
open Go.ChangeShapes Go.WideShapes Go.ChangeAt Go.RowKit
open M (W)
/-- An instruction's cells. -/
def M.ins (op d a b c n : Int) (la : Option Addr) (ll lc : Nat) (ma : Option Addr) (ml mc : Nat) (va : Option Addr) (vl vc : Nat) : Array Value :=
  #[.int .i64 op, .int .i64 d, .int .i64 a, .int .i64 b, .int .i64 c, .int .i64 n, .slice la ll lc, .slice ma ml mc, .slice va vl vc]
def M.may (s : ByteArray) (c : Nat) (z : Bool) : Bool := z || M.hasB s c
def M.plain (s : ByteArray) (d a b c n : Int) (ll ml vl : Nat) : Bool :=
  (!(s.toList == [])) && M.may s 68 (d == 0) && M.may s 65 (a == 0) && M.may s 66 (b == 0) && M.may s 67 (c == 0) && M.may s 78 (n == 0) && M.may s 76 ((ll : Int) == 0) && M.may s 77 ((ml : Int) == 0) && M.may s 108 ((vl : Int) == 0)
set_option maxRecDepth 100000 in
set_option maxHeartbeats 4000000 in
theorem plain_any (op d a b c n : Int) (la : Option Addr) (ll lc : Nat) (ma : Option Addr) (ml mc : Nat) (va : Option Addr) (vl vc : Nat) (w : World) :
    Calls Try.prog 18 #[.agg #[.int .i64 op, .int .i64 d, .int .i64 a, .int .i64 b, .int .i64 c, .int .i64 n, .slice la ll lc, .slice ma ml mc, .slice va vl vc]] w fun e w' => e = .returned (.bool (M.plain (M.uses op) d a b c n ll ml vl)) ∧ Still w w' := by
  have HU := Lib.hid (uses_any op (w.alloc (.cells #[.int .i64 op, .int .i64 d, .int .i64 a, .int .i64 b, .int .i64 c, .int .i64 n, .slice la ll lc, .slice ma ml mc, .slice va vl vc] 44)))
  generalize M.uses op = s at *
  have HM : Hid (∀ (k : Nat) (z : Bool), k < 256 → Calls Try.prog 39 #[.string ⟨#[k.toUInt8]⟩, .bool z, .pointer (some ⟨w.heap.size + 1, 0, none⟩)] ((w.alloc (.cells #[.int .i64 op, .int .i64 d, .int .i64 a, .int .i64 b, .int .i64 c, .int .i64 n, .slice la ll lc, .slice ma ml mc, .slice va vl vc] 44)).alloc (.cells #[.string s] 9)) fun e w' => e = .returned (.bool (M.may s k z)) ∧ w' = ((w.alloc (.cells #[.int .i64 op, .int .i64 d, .int .i64 a, .int .i64 b, .int .i64 c, .int .i64 n, .slice la ll lc, .slice ma ml mc, .slice va vl vc] 44)).alloc (.cells #[.string s] 9))) := fun k z hk =>
    may_any s k hk z (w.heap.size + 1) _ (Go.Joins.cell_alloc_mark_at _ #[.string s] _ _ _ 0 (by simp)) (by simp)
  have S2 : Hid (Still w ((w.alloc (.cells #[.int .i64 op, .int .i64 d, .int .i64 a, .int .i64 b, .int .i64 c, .int .i64 n, .slice la ll lc, .slice ma ml mc, .slice va vl vc] 44)).alloc (.cells #[.string s] 9))) := ((Still.refl w).alloc _).alloc _
  have m1 : Hid (Calls Try.prog 39 #[.string ⟨#[68]⟩, .bool (d == 0), .pointer (some ⟨w.heap.size + 1, 0, none⟩)] ((w.alloc (.cells #[.int .i64 op, .int .i64 d, .int .i64 a, .int .i64 b, .int .i64 c, .int .i64 n, .slice la ll lc, .slice ma ml mc, .slice va vl vc] 44)).alloc (.cells #[.string s] 9)) fun e w' => e = .returned (.bool (M.may s 68 (d == 0))) ∧ w' = ((w.alloc (.cells #[.int .i64 op, .int .i64 d, .int .i64 a, .int .i64 b, .int .i64 c, .int .i64 n, .slice la ll lc, .slice ma ml mc, .slice va vl vc] 44)).alloc (.cells #[.string s] 9))) := HM.out 68 (d == 0) (by decide)
  have m2 : Hid (Calls Try.prog 39 #[.string ⟨#[65]⟩, .bool (a == 0), .pointer (some ⟨w.heap.size + 1, 0, none⟩)] ((w.alloc (.cells #[.int .i64 op, .int .i64 d, .int .i64 a, .int .i64 b, .int .i64 c, .int .i64 n, .slice la ll lc, .slice ma ml mc, .slice va vl vc] 44)).alloc (.cells #[.string s] 9)) fun e w' => e = .returned (.bool (M.may s 65 (a == 0))) ∧ w' = ((w.alloc (.cells #[.int .i64 op, .int .i64 d, .int .i64 a, .int .i64 b, .int .i64 c, .int .i64 n, .slice la ll lc, .slice ma ml mc, .slice va vl vc] 44)).alloc (.cells #[.string s] 9))) := HM.out 65 (a == 0) (by decide)
  have m3 : Hid (Calls Try.prog 39 #[.string ⟨#[66]⟩, .bool (b == 0), .pointer (some ⟨w.heap.size + 1, 0, none⟩)] ((w.alloc (.cells #[.int .i64 op, .int .i64 d, .int .i64 a, .int .i64 b, .int .i64 c, .int .i64 n, .slice la ll lc, .slice ma ml mc, .slice va vl vc] 44)).alloc (.cells #[.string s] 9)) fun e w' => e = .returned (.bool (M.may s 66 (b == 0))) ∧ w' = ((w.alloc (.cells #[.int .i64 op, .int .i64 d, .int .i64 a, .int .i64 b, .int .i64 c, .int .i64 n, .slice la ll lc, .slice ma ml mc, .slice va vl vc] 44)).alloc (.cells #[.string s] 9))) := HM.out 66 (b == 0) (by decide)
  have m4 : Hid (Calls Try.prog 39 #[.string ⟨#[67]⟩, .bool (c == 0), .pointer (some ⟨w.heap.size + 1, 0, none⟩)] ((w.alloc (.cells #[.int .i64 op, .int .i64 d, .int .i64 a, .int .i64 b, .int .i64 c, .int .i64 n, .slice la ll lc, .slice ma ml mc, .slice va vl vc] 44)).alloc (.cells #[.string s] 9)) fun e w' => e = .returned (.bool (M.may s 67 (c == 0))) ∧ w' = ((w.alloc (.cells #[.int .i64 op, .int .i64 d, .int .i64 a, .int .i64 b, .int .i64 c, .int .i64 n, .slice la ll lc, .slice ma ml mc, .slice va vl vc] 44)).alloc (.cells #[.string s] 9))) := HM.out 67 (c == 0) (by decide)
  have m5 : Hid (Calls Try.prog 39 #[.string ⟨#[78]⟩, .bool (n == 0), .pointer (some ⟨w.heap.size + 1, 0, none⟩)] ((w.alloc (.cells #[.int .i64 op, .int .i64 d, .int .i64 a, .int .i64 b, .int .i64 c, .int .i64 n, .slice la ll lc, .slice ma ml mc, .slice va vl vc] 44)).alloc (.cells #[.string s] 9)) fun e w' => e = .returned (.bool (M.may s 78 (n == 0))) ∧ w' = ((w.alloc (.cells #[.int .i64 op, .int .i64 d, .int .i64 a, .int .i64 b, .int .i64 c, .int .i64 n, .slice la ll lc, .slice ma ml mc, .slice va vl vc] 44)).alloc (.cells #[.string s] 9))) := HM.out 78 (n == 0) (by decide)
  have m6 : Hid (Calls Try.prog 39 #[.string ⟨#[76]⟩, .bool ((ll : Int) == 0), .pointer (some ⟨w.heap.size + 1, 0, none⟩)] ((w.alloc (.cells #[.int .i64 op, .int .i64 d, .int .i64 a, .int .i64 b, .int .i64 c, .int .i64 n, .slice la ll lc, .slice ma ml mc, .slice va vl vc] 44)).alloc (.cells #[.string s] 9)) fun e w' => e = .returned (.bool (M.may s 76 ((ll : Int) == 0))) ∧ w' = ((w.alloc (.cells #[.int .i64 op, .int .i64 d, .int .i64 a, .int .i64 b, .int .i64 c, .int .i64 n, .slice la ll lc, .slice ma ml mc, .slice va vl vc] 44)).alloc (.cells #[.string s] 9))) := HM.out 76 ((ll : Int) == 0) (by decide)
  have m7 : Hid (Calls Try.prog 39 #[.string ⟨#[77]⟩, .bool ((ml : Int) == 0), .pointer (some ⟨w.heap.size + 1, 0, none⟩)] ((w.alloc (.cells #[.int .i64 op, .int .i64 d, .int .i64 a, .int .i64 b, .int .i64 c, .int .i64 n, .slice la ll lc, .slice ma ml mc, .slice va vl vc] 44)).alloc (.cells #[.string s] 9)) fun e w' => e = .returned (.bool (M.may s 77 ((ml : Int) == 0))) ∧ w' = ((w.alloc (.cells #[.int .i64 op, .int .i64 d, .int .i64 a, .int .i64 b, .int .i64 c, .int .i64 n, .slice la ll lc, .slice ma ml mc, .slice va vl vc] 44)).alloc (.cells #[.string s] 9))) := HM.out 77 ((ml : Int) == 0) (by decide)
  have m8 : Hid (Calls Try.prog 39 #[.string ⟨#[108]⟩, .bool ((vl : Int) == 0), .pointer (some ⟨w.heap.size + 1, 0, none⟩)] ((w.alloc (.cells #[.int .i64 op, .int .i64 d, .int .i64 a, .int .i64 b, .int .i64 c, .int .i64 n, .slice la ll lc, .slice ma ml mc, .slice va vl vc] 44)).alloc (.cells #[.string s] 9)) fun e w' => e = .returned (.bool (M.may s 108 ((vl : Int) == 0))) ∧ w' = ((w.alloc (.cells #[.int .i64 op, .int .i64 d, .int .i64 a, .int .i64 b, .int .i64 c, .int .i64 n, .slice la ll lc, .slice ma ml mc, .slice va vl vc] 44)).alloc (.cells #[.string s] 9))) := HM.out 108 ((vl : Int) == 0) (by decide)
  have hpl : Hid (M.plain s d a b c n ll ml vl = ((!(s.toList == [])) && M.may s 68 (d == 0) && M.may s 65 (a == 0) && M.may s 66 (b == 0) && M.may s 67 (c == 0) && M.may s 78 (n == 0) && M.may s 76 ((ll : Int) == 0) && M.may s 77 ((ml : Int) == 0) && M.may s 108 ((vl : Int) == 0))) := rfl
  generalize M.plain s d a b c n ll ml vl = pl at *
  generalize M.may s 68 (d == 0) = q1 at m1 hpl
  generalize M.may s 65 (a == 0) = q2 at m2 hpl
  generalize M.may s 66 (b == 0) = q3 at m3 hpl
  generalize M.may s 67 (c == 0) = q4 at m4 hpl
  generalize M.may s 78 (n == 0) = q5 at m5 hpl
  generalize M.may s 76 ((ll : Int) == 0) = q6 at m6 hpl
  generalize M.may s 77 ((ml : Int) == 0) = q7 at m7 hpl
  generalize M.may s 108 ((vl : Int) == 0) = q8 at m8 hpl
  clear HM
  go_enter Try.func18, Try.ntmps18
  go_wp2_with fail
  refine HU.out.mono ?_; rintro e w1 ⟨rfl, rfl⟩
  cases he : (s.toList == [])
  all_goals
    go_wp2_with (first
    | (go_at_call 39; (with_reducible refine m1.out.mono ?_); rintro e w9 ⟨rfl, rfl⟩)
    | (go_at_call 39; (with_reducible refine m2.out.mono ?_); rintro e w9 ⟨rfl, rfl⟩)
    | (go_at_call 39; (with_reducible refine m3.out.mono ?_); rintro e w9 ⟨rfl, rfl⟩)
    | (go_at_call 39; (with_reducible refine m4.out.mono ?_); rintro e w9 ⟨rfl, rfl⟩)
    | (go_at_call 39; (with_reducible refine m5.out.mono ?_); rintro e w9 ⟨rfl, rfl⟩)
    | (go_at_call 39; (with_reducible refine m6.out.mono ?_); rintro e w9 ⟨rfl, rfl⟩)
    | (go_at_call 39; (with_reducible refine m7.out.mono ?_); rintro e w9 ⟨rfl, rfl⟩)
    | (go_at_call 39; (with_reducible refine m8.out.mono ?_); rintro e w9 ⟨rfl, rfl⟩))
    all_goals
      go_ret
      refine ⟨?_, S2.out⟩
      have := hpl.out
      rw [this]
      simp_all
end Go.Proofs.Ytjeehbcbflofpaa
