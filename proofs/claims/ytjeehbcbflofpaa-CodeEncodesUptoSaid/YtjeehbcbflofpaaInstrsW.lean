/- CodeInstrs. -/
import Derived.Test.YtjeehbcbflofpaaLives4
import Derived.Test.YtjeehbcbflofpaaRefPlain0
import Derived.Test.YtjeehbcbflofpaaRefPlain1
import Derived.Test.YtjeehbcbflofpaaRefPlain2
import Derived.Test.YtjeehbcbflofpaaRefPlain3
import Derived.Test.YtjeehbcbflofpaaRefPlain4
namespace Go.Proofs.Ytjeehbcbflofpaa
set_option linter.unusedVariables false
open Go.ChangeShapes Go.WideShapes Go.ChangeAt Go.RowKit
open M (W)
theorem refPlain_any (op d a b c n : Int) (la : Option Addr) (ll lc : Nat) (ma : Option Addr) (ml mc : Nat) (va : Option Addr) (vl vc : Nat) (w : World) :
    Calls Try.prog 16 #[.agg #[.int .i64 op, .int .i64 d, .int .i64 a, .int .i64 b, .int .i64 c, .int .i64 n, .slice la ll lc, .slice ma ml mc, .slice va vl vc]] w fun e w' => e = .returned (.bool (M.plain (M.uses op) d a b c n ll ml vl)) ∧ Still w w' := by
  by_cases h : op < 1 ∨ 23 < op
  · have hu := uses_out h
    rw [hu]
    exact refPlain_0 op d a b c n la ll lc ma ml mc va vl vc w hu
  · have hc : op = 1 ∨ op = 2 ∨ op = 3 ∨ op = 4 ∨ op = 5 ∨ op = 6 ∨ op = 7 ∨ op = 8 ∨ op = 9 ∨ op = 10 ∨ op = 11 ∨ op = 12 ∨ op = 13 ∨ op = 14 ∨ op = 15 ∨ op = 16 ∨ op = 17 ∨ op = 18 ∨ op = 19 ∨ op = 20 ∨ op = 21 ∨ op = 22 ∨ op = 23 := by omega
    rcases hc with rfl | rfl | rfl | rfl | rfl | rfl | rfl | rfl | rfl | rfl | rfl | rfl | rfl | rfl | rfl | rfl | rfl | rfl | rfl | rfl | rfl | rfl | rfl
    · exact refPlain_1 1 d a b c n la ll lc ma ml mc va vl vc w rfl
    · exact refPlain_2 2 d a b c n la ll lc ma ml mc va vl vc w rfl
    · exact refPlain_3 3 d a b c n la ll lc ma ml mc va vl vc w rfl
    · exact refPlain_4 4 d a b c n la ll lc ma ml mc va vl vc w rfl
    · exact refPlain_5 5 d a b c n la ll lc ma ml mc va vl vc w rfl
    · exact refPlain_6 6 d a b c n la ll lc ma ml mc va vl vc w rfl
    · exact refPlain_7 7 d a b c n la ll lc ma ml mc va vl vc w rfl
    · exact refPlain_8 8 d a b c n la ll lc ma ml mc va vl vc w rfl
    · exact refPlain_6 9 d a b c n la ll lc ma ml mc va vl vc w rfl
    · exact refPlain_7 10 d a b c n la ll lc ma ml mc va vl vc w rfl
    · exact refPlain_3 11 d a b c n la ll lc ma ml mc va vl vc w rfl
    · exact refPlain_6 12 d a b c n la ll lc ma ml mc va vl vc w rfl
    · exact refPlain_9 13 d a b c n la ll lc ma ml mc va vl vc w rfl
    · exact refPlain_6 14 d a b c n la ll lc ma ml mc va vl vc w rfl
    · exact refPlain_10 15 d a b c n la ll lc ma ml mc va vl vc w rfl
    · exact refPlain_14 16 d a b c n la ll lc ma ml mc va vl vc w rfl
    · exact refPlain_11 17 d a b c n la ll lc ma ml mc va vl vc w rfl
    · exact refPlain_14 18 d a b c n la ll lc ma ml mc va vl vc w rfl
    · exact refPlain_7 19 d a b c n la ll lc ma ml mc va vl vc w rfl
    · exact refPlain_12 20 d a b c n la ll lc ma ml mc va vl vc w rfl
    · exact refPlain_13 21 d a b c n la ll lc ma ml mc va vl vc w rfl
    · exact refPlain_14 22 d a b c n la ll lc ma ml mc va vl vc w rfl
    · exact refPlain_14 23 d a b c n la ll lc ma ml mc va vl vc w rfl
theorem insBox {w : World} {k : Nat} {t : TypeId} {xo xd xa xb xc xn : Int} {la : Option Addr} {ll lc : Nat} {ma : Option Addr} {ml mc : Nat} {va : Option Addr} {vl vc : Nat} (h : Blk w k t #[.int .i64 xo, .int .i64 xd, .int .i64 xa, .int .i64 xb, .int .i64 xc, .int .i64 xn, .slice la ll lc, .slice ma ml mc, .slice va vl vc]) :
    k < w.heap.size ∧ w.cell? ⟨k, 0, none⟩ = some (.int .i64 xo) ∧ w.cell? ⟨k, 1, none⟩ = some (.int .i64 xd) ∧ w.cell? ⟨k, 2, none⟩ = some (.int .i64 xa) ∧ w.cell? ⟨k, 3, none⟩ = some (.int .i64 xb) ∧ w.cell? ⟨k, 4, none⟩ = some (.int .i64 xc) ∧ w.cell? ⟨k, 5, none⟩ = some (.int .i64 xn) ∧ w.cell? ⟨k, 6, none⟩ = some (.slice la ll lc) ∧ w.cell? ⟨k, 7, none⟩ = some (.slice ma ml mc) ∧ w.cell? ⟨k, 8, none⟩ = some (.slice va vl vc) :=
  ⟨h.lt, h.cell 0, h.cell 1, h.cell 2, h.cell 3, h.cell 4, h.cell 5, h.cell 6, h.cell 7, h.cell 8⟩
end Go.Proofs.Ytjeehbcbflofpaa
