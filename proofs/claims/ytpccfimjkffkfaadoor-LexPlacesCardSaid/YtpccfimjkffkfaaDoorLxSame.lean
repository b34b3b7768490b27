/- The law's same, of two rows of the same tokens. -/
import Derived.Test.YtpccfimjkffkfaaDoorLxLives
namespace Go.Proofs.YtpccfimjkffkfaaDoor
set_option linter.unusedVariables false
set_option linter.unusedSimpArgs false
open Go.ChangeShapes Go.WideShapes Go.ChangeAt Go.RowKit
theorem TokRow.still {w w' : World} {B n c : Nat} {a : Option Addr} {ts : List (Lx.Tok × Nat)} (h : TokRow w B a n c ts) (t : Still w w') : TokRow w' B a n c ts := own_keep h t fun k e f => f
set_option maxHeartbeats 4000000 in
theorem same_any {w : World} {B B' n c c' : Nat} {a a' : Option Addr} {ts : List (Lx.Tok × Nat)} (h : TokRow w B a n c ts) (h' : TokRow w B' a' n c' ts) (hn : n = ts.length) (hm : n ≤ 1000000) :
    Calls Tryd.prog 15 #[.slice a n c, .slice a' n c'] w fun e w' => e = .returned (.bool true) ∧ Still w w' := by
  have H := Lib.hid (And.intro h (And.intro h' hn))
  clear h h' hn
  go_enter Tryd.func15, Tryd.ntmps15
  go_wp2_with fail
  go_loopw [13] (fun v wr => ∃ i : Nat, v = .int .i64 i ∧ i ≤ n ∧ Still w wr) (fun v _ => n - (intOf v).toNat)
  case atStart => exact ⟨0, rfl, Nat.zero_le _, Still.refl _⟩
  case round =>
    obtain ⟨i, rfl, hi, hs⟩ := hrel
    have HS := Lib.hid hs
    clear hs
    by_cases hlt : i < n
    · obtain ⟨g, x, rfl, hx, g0, g1, g2, g3, g4⟩ := tokRow_cells (H.out.1.still HS.out) H.out.2.2 hlt
      obtain ⟨g', y, rfl, hy, p0, p1, p2, p3, p4⟩ := tokRow_cells (H.out.2.1.still HS.out) H.out.2.2 hlt
      obtain rfl : x = y := Option.some.inj (hx.symm.trans hy)
      have HLT := Lib.hid hlt
      have x1 : decide ((i : Int) < n) = true := decide_eq_true (by omega)
      clear hx hy
      go_wp2_with fail
      go_quiet (fail)
      go_wp2_with fail
      exact ⟨⟨i + 1, by go_num, HLT.out, HS.out.trans (drewN_still nq)⟩, by simp [intOf]; omega⟩
    · obtain rfl : i = n := by omega
      have x1 : decide ((i : Int) < i) = false := decide_eq_false (by omega)
      clear hlt
      go_wp2_with fail
      go_ret
      exact ⟨rfl, HS.out⟩
end Go.Proofs.YtpccfimjkffkfaaDoor
