/- The document's own reader: its kinds of bytes, begins. -/
import Derived.Test.YtpccfimjkffkfaaDoorLxCh
namespace Go.Proofs.YtpccfimjkffkfaaDoor
set_option linter.unusedVariables false
set_option linter.unusedSimpArgs false
open Go.ChangeShapes Go.WideShapes Go.ChangeAt Go.RowKit
theorem rDigit_any (c : Nat) (w : World) : Calls Tryd.prog 34 #[.int .u8 c] w fun e w' => e = .returned (.bool (Lx.dig c)) ∧ w' = w := by
  go_enter Tryd.func34, Tryd.ntmps34
  go_wp2_with fail
  all_goals
    go_ret
    refine ⟨congrArg (fun b => Ending.returned (.bool b)) ?_, rfl⟩
    rw [Bool.eq_iff_iff]
    simp [Lx.dig]
    try omega
theorem rSmall_any (c : Nat) (w : World) : Calls Tryd.prog 38 #[.int .u8 c] w fun e w' => e = .returned (.bool (Lx.small c)) ∧ w' = w := by
  go_enter Tryd.func38, Tryd.ntmps38
  go_wp2_with fail
  all_goals
    go_ret
    refine ⟨congrArg (fun b => Ending.returned (.bool b)) ?_, rfl⟩
    rw [Bool.eq_iff_iff]
    simp [Lx.small]
    try omega
theorem rGreat_any (c : Nat) (w : World) : Calls Tryd.prog 37 #[.int .u8 c] w fun e w' => e = .returned (.bool (Lx.great c)) ∧ w' = w := by
  go_enter Tryd.func37, Tryd.ntmps37
  go_wp2_with fail
  all_goals
    go_ret
    refine ⟨congrArg (fun b => Ending.returned (.bool b)) ?_, rfl⟩
    rw [Bool.eq_iff_iff]
    simp [Lx.great]
    try omega
theorem rLetter_any (c : Nat) (w : World) : Calls Tryd.prog 33 #[.int .u8 c] w fun e w' => e = .returned (.bool (Lx.inName c)) ∧ w' = w := by
  have h3 : ((c : Int) == 95) = (c == 95) := int_beq c 95
  have h4 : ((c : Int) == 39) = (c == 39) := int_beq c 39
  have HS := Lib.hid (rSmall_any c)
  have HG := Lib.hid (rGreat_any c)
  have HD := Lib.hid (rDigit_any c)
  unfold Lx.inName
  generalize Lx.small c = a at *
  generalize Lx.great c = b at *
  generalize Lx.dig c = d at *
  generalize (c == 95) = x at *
  generalize (c == 39) = y at *
  cases a <;> cases b <;> cases d <;> cases x <;> cases y <;>
  · go_enter Tryd.func33, Tryd.ntmps33
    go_wp2_with (first | (go_at_call 38; refine (HS.out _).mono ?_; rintro e w1 ⟨rfl, rfl⟩) | (go_at_call 37; refine (HG.out _).mono ?_; rintro e w1 ⟨rfl, rfl⟩) | (go_at_call 34; refine (HD.out _).mono ?_; rintro e w1 ⟨rfl, rfl⟩))
    go_ret
    exact ⟨by simp, rfl⟩
theorem begins_any (s p : ByteArray) (w : World) : Calls Tryd.prog 42 #[.string s, .string p] w fun e w' => e = .returned (.bool ((Lx.bs p).isPrefixOf (Lx.bs s))) ∧ w' = w := by
  by_cases h : p.size ≤ s.size
  · have h1 : ((s.extract 0 p.size).toList == p.toList) = (Lx.bs p).isPrefixOf (Lx.bs s) := by
      rw [Lx.toList_beq, Lx.bs_extract, List.drop_zero, Nat.sub_zero, Bool.eq_iff_iff, decide_eq_true_iff, List.isPrefixOf_iff_prefix, List.prefix_iff_eq_take, Lx.bs_len]
      exact eq_comm
    generalize (Lx.bs p).isPrefixOf (Lx.bs s) = d at *
    go_enter Tryd.func42, Tryd.ntmps42
    go_wp2_with fail
    go_ret
    exact ⟨rfl, rfl⟩
  · have h1 : (Lx.bs p).isPrefixOf (Lx.bs s) = false := by
      rw [Bool.eq_false_iff]
      intro e
      have := (List.isPrefixOf_iff_prefix.1 e).length_le
      rw [Lx.bs_len, Lx.bs_len] at this
      exact h this
    rw [h1]
    have h2 : ¬ (p.size : Int) ≤ (s.size : Int) := by omega
    go_enter Tryd.func42, Tryd.ntmps42
    go_wp2_with fail
    go_ret
    exact ⟨rfl, rfl⟩
end Go.Proofs.YtpccfimjkffkfaaDoor
