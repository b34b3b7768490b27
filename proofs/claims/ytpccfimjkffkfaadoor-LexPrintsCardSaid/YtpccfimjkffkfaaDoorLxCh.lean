/- The kinds of bytes. -/
import Derived.Test.YtpccfimjkffkfaaDoorLxM
import Derived.Test.YtpccfimjkffkfaaDoorStill
import Derived.Test.YtpccfimjkffkfaaDoorBase7
namespace Go.Proofs.YtpccfimjkffkfaaDoor
set_option linter.unusedVariables false
set_option linter.unusedSimpArgs false
open Go.ChangeShapes Go.WideShapes Go.ChangeAt Go.RowKit
theorem isDigit_any (c : Nat) (w : World) : Calls Tryd.prog 46 #[.int .u8 c] w fun e w' => e = .returned (.bool (Lx.dig c)) ∧ w' = w := by
  go_enter Tryd.func46, Tryd.ntmps46
  go_wp2_with fail
  all_goals
    go_ret
    refine ⟨congrArg (fun b => Ending.returned (.bool b)) ?_, rfl⟩
    rw [Bool.eq_iff_iff]
    simp [Lx.dig]
    try omega
theorem isSmall_any (c : Nat) (w : World) : Calls Tryd.prog 50 #[.int .u8 c] w fun e w' => e = .returned (.bool (Lx.small c)) ∧ w' = w := by
  go_enter Tryd.func50, Tryd.ntmps50
  go_wp2_with fail
  all_goals
    go_ret
    refine ⟨congrArg (fun b => Ending.returned (.bool b)) ?_, rfl⟩
    rw [Bool.eq_iff_iff]
    simp [Lx.small]
    try omega
theorem isGreat_any (c : Nat) (w : World) : Calls Tryd.prog 51 #[.int .u8 c] w fun e w' => e = .returned (.bool (Lx.great c)) ∧ w' = w := by
  go_enter Tryd.func51, Tryd.ntmps51
  go_wp2_with fail
  all_goals
    go_ret
    refine ⟨congrArg (fun b => Ending.returned (.bool b)) ?_, rfl⟩
    rw [Bool.eq_iff_iff]
    simp [Lx.great]
    try omega
theorem int_beq (a b : Nat) : ((a : Int) == (b : Int)) = (a == b) := by
  rw [Bool.eq_iff_iff, beq_iff_eq, beq_iff_eq]
  omega
theorem isBlank_any (c : Nat) (w : World) : Calls Tryd.prog 43 #[.int .u8 c] w fun e w' => e = .returned (.bool (Lx.blank c)) ∧ w' = w := by
  have h1 : ((c : Int) == 32) = (c == 32) := int_beq c 32
  have h2 : ((c : Int) == 9) = (c == 9) := int_beq c 9
  have h3 : ((c : Int) == 10) = (c == 10) := int_beq c 10
  have h4 : ((c : Int) == 13) = (c == 13) := int_beq c 13
  unfold Lx.blank
  generalize (c == 32) = b1 at *
  generalize (c == 9) = b2 at *
  generalize (c == 10) = b3 at *
  generalize (c == 13) = b4 at *
  cases b1 <;> cases b2 <;> cases b3 <;> cases b4 <;>
  · go_enter Tryd.func43, Tryd.ntmps43
    go_wp2_with fail
    go_ret
    exact ⟨by simp, rfl⟩
theorem inName_any (c : Nat) (w : World) : Calls Tryd.prog 60 #[.int .u8 c] w fun e w' => e = .returned (.bool (Lx.inName c)) ∧ w' = w := by
  have h3 : ((c : Int) == 95) = (c == 95) := int_beq c 95
  have h4 : ((c : Int) == 39) = (c == 39) := int_beq c 39
  have HS := Lib.hid (isSmall_any c)
  have HG := Lib.hid (isGreat_any c)
  have HD := Lib.hid (isDigit_any c)
  unfold Lx.inName
  generalize Lx.small c = a at *
  generalize Lx.great c = b at *
  generalize Lx.dig c = d at *
  generalize (c == 95) = x at *
  generalize (c == 39) = y at *
  cases a <;> cases b <;> cases d <;> cases x <;> cases y <;>
  · go_enter Tryd.func60, Tryd.ntmps60
    go_wp2_with (first | (go_at_call 50; refine (HS.out _).mono ?_; rintro e w1 ⟨rfl, rfl⟩) | (go_at_call 51; refine (HG.out _).mono ?_; rintro e w1 ⟨rfl, rfl⟩) | (go_at_call 46; refine (HD.out _).mono ?_; rintro e w1 ⟨rfl, rfl⟩))
    go_ret
    exact ⟨by simp, rfl⟩
end Go.Proofs.YtpccfimjkffkfaaDoor
