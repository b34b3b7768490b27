/- VerifyReturns: its walk, whatever it is called with. -/
import Derived.Test.YtglalgjffkoneaaGreatDoorV23
import Derived.Test.YtglalgjffkoneaaGreatDoorV24
namespace Go.Proofs.YtglalgjffkoneaaGreatDoor
set_option linter.unusedVariables false
open Go.ChangeShapes Go.WideShapes Go.ChangeAt Go.RowKit
theorem verifyReturns_w (a0 : Int) (a1 : Bool) (w : World) (ht : Tz w) (hw : (Lit.int .u64 a0).wf = true) : Calls Tryz.prog 7 #[.int .u64 a0, .bool a1] w fun e w' => e = .returned (.bool true) ∧ Still w w' := by
  have hb : 0 ≤ a0 ∧ a0 ≤ 18446744073709551615 := by simpa [Lit.wf, IntKind.min, IntKind.max, IntKind.signed, IntKind.bits] using hw
  obtain ⟨u, rfl⟩ := Int.eq_ofNat_of_zero_le hb.1
  have hm : Int.tmod (u : Int) 2 = ((u % 2 : Nat) : Int) := by rw [Int.tmod_eq_emod_of_nonneg (by omega)]; omega
  have h4 : u % 2 = 0 ∨ u % 2 = 1 := by omega
  cases a1 with
  | false =>
    rcases h4 with h | h <;> rw [h] at hm
    · exact ret_0_n u w ht hm
    · exact ret_1_n u w ht hm
  | true =>
    rcases h4 with h | h <;> rw [h] at hm
    · exact ret_0_t u w ht hm
    · exact ret_1_t u w ht hm
end Go.Proofs.YtglalgjffkoneaaGreatDoor
