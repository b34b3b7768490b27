/- VerifyLive: its walk, whatever it is called with; the table out of what the row lays. -/
import Derived.Test.YtglalgjffkoneaaGreatDoorV20
import Derived.Test.YtglalgjffkoneaaGreatDoorV21
import Derived.Test.YtglalgjffkoneaaGreatDoorVtz
namespace Go.Proofs.YtglalgjffkoneaaGreatDoor
set_option linter.unusedVariables false
open Go.ChangeShapes Go.WideShapes Go.ChangeAt Go.RowKit
theorem verifyLive_w (a0 : Bool) (a1 : Int) (w : World) (ht : Tz w) : Calls Tryz.prog 5 #[.bool a0, .int .i64 a1] w fun e w' => e = .returned (.bool true) ∧ Still w w' := by
  obtain ⟨u, hu⟩ : ∃ u : Nat, IntKind.u64.wrap a1 = (u : Int) := ⟨(IntKind.u64.wrap a1).toNat, by rw [IntKind.wrap_u64]; omega⟩
  have hm : Int.tmod (u : Int) 4 = ((u % 4 : Nat) : Int) := by rw [Int.tmod_eq_emod_of_nonneg (by omega)]; omega
  have h4 : u % 4 = 0 ∨ u % 4 = 1 ∨ u % 4 = 2 ∨ u % 4 = 3 := by omega
  cases a0 with
  | false =>
    rcases h4 with h | h | h | h <;> rw [h] at hm
    · exact live_0_n a1 u w ht hu hm
    · exact live_1_n a1 u w ht hu hm
    · exact live_2_n a1 u w ht hu hm
    · exact live_3_n a1 u w ht hu hm
  | true =>
    rcases h4 with h | h | h | h <;> rw [h] at hm
    · exact live_0_h a1 u w ht hu hm
    · exact live_1_h a1 u w ht hu hm
    · exact live_2_h a1 u w ht hu hm
    · exact live_3_h a1 u w ht hu hm
end Go.Proofs.YtglalgjffkoneaaGreatDoor
