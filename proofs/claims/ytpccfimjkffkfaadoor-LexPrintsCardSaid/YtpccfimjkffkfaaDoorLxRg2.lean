/- The document's own digits, of any number. -/
import Derived.Test.YtpccfimjkffkfaaDoorLxRg1
namespace Go.Proofs.YtpccfimjkffkfaaDoor
set_option linter.unusedVariables false
set_option linter.unusedSimpArgs false
open Go.ChangeShapes Go.WideShapes Go.ChangeAt Go.RowKit
theorem dd_more {n q r : Nat} (h : 10 ≤ n) (hq : n / 10 = q) (hr : n % 10 = r) : Lib.decDigits n = Lib.decDigits q ++ [UInt8.ofNat (48 + r)] := by
  rw [Lib.decDigits, dif_neg (by omega), hq, hr]
theorem dd_least : Lib.decDigits 9223372036854775808 = [57, 50, 50, 51, 51, 55, 50, 48, 51, 54, 56, 53, 52, 55, 55, 53, 56, 48, 56] := by
  iterate 18 rw [dd_more (by decide) rfl rfl]
  rw [Lib.decDigits, dif_pos (by decide)]
  rfl
/-- A number's digits, a sign ahead. -/
def itB (n : Int) : ByteArray := ⟨(Lib.itoa n).toArray⟩
set_option maxRecDepth 100000 in
set_option maxHeartbeats 8000000 in
theorem digits_ref (n : Int) (h1 : -9223372036854775808 ≤ n) (h2 : n ≤ 9223372036854775807) (w : World) : Calls Tryd.prog 31 #[.int .i64 n] w fun e w' => e = .returned (.string (itB n)) ∧ Still w w' := by
  by_cases h0 : n < 0
  · have x1 : decide (n < 0) = true := decide_eq_true h0
    by_cases hm : n = -9223372036854775808
    · subst hm
      have HB : Hid (itB (-9223372036854775808) = { data := #[45, 57, 50, 50, 51, 51, 55, 50, 48, 51, 54, 56, 53, 52, 55, 55, 53, 56, 48, 56] }) := by
        show itB _ = _
        unfold itB Lib.itoa
        rw [if_pos (by decide), show (-9223372036854775808 : Int).natAbs = 9223372036854775808 from rfl]
        rw [dd_least]
      go_enter Tryd.func31, Tryd.ntmps31
      go_wp2_with fail
      go_ret
      exact ⟨by rw [HB.out]; rfl, Still.refl _⟩
    · obtain ⟨m, hmn⟩ : ∃ m : Nat, -n = (m : Int) := ⟨(-n).toNat, by omega⟩
      have e0 : (n == -9223372036854775808) = false := by rw [beq_eq_false_iff_ne]; exact hm
      have e1 : IntKind.i64.wrap (m : Int) = (m : Int) := by rw [IntKind.wrap_i64]; omega
      have hmb : n.natAbs = m := by omega
      have HI := Lib.hid (digits_nat 18 m (by omega) (by omega))
      have HB : Hid (itB n = { data := #[45] } ++ dgB m) := by
        show itB _ = _
        unfold itB Lib.itoa dgB
        rw [if_pos h0, hmb]
        have e : (⟨(45 :: Lib.decDigits m).toArray⟩ : ByteArray).data.toList = (({ data := #[45] } : ByteArray) ++ ⟨(Lib.decDigits m).toArray⟩).data.toList := by
          rw [ByteArray.data_append, Array.toList_append]; rfl
        cases h3 : (({ data := #[45] } : ByteArray) ++ ⟨(Lib.decDigits m).toArray⟩) with
        | mk b =>
          rw [h3] at e
          have : (45 :: Lib.decDigits m).toArray = b := Array.toList_inj.1 e
          rw [this]
      have hml : (dgB m).size ≤ 19 := dgB_len 18 m (by omega)
      clear hmb
      go_enter Tryd.func31, Tryd.ntmps31
      go_wp2_with fail
      refine (HI.out _).mono ?_; rintro e w5 ⟨rfl, t5⟩
      go_wp2_with fail
      go_ret
      exact ⟨by rw [HB.out]; rfl, t5⟩
  · obtain ⟨m, rfl⟩ : ∃ m : Nat, n = (m : Int) := ⟨n.toNat, by omega⟩
    have hd : itB (m : Int) = dgB m := by
      unfold itB Lib.itoa dgB
      rw [if_neg h0]; rfl
    rw [hd]
    exact digits_nat 18 m (by omega) (by omega) w
end Go.Proofs.YtpccfimjkffkfaaDoor
