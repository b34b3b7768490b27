/- The document's own reader: number. -/
import Derived.Test.YtpccfimjkffkfaaDoorLxRf2
import Derived.Test.YtpccfimjkffkfaaDoorLxNum
namespace Go.Proofs.YtpccfimjkffkfaaDoor
set_option linter.unusedVariables false
set_option linter.unusedSimpArgs false
open Go.ChangeShapes Go.WideShapes Go.ChangeAt Go.RowKit
namespace Lx
def numI (L : List Nat) : Int := if num L ≤ 4611686018427387903 then (num L : Int) else -1
end Lx
set_option maxHeartbeats 4000000 in
theorem number_ref (s : ByteArray) (w : World) (hs : s.size ≤ 16384) (hd : ∀ c ∈ Lx.bs s, Lx.dig c = true) : Calls Tryd.prog 35 #[.string s] w fun e w' => e = .returned (.int .i64 (Lx.numI (Lx.bs s))) ∧ w' = w := by
  obtain ⟨R, hR⟩ : ∃ R, Lx.numI (Lx.bs s) = R := ⟨_, rfl⟩
  rw [hR]
  have HD := Lib.hid (And.intro hd hR)
  clear hd hR
  go_enter Tryd.func35, Tryd.ntmps35
  go_wp2_with fail
  go_loopw [3, 4] (fun v3 v4 wr => ∃ i : Nat, v3 = .int .i64 (Lx.num ((Lx.bs s).take i) : Nat) ∧ v4 = .int .i64 i ∧ i ≤ s.size ∧ Lx.num ((Lx.bs s).take i) ≤ 4611686018427387903 ∧ wr = w) (fun v3 v4 _ => s.size - (intOf v4).toNat)
  case atStart => exact ⟨0, by simp [Lx.num], rfl, Nat.zero_le _, by simp [Lx.num], rfl⟩
  case round =>
    obtain ⟨i, rfl, rfl, hi, hmax, hwr⟩ := hrel
    subst hwr
    obtain ⟨n, hn⟩ : ∃ n, Lx.num ((Lx.bs s).take i) = n := ⟨_, rfl⟩
    rw [hn] at hmax ⊢
    have HN := Lib.hid hn
    clear hn
    by_cases hlt : i < s.size
    · have x0 : (i : Int) < (s.size : Int) := by omega
      have x1 : decide (i < s.size) = true := decide_eq_true hlt
      have eq1 : s[i]! = s[i] := getElem!_pos s i hlt
      have hat := Lx.bs_at hlt
      have hdg : Lx.dig s[i].toNat = true := HD.out.1 _ (List.mem_of_getElem? hat)
      have h48 : 48 ≤ s[i].toNat ∧ s[i].toNat ≤ 57 := by simpa [Lx.dig] using hdg
      obtain ⟨dv, hdv, hdv9⟩ : ∃ dv : Nat, s[i].toNat = dv + 48 ∧ dv ≤ 9 := ⟨s[i].toNat - 48, by omega, by omega⟩
      have ed : ((s[i].toNat : Int) - 48) % 256 = (dv : Int) := by rw [hdv]; omega
      have hnum : Lx.num ((Lx.bs s).take (i + 1)) = 10 * n + dv := by
        rw [List.take_add_one, hat]
        show Lx.num (_ ++ [s[i].toNat]) = _
        rw [Lx.num_snoc, HN.out]
        omega
      have HX := Lib.hid hnum
      clear hdg h48 hnum hat hdv
      by_cases hov : 10 * n + dv ≤ 4611686018427387903
      · go_wp2_with fail
        exact ⟨⟨i + 1, by rw [HX.out]; push_cast; rfl, by go_num, hlt, by rw [HX.out]; exact hov, trivial⟩, by simp [intOf]; omega⟩
      · have hr : R = -1 := by
          rw [← HD.out.2]
          unfold Lx.numI
          rw [if_neg]
          have := Lx.num_take_le (Lx.bs s) (i + 1)
          rw [HX.out] at this
          omega
        subst hr
        go_wp2_with fail
        go_ret
        exact ⟨rfl, rfl⟩
    · obtain rfl : i = s.size := by omega
      have x0 : ¬ (s.size : Int) < (s.size : Int) := by omega
      have x1 : decide (s.size < s.size) = false := decide_eq_false (by omega)
      have hr : R = (n : Int) := by
        rw [← HD.out.2]
        have := HN.out
        rw [List.take_of_length_le (by rw [Lx.bs_len]; exact Nat.le_refl _)] at this
        unfold Lx.numI
        rw [this, if_pos hmax]
      subst hr
      clear hlt
      go_wp2_with fail
      go_ret
      exact ⟨rfl, rfl⟩
end Go.Proofs.YtpccfimjkffkfaaDoor
