/- The document's own reader: Remark. -/
import Derived.Test.YtpccfimjkffkfaaDoorLxRf1
import Derived.Test.YtpccfimjkffkfaaDoorLxRfN
namespace Go.Proofs.YtpccfimjkffkfaaDoor
set_option linter.unusedVariables false
set_option linter.unusedSimpArgs false
open Go.ChangeShapes Go.WideShapes Go.ChangeAt Go.RowKit
theorem bs_from {s : ByteArray} (i : Nat) : Lx.bs (s.extract i s.size) = (Lx.bs s).drop i := by
  rw [Lx.bs_extract]
  exact List.take_of_length_le (by rw [List.length_drop, Lx.bs_len]; omega)
theorem begins_at (s p : ByteArray) (i : Nat) (w : World) : Calls Tryd.prog 42 #[.string (s.extract i s.size), .string p] w fun e w' => e = .returned (.bool ((Lx.bs p).isPrefixOf ((Lx.bs s).drop i))) ∧ w' = w := by
  have := begins_any (s.extract i s.size) p w
  rwa [bs_from] at this
set_option maxHeartbeats 4000000 in
theorem remark_succ (n : Nat) (ih : ∀ (s : ByteArray) (w : World), s.size ≤ n → s.size ≤ 16384 → Calls Tryd.prog 25 #[.string s] w fun e w' => e = .returned (.int .i64 (Lx.remI (Lx.bs s))) ∧ w' = w) (s : ByteArray) (w : World) (hn : s.size ≤ n + 1) (h16 : s.size ≤ 16384) : Calls Tryd.prog 25 #[.string s] w fun e w' => e = .returned (.int .i64 (Lx.remI (Lx.bs s))) ∧ w' = w := by
    obtain ⟨R, hR⟩ : ∃ R, Lx.remI (Lx.bs s) = R := ⟨_, rfl⟩
    rw [hR]
    have B := Lib.hid (begins_any s ⟨#[40, 42]⟩ w)
    rw [show Lx.bs ⟨#[40, 42]⟩ = [40, 42] from rfl] at B
    cases hb : ([40, 42] : List Nat).isPrefixOf (Lx.bs s) with
    | false =>
      rw [Lx.remI_no hb] at hR
      subst hR
      rw [hb] at B
      clear ih hb
      go_enter Tryd.func25, Tryd.ntmps25
      go_wp2_with fail
      refine B.out.mono ?_; rintro e w1 ⟨rfl, rfl⟩
      go_wp2_with fail
      go_ret
      exact ⟨rfl, rfl⟩
    | true =>
      rw [hb] at B
      obtain ⟨M, hM⟩ := Lx.pre2.1 hb
      rw [Lx.remI_yes hM] at hR
      have hM2 : (Lx.bs s).drop 2 = M := by rw [hM]; rfl
      have hs2 : 2 ≤ s.size := by
        have := Lx.bs_len s
        rw [hM] at this
        simp only [List.length_cons] at this
        omega
      have HM := Lib.hid (And.intro hR (And.intro hM2 ih))
      clear ih hb hM hM2 hR
      go_enter Tryd.func25, Tryd.ntmps25
      go_wp2_with fail
      refine B.out.mono ?_; rintro e w1 ⟨rfl, rfl⟩
      go_wp2_with fail
      go_loopw [3] (fun v wr => ∃ i : Nat, v = .int .i64 i ∧ 2 ≤ i ∧ i ≤ s.size ∧ Lx.closes 1 M = (Lx.closes 1 ((Lx.bs s).drop i)).map (· + (i - 2)) ∧ wr = w1) (fun v _ => s.size - (intOf v).toNat)
      case atStart =>
        refine ⟨2, rfl, by omega, hs2, ?_, rfl⟩
        rw [HM.out.2.1]
        cases Lx.closes 1 M <;> rfl
      case round =>
        obtain ⟨i, rfl, h2, hi, hc, hwr⟩ := hrel
        subst hwr
        have HC := Lib.hid hc
        clear hc
        by_cases hlt : i < s.size
        · have x0 : (i : Int) < (s.size : Int) := by omega
          have x1 : decide (i < s.size) = true := decide_eq_true hlt
          have B1 := Lib.hid (begins_at s ⟨#[42, 41]⟩ i wr)
          rw [show Lx.bs ⟨#[42, 41]⟩ = [42, 41] from rfl] at B1
          have B2 := Lib.hid (begins_at s ⟨#[40, 42]⟩ i wr)
          rw [show Lx.bs ⟨#[40, 42]⟩ = [40, 42] from rfl] at B2
          cases hb1 : ([42, 41] : List Nat).isPrefixOf ((Lx.bs s).drop i) with
          | true =>
            rw [hb1] at B1
            obtain ⟨M', hM'⟩ := Lx.pre2.1 hb1
            have hr : R = (i : Int) + 2 := by
              have hR := HM.out.1
              rw [HC.out, hM', Lx.closes_shut, Lx.closes_zero] at hR
              rw [← hR]
              show ((0 + 2 + (i - 2) + 2 : Nat) : Int) = _
              omega
            subst hr
            clear hb1 hM' hlt
            go_wp2_with fail
            refine B1.out.mono ?_; rintro e w2 ⟨rfl, rfl⟩
            go_wp2_with fail
            go_ret
            exact ⟨rfl, rfl⟩
          | false =>
            rw [hb1] at B1
            cases hb2 : ([40, 42] : List Nat).isPrefixOf ((Lx.bs s).drop i) with
            | true =>
              rw [hb2] at B2
              obtain ⟨M', hM'⟩ := Lx.pre2.1 hb2
              have IH := Lib.hid (HM.out.2.2 (s.extract i s.size) wr (by rw [ByteArray.size_extract]; omega) (by rw [ByteArray.size_extract]; omega))
              rw [bs_from, Lx.remI_yes hM'] at IH
              have hcc := HC.out
              rw [Lx.close_step_open hM'] at hcc
              cases hk : Lx.closes 1 M' with
              | none =>
                rw [hk] at IH hcc
                have hr : R = -1 := by
                  have hR := HM.out.1
                  rw [hcc] at hR
                  exact hR.symm
                subst hr
                clear hb1 hM' hlt hb2 hcc hk
                go_wp2_with fail
                refine B1.out.mono ?_; rintro e w2 ⟨rfl, rfl⟩
                go_wp2_with fail
                refine B2.out.mono ?_; rintro e w2 ⟨rfl, rfl⟩
                go_wp2_with fail
                refine IH.out.mono ?_; rintro e w2 ⟨rfl, rfl⟩
                go_wp2_with fail
                go_ret
                exact ⟨rfl, rfl⟩
              | some k =>
                rw [hk] at IH hcc
                have hle : k + 2 + i ≤ s.size := by
                  have := Lx.closes_le _ _ M' (Nat.le_refl _) k hk
                  have h3 := congrArg List.length hM'
                  rw [List.length_drop, Lx.bs_len] at h3
                  simp only [List.length_cons] at h3
                  omega
                have hcc2 : Lx.closes 1 M = (Lx.closes 1 ((Lx.bs s).drop (i + (k + 2)))).map (· + (i + (k + 2) - 2)) := by
                  rw [hcc]
                  simp only
                  rw [List.drop_drop, Option.map_map]
                  congr 1
                  funext x
                  simp only [Function.comp]
                  omega
                obtain ⟨K, hK⟩ : ∃ K, k + 2 = K := ⟨_, rfl⟩
                simp only [hK] at IH hcc2
                have HC2 := Lib.hid hcc2
                have xK : ¬ ((K : Int) < 0) := by omega
                have xK2 : decide ((K : Int) < 0) = false := decide_eq_false xK
                have hK3 : i + K ≤ s.size ∧ 2 ≤ K := by omega
                have HK := Lib.hid hK3
                clear hb1 hM' hb2 hcc hk hcc2 hK hle
                go_wp2_with fail
                refine B1.out.mono ?_; rintro e w2 ⟨rfl, rfl⟩
                go_wp2_with fail
                refine B2.out.mono ?_; rintro e w2 ⟨rfl, rfl⟩
                go_wp2_with fail
                refine IH.out.mono ?_; rintro e w2 ⟨rfl, rfl⟩
                go_wp2_with fail
                have := HK.out
                exact ⟨⟨i + K, by go_num, by omega, by omega, HC2.out, trivial⟩, by simp [intOf]; omega⟩
            | false =>
              rw [hb2] at B2
              have hcc := HC.out
              rw [Lx.drop_lt hlt, Lx.closes_other (d := 0) _ _] at hcc
              rotate_left
              · rintro ⟨h3, h4⟩
                rw [Lx.drop_lt hlt, h3] at hb2
                cases hd : (Lx.bs s).drop (i + 1) with
                | nil => rw [hd] at h4; cases h4
                | cons b L => rw [hd] at h4 hb2; cases h4; simp at hb2
              · rintro ⟨h3, h4⟩
                rw [Lx.drop_lt hlt, h3] at hb1
                cases hd : (Lx.bs s).drop (i + 1) with
                | nil => rw [hd] at h4; cases h4
                | cons b L => rw [hd] at h4 hb1; cases h4; simp at hb1
              have hcc2 : Lx.closes 1 M = (Lx.closes 1 ((Lx.bs s).drop (i + 1))).map (· + (i + 1 - 2)) := by
                rw [hcc, Option.map_map]
                congr 1
                funext x
                simp only [Function.comp]
                omega
              have HC2 := Lib.hid hcc2
              have HL := Lib.hid hlt
              clear hb1 hb2 hcc hcc2 hlt
              go_wp2_with fail
              refine B1.out.mono ?_; rintro e w2 ⟨rfl, rfl⟩
              go_wp2_with fail
              refine B2.out.mono ?_; rintro e w2 ⟨rfl, rfl⟩
              go_wp2_with fail
              have := HL.out
              exact ⟨⟨i + 1, by go_num, by omega, by omega, HC2.out, trivial⟩, by simp [intOf]; omega⟩
        · have x0 : ¬ (i : Int) < (s.size : Int) := by omega
          have x1 : decide (i < s.size) = false := decide_eq_false hlt
          have hr : R = -1 := by
            have hR := HM.out.1
            rw [HC.out, Lx.drop_ge (by omega), Lx.closes_nil] at hR
            exact hR.symm
          subst hr
          clear hlt
          go_wp2_with fail
          go_ret
          exact ⟨rfl, rfl⟩
set_option maxHeartbeats 4000000 in
theorem remark_n : ∀ (n : Nat) (s : ByteArray) (w : World), s.size ≤ n → s.size ≤ 16384 → Calls Tryd.prog 25 #[.string s] w fun e w' => e = .returned (.int .i64 (Lx.remI (Lx.bs s))) ∧ w' = w := by
  intro n
  induction n with
  | zero =>
    intro s w hn h16
    have hb : (Lx.bs s) = [] := List.length_eq_zero_iff.1 (by rw [Lx.bs_len]; omega)
    have B := Lib.hid (begins_any s ⟨#[40, 42]⟩ w)
    rw [hb] at B
    rw [hb]
    go_enter Tryd.func25, Tryd.ntmps25
    go_wp2_with fail
    refine B.out.mono ?_; rintro e w1 ⟨rfl, rfl⟩
    go_wp2_with fail
    go_ret
    exact ⟨rfl, rfl⟩
  | succ n ih => exact remark_succ n ih
theorem remark_ref (s : ByteArray) (w : World) (h : s.size ≤ 16384) : Calls Tryd.prog 25 #[.string s] w fun e w' => e = .returned (.int .i64 (Lx.remI (Lx.bs s))) ∧ w' = w := remark_n s.size s w (Nat.le_refl _) h
end Go.Proofs.YtpccfimjkffkfaaDoor
