/- Lemmas, put together: CollectsW. -/
import Derived.Test.YthfkgkddklnnhaaK32
import Derived.Test.YthfkgkddklnnhaaK30
import Derived.Test.YthfkgkddklnnhaaK18
/- GcCollects' walk. -/
namespace Go.Proofs.Ythfkgkddklnnhaa
set_option linter.unusedVariables false
open Go.ChangeShapes Go.WideShapes Go.ChangeAt Go.RowKit
open M (W)

theorem que_far {w w' : World} {B : Nat} {a : Option Addr} {n c : Nat} {xs : List Value} {s : St} (h : Que w B 33 a n c xs) (t : Turn (fun b => b = s.g ∨ b = s.gw) w w') (hb : s.g < B ∧ s.gw < B) : Que w' B 33 a n c xs :=
  h.keep t fun g off e hk => by
    rcases h.2.2.2 with ⟨h1, _⟩ | ⟨g2, off2, cur, h1, h2, _⟩
    · rw [h1] at e; simp at e
    · rw [h1] at e
      injection e with e
      injection e with e1 _ _
      rcases hk with hk | hk <;> omega
theorem ren_len {t : Nat → Nat} (rl : List Nat) : (rl.map (M.ren t)).length = rl.length := List.length_map ..
set_option maxRecDepth 100000 in
set_option maxHeartbeats 4000000 in
theorem gcCollects_w {w : World} {a0 : Option Addr} {n0 c0 : Nat} {K N : Nat → Int} {a1 : Option Addr} {n1 c1 : Nat} {F : Nat → OpR} {a2 : Option Addr} {n2 c2 : Nat} {G : Nat → Nat} {near : Nat → Bool} (h : IsCase w a0 n0 c0 K N a1 n1 c1 F a2 n2 c2 G near) :
    Calls Try.prog 4 #[.agg #[.slice a0 n0 c0, .slice a1 n1 c1, .slice a2 n2 c2]] w fun e w' => e = .returned (.bool true) ∧ Below w.heap.size w w' := by
  have S1 : Still w (w.alloc (.cells #[.slice a0 n0 c0, .slice a1 n1 c1, .slice a2 n2 c2] 48)) := (Still.refl w).alloc _
  have HM := Lib.hid (made3_any h _ S1)
  have HS1 := Lib.hid S1
  clear h S1
  go_enter Try.func4, Try.ntmps4
  go_wp2_with fail
  refine HM.out.mono ?_; rintro e w1 (⟨rfl, t1⟩ | ⟨wa, s, x, a, n, c, rl, rfl, hc, _⟩)
  · have HT := Lib.hid (HS1.out.trans t1)
    clear t1 HM
    go_wp2_with fail
    refine (lives3_any _).mono ?_; rintro e w2 ⟨rfl, b2⟩
    go_wp2_with fail
    go_ret
    exact ⟨rfl, (Still.below HT.out).trans (b2.mono HT.out.size)⟩
  have hq := hc.que
  obtain ⟨B, hq, hB1, hB2, hB3⟩ := hq
  have hnc := hq.2.1
  have hcm := hq.2.2.1
  have HQ := Lib.hid hq
  have HRL := Lib.hid (ReadL.of_que hq).1
  have HC := Lib.hid hc
  have HBL := Lib.hid (show Below w.heap.size w w1 from (Still.below (HS1.out.trans hc.still)).trans (hc.both.below.mono (HS1.out.trans hc.still).size))
  have HNC := Lib.hid (And.intro hnc hcm)
  have HBG : Hid (∀ k, k = s.g ∨ k = s.gw → w.heap.size ≤ k) := fun k hk => by
    have h1 := hc.both.bg
    have h2 := hc.both.bgw
    have h3 := (HS1.out.trans hc.still).size
    rcases hk with e | e <;> omega
  have HGB := Lib.hid (And.intro hB1 hB2)
  have HR1 := Lib.hid hc.both.right
  have HCO := Lib.hid (collect_l HR1.out a n c rl hc.len hc.root hnc hcm)
  clear hc hq hB1 hB2 hB3 hnc hcm HM
  go_wp2_with fail
  refine HCO.out.mono ?_; rintro e w2 (⟨rfl, hu⟩ | ⟨mk, gr, s5, rfl, hsw⟩)
  · -- refused
    have hb2 := HC.out.both.again hu.right hu.turn
    have HB2 := Lib.hid hb2
    have hq2 : Que w2 B 33 a n c (M.u64l rl) := que_far HQ.out hu.turn HGB.out
    have HUF := Lib.hid hu.unfit
    have hfit := fit_any x a n c rl w2 hb2.rf (ReadL.of_que hq2).1 HC.out.len HNC.out.1 HNC.out.2 HC.out.lt
    have HF := Lib.hid hfit
    have HBW : Hid (Below w.heap.size w w2) := hu.turn.own HBL.out (Nat.le_refl _) HBG.out
    clear hu hb2 hq2 hfit HCO
    go_wp2_with fail
    refine HF.out.mono ?_; rintro e w3 ⟨t3, ⟨rfl, hall⟩ | ⟨rfl, hno⟩⟩
    · exfalso
      obtain ⟨v, hv, hf⟩ := HUF.out
      have h1 := hall v hv
      rw [HB2.out.fits] at h1
      have h2 := fits_same HR1.out.sim HB2.out.sim (v : Int)
      rw [h2, hf] at h1
      simp at h1
    have HB3 := Lib.hid (HB2.out.still t3)
    have HBW3 := Lib.hid (HBW.out.trans ((Still.below t3).mono HBW.out.size))
    have hsame := same_any _ x w3 HB3.out.agree
    have hsame2 : Calls Try.prog 15 #[s.ptr, x.ptr] w3 fun e w' => e = .returned (.bool true) ∧ Still w3 w' := hsame
    have HSM := Lib.hid hsame2
    clear t3 hno hsame hsame2 HF
    go_wp2_with (first
      | (go_at_call 15; (with_reducible refine HSM.out.mono ?_); rintro e w4 ⟨rfl, t4⟩; have HT4 := Lib.hid t4; clear t4)
      | (go_at_call 17; (with_reducible refine (lives3_any _).mono ?_); rintro e w9 ⟨rfl, b9⟩))
    go_ret
    have h1 := HBW3.out.trans ((Still.below HT4.out).mono HBW3.out.size)
    exact ⟨rfl, h1.trans (b9.mono h1.size)⟩
  · -- collected
    have hq2 : Que w2 B 33 a n c (M.u64l rl) := que_far HQ.out hsw.turn HGB.out
    have hrf2 := HC.out.both.rf_gw hsw.turn
    have HFITS := Lib.hid hsw.fit
    have hfit := fit_any x a n c rl w2 hrf2 (ReadL.of_que hq2).1 HC.out.len HNC.out.1 HNC.out.2 HC.out.lt
    have HF := Lib.hid hfit
    have HBW : Hid (Below w.heap.size w w2) := hsw.turn.own HBL.out (Nat.le_refl _) HBG.out
    have HSW := Lib.hid hsw
    have HRF2 := Lib.hid hrf2
    have HQ2 := Lib.hid hq2
    have hpt : s5.ptr = s.ptr := by show Value.pointer (some ⟨s5.g, 0, none⟩) = _; rw [hsw.is.1]
    have HPT := Lib.hid hpt
    clear hsw hrf2 hq2 hfit HCO hpt
    go_wp2_with fail
    refine HF.out.mono ?_; rintro e w3 ⟨t3, ⟨rfl, hall⟩ | ⟨rfl, hno⟩⟩
    case inr =>
      exfalso
      obtain ⟨v, hv, hf⟩ := hno
      rw [HC.out.both.fits, HFITS.out v hv] at hf
      simp at hf
    have HT3 := Lib.hid t3
    have hq3 : Que w3 B 33 a n c (M.u64l rl) := HQ2.out.still t3
    have hrc := refCollect_any s x w3 w1 (HRF2.out.still t3) HC.out.both.agree HR1.out.fit rl a n c hq3 HC.out.lt HC.out.le HFITS.out mk HSW.out.mk_iff HR1.out
    have HRC := Lib.hid hrc
    have hR3 := HSW.out.right.still t3
    have HR3 := Lib.hid hR3
    have HBW3 := Lib.hid (HBW.out.trans ((Still.below t3).mono HBW.out.size))
    have hrow3 := HSW.out.row.of_block (t3.block _ HSW.out.row.lt (fun e => e))
    have HROW3 := Lib.hid hrow3
    have HXS : Hid (x.n = s5.n ∧ x.len = s5.m ∧ x.K = s5.lk ∧ x.N = s5.ln) := by
      have h1 := HSW.out.is
      refine ⟨?_, ?_, ?_, ?_⟩
      · rw [HC.out.both.n, h1.2.2.2.1]
      · rw [HC.out.both.len, h1.2.2.2.2.1]
      · rw [HC.out.both.K, h1.2.2.2.2.2.1]
      · rw [HC.out.both.N, h1.2.2.2.2.2.2]
    clear hq3 hrc hR3 hrow3 t3 hall HF
    go_wp2_with fail
    refine HRC.out.mono ?_; rintro e w4 ⟨y, oa, on, oc, rfl, hy, hyn, hym, hyk, hyN, hcore, hol, hown, t4⟩
    have hR4 := HR3.out.still t4
    have hag : Agree w3.heap.size w4 s5 y := ⟨hR4.hp, hy, hyn.trans HXS.out.1, hym.trans HXS.out.2.1, hyk.trans HXS.out.2.2.1, hyN.trans HXS.out.2.2.2, hR4.sim.core hcore⟩
    have HAG := Lib.hid hag
    have hrl5 : (rl.map (M.ren (M.tof s mk x.L))).length = n := by rw [List.length_map]; exact HC.out.len
    obtain rfl : on = n := hol.symm.trans hrl5
    have hrow4 : w4.rowIs gr 33 (rl.map (M.ren (M.tof s mk x.L))).length (fun i => .int .u64 ((rl.map (M.ren (M.tof s mk x.L))).getD i 0 : Nat)) := by
      rw [List.length_map]
      exact (HROW3.out.of_block (t4.block _ HROW3.out.lt (fun e => e))).congr fun i hi => by rw [getD_map _ _ _ hi]
    have hlt5 := ren_lt (mk := mk) HR1.out HC.out.lt HFITS.out
    have hal := alike_big (some ⟨gr, 0, none⟩) oa on on oc (rl.map (M.ren (M.tof s mk x.L))) w4 (ReadL.of_row hrow4) (read_own hown hol) hol (Nat.le_refl _) (own_le hown).1 (by have := HC.out.le; omega) hlt5
    have HAL := Lib.hid hal
    have HBW4 := Lib.hid (HBW3.out.trans ((Still.below t4).mono HBW3.out.size))
    clear hR4 hag hrl5 hrow4 hlt5 hal hy hyn hym hyk hyN hcore hown t4 hol HRC
    go_wp2_with (first
      | (go_at_call 21; (with_reducible refine HAL.out.mono ?_); rintro e w5 ⟨rfl, t5⟩
         have HT5 := Lib.hid t5
         have hsame := same_any s5 y w5 (HAG.out.still t5)
         rw [HPT.out] at hsame
         have HSM := Lib.hid hsame
         clear t5 hsame)
      | (go_at_call 15; (with_reducible refine HSM.out.mono ?_); rintro e w6 ⟨rfl, t6⟩; have HT6 := Lib.hid (HT5.out.trans t6); clear t6)
      | (go_at_call 17; (with_reducible refine (lives3_any _).mono ?_); rintro e w9 ⟨rfl, b9⟩))
    go_ret
    have h1 := HBW4.out.trans ((Still.below HT6.out).mono HBW4.out.size)
    exact ⟨rfl, h1.trans (b9.mono h1.size)⟩
end Go.Proofs.Ythfkgkddklnnhaa
