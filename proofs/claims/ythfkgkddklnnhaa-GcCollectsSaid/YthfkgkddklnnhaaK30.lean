/- Lemmas, put together: GcSameW. -/
import Derived.Test.YthfkgkddklnnhaaK29
import Derived.Test.YthfkgkddklnnhaaK24
/- GcSame's walk. -/
namespace Go.Proofs.Ythfkgkddklnnhaa
set_option linter.unusedVariables false
open Go.ChangeShapes Go.WideShapes Go.ChangeAt Go.RowKit
open M (W)

theorem read_own {w : World} {B n c : Nat} {a : Option Addr} {l : List Nat} (h : w.ownsRow B 33 1 (.slice a n c) n (M.u64l l)) (hn : l.length = n) : ReadL w a l :=
  ⟨fun h0 => by
    obtain ⟨g, rfl, hg, _, _, hc, _⟩ := own_form h (by omega)
    exact ⟨g, 0, rfl, hg, fun i hi => by
      rw [Nat.zero_add]
      exact hc i _ (by unfold M.u64l; rw [List.getElem?_map, List.getElem?_eq_getElem hi, List.getD_eq_getElem?_getD, List.getElem?_eq_getElem hi]; rfl)⟩⟩
set_option maxRecDepth 100000 in
set_option maxHeartbeats 2000000 in
theorem alike_big (a a' : Option Addr) (n c c' : Nat) (l : List Nat) (w : World) (h : ReadL w a l) (h' : ReadL w a' l) (hn : l.length = n) (hc : n ≤ c) (hc' : n ≤ c') (hb : n ≤ 1000000000) (hlt : ∀ v ∈ l, v < 18446744073709551616) :
    Calls Try.prog 21 #[.slice a n c, .slice a' n c'] w fun e w' => e = .returned (.bool true) ∧ Still w w' := by
  have HR := Lib.hid h
  have HR' := Lib.hid h'
  have HN := Lib.hid hn
  have HLT := Lib.hid hlt
  have hne : ((n : Int) != n) = false := by simp
  clear h h' hn hlt
  go_enter Try.func21, Try.ntmps21
  go_wp2_with fail
  go_loopw [13] (fun v wr => ∃ j : Nat, v = .int .i64 j ∧ j ≤ n ∧ Still w wr) (fun v _ => n - (intOf v).toNat)
  case atStart => exact ⟨0, rfl, by omega, Still.refl _⟩
  case round =>
    obtain ⟨j, rfl, hj, ht⟩ := hrel
    have HT := Lib.hid ht
    by_cases hlt : j < n
    · obtain ⟨b, off, rfl, hb1, hcell⟩ := (HR.out.still ht).at_ (by have := HN.out; omega)
      obtain ⟨b', off', rfl, hb2, hcell'⟩ := (HR'.out.still ht).at_ (by have := HN.out; omega)
      have cj := hcell j (by have := HN.out; omega)
      have cj' := hcell' j (by have := HN.out; omega)
      obtain ⟨v, hvv⟩ : ∃ v, l.getD j 0 = v := ⟨_, rfl⟩
      rw [hvv] at cj cj'
      have hvn : ((v : Int) != v) = false := by simp
      clear hcell hcell' ht hvv
      go_wp2_with fail
      go_quiet (fail)
      go_wp2_with fail
      go_roundw
      case rel => exact ⟨j + 1, by go_num, by omega, HT.out.drewN nq⟩
      case measure => simp [intOf]; omega
    · obtain rfl : j = n := by omega
      clear ht
      go_wp2_with fail
      go_ret
      exact ⟨rfl, HT.out⟩
set_option maxRecDepth 100000 in
set_option maxHeartbeats 4000000 in
theorem gcSame_w {w : World} {a0 : Option Addr} {n0 c0 : Nat} {K N : Nat → Int} {a1 : Option Addr} {n1 c1 : Nat} {F : Nat → OpR} {a2 : Option Addr} {n2 c2 : Nat} {G : Nat → Nat} {near : Nat → Bool} (h : IsCase w a0 n0 c0 K N a1 n1 c1 F a2 n2 c2 G near) :
    Calls Try.prog 5 #[.agg #[.slice a0 n0 c0, .slice a1 n1 c1, .slice a2 n2 c2]] w fun e w' => e = .returned (.bool true) ∧ Below w.heap.size w w' := by
  have S1 : Still w (w.alloc (.cells #[.slice a0 n0 c0, .slice a1 n1 c1, .slice a2 n2 c2] 48)) := (Still.refl w).alloc _
  have HM := Lib.hid (made3_any h _ S1)
  have HS1 := Lib.hid S1
  clear h S1
  go_enter Try.func5, Try.ntmps5
  go_wp2_with fail
  refine HM.out.mono ?_; rintro e w1 (⟨rfl, t1⟩ | ⟨wa, s, x, a, n, c, rl, rfl, hc, _⟩)
  · have HT := Lib.hid (HS1.out.trans t1)
    clear t1 HM
    go_wp2_with fail
    refine (lives3_any _).mono ?_; rintro e w2 ⟨rfl, b2⟩
    go_wp2_with fail
    go_ret
    exact ⟨rfl, (Still.below HT.out).trans (b2.mono HT.out.size)⟩
  have hq := hc.que
  obtain ⟨B, hq, hB1, hB2, hB3⟩ := hq
  have hnc := hq.2.1
  have hcm := hq.2.2.1
  have HRL := Lib.hid (ReadL.of_que hq).1
  have HF := Lib.hid (fit_any x a n c rl w1 hc.both.rf HRL.out hc.len hnc hcm hc.lt)
  have HC := Lib.hid hc
  have HBL := Lib.hid (show Below w.heap.size w w1 from (Still.below (HS1.out.trans hc.still)).trans (hc.both.below.mono (HS1.out.trans hc.still).size))
  have HNC := Lib.hid (And.intro hnc hcm)
  have HBG : Hid (∀ k, k = s.g ∨ k = s.gw → w.heap.size ≤ k) := fun k hk => by
    have h1 := hc.both.bg
    have h2 := hc.both.bgw
    have h3 := (HS1.out.trans hc.still).size
    rcases hk with e | e <;> omega
  clear hc hq hB1 hB2 hB3 hnc hcm HM
  go_wp2_with fail
  refine HF.out.mono ?_; rintro e w2 ⟨t2, ⟨rfl, hfit⟩ | ⟨rfl, hno⟩⟩
  case inr =>
    have HT := Lib.hid t2
    clear t2 hno HF
    go_wp2_with fail
    refine (lives3_any _).mono ?_; rintro e w3 ⟨rfl, b3⟩
    go_wp2_with fail
    go_ret
    exact ⟨rfl, (HBL.out.trans ((Still.below HT.out).mono HBL.out.size)).trans (b3.mono (Nat.le_trans HBL.out.size HT.out.size))⟩
  have HR2 := Lib.hid (HC.out.both.right.still t2)
  have HRT2 := Lib.hid (HC.out.root.turn (Still.turn t2))
  have HRL2 := Lib.hid (HRL.out.still t2)
  have HFIT : Hid (∀ v ∈ rl, s.fits (v : Nat) = true) := fun v hv => by rw [← HC.out.both.fits]; exact hfit v hv
  have HB2 := Lib.hid (HBL.out.trans ((Still.below t2).mono HBL.out.size))
  have HSG := Lib.hid (sight_any HR2.out a n c rl HC.out.len HRL2.out HNC.out.1 HNC.out.2 HC.out.le HC.out.lt HFIT.out)
  clear t2 hfit HF HRL
  go_wp2_with fail
  refine HSG.out.mono ?_; rintro e w3 ⟨oa, ol, oc, rfl, hol, hown, hob, holt, t3⟩
  have HR3 := Lib.hid (HR2.out.still t3)
  have HRT3 := Lib.hid (HRT2.out.turn (Still.turn t3))
  have HB3 := Lib.hid (HB2.out.trans ((Still.below t3).mono HB2.out.size))
  have HOW := Lib.hid hown
  have HOL := Lib.hid (And.intro hol (And.intro hob holt))
  have hgl : s.g < w2.heap.size ∧ s.gw < w2.heap.size := ⟨HR2.out.hp.blk.lt, HR2.out.hp.words.lt⟩
  have HGL := Lib.hid hgl
  have HCO := Lib.hid (collect_l HR3.out a n c rl HC.out.len HRT3.out HNC.out.1 HNC.out.2)
  clear hown hol hob holt t3 hgl HSG
  go_wp2_with fail
  refine HCO.out.mono ?_; rintro e w5 (⟨rfl, hu⟩ | ⟨mk, gr, s5, rfl, hsw⟩)
  · exfalso
    obtain ⟨v, hv, hf⟩ := hu.unfit
    rw [HFIT.out v hv] at hf; simp at hf
  have HB5 : Hid (Below w.heap.size w w5) := hsw.turn.own HB3.out (Nat.le_refl _) HBG.out
  have hown5 := own_keep HOW.out hsw.turn (fun k hk e => by
    have h1 := (HOW.out.lt k hk).1
    have h2 := HGL.out
    rcases e with e | e <;> omega)
  have hlt5 := ren_lt (mk := mk) HR3.out HC.out.lt HFIT.out
  have hfit5 := ren_fits HR3.out hsw.right hsw.mk_iff HFIT.out
  have hrl5 : (rl.map (M.ren (M.tof s mk x.L))).length = n := by rw [List.length_map]; exact HC.out.len
  have hrow5 : w5.rowIs gr 33 (rl.map (M.ren (M.tof s mk x.L))).length (fun i => .int .u64 ((rl.map (M.ren (M.tof s mk x.L))).getD i 0 : Nat)) := by
    rw [List.length_map]
    exact hsw.row.congr fun i hi => by rw [getD_map _ _ _ hi]
  have hRG : ReadL w5 (some ⟨gr, 0, none⟩) (rl.map (M.ren (M.tof s mk x.L))) := ReadL.of_row hrow5
  have hpt : s5.ptr = s.ptr := by show Value.pointer (some ⟨s5.g, 0, none⟩) = _; rw [hsw.is.1]
  have hsg := sight_any hsw.right (some ⟨gr, 0, none⟩) n n (rl.map (M.ren (M.tof s mk x.L))) hrl5 hRG (Nat.le_refl _) (by have := HC.out.le; unfold maxLen; omega) HC.out.le hlt5 hfit5
  rw [hpt, sight_same HR3.out hsw.right HFIT.out hsw.mk_iff] at hsg
  have HSG := Lib.hid hsg
  have HOW5 := Lib.hid hown5
  clear hown5 hlt5 hfit5 hrl5 hrow5 hRG hpt hsg hsw HCO
  go_wp2_with (first
    | (go_at_call 22; (with_reducible refine HSG.out.mono ?_); rintro e w6 ⟨oa2, ol2, oc2, rfl, hol2, hown2, hob2, holt2, t6⟩
       have HT6 := Lib.hid t6
       obtain rfl : ol = ol2 := HOL.out.1.symm.trans hol2
       have HAL := Lib.hid (alike_big oa oa2 ol oc oc2 _ w6 (read_own (own_keep HOW5.out t6 (fun _ _ e => e)) hol2) (read_own hown2 hol2) hol2 (own_le HOW5.out).1 (own_le hown2).1 hob2 holt2)
       clear t6 hol2 hown2 hob2 holt2)
    | (go_at_call 21; (with_reducible refine HAL.out.mono ?_); rintro e w7 ⟨rfl, t7⟩; have HT7 := Lib.hid (HT6.out.trans t7); clear t7)
    | (go_at_call 17; (with_reducible refine (lives3_any _).mono ?_); rintro e w9 ⟨rfl, b9⟩))
  go_ret
  have h1 := HB5.out.trans ((Still.below HT7.out).mono HB5.out.size)
  exact ⟨rfl, h1.trans (b9.mono h1.size)⟩
end Go.Proofs.Ythfkgkddklnnhaa
