/- The law HeapNeeds: whatever it is called with, it returns true, and its arguments read as they did. No condition. -/
import Derived.Test.YtmfhjfkghljoeaaRows
import Derived.WalkKit
import Derived.ProofKit
import Derived.OpenShut
import Derived.ShutString
import Derived.ChangeOld
import Derived.Below
import Derived.Lib.SmallJoins
import Derived.SizedLaws
import Derived.Test.YtmfhjfkghljoeaaMakes
namespace Go.Proofs.Ytmfhjfkghljoeaa.heapNeeds
open Go.ChangeShapes Go.WideShapes Go.ChangeAt Go.RowKit
open Go.ChangeMaps (open_string shut_string)
open Go.Proofs.Ytmfhjfkghljoeaa.M (W)
set_option linter.unusedVariables false

theorem own : ownKnob Try.prog.godebug = none := by kernel_rfl
theorem laidOut : laidOutB Try.prog = true := by kernel_rfl

set_option maxHeartbeats 2000000 in
theorem walk (a0 : Option Addr) (len0 cap0 : Nat) (K0 N0 : Nat → Int) (a1 : Int) (a2 : Int) (w : World) (w0 : IsLays w a0 len0 cap0 K0 N0) (w1 : (Lit.int .i64 a1).wf = true) (w2 : (Lit.int .i64 a2).wf = true) :
    Calls Try.prog 4 #[.slice a0 len0 cap0, .int .i64 a1, .int .i64 a2] w fun e w' => e = .returned (.bool true) ∧ Below w.heap.size w w' := by
  clear w1 w2
  have hL := w0.lays
  clear w0
  by_cases hl : 512 < len0
  · clear hL
    go_enter Try.func4, Try.ntmps4
    go_wp2_with fail
    refine (new_big 100 _ _ _ _ (by decide) hl).mono ?_; rintro e w ⟨rfl, rfl⟩
    go_wp2_with fail
    refine (check_big 100 _ _ _ _ (by decide) hl).mono ?_; rintro e w ⟨rfl, rfl⟩
    go_wp2_with (go_at_call 17; (with_reducible refine (lives_any _).mono ?_); rintro e w9 ⟨rfl, hb⟩)
    go_ret
    exact ⟨rfl, hb⟩
  have hl2 : len0 ≤ 512 := by omega
  clear hl
  obtain ⟨b, hb⟩ := mayBe_all len0 K0 N0
  have HB := Lib.hid hb
  have HL := Lib.hid hL
  clear hb hL
  cases b
  · have hbad : ¬ ∀ j, j < len0 → M.mayBe (K0 j) (N0 j) = true := fun h => by have := HB.out.2 h; simp at this
    have HBAD := Lib.hid hbad
    clear hbad
    go_enter Try.func4, Try.ntmps4
    go_wp2_with fail
    refine (new_bad 100 _ _ _ _ _ _ (by decide) hl2 HL.out HBAD.out).mono ?_; rintro e w1 ⟨rfl, t1⟩
    have HT1 := Lib.hid t1; clear t1
    go_wp2_with fail
    refine (check_all 100 _ _ _ _ _ false _ (by decide) hl2 (HL.out.still HT1.out) HB.out).mono ?_; rintro e w2 ⟨rfl, t2⟩
    have HT2 := Lib.hid (HT1.out.trans t2); clear t2
    go_wp2_with (go_at_call 17; (with_reducible refine (lives_any _).mono ?_); rintro e w9 ⟨rfl, hb⟩)
    go_ret
    exact ⟨rfl, (Still.below HT2.out).trans (hb.mono HT2.out.size)⟩
  · have hgood : ∀ j, j < len0 → M.mayBe (K0 j) (N0 j) = true := HB.out.1 rfl
    have hv : ∀ j, j < len0 → K0 j = 1 ∨ K0 j = 2 ∨ K0 j = 3 := fun j hj => (mayBe_true (hgood j hj)).1
    have HG := Lib.hid hgood
    have HV := Lib.hid hv
    clear hgood hv
    have HK : Hid (∀ k : Nat, (k : Int) = a1 → k < len0 → K0 k = M.kd len0 K0 a1) := by
      rintro k rfl hk
      unfold M.kd
      rw [if_pos (by omega)]; simp
    have HQ : Hid (∀ s : St, s.m = len0 → s.lk = K0 → s.ln = N0 → s.kind a1 = M.kd len0 K0 a1 ∧ s.need a1 a2 = M.need (M.kd len0 K0 a1) (M.kd len0 N0 a1) a2 ∧ s.needE a1 a2 = M.needE (M.kd len0 K0 a1) (M.kd len0 N0 a1) a2) := by
      rintro s rfl rfl rfl
      exact ⟨rfl, rfl, rfl⟩
    have HO : Hid (¬ (0 ≤ a1 ∧ a1 < len0) → M.kd len0 K0 a1 = 0) := by
      intro h; unfold M.kd; rw [if_neg h]
    have HR := fun (g : Nat) (W : World) (hg : W.cell? ⟨g, 1, none⟩ = some (.slice a0 len0 cap0)) (hLL : Lays W a0 len0 K0 N0) => refNeed_any g a0 len0 cap0 K0 N0 W a1 a2 hg hLL HV.out
    generalize M.kd len0 K0 a1 = Q at *
    generalize M.need Q (M.kd len0 N0 a1) a2 = X at *
    generalize M.needE Q (M.kd len0 N0 a1) a2 = E at *
    have HRR := Lib.hid HR
    clear HR
    have x1 : ((X : Int) == X) = true := by simp
    have x2 : ((E : Int) == E) = true := by simp
    have x3 : ((Q : Int) == Q) = true := by simp
    have HNEW := new_ok 100 a0 len0 cap0 K0 N0 w (by decide) hl2 HL.out HG.out
    by_cases hin : 0 ≤ a1 ∧ a1 < len0
    · obtain ⟨k, rfl⟩ := Int.eq_ofNat_of_zero_le hin.1
      have hk : k < len0 := by omega
      have hKk := HK.out k rfl hk
      have HKk := Lib.hid hKk
      clear hin hKk HK HO
      go_enter Try.func4, Try.ntmps4
      go_wp2_with fail
      refine HNEW.mono ?_; rintro e w1 ⟨s, rfl, hs, t1, _, _, _, _, _, _, _, q1, q2, q3⟩
      obtain ⟨b', off, ha, hbl, hc⟩ := (HL.out.still t1).at_ (by omega)
      obtain ⟨d0, d1⟩ := hc k hk
      rw [HKk.out] at d0
      have HC := Lib.hid hc
      have HAA := Lib.hid ha
      obtain ⟨z1, z2, z3⟩ := HQ.out s q1 q2 q3
      have HT1 := Lib.hid t1; have HS := Lib.hid hs
      have HZ := Lib.hid (And.intro z1 (And.intro z2 z3))
      clear t1 hs z1 z2 z3 q1 q2 q3 d1 hc
      subst ha
      go_wp2_with fail
      refine (need_any s k a2 _ (HS.out.alloc _)).mono ?_; rintro e w2 ⟨rfl, rfl⟩
      rw [HZ.out.2.1, HZ.out.2.2]
      go_wp2_with fail
      refine (HRR.out _ _ (by rw [World.cell?_alloc_at _ _ _ _ rfl]; rfl) ((HL.out.still HT1.out).still ((Still.refl _).alloc _))).mono ?_; rintro e w2 ⟨rfl, rfl⟩
      have HKD := kind_any s k _ (HS.out.alloc (.cells #[.int .i64 100, .slice (some ⟨b', off, none⟩) len0 cap0, .slice none 0 0] 36))
      rw [HZ.out.1] at HKD
      go_wp2_with fail
      refine HKD.mono ?_; rintro e w2 ⟨rfl, rfl⟩
      clear HKD
      go_wp2_with (go_at_call 17; (with_reducible refine (lives_any _).mono ?_); rintro e w9 ⟨rfl, hb⟩)
      go_ret
      exact ⟨rfl, (Still.below (HT1.out.alloc _)).trans (hb.mono (HT1.out.alloc _).size)⟩
    · obtain rfl : Q = 0 := HO.out hin
      have HIN := Lib.hid hin
      have hcase : a1 < 0 ∨ (len0 : Int) ≤ a1 := by omega
      clear hin HK HO
      rcases hcase with hx | hx
      · go_enter Try.func4, Try.ntmps4
        go_wp2_with fail
        refine HNEW.mono ?_; rintro e w1 ⟨s, rfl, hs, t1, _, _, _, _, _, _, _, q1, q2, q3⟩
        obtain ⟨z1, z2, z3⟩ := HQ.out s q1 q2 q3
        have HT1 := Lib.hid t1; have HS := Lib.hid hs
        have HZ := Lib.hid (And.intro z1 (And.intro z2 z3))
        clear t1 hs z1 z2 z3 q1 q2 q3
        go_wp2_with fail
        refine (need_any s a1 a2 _ (HS.out.alloc _)).mono ?_; rintro e w2 ⟨rfl, rfl⟩
        rw [HZ.out.2.1, HZ.out.2.2]
        go_wp2_with fail
        refine (HRR.out _ _ (by rw [World.cell?_alloc_at _ _ _ _ rfl]; rfl) ((HL.out.still HT1.out).still ((Still.refl _).alloc _))).mono ?_; rintro e w2 ⟨rfl, rfl⟩
        have HKD := kind_any s a1 _ (HS.out.alloc (.cells #[.int .i64 100, .slice a0 len0 cap0, .slice none 0 0] 36))
        rw [HZ.out.1] at HKD
        go_wp2_with fail
        refine HKD.mono ?_; rintro e w2 ⟨rfl, rfl⟩
        clear HKD
        go_wp2_with (go_at_call 17; (with_reducible refine (lives_any _).mono ?_); rintro e w9 ⟨rfl, hb⟩)
        go_ret
        exact ⟨rfl, (Still.below (HT1.out.alloc _)).trans (hb.mono (HT1.out.alloc _).size)⟩
      · have hx0 : ¬ a1 < 0 := by omega
        go_enter Try.func4, Try.ntmps4
        go_wp2_with fail
        refine HNEW.mono ?_; rintro e w1 ⟨s, rfl, hs, t1, _, _, _, _, _, _, _, q1, q2, q3⟩
        obtain ⟨z1, z2, z3⟩ := HQ.out s q1 q2 q3
        have HT1 := Lib.hid t1; have HS := Lib.hid hs
        have HZ := Lib.hid (And.intro z1 (And.intro z2 z3))
        clear t1 hs z1 z2 z3 q1 q2 q3
        go_wp2_with fail
        refine (need_any s a1 a2 _ (HS.out.alloc _)).mono ?_; rintro e w2 ⟨rfl, rfl⟩
        rw [HZ.out.2.1, HZ.out.2.2]
        go_wp2_with fail
        refine (HRR.out _ _ (by rw [World.cell?_alloc_at _ _ _ _ rfl]; rfl) ((HL.out.still HT1.out).still ((Still.refl _).alloc _))).mono ?_; rintro e w2 ⟨rfl, rfl⟩
        have HKD := kind_any s a1 _ (HS.out.alloc (.cells #[.int .i64 100, .slice a0 len0 cap0, .slice none 0 0] 36))
        rw [HZ.out.1] at HKD
        go_wp2_with fail
        refine HKD.mono ?_; rintro e w2 ⟨rfl, rfl⟩
        clear HKD
        go_wp2_with (go_at_call 17; (with_reducible refine (lives_any _).mono ?_); rintro e w9 ⟨rfl, hb⟩)
        go_ret
        exact ⟨rfl, (Still.below (HT1.out.alloc _)).trans (hb.mono (HT1.out.alloc _).size)⟩

set_option maxRecDepth 100000 in
theorem lifted (os : Os) (started : os.Started) (H : Type) (enc : TypeId × Value → H) :
    ReturnsInHanded {} Try.checked os 4 .any (Rows.heapNeedsSpec.pre6 enc Try.prog Try.f4 Rows.heapNeedsRow.domain false) (Rows.heapNeedsSpec.post enc Try.prog Try.f4 false true false false) := by
  refine returnsInHanded_of_change (C := Try.checked) own started (by kernel_rfl) Try.func4
    (ChangeSpec.witness6 (enc := enc) (C := Try.checked) false ⟨#[], #[.slice none 0 0, .int .i64 0, .int .i64 0], []⟩ 8 (by kernel_rfl) (by kernel_rfl) (by kernel_rfl) (by kernel_rfl)) ?_
  intro W base args ds gs before hval0 hW hcnd _
  have hval : ∀ (j : Nat) t v, Try.f4.params[j]? = some t → args[j]? = some v → Value.okWide Try.prog W .any base t v := hval0
  have hW' := hW
  obtain ⟨p, q, hA0, hV, rfl, hfz, hnd⟩ := hW
  have hA : DataW.TrodAll enc Try.prog W 0 (fun _ => true) true Try.f4.params.toList args.toList ds p := hA0
  rw [Try.params4] at hA hval
  obtain ⟨v0, vs0, d0, ds0, p0, q0, hargs, rfl, rfl, h0, r0⟩ := trodAll_cons hA
  obtain ⟨v1, vs1, d1, ds1, p1, q1, rfl, rfl, rfl, h1, r1⟩ := trodAll_cons r0
  obtain ⟨v2, vs2, d2, ds2, p2, q2, rfl, rfl, rfl, h2, r2⟩ := trodAll_cons r1
  obtain ⟨rfl, rfl, rfl⟩ := trodAll_nil r2
  obtain rfl : args = #[v0, v1, v2] := by cases args; simp_all
  obtain ⟨rfl, rfl⟩ := trodVars_none hV
  obtain ⟨a0, len0, cap0, rfl⟩ := okWide_slice Try.underlying22 (hval 0 22 v0 rfl rfl)
  have k0 := h0
  have lt0 : ∀ x ∈ p0, x.block < W.heap.size := by obtain ⟨m, hm⟩ := k0; exact DataW.trod_lt m _ _ _ hm
  obtain ⟨K0, N0, w0⟩ : ∃ K N, IsLays W a0 len0 cap0 K N := by
    obtain ⟨fuel, hf⟩ := h0
    exact open_lays hf
  obtain ⟨a1, rfl, rfl, rfl, w1⟩ := open_int Try.underlying3 (hval 1 3 v1 rfl rfl) h1
  obtain ⟨a2, rfl, rfl, rfl, w2⟩ := open_int Try.underlying3 (hval 2 3 v2 rfl rfl) h2
  clear hA0 hval0
  refine (walk a0 len0 cap0 K0 N0 a1 a2 W w0 w1 w2).mono fun e W' ⟨he, bel⟩ => ?_
  subst he
  exact ⟨_, rfl, _, _, _, [], _, [], hW', trodAll_mk1 (shut_bool Try.underlying4 _), (trodAll_cons_mk (Below.trod laidOut (by kernel_rfl) (of_decide_eq_true (by kernel_rfl)) k0 bel lt0) (trodAll_cons_mk (shut_int Try.underlying3 w1) (trodAll_cons_mk (shut_int Try.underlying3 w2) trodAll_mk0))), rfl, bel.frame _, fun h => by cases h⟩

theorem over : Rows.heapNeedsRow.holds Try.pinned (OpenSpec.ofChange Rows.heapNeedsSpec) :=
  OpenClaim.holds_of_wide 4 Try.f4 rfl rfl rfl rfl rfl rfl rfl ⟨rfl, rfl, rfl, rfl, rfl⟩ rfl rfl rfl rfl rfl (by kernel_rfl) Try.func4 (by kernel_rfl)
    (of_decide_eq_true (by kernel_rfl)) (by unfold Func.isWrapper; first | (rw [if_pos (by decide +kernel)]; kernel_rfl) | (rw [if_neg (by decide +kernel)]; exact ⟨rfl, rfl⟩))
    (fun os started H enc _ => lifted os started H enc)

theorem proved : Rows.HeapNeedsSaid := over
end Go.Proofs.Ytmfhjfkghljoeaa.heapNeeds
