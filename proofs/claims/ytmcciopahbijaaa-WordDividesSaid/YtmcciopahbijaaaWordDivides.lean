/- The law WordDivides: whatever it is called with, it returns true, and its arguments read as they did. No condition. -/
import Derived.Test.YtmcciopahbijaaaRows
import Derived.WalkKit
import Derived.ProofKit
import Derived.OpenShut
import Derived.ShutString
import Derived.ChangeOld
import Derived.Below
import Derived.Lib.SmallJoins
import Derived.SizedLaws
import Derived.Test.YtmcciopahbijaaaLives
namespace Go.Proofs.Ytmcciopahbijaaa.wordDivides
open Go.ChangeShapes Go.WideShapes Go.ChangeAt Go.RowKit
open Go.ChangeMaps (open_string shut_string)
open Go.Proofs.Ytmcciopahbijaaa.M (W)
set_option linter.unusedVariables false

theorem own : ownKnob Try.prog.godebug = none := by kernel_rfl
theorem laidOut : laidOutB Try.prog = true := by kernel_rfl

set_option maxHeartbeats 2000000 in
theorem walk (a0 : Int) (a1 : Int) (w : World) (w0 : (Lit.int .i64 a0).wf = true) (w1 : (Lit.int .i64 a1).wf = true) :
    Calls Try.prog 13 #[.int .i64 a0, .int .i64 a1] w fun e w' => e = .returned (.bool true) ∧ Below w.heap.size w w' := by
  have h0 : -9223372036854775808 ≤ a0 ∧ a0 ≤ 9223372036854775807 := by simpa [Lit.wf, IntKind.min, IntKind.max, IntKind.signed, IntKind.bits] using w0
  obtain ⟨l0, u0⟩ := h0
  clear w0
  have h1 : -9223372036854775808 ≤ a1 ∧ a1 ≤ 9223372036854775807 := by simpa [Lit.wf, IntKind.min, IntKind.max, IntKind.signed, IntKind.bits] using w1
  obtain ⟨l1, u1⟩ := h1
  clear w1
  have la := M.W_lo a0
  have ua := M.W_hi a0
  have lb := M.W_lo a1
  have ub := M.W_hi a1
  by_cases hz : W a1 = 0
  · have hz0 : ((W a1 : Int) == 0) = true := by simpa using hz
    have HZ := Lib.hid hz; clear hz
    go_enter Try.func13, Try.ntmps13
    go_wp2_with (first
      | (go_at_call 16; (with_reducible refine (wrap_any _ _).mono ?_); rintro e w ⟨rfl, rfl⟩)
      | (go_at_call 24; (with_reducible refine (div_nil _ _ _ HZ.out).mono ?_); rintro e w ⟨rfl, rfl⟩)
      | (go_at_call 25; (with_reducible refine (mod_nil _ _ _ HZ.out).mono ?_); rintro e w ⟨rfl, rfl⟩)
      | (go_at_call 18; refine (lives_any _).mono ?_; rintro e wl ⟨rfl, hb⟩))
    go_ret
    exact ⟨rfl, hb⟩
  · have hz0 : ((W a1 : Int) == 0) = false := by simpa using hz
    have HZ := Lib.hid hz; clear hz
    have hr1 := M.dr_pos (W a0) (W a1)
    have hr2 := M.dr_neg (W a0) (W a1)
    have hq := M.dq_dr (W a0) (W a1)
    have hq2 : W (W (M.dq (W a0) (W a1) * W a1) + M.dr (W a0) (W a1)) = W a0 := by rw [M.W_add_l, hq, M.W_W]
    have hw : W (M.dr (W a0) (W a1)) = M.dr (W a0) (W a1) := by
      rcases Int.lt_or_gt_of_ne HZ.out with h | h
      · have := hr2 h; exact M.W_id (by omega) (by omega)
      · have := hr1 h; exact M.W_id (by omega) (by omega)
    have hm : W (W (M.dq (W a0) (W a1)) * W a1) = W (M.dq (W a0) (W a1) * W a1) := M.W_mul_l _ _
    have HQ := Lib.hid hq2; have HW := Lib.hid hw; have HM := Lib.hid hm
    clear hq hq2 hw hm
    by_cases hs : 0 < W a1
    · obtain ⟨r1, r2⟩ := hr1 hs
      clear hr1 hr2
      go_enter Try.func13, Try.ntmps13
      go_wp2_with (first
        | (go_at_call 16; (with_reducible refine (wrap_any _ _).mono ?_); rintro e w ⟨rfl, rfl⟩)
        | (go_at_call 24; (with_reducible refine (div_any _ _ _ HZ.out (by omega) (by omega)).mono ?_); rintro e w1 ⟨rfl, n1, rfl⟩)
        | (go_at_call 25; (with_reducible refine (mod_to _ _ _ HZ.out (by omega) (by omega) _ HW.out).mono ?_); rintro e w2 ⟨rfl, n2, rfl⟩)
        | (go_at_call 22; (with_reducible refine (mul_to _ _ _ _ HM.out).mono ?_); rintro e w ⟨rfl, rfl⟩)
        | (go_at_call 19; (with_reducible refine (add_to _ _ _ _ HQ.out).mono ?_); rintro e w ⟨rfl, rfl⟩)
        | (go_at_call 18; refine (lives_any _).mono ?_; rintro e wl ⟨rfl, hb⟩))
      go_ret
      exact ⟨rfl, (below_drewN (Below.refl _ _) _).trans hb⟩
    · have hs2 : W a1 < 0 := by have := HZ.out; omega
      obtain ⟨r1, r2⟩ := hr2 hs2
      clear hr1 hr2
      go_enter Try.func13, Try.ntmps13
      go_wp2_with (first
        | (go_at_call 16; (with_reducible refine (wrap_any _ _).mono ?_); rintro e w ⟨rfl, rfl⟩)
        | (go_at_call 24; (with_reducible refine (div_any _ _ _ HZ.out (by omega) (by omega)).mono ?_); rintro e w1 ⟨rfl, n1, rfl⟩)
        | (go_at_call 25; (with_reducible refine (mod_to _ _ _ HZ.out (by omega) (by omega) _ HW.out).mono ?_); rintro e w2 ⟨rfl, n2, rfl⟩)
        | (go_at_call 22; (with_reducible refine (mul_to _ _ _ _ HM.out).mono ?_); rintro e w ⟨rfl, rfl⟩)
        | (go_at_call 19; (with_reducible refine (add_to _ _ _ _ HQ.out).mono ?_); rintro e w ⟨rfl, rfl⟩)
        | (go_at_call 18; refine (lives_any _).mono ?_; rintro e wl ⟨rfl, hb⟩))
      go_ret
      exact ⟨rfl, (below_drewN (Below.refl _ _) _).trans hb⟩

set_option maxRecDepth 100000 in
theorem lifted (os : Os) (started : os.Started) (H : Type) (enc : TypeId × Value → H) :
    ReturnsInHanded {} Try.checked os 13 .any (Rows.wordDividesSpec.pre6 enc Try.prog Try.f13 Rows.wordDividesRow.domain false) (Rows.wordDividesSpec.post enc Try.prog Try.f13 false true false false) := by
  refine returnsInHanded_of_change (C := Try.checked) own started (by kernel_rfl) Try.func13
    (ChangeSpec.witness6 (enc := enc) (C := Try.checked) false ⟨#[], #[.int .i64 0, .int .i64 0], []⟩ 8 (by kernel_rfl) (by kernel_rfl) (by kernel_rfl) (by kernel_rfl)) ?_
  intro W base args ds gs before hval0 hW hcnd _
  have hval : ∀ (j : Nat) t v, Try.f13.params[j]? = some t → args[j]? = some v → Value.okWide Try.prog W .any base t v := hval0
  have hW' := hW
  obtain ⟨p, q, hA0, hV, rfl, hfz, hnd⟩ := hW
  have hA : DataW.TrodAll enc Try.prog W 0 (fun _ => true) true Try.f13.params.toList args.toList ds p := hA0
  rw [Try.params13] at hA hval
  obtain ⟨v0, vs0, d0, ds0, p0, q0, hargs, rfl, rfl, h0, r0⟩ := trodAll_cons hA
  obtain ⟨v1, vs1, d1, ds1, p1, q1, rfl, rfl, rfl, h1, r1⟩ := trodAll_cons r0
  obtain ⟨rfl, rfl, rfl⟩ := trodAll_nil r1
  obtain rfl : args = #[v0, v1] := by cases args; simp_all
  obtain ⟨rfl, rfl⟩ := trodVars_none hV
  obtain ⟨a0, rfl, rfl, rfl, w0⟩ := open_int Try.underlying2 (hval 0 2 v0 rfl rfl) h0
  obtain ⟨a1, rfl, rfl, rfl, w1⟩ := open_int Try.underlying2 (hval 1 2 v1 rfl rfl) h1
  clear hA0 hval0
  refine (walk a0 a1 W w0 w1).mono fun e W' ⟨he, bel⟩ => ?_
  subst he
  exact ⟨_, rfl, _, _, _, [], _, [], hW', trodAll_mk1 (shut_bool Try.underlying4 _), (trodAll_cons_mk (shut_int Try.underlying2 w0) (trodAll_cons_mk (shut_int Try.underlying2 w1) trodAll_mk0)), rfl, bel.frame _, fun h => by cases h⟩

theorem over : Rows.wordDividesRow.holds Try.pinned (OpenSpec.ofChange Rows.wordDividesSpec) :=
  OpenClaim.holds_of_wide 13 Try.f13 rfl rfl rfl rfl rfl rfl rfl ⟨rfl, rfl, rfl, rfl, rfl⟩ rfl rfl rfl rfl rfl (by kernel_rfl) Try.func13 (by kernel_rfl)
    (of_decide_eq_true (by kernel_rfl)) (by unfold Func.isWrapper; first | (rw [if_pos (by decide +kernel)]; kernel_rfl) | (rw [if_neg (by decide +kernel)]; exact ⟨rfl, rfl⟩))
    (fun os started H enc _ => lifted os started H enc)

theorem proved : Rows.WordDividesSaid := over
end Go.Proofs.Ytmcciopahbijaaa.wordDivides
