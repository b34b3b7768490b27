/- The law WordMarks: whatever it is called with, it returns true, and its arguments read as they did. No condition. -/
import Derived.Test.YtmcciopahbijaaaRows
import Derived.WalkKit
import Derived.ProofKit
import Derived.OpenShut
import Derived.ShutString
import Derived.ChangeOld
import Derived.Below
import Derived.Lib.SmallJoins
import Derived.SizedLaws
import Derived.Test.YtmcciopahbijaaaLives
namespace Go.Proofs.Ytmcciopahbijaaa.wordMarks
open Go.ChangeShapes Go.WideShapes Go.ChangeAt Go.RowKit
open Go.ChangeMaps (open_string shut_string)
open Go.Proofs.Ytmcciopahbijaaa.M (W)
set_option linter.unusedVariables false

theorem own : ownKnob Try.prog.godebug = none := by kernel_rfl
theorem laidOut : laidOutB Try.prog = true := by kernel_rfl

set_option maxHeartbeats 2000000 in
theorem walk (a0 : Int) (b1 : Bool) (a2 : Int) (w : World) (w0 : (Lit.int .u64 a0).wf = true) (w2 : (Lit.int .i64 a2).wf = true) :
    Calls Try.prog 10 #[.int .u64 a0, .bool b1, .int .i64 a2] w fun e w' => e = .returned (.bool true) ∧ Below w.heap.size w w' := by
  have h0 : 0 ≤ a0 ∧ a0 ≤ 18446744073709551615 := by simpa [Lit.wf, IntKind.min, IntKind.max, IntKind.signed, IntKind.bits] using w0
  obtain ⟨l0, u0'⟩ := h0
  have u0 : a0 < 18446744073709551616 := by omega
  clear w0 u0'
  have h2 : -9223372036854775808 ≤ a2 ∧ a2 ≤ 9223372036854775807 := by simpa [Lit.wf, IntKind.min, IntKind.max, IntKind.signed, IntKind.bits] using w2
  obtain ⟨l2, u2⟩ := h2
  clear w2
  cases b1
  · go_enter Try.func10, Try.ntmps10
    go_wp2_with (first
      | (go_at_call 41; (with_reducible refine (mark_off _ _ l0 u0).mono ?_); rintro e w ⟨rfl, rfl⟩)
      | (go_at_call 43; (with_reducible refine (turn_any _ _ _ l0 u0).mono ?_); rintro e w1 ⟨rfl, n1, rfl⟩)
      | (go_at_call 42; (with_reducible refine (refWith41 _ _ _ l0 u0 (by decide) (by decide)).mono ?_); rintro e w1 ⟨rfl, n2, rfl⟩)
      | (go_at_call 42; (with_reducible refine (refTurn _ _ _ l0 u0).mono ?_); rintro e w1 ⟨rfl, n3, rfl⟩)
      | (go_at_call 18; refine (lives_any _).mono ?_; rintro e wl ⟨rfl, hb⟩))
    go_ret
    exact ⟨rfl, (below_drewN (Below.refl _ _) _).trans hb⟩
  · go_enter Try.func10, Try.ntmps10
    go_wp2_with (first
      | (go_at_call 41; (with_reducible refine (mark_on _ _ l0 u0).mono ?_); rintro e w ⟨rfl, rfl⟩)
      | (go_at_call 43; (with_reducible refine (turn_any _ _ _ l0 u0).mono ?_); rintro e w1 ⟨rfl, n1, rfl⟩)
      | (go_at_call 42; (with_reducible refine (refWith41 _ _ _ l0 u0 (by decide) (by decide)).mono ?_); rintro e w1 ⟨rfl, n2, rfl⟩)
      | (go_at_call 42; (with_reducible refine (refTurn _ _ _ l0 u0).mono ?_); rintro e w1 ⟨rfl, n3, rfl⟩)
      | (go_at_call 18; refine (lives_any _).mono ?_; rintro e wl ⟨rfl, hb⟩))
    go_ret
    exact ⟨rfl, (below_drewN (Below.refl _ _) _).trans hb⟩

set_option maxRecDepth 100000 in
theorem lifted (os : Os) (started : os.Started) (H : Type) (enc : TypeId × Value → H) :
    ReturnsInHanded {} Try.checked os 10 .any (Rows.wordMarksSpec.pre6 enc Try.prog Try.f10 Rows.wordMarksRow.domain false) (Rows.wordMarksSpec.post enc Try.prog Try.f10 false true false false) := by
  refine returnsInHanded_of_change (C := Try.checked) own started (by kernel_rfl) Try.func10
    (ChangeSpec.witness6 (enc := enc) (C := Try.checked) false ⟨#[], #[.int .u64 0, .bool false, .int .i64 0], []⟩ 8 (by kernel_rfl) (by kernel_rfl) (by kernel_rfl) (by kernel_rfl)) ?_
  intro W base args ds gs before hval0 hW hcnd _
  have hval : ∀ (j : Nat) t v, Try.f10.params[j]? = some t → args[j]? = some v → Value.okWide Try.prog W .any base t v := hval0
  have hW' := hW
  obtain ⟨p, q, hA0, hV, rfl, hfz, hnd⟩ := hW
  have hA : DataW.TrodAll enc Try.prog W 0 (fun _ => true) true Try.f10.params.toList args.toList ds p := hA0
  rw [Try.params10] at hA hval
  obtain ⟨v0, vs0, d0, ds0, p0, q0, hargs, rfl, rfl, h0, r0⟩ := trodAll_cons hA
  obtain ⟨v1, vs1, d1, ds1, p1, q1, rfl, rfl, rfl, h1, r1⟩ := trodAll_cons r0
  obtain ⟨v2, vs2, d2, ds2, p2, q2, rfl, rfl, rfl, h2, r2⟩ := trodAll_cons r1
  obtain ⟨rfl, rfl, rfl⟩ := trodAll_nil r2
  obtain rfl : args = #[v0, v1, v2] := by cases args; simp_all
  obtain ⟨rfl, rfl⟩ := trodVars_none hV
  obtain ⟨a0, rfl, rfl, rfl, w0⟩ := open_int Try.underlying31 (hval 0 31 v0 rfl rfl) h0
  obtain ⟨b1, rfl, rfl, rfl⟩ := open_bool Try.underlying4 (hval 1 4 v1 rfl rfl) h1
  obtain ⟨a2, rfl, rfl, rfl, w2⟩ := open_int Try.underlying3 (hval 2 3 v2 rfl rfl) h2
  clear hA0 hval0
  refine (walk a0 b1 a2 W w0 w2).mono fun e W' ⟨he, bel⟩ => ?_
  subst he
  exact ⟨_, rfl, _, _, _, [], _, [], hW', trodAll_mk1 (shut_bool Try.underlying4 _), (trodAll_cons_mk (shut_int Try.underlying31 w0) (trodAll_cons_mk (shut_bool Try.underlying4 b1) (trodAll_cons_mk (shut_int Try.underlying3 w2) trodAll_mk0))), rfl, bel.frame _, fun h => by cases h⟩

theorem over : Rows.wordMarksRow.holds Try.pinned (OpenSpec.ofChange Rows.wordMarksSpec) :=
  OpenClaim.holds_of_wide 10 Try.f10 rfl rfl rfl rfl rfl rfl rfl ⟨rfl, rfl, rfl, rfl, rfl⟩ rfl rfl rfl rfl rfl (by kernel_rfl) Try.func10 (by kernel_rfl)
    (of_decide_eq_true (by kernel_rfl)) (by unfold Func.isWrapper; first | (rw [if_pos (by decide +kernel)]; kernel_rfl) | (rw [if_neg (by decide +kernel)]; exact ⟨rfl, rfl⟩))
    (fun os started H enc _ => lifted os started H enc)

theorem proved : Rows.WordMarksSaid := over
end Go.Proofs.Ytmcciopahbijaaa.wordMarks
