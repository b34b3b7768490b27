/- The law WordRing: whatever it is called with, it returns true, and its arguments read as they did. No condition. -/
import Derived.Test.YtmcciopahbijaaaRows
import Derived.WalkKit
import Derived.ProofKit
import Derived.OpenShut
import Derived.ShutString
import Derived.ChangeOld
import Derived.Below
import Derived.Lib.SmallJoins
import Derived.SizedLaws
import Derived.Test.YtmcciopahbijaaaLives
namespace Go.Proofs.Ytmcciopahbijaaa.wordRing
open Go.ChangeShapes Go.WideShapes Go.ChangeAt Go.RowKit
open Go.ChangeMaps (open_string shut_string)
open Go.Proofs.Ytmcciopahbijaaa.M (W)
set_option linter.unusedVariables false

theorem own : ownKnob Try.prog.godebug = none := by kernel_rfl
theorem laidOut : laidOutB Try.prog = true := by kernel_rfl

set_option maxHeartbeats 2000000 in
theorem walk (a0 : Int) (a1 : Int) (a2 : Int) (w : World) (w0 : (Lit.int .i64 a0).wf = true) (w1 : (Lit.int .i64 a1).wf = true) (w2 : (Lit.int .i64 a2).wf = true) :
    Calls Try.prog 12 #[.int .i64 a0, .int .i64 a1, .int .i64 a2] w fun e w' => e = .returned (.bool true) ∧ Below w.heap.size w w' := by
  have r1 : W (a1 + a0) = W (a0 + a1) := by rw [Int.add_comm]
  have r2 : W (a1 * a0) = W (a0 * a1) := by rw [Int.mul_comm]
  have r3 : W (W (a0 + a1) + a2) = W (a0 + a1 + a2) := M.W_add_l _ _
  have r4 : W (a0 + W (a1 + a2)) = W (a0 + a1 + a2) := by rw [M.W_add_r, Int.add_assoc]
  have r5 : W (W (a0 * a1) * a2) = W (a0 * a1 * a2) := M.W_mul_l _ _
  have r6 : W (a0 * W (a1 * a2)) = W (a0 * a1 * a2) := by rw [M.W_mul_r, Int.mul_assoc]
  have r7 : W (a0 * W (a1 + a2)) = W (a0 * (a1 + a2)) := M.W_mul_r _ _
  have r8 : W (W (a0 * a1) + W (a0 * a2)) = W (a0 * (a1 + a2)) := by rw [← M.ring_dist, M.W_mul_r]
  have r9 : W (W (a0 + a1) - a1) = W a0 := M.ring_back a0 a1
  have R1 := Lib.hid r1; have R2 := Lib.hid r2; have R3 := Lib.hid r3; have R4 := Lib.hid r4; have R5 := Lib.hid r5; have R6 := Lib.hid r6; have R7 := Lib.hid r7; have R8 := Lib.hid r8; have R9 := Lib.hid r9
  clear r1 r2 r3 r4 r5 r6 r7 r8 r9 w0 w1 w2
  go_enter Try.func12, Try.ntmps12
  go_wp2_with (first
    | (go_at_call 19; (with_reducible refine (add_to (a0) (a1) _ (W (a0 + a1)) rfl).mono ?_); rintro e w ⟨rfl, rfl⟩)
    | (go_at_call 19; (with_reducible refine (add_to (a1) (a0) _ (W (a0 + a1)) R1.out).mono ?_); rintro e w ⟨rfl, rfl⟩)
    | (go_at_call 22; (with_reducible refine (mul_to (a0) (a1) _ (W (a0 * a1)) rfl).mono ?_); rintro e w ⟨rfl, rfl⟩)
    | (go_at_call 22; (with_reducible refine (mul_to (a1) (a0) _ (W (a0 * a1)) R2.out).mono ?_); rintro e w ⟨rfl, rfl⟩)
    | (go_at_call 19; (with_reducible refine (add_to (W (a0 + a1)) (a2) _ (W (a0 + a1 + a2)) R3.out).mono ?_); rintro e w ⟨rfl, rfl⟩)
    | (go_at_call 19; (with_reducible refine (add_to (a1) (a2) _ (W (a1 + a2)) rfl).mono ?_); rintro e w ⟨rfl, rfl⟩)
    | (go_at_call 19; (with_reducible refine (add_to (a0) (W (a1 + a2)) _ (W (a0 + a1 + a2)) R4.out).mono ?_); rintro e w ⟨rfl, rfl⟩)
    | (go_at_call 22; (with_reducible refine (mul_to (W (a0 * a1)) (a2) _ (W (a0 * a1 * a2)) R5.out).mono ?_); rintro e w ⟨rfl, rfl⟩)
    | (go_at_call 22; (with_reducible refine (mul_to (a1) (a2) _ (W (a1 * a2)) rfl).mono ?_); rintro e w ⟨rfl, rfl⟩)
    | (go_at_call 22; (with_reducible refine (mul_to (a0) (W (a1 * a2)) _ (W (a0 * a1 * a2)) R6.out).mono ?_); rintro e w ⟨rfl, rfl⟩)
    | (go_at_call 22; (with_reducible refine (mul_to (a0) (W (a1 + a2)) _ (W (a0 * (a1 + a2))) R7.out).mono ?_); rintro e w ⟨rfl, rfl⟩)
    | (go_at_call 22; (with_reducible refine (mul_to (a0) (a2) _ (W (a0 * a2)) rfl).mono ?_); rintro e w ⟨rfl, rfl⟩)
    | (go_at_call 19; (with_reducible refine (add_to (W (a0 * a1)) (W (a0 * a2)) _ (W (a0 * (a1 + a2))) R8.out).mono ?_); rintro e w ⟨rfl, rfl⟩)
    | (go_at_call 21; (with_reducible refine (sub_to (W (a0 + a1)) (a1) _ (W a0) R9.out).mono ?_); rintro e w ⟨rfl, rfl⟩)
    | (go_at_call 16; (with_reducible refine (wrap_any _ _).mono ?_); rintro e w ⟨rfl, rfl⟩)
    | (go_at_call 18; refine (lives_any _).mono ?_; rintro e wl ⟨rfl, hb⟩))
  go_ret
  exact ⟨rfl, hb⟩

set_option maxRecDepth 100000 in
theorem lifted (os : Os) (started : os.Started) (H : Type) (enc : TypeId × Value → H) :
    ReturnsInHanded {} Try.checked os 12 .any (Rows.wordRingSpec.pre6 enc Try.prog Try.f12 Rows.wordRingRow.domain false) (Rows.wordRingSpec.post enc Try.prog Try.f12 false true false false) := by
  refine returnsInHanded_of_change (C := Try.checked) own started (by kernel_rfl) Try.func12
    (ChangeSpec.witness6 (enc := enc) (C := Try.checked) false ⟨#[], #[.int .i64 0, .int .i64 0, .int .i64 0], []⟩ 8 (by kernel_rfl) (by kernel_rfl) (by kernel_rfl) (by kernel_rfl)) ?_
  intro W base args ds gs before hval0 hW hcnd _
  have hval : ∀ (j : Nat) t v, Try.f12.params[j]? = some t → args[j]? = some v → Value.okWide Try.prog W .any base t v := hval0
  have hW' := hW
  obtain ⟨p, q, hA0, hV, rfl, hfz, hnd⟩ := hW
  have hA : DataW.TrodAll enc Try.prog W 0 (fun _ => true) true Try.f12.params.toList args.toList ds p := hA0
  rw [Try.params12] at hA hval
  obtain ⟨v0, vs0, d0, ds0, p0, q0, hargs, rfl, rfl, h0, r0⟩ := trodAll_cons hA
  obtain ⟨v1, vs1, d1, ds1, p1, q1, rfl, rfl, rfl, h1, r1⟩ := trodAll_cons r0
  obtain ⟨v2, vs2, d2, ds2, p2, q2, rfl, rfl, rfl, h2, r2⟩ := trodAll_cons r1
  obtain ⟨rfl, rfl, rfl⟩ := trodAll_nil r2
  obtain rfl : args = #[v0, v1, v2] := by cases args; simp_all
  obtain ⟨rfl, rfl⟩ := trodVars_none hV
  obtain ⟨a0, rfl, rfl, rfl, w0⟩ := open_int Try.underlying2 (hval 0 2 v0 rfl rfl) h0
  obtain ⟨a1, rfl, rfl, rfl, w1⟩ := open_int Try.underlying2 (hval 1 2 v1 rfl rfl) h1
  obtain ⟨a2, rfl, rfl, rfl, w2⟩ := open_int Try.underlying2 (hval 2 2 v2 rfl rfl) h2
  clear hA0 hval0
  refine (walk a0 a1 a2 W w0 w1 w2).mono fun e W' ⟨he, bel⟩ => ?_
  subst he
  exact ⟨_, rfl, _, _, _, [], _, [], hW', trodAll_mk1 (shut_bool Try.underlying4 _), (trodAll_cons_mk (shut_int Try.underlying2 w0) (trodAll_cons_mk (shut_int Try.underlying2 w1) (trodAll_cons_mk (shut_int Try.underlying2 w2) trodAll_mk0))), rfl, bel.frame _, fun h => by cases h⟩

theorem over : Rows.wordRingRow.holds Try.pinned (OpenSpec.ofChange Rows.wordRingSpec) :=
  OpenClaim.holds_of_wide 12 Try.f12 rfl rfl rfl rfl rfl rfl rfl ⟨rfl, rfl, rfl, rfl, rfl⟩ rfl rfl rfl rfl rfl (by kernel_rfl) Try.func12 (by kernel_rfl)
    (of_decide_eq_true (by kernel_rfl)) (by unfold Func.isWrapper; first | (rw [if_pos (by decide +kernel)]; kernel_rfl) | (rw [if_neg (by decide +kernel)]; exact ⟨rfl, rfl⟩))
    (fun os started H enc _ => lifted os started H enc)

theorem proved : Rows.WordRingSaid := over
end Go.Proofs.Ytmcciopahbijaaa.wordRing
