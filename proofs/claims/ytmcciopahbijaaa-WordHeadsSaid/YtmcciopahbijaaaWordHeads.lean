/- The law WordHeads: whatever it is called with, it returns true, and its arguments read as they did. No condition. -/
import Derived.Test.YtmcciopahbijaaaRows
import Derived.WalkKit
import Derived.ProofKit
import Derived.OpenShut
import Derived.ShutString
import Derived.ChangeOld
import Derived.Below
import Derived.Lib.SmallJoins
import Derived.SizedLaws
import Derived.Test.YtmcciopahbijaaaLives
namespace Go.Proofs.Ytmcciopahbijaaa.wordHeads
open Go.ChangeShapes Go.WideShapes Go.ChangeAt Go.RowKit
open Go.ChangeMaps (open_string shut_string)
open Go.Proofs.Ytmcciopahbijaaa.M (W)
set_option linter.unusedVariables false

theorem own : ownKnob Try.prog.godebug = none := by kernel_rfl
theorem laidOut : laidOutB Try.prog = true := by kernel_rfl

set_option maxHeartbeats 2000000 in
theorem walk (a0 : Int) (a1 : Int) (a2 : Int) (w : World) (w0 : (Lit.int .i64 a0).wf = true) (w1 : (Lit.int .i64 a1).wf = true) (w2 : (Lit.int .u64 a2).wf = true) :
    Calls Try.prog 9 #[.int .i64 a0, .int .i64 a1, .int .u64 a2] w fun e w' => e = .returned (.bool true) ∧ Below w.heap.size w w' := by
  have h0 : -9223372036854775808 ≤ a0 ∧ a0 ≤ 9223372036854775807 := by simpa [Lit.wf, IntKind.min, IntKind.max, IntKind.signed, IntKind.bits] using w0
  obtain ⟨l0, u0⟩ := h0
  clear w0
  have h1 : -9223372036854775808 ≤ a1 ∧ a1 ≤ 9223372036854775807 := by simpa [Lit.wf, IntKind.min, IntKind.max, IntKind.signed, IntKind.bits] using w1
  obtain ⟨l1, u1⟩ := h1
  clear w1
  have h2 : 0 ≤ a2 ∧ a2 ≤ 18446744073709551615 := by simpa [Lit.wf, IntKind.min, IntKind.max, IntKind.signed, IntKind.bits] using w2
  obtain ⟨l2, u2'⟩ := h2
  have u2 : a2 < 18446744073709551616 := by omega
  clear w2 u2'
  have f0a := M.fld_lo a2 2 1048576 (by decide)
  have f0b := M.fld_hi a2 2 1048576 (by decide)
  have f1a := M.fld_lo a2 2097152 1048576 (by decide)
  have f1b := M.fld_hi a2 2097152 1048576 (by decide)
  have f2a := M.fld_lo a2 4398046511104 1048576 (by decide)
  have f2b := M.fld_hi a2 4398046511104 1048576 (by decide)
  go_enter Try.func9, Try.ntmps9
  go_wp2_with (first
    | (go_at_call 34; (with_reducible refine (head_any _ _ _).mono ?_); rintro e w1 ⟨rfl, n1, rfl⟩)
    | (go_at_call 35; (with_reducible refine (refHead_any _ _ _).mono ?_); rintro e w1 ⟨rfl, n2, rfl⟩)
    | (go_at_call 36; (with_reducible refine (shape_any _ _ l2 u2).mono ?_); rintro e w ⟨rfl, rfl⟩)
    | (go_at_call 38; (with_reducible refine (len_any _ _ l2 u2).mono ?_); rintro e w ⟨rfl, rfl⟩)
    | (go_at_call 39; (with_reducible refine (marked_any _ _ l2 u2).mono ?_); rintro e w ⟨rfl, rfl⟩)
    | (go_at_call 40; (with_reducible refine (turned_any _ _ l2 u2).mono ?_); rintro e w ⟨rfl, rfl⟩)
    | (go_at_call 37; (with_reducible refine (refFld1 _ _ l2 u2).mono ?_); rintro e w1 ⟨rfl, n1, rfl⟩)
    | (go_at_call 37; (with_reducible refine (refFld21 _ _ l2 u2).mono ?_); rintro e w1 ⟨rfl, n21, rfl⟩)
    | (go_at_call 37; (with_reducible refine (refFld41 _ _ l2 u2).mono ?_); rintro e w1 ⟨rfl, n41, rfl⟩)
    | (go_at_call 37; (with_reducible refine (refFld42 _ _ l2 u2).mono ?_); rintro e w1 ⟨rfl, n42, rfl⟩)
    | (go_at_call 18; refine (lives_any _).mono ?_; rintro e wl ⟨rfl, hb⟩))
  go_ret
  exact ⟨rfl, (below_drewN (Below.refl _ _) _).trans hb⟩

set_option maxRecDepth 100000 in
theorem lifted (os : Os) (started : os.Started) (H : Type) (enc : TypeId × Value → H) :
    ReturnsInHanded {} Try.checked os 9 .any (Rows.wordHeadsSpec.pre6 enc Try.prog Try.f9 Rows.wordHeadsRow.domain false) (Rows.wordHeadsSpec.post enc Try.prog Try.f9 false true false false) := by
  refine returnsInHanded_of_change (C := Try.checked) own started (by kernel_rfl) Try.func9
    (ChangeSpec.witness6 (enc := enc) (C := Try.checked) false ⟨#[], #[.int .i64 0, .int .i64 0, .int .u64 0], []⟩ 8 (by kernel_rfl) (by kernel_rfl) (by kernel_rfl) (by kernel_rfl)) ?_
  intro W base args ds gs before hval0 hW hcnd _
  have hval : ∀ (j : Nat) t v, Try.f9.params[j]? = some t → args[j]? = some v → Value.okWide Try.prog W .any base t v := hval0
  have hW' := hW
  obtain ⟨p, q, hA0, hV, rfl, hfz, hnd⟩ := hW
  have hA : DataW.TrodAll enc Try.prog W 0 (fun _ => true) true Try.f9.params.toList args.toList ds p := hA0
  rw [Try.params9] at hA hval
  obtain ⟨v0, vs0, d0, ds0, p0, q0, hargs, rfl, rfl, h0, r0⟩ := trodAll_cons hA
  obtain ⟨v1, vs1, d1, ds1, p1, q1, rfl, rfl, rfl, h1, r1⟩ := trodAll_cons r0
  obtain ⟨v2, vs2, d2, ds2, p2, q2, rfl, rfl, rfl, h2, r2⟩ := trodAll_cons r1
  obtain ⟨rfl, rfl, rfl⟩ := trodAll_nil r2
  obtain rfl : args = #[v0, v1, v2] := by cases args; simp_all
  obtain ⟨rfl, rfl⟩ := trodVars_none hV
  obtain ⟨a0, rfl, rfl, rfl, w0⟩ := open_int Try.underlying3 (hval 0 3 v0 rfl rfl) h0
  obtain ⟨a1, rfl, rfl, rfl, w1⟩ := open_int Try.underlying3 (hval 1 3 v1 rfl rfl) h1
  obtain ⟨a2, rfl, rfl, rfl, w2⟩ := open_int Try.underlying31 (hval 2 31 v2 rfl rfl) h2
  clear hA0 hval0
  refine (walk a0 a1 a2 W w0 w1 w2).mono fun e W' ⟨he, bel⟩ => ?_
  subst he
  exact ⟨_, rfl, _, _, _, [], _, [], hW', trodAll_mk1 (shut_bool Try.underlying4 _), (trodAll_cons_mk (shut_int Try.underlying3 w0) (trodAll_cons_mk (shut_int Try.underlying3 w1) (trodAll_cons_mk (shut_int Try.underlying31 w2) trodAll_mk0))), rfl, bel.frame _, fun h => by cases h⟩

theorem over : Rows.wordHeadsRow.holds Try.pinned (OpenSpec.ofChange Rows.wordHeadsSpec) :=
  OpenClaim.holds_of_wide 9 Try.f9 rfl rfl rfl rfl rfl rfl rfl ⟨rfl, rfl, rfl, rfl, rfl⟩ rfl rfl rfl rfl rfl (by kernel_rfl) Try.func9 (by kernel_rfl)
    (of_decide_eq_true (by kernel_rfl)) (by unfold Func.isWrapper; first | (rw [if_pos (by decide +kernel)]; kernel_rfl) | (rw [if_neg (by decide +kernel)]; exact ⟨rfl, rfl⟩))
    (fun os started H enc _ => lifted os started H enc)

theorem proved : Rows.WordHeadsSaid := over
end Go.Proofs.Ytmcciopahbijaaa.wordHeads
