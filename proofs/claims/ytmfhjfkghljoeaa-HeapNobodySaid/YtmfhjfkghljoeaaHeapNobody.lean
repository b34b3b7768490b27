/- The law HeapNobody: whatever it is called with, it returns true, and its arguments read as they did. No condition. -/
import Derived.Test.YtmfhjfkghljoeaaRows
import Derived.WalkKit
import Derived.ProofKit
import Derived.OpenShut
import Derived.ShutString
import Derived.ChangeOld
import Derived.Below
import Derived.Lib.SmallJoins
import Derived.SizedLaws
import Derived.Test.YtmfhjfkghljoeaaHeapLives
namespace Go.Proofs.Ytmfhjfkghljoeaa.heapNobody
open Go.ChangeShapes Go.WideShapes Go.ChangeAt Go.RowKit
open Go.ChangeMaps (open_string shut_string)
open Go.Proofs.Ytmfhjfkghljoeaa.M (W)
set_option linter.unusedVariables false

theorem own : ownKnob Try.prog.godebug = none := by kernel_rfl
theorem laidOut : laidOutB Try.prog = true := by kernel_rfl

set_option maxHeartbeats 2000000 in
theorem walk (a0 : Int) (a1 : Int) (a2 : Int) (w : World) (w0 : (Lit.int .i64 a0).wf = true) (w1 : (Lit.int .i64 a1).wf = true) (w2 : (Lit.int .u64 a2).wf = true) :
    Calls Try.prog 11 #[.int .i64 a0, .int .i64 a1, .int .u64 a2] w fun e w' => e = .returned (.bool true) ∧ Below w.heap.size w w' := by
  go_enter Try.func11, Try.ntmps11
  go_wp2_with fail
  refine (need_nil _ _ _).mono ?_; rintro e w ⟨rfl, rfl⟩
  go_wp2_with fail
  refine (alloc_nil _ _ _).mono ?_; rintro e w1 ⟨rfl, t1⟩
  have HS1 := Lib.hid t1; clear t1
  go_wp2_with fail
  refine (shape_no _ _ _ (.nil _ _)).mono ?_; rintro e w2 ⟨rfl, t2⟩
  have HS2 := Lib.hid (HS1.out.trans t2); clear t2
  go_wp2_with fail
  refine (len_no _ _ _ (.nil _ _)).mono ?_; rintro e w3 ⟨rfl, t3⟩
  have HS3 := Lib.hid (HS2.out.trans t3); clear t3
  go_wp2_with fail
  refine (get_no _ _ _ _ (field_no _ _ _ _ (.nil _ _))).mono ?_; rintro e w4 ⟨rfl, t4⟩
  have HS4 := Lib.hid (HS3.out.trans t4); clear t4
  go_wp2_with fail
  refine (byte_no _ _ _ _ (octet_no _ _ _ _ (.nil _ _))).mono ?_; rintro e w5 ⟨rfl, t5⟩
  have HS5 := Lib.hid (HS4.out.trans t5); clear t5
  go_wp2_with fail
  refine (text_no _ _ _ (.nil _ _)).mono ?_; rintro e w6 ⟨rfl, t6⟩
  have HS6 := Lib.hid (HS5.out.trans t6); clear t6
  go_wp2_with fail
  refine (store_nil _ _ _).mono ?_; rintro e w6 ⟨rfl, rfl⟩
  go_wp2_with fail
  refine (set_no _ _ _ _ _ (field_no _ _ _ _ (.nil _ _))).mono ?_; rintro e w7 ⟨rfl, t7⟩
  have HS7 := Lib.hid (HS6.out.trans t7); clear t7
  go_wp2_with fail
  refine (setByte_no _ _ _ _ _ (octet_no _ _ _ _ (.nil _ _))).mono ?_; rintro e w8 ⟨rfl, t8⟩
  have HS8 := Lib.hid (HS7.out.trans t8); clear t8
  go_wp2_with fail
  refine (close_nil _ _).mono ?_; rintro e w8 ⟨rfl, rfl⟩
  have hix := hix_ones
  have HIX := Lib.hid hix; clear hix
  go_wp2_with fail
  go_loop [96] (fun i => ∃ k : Nat, k ≤ 10 ∧ i = .int .i64 k) (fun i => 10 - (intOf i).toNat)
  case atStart => exact ⟨0, by omega, rfl⟩
  case round =>
    obtain ⟨k, hk, rfl⟩ := hrel
    by_cases hlt : k < 10
    · have hx := HIX.out k hlt
      go_wp2_with fail
      go_round
      case rel => exact ⟨k + 1, by omega, by go_num⟩
      case measure => simp [intOf]; omega
    · obtain rfl : k = 10 := by omega
      go_wp2_with (first
        | (go_at_call 28; (with_reducible refine (is_nil _ _).mono ?_); rintro e w8 ⟨rfl, rfl⟩)
        | (go_at_call 29; (with_reducible refine (fits_nil _ _).mono ?_); rintro e w8 ⟨rfl, rfl⟩)
        | (go_at_call 40; (with_reducible refine (load_nil _ _).mono ?_); rintro e w8 ⟨rfl, rfl⟩)
        | (go_at_call 14; (with_reducible refine (size_nil _).mono ?_); rintro e w8 ⟨rfl, rfl⟩)
        | (go_at_call 15; (with_reducible refine (top_nil _).mono ?_); rintro e w8 ⟨rfl, rfl⟩)
        | (go_at_call 16; (with_reducible refine (objects_nil _).mono ?_); rintro e w8 ⟨rfl, rfl⟩)
        | (go_at_call 17; (with_reducible refine (lives_any _).mono ?_); rintro e w9 ⟨rfl, hb⟩))
      go_ret
      exact ⟨rfl, (Still.below HS8.out).trans (hb.mono HS8.out.size)⟩

set_option maxRecDepth 100000 in
theorem lifted (os : Os) (started : os.Started) (H : Type) (enc : TypeId × Value → H) :
    ReturnsInHanded {} Try.checked os 11 .any (Rows.heapNobodySpec.pre6 enc Try.prog Try.f11 Rows.heapNobodyRow.domain false) (Rows.heapNobodySpec.post enc Try.prog Try.f11 false true false false) := by
  refine returnsInHanded_of_change (C := Try.checked) own started (by kernel_rfl) Try.func11
    (ChangeSpec.witness6 (enc := enc) (C := Try.checked) false ⟨#[], #[.int .i64 0, .int .i64 0, .int .u64 0], []⟩ 8 (by kernel_rfl) (by kernel_rfl) (by kernel_rfl) (by kernel_rfl)) ?_
  intro W base args ds gs before hval0 hW hcnd _
  have hval : ∀ (j : Nat) t v, Try.f11.params[j]? = some t → args[j]? = some v → Value.okWide Try.prog W .any base t v := hval0
  have hW' := hW
  obtain ⟨p, q, hA0, hV, rfl, hfz, hnd⟩ := hW
  have hA : DataW.TrodAll enc Try.prog W 0 (fun _ => true) true Try.f11.params.toList args.toList ds p := hA0
  rw [Try.params11] at hA hval
  obtain ⟨v0, vs0, d0, ds0, p0, q0, hargs, rfl, rfl, h0, r0⟩ := trodAll_cons hA
  obtain ⟨v1, vs1, d1, ds1, p1, q1, rfl, rfl, rfl, h1, r1⟩ := trodAll_cons r0
  obtain ⟨v2, vs2, d2, ds2, p2, q2, rfl, rfl, rfl, h2, r2⟩ := trodAll_cons r1
  obtain ⟨rfl, rfl, rfl⟩ := trodAll_nil r2
  obtain rfl : args = #[v0, v1, v2] := by cases args; simp_all
  obtain ⟨rfl, rfl⟩ := trodVars_none hV
  obtain ⟨a0, rfl, rfl, rfl, w0⟩ := open_int Try.underlying3 (hval 0 3 v0 rfl rfl) h0
  obtain ⟨a1, rfl, rfl, rfl, w1⟩ := open_int Try.underlying3 (hval 1 3 v1 rfl rfl) h1
  obtain ⟨a2, rfl, rfl, rfl, w2⟩ := open_int Try.underlying47 (hval 2 47 v2 rfl rfl) h2
  clear hA0 hval0
  refine (walk a0 a1 a2 W w0 w1 w2).mono fun e W' ⟨he, bel⟩ => ?_
  subst he
  exact ⟨_, rfl, _, _, _, [], _, [], hW', trodAll_mk1 (shut_bool Try.underlying4 _), (trodAll_cons_mk (shut_int Try.underlying3 w0) (trodAll_cons_mk (shut_int Try.underlying3 w1) (trodAll_cons_mk (shut_int Try.underlying47 w2) trodAll_mk0))), rfl, bel.frame _, fun h => by cases h⟩

theorem over : Rows.heapNobodyRow.holds Try.pinned (OpenSpec.ofChange Rows.heapNobodySpec) :=
  OpenClaim.holds_of_wide 11 Try.f11 rfl rfl rfl rfl rfl rfl rfl ⟨rfl, rfl, rfl, rfl, rfl⟩ rfl rfl rfl rfl rfl (by kernel_rfl) Try.func11 (by kernel_rfl)
    (of_decide_eq_true (by kernel_rfl)) (by unfold Func.isWrapper; first | (rw [if_pos (by decide +kernel)]; kernel_rfl) | (rw [if_neg (by decide +kernel)]; exact ⟨rfl, rfl⟩))
    (fun os started H enc _ => lifted os started H enc)

theorem proved : Rows.HeapNobodySaid := over
end Go.Proofs.Ytmfhjfkghljoeaa.heapNobody
