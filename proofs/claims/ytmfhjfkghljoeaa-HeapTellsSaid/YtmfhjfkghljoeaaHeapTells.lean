/- The law HeapTells: whatever it is called with, it returns true, and its arguments read as they did. No condition. -/
import Derived.Test.YtmfhjfkghljoeaaRows
import Derived.WalkKit
import Derived.ProofKit
import Derived.OpenShut
import Derived.ShutString
import Derived.ChangeOld
import Derived.Below
import Derived.Lib.SmallJoins
import Derived.SizedLaws
import Derived.Test.YtmfhjfkghljoeaaTellsW
namespace Go.Proofs.Ytmfhjfkghljoeaa.heapTells
open Go.ChangeShapes Go.WideShapes Go.ChangeAt Go.RowKit
open Go.ChangeMaps (open_string shut_string)
open Go.Proofs.Ytmfhjfkghljoeaa.M (W)
set_option linter.unusedVariables false

theorem own : ownKnob Try.prog.godebug = none := by kernel_rfl
theorem laidOut : laidOutB Try.prog = true := by kernel_rfl

set_option maxHeartbeats 2000000 in
theorem walk (a0 : Option Addr) (len0 cap0 : Nat) (K0 N0 : Nat → Int) (a1 : Option Addr) (len1 cap1 : Nat) (F1 : Nat → OpR) (o2 : OpR) (w : World) (w0 : IsLays w a0 len0 cap0 K0 N0) (w1 : IsOps w a1 len1 cap1 F1) (w2 : o2.ok) :
    Calls Try.prog 6 #[.slice a0 len0 cap0, .slice a1 len1 cap1, o2.val] w fun e w' => e = .returned (.bool true) ∧ Below w.heap.size w w' := by
  obtain ⟨k, a, b, v, near⟩ := o2
  obtain ⟨ha, hv⟩ := w2
  show Calls _ _ #[_, _, .agg #[.int .i64 k, .int .i64 a, .int .i64 b, .int .u64 v, .bool near]] w _
  have hL : Lays (w.alloc (.cells #[.int .i64 k, .int .i64 a, .int .i64 b, .int .u64 v, .bool near] 49)) a0 len0 K0 N0 := w0.lays.still ((Still.refl w).alloc _)
  have hO : Ops (w.alloc (.cells #[.int .i64 k, .int .i64 a, .int .i64 b, .int .u64 v, .bool near] 49)) a1 len1 F1 := w1.ops.below (Still.below ((Still.refl w).alloc _))
  by_cases hl : 512 < len0
  · exact tells_nil k a b v near a0 len0 cap0 a1 len1 cap1 w (made_big 1000 a0 len0 cap0 a1 len1 cap1 _ (by decide) hl w0.le w0.cap_le)
  · by_cases hg : ∀ j, j < len0 → M.mayBe (K0 j) (N0 j) = true
    · exact tells_ok k a b v near ha hv a0 len0 cap0 a1 len1 cap1 w (made_ok 1000 a0 len0 cap0 K0 N0 a1 len1 cap1 F1 _ (by decide) (by omega) hL hg hO w1.le w1.cap_le)
    · exact tells_nil k a b v near a0 len0 cap0 a1 len1 cap1 w (made_bad 1000 a0 len0 cap0 K0 N0 a1 len1 cap1 _ (by decide) (by omega) hL hg)

set_option maxRecDepth 100000 in
theorem lifted (os : Os) (started : os.Started) (H : Type) (enc : TypeId × Value → H) :
    ReturnsInHanded {} Try.checked os 6 .any (Rows.heapTellsSpec.pre6 enc Try.prog Try.f6 Rows.heapTellsRow.domain false) (Rows.heapTellsSpec.post enc Try.prog Try.f6 false true false false) := by
  refine returnsInHanded_of_change (C := Try.checked) own started (by kernel_rfl) Try.func6
    (ChangeSpec.witness6 (enc := enc) (C := Try.checked) false ⟨#[], #[.slice none 0 0, .slice none 0 0, .agg #[.int .i64 0, .int .i64 0, .int .i64 0, .int .u64 0, .bool false]], []⟩ 8 (by kernel_rfl) (by kernel_rfl) (by kernel_rfl) (by kernel_rfl)) ?_
  intro W base args ds gs before hval0 hW hcnd _
  have hval : ∀ (j : Nat) t v, Try.f6.params[j]? = some t → args[j]? = some v → Value.okWide Try.prog W .any base t v := hval0
  have hW' := hW
  obtain ⟨p, q, hA0, hV, rfl, hfz, hnd⟩ := hW
  have hA : DataW.TrodAll enc Try.prog W 0 (fun _ => true) true Try.f6.params.toList args.toList ds p := hA0
  rw [Try.params6] at hA hval
  obtain ⟨v0, vs0, d0, ds0, p0, q0, hargs, rfl, rfl, h0, r0⟩ := trodAll_cons hA
  obtain ⟨v1, vs1, d1, ds1, p1, q1, rfl, rfl, rfl, h1, r1⟩ := trodAll_cons r0
  obtain ⟨v2, vs2, d2, ds2, p2, q2, rfl, rfl, rfl, h2, r2⟩ := trodAll_cons r1
  obtain ⟨rfl, rfl, rfl⟩ := trodAll_nil r2
  obtain rfl : args = #[v0, v1, v2] := by cases args; simp_all
  obtain ⟨rfl, rfl⟩ := trodVars_none hV
  obtain ⟨a0, len0, cap0, rfl⟩ := okWide_slice Try.underlying22 (hval 0 22 v0 rfl rfl)
  have k0 := h0
  have lt0 : ∀ x ∈ p0, x.block < W.heap.size := by obtain ⟨m, hm⟩ := k0; exact DataW.trod_lt m _ _ _ hm
  obtain ⟨K0, N0, w0⟩ : ∃ K N, IsLays W a0 len0 cap0 K N := by
    obtain ⟨fuel, hf⟩ := h0
    exact open_lays hf
  obtain ⟨a1, len1, cap1, rfl⟩ := okWide_slice Try.underlying43 (hval 1 43 v1 rfl rfl)
  have k1 := h1
  have lt1 : ∀ x ∈ p1, x.block < W.heap.size := by obtain ⟨m, hm⟩ := k1; exact DataW.trod_lt m _ _ _ hm
  obtain ⟨F1, w1⟩ : ∃ F, IsOps W a1 len1 cap1 F := by
    obtain ⟨fuel, hf⟩ := h1
    exact open_ops hf
  obtain ⟨cs2, rfl, hz2⟩ := okWide_struct Try.underlying49 (hval 2 49 v2 rfl rfl)
  have k2 := h2
  have lt2 : ∀ x ∈ p2, x.block < W.heap.size := by obtain ⟨m, hm⟩ := k2; exact DataW.trod_lt m _ _ _ hm
  obtain ⟨o2, w2, e2⟩ : ∃ o : OpR, o.ok ∧ cs2.toList = o.cells := by
    obtain ⟨fuel, hf⟩ := h2
    exact op_cells hf
  obtain rfl : cs2 = o2.cells.toArray := by rw [← e2]
  clear hA0 hval0
  refine (walk a0 len0 cap0 K0 N0 a1 len1 cap1 F1 o2 W w0 w1 w2).mono fun e W' ⟨he, bel⟩ => ?_
  subst he
  exact ⟨_, rfl, _, _, _, [], _, [], hW', trodAll_mk1 (shut_bool Try.underlying4 _), (trodAll_cons_mk (Below.trod laidOut (by kernel_rfl) (of_decide_eq_true (by kernel_rfl)) k0 bel lt0) (trodAll_cons_mk (Below.trod laidOut (by kernel_rfl) (of_decide_eq_true (by kernel_rfl)) k1 bel lt1) (trodAll_cons_mk (Below.trod laidOut (by kernel_rfl) (of_decide_eq_true (by kernel_rfl)) k2 bel lt2) trodAll_mk0))), rfl, bel.frame _, fun h => by cases h⟩

theorem over : Rows.heapTellsRow.holds Try.pinned (OpenSpec.ofChange Rows.heapTellsSpec) :=
  OpenClaim.holds_of_wide 6 Try.f6 rfl rfl rfl rfl rfl rfl rfl ⟨rfl, rfl, rfl, rfl, rfl⟩ rfl rfl rfl rfl rfl (by kernel_rfl) Try.func6 (by kernel_rfl)
    (of_decide_eq_true (by kernel_rfl)) (by unfold Func.isWrapper; first | (rw [if_pos (by decide +kernel)]; kernel_rfl) | (rw [if_neg (by decide +kernel)]; exact ⟨rfl, rfl⟩))
    (fun os started H enc _ => lifted os started H enc)

theorem proved : Rows.HeapTellsSaid := over
end Go.Proofs.Ytmfhjfkghljoeaa.heapTells
