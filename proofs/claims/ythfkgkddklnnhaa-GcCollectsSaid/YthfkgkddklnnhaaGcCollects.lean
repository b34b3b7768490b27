/- The law GcCollects: whatever it is called with, it returns true, and its arguments read as they did. No condition. -/
import Derived.Test.YthfkgkddklnnhaaRows
import Derived.WalkKit
import Derived.ProofKit
import Derived.OpenShut
import Derived.ShutString
import Derived.ChangeOld
import Derived.Below
import Derived.Lib.SmallJoins
import Derived.SizedLaws
import Derived.Test.YthfkgkddklnnhaaK33
namespace Go.Proofs.Ythfkgkddklnnhaa.gcCollects
open Go.ChangeShapes Go.WideShapes Go.ChangeAt Go.RowKit
open Go.ChangeMaps (open_string shut_string)
open Go.Proofs.Ythfkgkddklnnhaa.M (W)
set_option linter.unusedVariables false

theorem own : ownKnob Try.prog.godebug = none := by kernel_rfl
theorem laidOut : laidOutB Try.prog = true := by kernel_rfl

set_option maxHeartbeats 2000000 in
theorem walk {a0 : Option Addr} {len0 cap0 : Nat} {K0 N0 : Nat → Int} {b0 : Option Addr} {lenb0 capb0 : Nat} {F0 : Nat → OpR} {r0 : Option Addr} {lenr0 capr0 : Nat} {G0 : Nat → Nat} {near0 : Nat → Bool} (w : World) (w0 : IsCase w a0 len0 cap0 K0 N0 b0 lenb0 capb0 F0 r0 lenr0 capr0 G0 near0) :
    Calls Try.prog 4 #[.agg #[.slice a0 len0 cap0, .slice b0 lenb0 capb0, .slice r0 lenr0 capr0]] w fun e w' => e = .returned (.bool true) ∧ Below w.heap.size w w' := by
  exact gcCollects_w w0

set_option maxRecDepth 100000 in
theorem lifted (os : Os) (started : os.Started) (H : Type) (enc : TypeId × Value → H) :
    ReturnsInHanded {} Try.checked os 4 .any (Rows.gcCollectsSpec.pre6 enc Try.prog Try.f4 Rows.gcCollectsRow.domain false) (Rows.gcCollectsSpec.post enc Try.prog Try.f4 false true false false) := by
  refine returnsInHanded_of_change (C := Try.checked) own started (by kernel_rfl) Try.func4
    (ChangeSpec.witness6 (enc := enc) (C := Try.checked) false ⟨#[], #[.agg #[.slice none 0 0, .slice none 0 0, .slice none 0 0]], []⟩ 8 (by kernel_rfl) (by kernel_rfl) (by kernel_rfl) (by kernel_rfl)) ?_
  intro W base args ds gs before hval0 hW hcnd _
  have hval : ∀ (j : Nat) t v, Try.f4.params[j]? = some t → args[j]? = some v → Value.okWide Try.prog W .any base t v := hval0
  have hW' := hW
  obtain ⟨p, q, hA0, hV, rfl, hfz, hnd⟩ := hW
  have hA : DataW.TrodAll enc Try.prog W 0 (fun _ => true) true Try.f4.params.toList args.toList ds p := hA0
  rw [Try.params4] at hA hval
  obtain ⟨v0, vs0, d0, ds0, p0, q0, hargs, rfl, rfl, h0, r0⟩ := trodAll_cons hA
  obtain ⟨rfl, rfl, rfl⟩ := trodAll_nil r0
  obtain rfl : args = #[v0] := by cases args; simp_all
  obtain ⟨rfl, rfl⟩ := trodVars_none hV
  obtain ⟨cs0, rfl, hz0⟩ := okWide_struct Try.underlying48 (hval 0 48 v0 rfl rfl)
  have k0 := h0
  have lt0 : ∀ x ∈ p0, x.block < W.heap.size := by obtain ⟨m, hm⟩ := k0; exact DataW.trod_lt m _ _ _ hm
  obtain ⟨a0, len0, cap0, K0, N0, b0, lenb0, capb0, F0, r0, lenr0, capr0, G0, near0, w0, e0⟩ : ∃ (a0 : Option Addr) (n0 c0 : Nat) (K N : Nat → Int) (a1 : Option Addr) (n1 c1 : Nat) (F : Nat → OpR) (a2 : Option Addr) (n2 c2 : Nat) (G : Nat → Nat) (near : Nat → Bool), IsCase W a0 n0 c0 K N a1 n1 c1 F a2 n2 c2 G near ∧ cs0.toList = [.slice a0 n0 c0, .slice a1 n1 c1, .slice a2 n2 c2] := by
    obtain ⟨fuel, hf⟩ := h0
    exact case_cells hf
  obtain rfl : cs0 = #[.slice a0 len0 cap0, .slice b0 lenb0 capb0, .slice r0 lenr0 capr0] := by cases cs0; simp_all
  clear hA0 hval0
  refine (walk  W w0).mono fun e W' ⟨he, bel⟩ => ?_
  subst he
  exact ⟨_, rfl, _, _, _, [], _, [], hW', trodAll_mk1 (shut_bool Try.underlying4 _), (trodAll_cons_mk (Below.trod laidOut (by kernel_rfl) (of_decide_eq_true (by kernel_rfl)) k0 bel lt0) trodAll_mk0), rfl, bel.frame _, fun h => by cases h⟩

theorem over : Rows.gcCollectsRow.holds Try.pinned (OpenSpec.ofChange Rows.gcCollectsSpec) :=
  OpenClaim.holds_of_wide 4 Try.f4 rfl rfl rfl rfl rfl rfl rfl ⟨rfl, rfl, rfl, rfl, rfl⟩ rfl rfl rfl rfl rfl (by kernel_rfl) Try.func4 (by kernel_rfl)
    (of_decide_eq_true (by kernel_rfl)) (by unfold Func.isWrapper; first | (rw [if_pos (by decide +kernel)]; kernel_rfl) | (rw [if_neg (by decide +kernel)]; exact ⟨rfl, rfl⟩))
    (fun os started H enc _ => lifted os started H enc)

theorem proved : Rows.GcCollectsSaid := over
end Go.Proofs.Ythfkgkddklnnhaa.gcCollects
