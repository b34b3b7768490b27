/- The law HeapMakes: whatever it is called with, it returns true, and its arguments read as they did. No condition. -/
import Derived.Test.YtmfhjfkghljoeaaRows
import Derived.WalkKit
import Derived.ProofKit
import Derived.OpenShut
import Derived.ShutString
import Derived.ChangeOld
import Derived.Below
import Derived.Lib.SmallJoins
import Derived.SizedLaws
import Derived.Test.YtmfhjfkghljoeaaMakes
namespace Go.Proofs.Ytmfhjfkghljoeaa.heapMakes
open Go.ChangeShapes Go.WideShapes Go.ChangeAt Go.RowKit
open Go.ChangeMaps (open_string shut_string)
open Go.Proofs.Ytmfhjfkghljoeaa.M (W)
set_option linter.unusedVariables false

theorem own : ownKnob Try.prog.godebug = none := by kernel_rfl
theorem laidOut : laidOutB Try.prog = true := by kernel_rfl

set_option maxHeartbeats 2000000 in
theorem walk (a0 : Int) (a1 : Option Addr) (len1 cap1 : Nat) (K1 N1 : Nat → Int) (w : World) (w0 : (Lit.int .i64 a0).wf = true) (w1 : IsLays w a1 len1 cap1 K1 N1) :
    Calls Try.prog 3 #[.int .i64 a0, .slice a1 len1 cap1] w fun e w' => e = .returned (.bool true) ∧ Below w.heap.size w w' := by
  have h0 : -9223372036854775808 ≤ a0 ∧ a0 ≤ 9223372036854775807 := by simpa [Lit.wf, IntKind.min, IntKind.max, IntKind.signed, IntKind.bits] using w0
  clear w0
  have hL := w1.lays
  clear w1
  by_cases hn : a0 < 0 ∨ 65536 < a0
  · have HN := Lib.hid hn
    clear hn h0 hL
    go_enter Try.func3, Try.ntmps3
    go_wp2_with fail
    refine (new_arg _ _ _ _ _ HN.out).mono ?_; rintro e w ⟨rfl, rfl⟩
    go_wp2_with fail
    refine (check_arg _ _ _ _ _ HN.out).mono ?_; rintro e w ⟨rfl, rfl⟩
    go_wp2_with (go_at_call 17; (with_reducible refine (lives_any _).mono ?_); rintro e w9 ⟨rfl, hb⟩)
    go_ret
    exact ⟨rfl, hb⟩
  obtain ⟨n, rfl⟩ := Int.eq_ofNat_of_zero_le (show 0 ≤ a0 by omega)
  have hn2 : n ≤ 65536 := by omega
  clear hn h0
  by_cases hl : 512 < len1
  · clear hL
    go_enter Try.func3, Try.ntmps3
    go_wp2_with fail
    refine (new_big _ _ _ _ _ hn2 hl).mono ?_; rintro e w ⟨rfl, rfl⟩
    go_wp2_with fail
    refine (check_big _ _ _ _ _ hn2 hl).mono ?_; rintro e w ⟨rfl, rfl⟩
    go_wp2_with (go_at_call 17; (with_reducible refine (lives_any _).mono ?_); rintro e w9 ⟨rfl, hb⟩)
    go_ret
    exact ⟨rfl, hb⟩
  have hl2 : len1 ≤ 512 := by omega
  clear hl
  obtain ⟨b, hb⟩ := mayBe_all len1 K1 N1
  have HB := Lib.hid hb
  have HL := Lib.hid hL
  clear hb hL
  cases b
  · have hbad : ¬ ∀ j, j < len1 → M.mayBe (K1 j) (N1 j) = true := fun h => by have := HB.out.2 h; simp at this
    have HBAD := Lib.hid hbad
    clear hbad
    go_enter Try.func3, Try.ntmps3
    go_wp2_with fail
    refine (new_bad _ _ _ _ _ _ _ hn2 hl2 HL.out HBAD.out).mono ?_; rintro e w1 ⟨rfl, t1⟩
    have HT1 := Lib.hid t1; clear t1
    go_wp2_with fail
    refine (check_all _ _ _ _ _ _ false _ hn2 hl2 (HL.out.still HT1.out) HB.out).mono ?_; rintro e w2 ⟨rfl, t2⟩
    have HT2 := Lib.hid (HT1.out.trans t2); clear t2
    go_wp2_with (go_at_call 17; (with_reducible refine (lives_any _).mono ?_); rintro e w9 ⟨rfl, hb⟩)
    go_ret
    exact ⟨rfl, (Still.below HT2.out).trans (hb.mono HT2.out.size)⟩
  · have hgood : ∀ j, j < len1 → M.mayBe (K1 j) (N1 j) = true := HB.out.1 rfl
    have HG := Lib.hid hgood
    clear hgood
    go_enter Try.func3, Try.ntmps3
    go_wp2_with fail
    refine (new_ok _ _ _ _ _ _ _ hn2 hl2 HL.out HG.out).mono ?_; rintro e w1 ⟨s, rfl, hs, t1, _, _, _, hsn, hst, _⟩
    have HT1 := Lib.hid t1; have HS := Lib.hid hs; have HSN := Lib.hid hsn; have HST := Lib.hid hst; clear t1 hs hsn hst
    go_wp2_with fail
    refine (check_all _ _ _ _ _ _ true _ hn2 hl2 (HL.out.still HT1.out) ⟨fun _ => HG.out, fun _ => rfl⟩).mono ?_; rintro e w2 ⟨rfl, t2⟩
    have HS2 := Lib.hid (HS.out.still t2); have HT2 := Lib.hid (HT1.out.trans t2); clear t2
    have HZ := size_any s w2 HS2.out
    rw [HSN.out] at HZ
    have HP := top_any s w2 HS2.out
    rw [HST.out] at HP
    have HO := objects_0 s w2 HS2.out HST.out
    have en : ((n : Int) == n) = true := by simp
    go_wp2_with (first
      | (go_at_call 14; (with_reducible refine HZ.mono ?_); rintro e w2 ⟨rfl, rfl⟩)
      | (go_at_call 15; (with_reducible refine HP.mono ?_); rintro e w2 ⟨rfl, rfl⟩)
      | (go_at_call 16; (with_reducible refine HO.mono ?_); rintro e w2 ⟨rfl, rfl⟩)
      | (go_at_call 17; (with_reducible refine (lives_any _).mono ?_); rintro e w9 ⟨rfl, hb⟩))
    go_ret
    exact ⟨rfl, (Still.below HT2.out).trans (hb.mono HT2.out.size)⟩

set_option maxRecDepth 100000 in
theorem lifted (os : Os) (started : os.Started) (H : Type) (enc : TypeId × Value → H) :
    ReturnsInHanded {} Try.checked os 3 .any (Rows.heapMakesSpec.pre6 enc Try.prog Try.f3 Rows.heapMakesRow.domain false) (Rows.heapMakesSpec.post enc Try.prog Try.f3 false true false false) := by
  refine returnsInHanded_of_change (C := Try.checked) own started (by kernel_rfl) Try.func3
    (ChangeSpec.witness6 (enc := enc) (C := Try.checked) false ⟨#[], #[.int .i64 0, .slice none 0 0], []⟩ 8 (by kernel_rfl) (by kernel_rfl) (by kernel_rfl) (by kernel_rfl)) ?_
  intro W base args ds gs before hval0 hW hcnd _
  have hval : ∀ (j : Nat) t v, Try.f3.params[j]? = some t → args[j]? = some v → Value.okWide Try.prog W .any base t v := hval0
  have hW' := hW
  obtain ⟨p, q, hA0, hV, rfl, hfz, hnd⟩ := hW
  have hA : DataW.TrodAll enc Try.prog W 0 (fun _ => true) true Try.f3.params.toList args.toList ds p := hA0
  rw [Try.params3] at hA hval
  obtain ⟨v0, vs0, d0, ds0, p0, q0, hargs, rfl, rfl, h0, r0⟩ := trodAll_cons hA
  obtain ⟨v1, vs1, d1, ds1, p1, q1, rfl, rfl, rfl, h1, r1⟩ := trodAll_cons r0
  obtain ⟨rfl, rfl, rfl⟩ := trodAll_nil r1
  obtain rfl : args = #[v0, v1] := by cases args; simp_all
  obtain ⟨rfl, rfl⟩ := trodVars_none hV
  obtain ⟨a0, rfl, rfl, rfl, w0⟩ := open_int Try.underlying3 (hval 0 3 v0 rfl rfl) h0
  obtain ⟨a1, len1, cap1, rfl⟩ := okWide_slice Try.underlying22 (hval 1 22 v1 rfl rfl)
  have k1 := h1
  have lt1 : ∀ x ∈ p1, x.block < W.heap.size := by obtain ⟨m, hm⟩ := k1; exact DataW.trod_lt m _ _ _ hm
  obtain ⟨K1, N1, w1⟩ : ∃ K N, IsLays W a1 len1 cap1 K N := by
    obtain ⟨fuel, hf⟩ := h1
    exact open_lays hf
  clear hA0 hval0
  refine (walk a0 a1 len1 cap1 K1 N1 W w0 w1).mono fun e W' ⟨he, bel⟩ => ?_
  subst he
  exact ⟨_, rfl, _, _, _, [], _, [], hW', trodAll_mk1 (shut_bool Try.underlying4 _), (trodAll_cons_mk (shut_int Try.underlying3 w0) (trodAll_cons_mk (Below.trod laidOut (by kernel_rfl) (of_decide_eq_true (by kernel_rfl)) k1 bel lt1) trodAll_mk0)), rfl, bel.frame _, fun h => by cases h⟩

theorem over : Rows.heapMakesRow.holds Try.pinned (OpenSpec.ofChange Rows.heapMakesSpec) :=
  OpenClaim.holds_of_wide 3 Try.f3 rfl rfl rfl rfl rfl rfl rfl ⟨rfl, rfl, rfl, rfl, rfl⟩ rfl rfl rfl rfl rfl (by kernel_rfl) Try.func3 (by kernel_rfl)
    (of_decide_eq_true (by kernel_rfl)) (by unfold Func.isWrapper; first | (rw [if_pos (by decide +kernel)]; kernel_rfl) | (rw [if_neg (by decide +kernel)]; exact ⟨rfl, rfl⟩))
    (fun os started H enc _ => lifted os started H enc)

theorem proved : Rows.HeapMakesSaid := over
end Go.Proofs.Ytmfhjfkghljoeaa.heapMakes
