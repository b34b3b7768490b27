/- The document's own SetByte and Get of layer 2. -/
import Derived.Test.YteanlncnhncpbaaRefOps
namespace Go.Proofs.Yteanlncnhncpbaa
set_option linter.unusedVariables false
open Go.ChangeShapes Go.WideShapes Go.ChangeAt Go.RowKit
open M (W)

theorem refSetByte_no {B : Nat} (x : Rf) (a i v : Int) (w : World) (h : RfIs B w x) (hf : FindNo x a w) : Calls Try.prog 55 #[x.ptr, .int .i64 a, .int .i64 i, .int .u8 v] w fun e w' => e = .returned (.int .i64 1) ∧ Still w w' := by
  unfold FindNo at hf
  clear h
  go_enter Try.func55, Try.ntmps55
  go_wp2_with fail
  refine hf.mono ?_; rintro e w1 ⟨rfl, t1⟩
  have HT := Lib.hid t1; clear t1
  go_wp2_with fail
  go_ret
  exact ⟨rfl, HT.out⟩
theorem refSetByte_out {B : Nat} (x : Rf) (a i v : Int) (k : Nat) (o : RO) (w : World) (h : RfIs B w x) (hk : x.L[k]? = some o) (hf : FindAt x k a w) (hi : i < 0 ∨ (o.bs.length : Int) ≤ i) : Calls Try.prog 55 #[x.ptr, .int .i64 a, .int .i64 i, .int .u8 v] w fun e w' => e = .returned (.int .i64 1) ∧ Still w w' := by
  unfold FindAt at hf
  have hkl : k < x.L.length := (List.getElem?_eq_some_iff.1 hk).1
  by_cases hi0 : i < 0
  · clear hi h
    go_enter Try.func55, Try.ntmps55
    go_wp2_with fail
    refine hf.mono ?_; rintro e w1 ⟨rfl, t1⟩
    have HT := Lib.hid t1; clear t1
    go_wp2_with fail
    go_ret
    exact ⟨rfl, HT.out⟩
  · have hi1 : (o.bs.length : Int) ≤ i := by omega
    have HH := Lib.hid h
    have HK := Lib.hid hk
    clear hi h hk
    go_enter Try.func55, Try.ntmps55
    go_wp2_with fail
    refine hf.mono ?_; rintro e w1 ⟨rfl, t1⟩
    have c2 := (HH.out.still t1).c2
    have hfew := HH.out.few
    rcases (HH.out.still t1).lv_form with ⟨h1, h0⟩ | ⟨g, cap, h1, hg, hb, hle, hm, hff, hc⟩
    · rw [h0] at hkl; simp at hkl
    rw [h1] at c2
    obtain ⟨d0, d1, d2, d3, d4⟩ := hc k o HK.out
    unfold maxLen at hm
    have HT := Lib.hid t1; clear t1 hc hff d0 d1 d2 d3 h1
    go_wp2_with fail
    go_ret
    exact ⟨rfl, HT.out⟩
set_option maxHeartbeats 1000000 in
theorem refSetByte_ok {B : Nat} (x : Rf) (a : Int) (v i : Nat) (k : Nat) (o : RO) (w : World) (h : RfIs B w x) (hk : x.L[k]? = some o) (hf : FindAt x k a w) (hi : i < o.bs.length) :
    Calls Try.prog 55 #[x.ptr, .int .i64 a, .int .i64 i, .int .u8 v] w fun e w' => e = .returned (.int .i64 0) ∧ RfIs B w' (x.upd k { o with bs := o.bs.set i v }) ∧ Turn (fun b => o.bv.ownBlock = some b) w w' := by
  unfold FindAt at hf
  have hkl : k < x.L.length := (List.getElem?_eq_some_iff.1 hk).1
  have HH := Lib.hid h
  have HK := Lib.hid hk
  clear h hk
  go_enter Try.func55, Try.ntmps55
  go_wp2_with fail
  refine hf.mono ?_; rintro e w1 ⟨rfl, t1⟩
  have c2 := (HH.out.still t1).c2
  have hfew := HH.out.few
  rcases (HH.out.still t1).lv_form with ⟨h1, h0⟩ | ⟨g, cap, h1, hg, hb, hle, hm, hff, hc⟩
  · rw [h0] at hkl; simp at hkl
  rw [h1] at c2
  obtain ⟨d0, d1, d2, d3, d4⟩ := hc k o HK.out
  unfold maxLen at hm
  have ht2 := t1
  have H2 := HH.out.still ht2
  obtain ⟨gf, ha, hgf, hcf, hcm, hcell, hfr⟩ := own_form (H2.rows o (List.mem_of_getElem? HK.out)).2 (by omega)
  obtain ⟨u, hu⟩ : ∃ u, (o.bs.map fun v : Nat => Value.int .u8 (v : Int))[i]? = some u := ⟨_, List.getElem?_eq_getElem (by simpa using hi)⟩
  have ci := hcell i u hu
  have cf := hfr i
  have d4' : w1.cell? ⟨g, k * 5 + 4, none⟩ = some (.slice (some ⟨gf, 0, none⟩) o.bs.length o.bc) := by rw [d4]; show some (Value.slice o.ba _ _) = _; rw [ha]
  have HT2 := Lib.hid ht2
  have HA := Lib.hid ha
  have HH2 := Lib.hid H2
  clear ht2 t1 H2 hcell hfr hu d0 d1 d2 d3 d4 hc hff h1 ha
  go_wp2_with fail
  go_ret
  obtain ⟨r1, r2⟩ := HH2.out.updB (v := v) HK.out HA.out hi
  exact ⟨rfl, r1, (Still.turn HT2.out).setCell (fun _ => by show Value.ownBlock (.slice o.ba _ _) = _; rw [HA.out]; rfl) _⟩

end Go.Proofs.Yteanlncnhncpbaa
