/- Decode of an empty image's bytes, and of no image's. -/
import Derived.Test.YtjeehbcbflofpaaCode5
namespace Go.Proofs.Ytjeehbcbflofpaa
set_option linter.unusedVariables false
open Go.ChangeShapes Go.WideShapes Go.ChangeAt Go.RowKit
open M (W)
theorem sets7_blk {w : World} {i : Nat} {t : TypeId} {x0 x1 x2 x3 x4 x5 x6 : Value} (h : Blk w i t #[x0, x1, x2, x3, x4, x5, x6]) (v0 v1 v2 v3 v4 v5 v6 : Value) :
    Blk (((((((w.setCell ⟨i, 0, none⟩ v0).setCell ⟨i, 1, none⟩ v1).setCell ⟨i, 2, none⟩ v2).setCell ⟨i, 3, none⟩ v3).setCell ⟨i, 4, none⟩ v4).setCell ⟨i, 5, none⟩ v5).setCell ⟨i, 6, none⟩ v6) i t #[v0, v1, v2, v3, v4, v5, v6] := by
  have h0 : Blk (w.setCell ⟨i, 0, none⟩ v0) i t #[v0, x1, x2, x3, x4, x5, x6] := by have := h.set 0 v0; simpa using this
  have h1 : Blk ((w.setCell ⟨i, 0, none⟩ v0).setCell ⟨i, 1, none⟩ v1) i t #[v0, v1, x2, x3, x4, x5, x6] := by have := h0.set 1 v1; simpa using this
  have h2 : Blk (((w.setCell ⟨i, 0, none⟩ v0).setCell ⟨i, 1, none⟩ v1).setCell ⟨i, 2, none⟩ v2) i t #[v0, v1, v2, x3, x4, x5, x6] := by have := h1.set 2 v2; simpa using this
  have h3 : Blk ((((w.setCell ⟨i, 0, none⟩ v0).setCell ⟨i, 1, none⟩ v1).setCell ⟨i, 2, none⟩ v2).setCell ⟨i, 3, none⟩ v3) i t #[v0, v1, v2, v3, x4, x5, x6] := by have := h2.set 3 v3; simpa using this
  have h4 : Blk (((((w.setCell ⟨i, 0, none⟩ v0).setCell ⟨i, 1, none⟩ v1).setCell ⟨i, 2, none⟩ v2).setCell ⟨i, 3, none⟩ v3).setCell ⟨i, 4, none⟩ v4) i t #[v0, v1, v2, v3, v4, x5, x6] := by have := h3.set 4 v4; simpa using this
  have h5 : Blk ((((((w.setCell ⟨i, 0, none⟩ v0).setCell ⟨i, 1, none⟩ v1).setCell ⟨i, 2, none⟩ v2).setCell ⟨i, 3, none⟩ v3).setCell ⟨i, 4, none⟩ v4).setCell ⟨i, 5, none⟩ v5) i t #[v0, v1, v2, v3, v4, v5, x6] := by have := h4.set 5 v5; simpa using this
  have h6 : Blk (((((((w.setCell ⟨i, 0, none⟩ v0).setCell ⟨i, 1, none⟩ v1).setCell ⟨i, 2, none⟩ v2).setCell ⟨i, 3, none⟩ v3).setCell ⟨i, 4, none⟩ v4).setCell ⟨i, 5, none⟩ v5).setCell ⟨i, 6, none⟩ v6) i t #[v0, v1, v2, v3, v4, v5, v6] := by have := h5.set 6 v6; simpa using this
  exact h6
theorem sets7_turn (w : World) (i : Nat) (v0 v1 v2 v3 v4 v5 v6 : Value) : Turn (fun k => k = i) w (((((((w.setCell ⟨i, 0, none⟩ v0).setCell ⟨i, 1, none⟩ v1).setCell ⟨i, 2, none⟩ v2).setCell ⟨i, 3, none⟩ v3).setCell ⟨i, 4, none⟩ v4).setCell ⟨i, 5, none⟩ v5).setCell ⟨i, 6, none⟩ v6) := by
  refine Turn.setCell (S := fun k => k = i) ?_ (p := ⟨i, 6, none⟩) (fun _ => rfl) _
  refine Turn.setCell (S := fun k => k = i) ?_ (p := ⟨i, 5, none⟩) (fun _ => rfl) _
  refine Turn.setCell (S := fun k => k = i) ?_ (p := ⟨i, 4, none⟩) (fun _ => rfl) _
  refine Turn.setCell (S := fun k => k = i) ?_ (p := ⟨i, 3, none⟩) (fun _ => rfl) _
  refine Turn.setCell (S := fun k => k = i) ?_ (p := ⟨i, 2, none⟩) (fun _ => rfl) _
  refine Turn.setCell (S := fun k => k = i) ?_ (p := ⟨i, 1, none⟩) (fun _ => rfl) _
  exact Turn.setCell (S := fun k => k = i) (Turn.refl (fun k => k = i) w) (p := ⟨i, 0, none⟩) (fun _ => rfl) _
theorem RdZ.turn {w w' : World} {g b off cap k : Nat} {S : Nat → Prop} (h : RdZ w g b off cap k) (t : Turn S w w') (hg : ¬ S g) (hb : ¬ S b) : RdZ w' g b off cap k :=
  ⟨h.blk.keep t hg, h.ne, Nat.lt_of_lt_of_le h.lt t.size, fun j hj => (t.cell (p := ⟨b, off + j, none⟩) h.lt hb).trans (h.cells j hj)⟩
set_option maxRecDepth 100000 in
theorem rimage_z {w : World} {g b off cap : Nat} (h : RdZ w g b off cap 0) :
    Calls Try.prog 29 #[.pointer (some ⟨g, 0, none⟩)] w fun e w' => e = .returned (.agg #[.slice none 0 0, .slice none 0 0, .slice none 0 0, .slice none 0 0, .slice none 0 0, .int .i64 0, .int .i64 0]) ∧ RdZ w' g b off cap 7 ∧ Turn (fun i => i = g) w w' := by
  have hgl := h.blk.lt
  have H0 : Hid (RdZ (w.alloc (.cells #[.slice none 0 0, .slice none 0 0, .slice none 0 0, .slice none 0 0, .slice none 0 0, .int .i64 0, .int .i64 0] 27)) g b off cap 0 ∧ Turn (fun i => i = g) w (w.alloc (.cells #[.slice none 0 0, .slice none 0 0, .slice none 0 0, .slice none 0 0, .slice none 0 0, .int .i64 0, .int .i64 0] 27)) ∧ Blk (w.alloc (.cells #[.slice none 0 0, .slice none 0 0, .slice none 0 0, .slice none 0 0, .slice none 0 0, .int .i64 0, .int .i64 0] 27)) w.heap.size 27 #[.slice none 0 0, .slice none 0 0, .slice none 0 0, .slice none 0 0, .slice none 0 0, .int .i64 0, .int .i64 0]) := ⟨h.still ((Still.refl w).alloc _), (Turn.refl _ w).alloc _, Blk.new w _ _⟩
  have HN : Hid (w.heap.size ≠ g) := by show _ ≠ _; omega
  have HBL : Hid (b < w.heap.size) := h.lt
  clear h
  go_enter Try.func29, Try.ntmps29
  go_wp2_with fail
  refine (takeT_z 1024 _ H0.out.1 (by decide) (by decide)).mono ?_; rintro e w1 ⟨rfl, h1, t1⟩
  have H1 : Hid (RdZ w1 g b off cap 1 ∧ Turn (fun i => i = g) w w1 ∧ Blk w1 w.heap.size 27 #[.slice none 0 0, .slice none 0 0, .slice none 0 0, .slice none 0 0, .slice none 0 0, .int .i64 0, .int .i64 0]) := ⟨h1, H0.out.2.1.trans t1, H0.out.2.2.keep t1 HN.out⟩
  clear h1 t1
  go_wp2_with fail
  refine (takeS_z 512 _ H1.out.1 (by decide) (by decide)).mono ?_; rintro e w2 ⟨rfl, h2, t2⟩
  have H2 : Hid (RdZ w2 g b off cap 2 ∧ Turn (fun i => i = g) w w2 ∧ Blk w2 w.heap.size 27 #[.slice none 0 0, .slice none 0 0, .slice none 0 0, .slice none 0 0, .slice none 0 0, .int .i64 0, .int .i64 0]) := ⟨h2, H1.out.2.1.trans t2, H1.out.2.2.keep t2 HN.out⟩
  clear h2 t2
  go_wp2_with fail
  refine (takeX_z 256 _ H2.out.1 (by decide) (by decide)).mono ?_; rintro e w3 ⟨rfl, h3, t3⟩
  have H3 : Hid (RdZ w3 g b off cap 3 ∧ Turn (fun i => i = g) w w3 ∧ Blk w3 w.heap.size 27 #[.slice none 0 0, .slice none 0 0, .slice none 0 0, .slice none 0 0, .slice none 0 0, .int .i64 0, .int .i64 0]) := ⟨h3, H2.out.2.1.trans t3, H2.out.2.2.keep t3 HN.out⟩
  clear h3 t3
  go_wp2_with fail
  refine (takeX_z 256 _ H3.out.1 (by decide) (by decide)).mono ?_; rintro e w4 ⟨rfl, h4, t4⟩
  have H4 : Hid (RdZ w4 g b off cap 4 ∧ Turn (fun i => i = g) w w4 ∧ Blk w4 w.heap.size 27 #[.slice none 0 0, .slice none 0 0, .slice none 0 0, .slice none 0 0, .slice none 0 0, .int .i64 0, .int .i64 0]) := ⟨h4, H3.out.2.1.trans t4, H3.out.2.2.keep t4 HN.out⟩
  clear h4 t4
  go_wp2_with fail
  refine (takeF_z 1024 _ H4.out.1 (by decide) (by decide)).mono ?_; rintro e w5 ⟨rfl, h5, t5⟩
  have H5 : Hid (RdZ w5 g b off cap 5 ∧ Turn (fun i => i = g) w w5 ∧ Blk w5 w.heap.size 27 #[.slice none 0 0, .slice none 0 0, .slice none 0 0, .slice none 0 0, .slice none 0 0, .int .i64 0, .int .i64 0]) := ⟨h5, H4.out.2.1.trans t5, H4.out.2.2.keep t5 HN.out⟩
  clear h5 t5
  go_wp2_with fail
  refine (rnumber_z H5.out.1 (by decide)).mono ?_; rintro e w6 ⟨rfl, h6, t6⟩
  have H6 : Hid (RdZ w6 g b off cap 6 ∧ Turn (fun i => i = g) w w6 ∧ Blk w6 w.heap.size 27 #[.slice none 0 0, .slice none 0 0, .slice none 0 0, .slice none 0 0, .slice none 0 0, .int .i64 0, .int .i64 0]) := ⟨h6, H5.out.2.1.trans t6, H5.out.2.2.keep t6 HN.out⟩
  clear h6 t6
  go_wp2_with fail
  refine (rnumber_z H6.out.1 (by decide)).mono ?_; rintro e w7 ⟨rfl, h7, t7⟩
  have H7 : Hid (RdZ w7 g b off cap 7 ∧ Turn (fun i => i = g) w w7 ∧ Blk w7 w.heap.size 27 #[.slice none 0 0, .slice none 0 0, .slice none 0 0, .slice none 0 0, .slice none 0 0, .int .i64 0, .int .i64 0]) := ⟨h7, H6.out.2.1.trans t7, H6.out.2.2.keep t7 HN.out⟩
  clear h7 t7
  obtain ⟨hl, c0, c1, c2, c3, c4, c5, c6⟩ := nilBox H7.out.2.2
  have f0 := H7.out.2.2.frozen 0
  have f1 := H7.out.2.2.frozen 1
  have f2 := H7.out.2.2.frozen 2
  have f3 := H7.out.2.2.frozen 3
  have f4 := H7.out.2.2.frozen 4
  have f5 := H7.out.2.2.frozen 5
  have f6 := H7.out.2.2.frozen 6
  go_wp2_with fail
  have hb := sets7_blk H7.out.2.2 (.slice none 0 0) (.slice none 0 0) (.slice none 0 0) (.slice none 0 0) (.slice none 0 0) (.int .i64 0) (.int .i64 0)
  have ht := sets7_turn w7 w.heap.size (.slice none 0 0) (.slice none 0 0) (.slice none 0 0) (.slice none 0 0) (.slice none 0 0) (.int .i64 0) (.int .i64 0)
  refine bodyPost_ret (results_cell_row rfl _ _ w.heap.size 27 #[.slice none 0 0, .slice none 0 0, .slice none 0 0, .slice none 0 0, .slice none 0 0, .int .i64 0, .int .i64 0] (0, 0) _ rfl hb Try.underlying27 rfl (by kernel_rfl)) rfl ?_
  have hn := HN.out
  have hbl := HBL.out
  refine ⟨rfl, H7.out.1.turn ht (fun e => hn e.symm) (fun e => by omega), ?_⟩
  exact ⟨ht.os.trans H7.out.2.1.os, ht.tape.trans H7.out.2.1.tape, ht.output.trans H7.out.2.1.output, Nat.le_trans H7.out.2.1.size ht.size, fun k hk hs => (ht.block k (Nat.lt_of_lt_of_le hk H7.out.2.1.size) (fun e => by omega)).trans (H7.out.2.1.block k hk hs)⟩
end Go.Proofs.Ytjeehbcbflofpaa
