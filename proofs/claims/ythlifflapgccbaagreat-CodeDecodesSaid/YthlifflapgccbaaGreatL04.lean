/- Lemmas, put together: Code5 Code6 Code7 Code8. -/
import Derived.Test.YthlifflapgccbaaGreatL03
import Derived.Laws.BytesArg
/- The reader over seven zeros. -/
namespace Go.Proofs.YthlifflapgccbaaGreat
set_option linter.unusedVariables false
open Go.ChangeShapes Go.WideShapes Go.ChangeAt Go.RowKit
open M (W)
def M.zs : List Int := [0, 0, 0, 0, 0, 0, 0]
theorem getRes_z {k : Nat} (hk : k < 7) : getRes M.zs k = .tuple #[.int .i64 0, .int .i64 (k + 1 : Nat), .bool true] := by
  have : k = 0 ∨ k = 1 ∨ k = 2 ∨ k = 3 ∨ k = 4 ∨ k = 5 ∨ k = 6 := by omega
  rcases this with rfl | rfl | rfl | rfl | rfl | rfl | rfl
  all_goals (unfold getRes; simp [M.zs, M.got, M.zag, M.stop, M.fits, M.val])
structure RdZ (w : World) (g b off cap k : Nat) : Prop where
  blk : Blk w g 38 #[.slice (some ⟨b, off, none⟩) 7 cap, .int .i64 k, .int .i64 0, .bool false]
  ne : b ≠ g
  lt : b < w.heap.size
  cells : ∀ j, j < 7 → w.cell? ⟨b, off + j, none⟩ = some (.int .u8 (M.zs.getD j 0))
theorem RdZ.still {w w' : World} {g b off cap k : Nat} (h : RdZ w g b off cap k) (t : Still w w') : RdZ w' g b off cap k :=
  ⟨t.blk h.blk, h.ne, Nat.lt_of_lt_of_le h.lt t.size, fun j hj => (t.cell (p := ⟨b, off + j, none⟩) h.lt).trans (h.cells j hj)⟩
set_option maxRecDepth 100000 in
theorem rlong_z {w : World} {g b off cap k : Nat} (h : RdZ w g b off cap k) (hk : k < 7) :
    Calls Tryz.prog 62 #[.pointer (some ⟨g, 0, none⟩)] w fun e w' => e = .returned (.int .i64 0) ∧ RdZ w' g b off cap (k + 1) ∧ Turn (fun i => i = g) w w' := by
  have HG : Hid (∀ W, Still w W → Calls Tryz.prog 91 #[.slice (some ⟨b, off, none⟩) 7 cap, .int .i64 k] W fun e w' => e = .returned (.tuple #[.int .i64 0, .int .i64 (k + 1 : Nat), .bool true]) ∧ w' = W) := fun W hW => by
    have := get_in b off cap M.zs k W (by decide) hk (h.still hW).cells (by decide)
    rwa [getRes_z hk] at this
  have c0 := h.blk.cell 0
  have c1 := h.blk.cell 1
  have c2 := h.blk.cell 2
  have c3 := h.blk.cell 3
  simp only [List.getElem?_toArray, List.getElem?_cons_succ, List.getElem?_cons_zero] at c0 c1 c2 c3
  have f1 := h.blk.frozen 1
  have hl := h.blk.lt
  have H := Lib.hid h
  clear h
  go_enter Tryz.func62, Tryz.ntmps62
  go_wp2_with fail
  go_quiet ((go_at_call 91; exact Calls.quiet_of_same (HG.out _ ((Still.refl _).drewN _))))
  go_wp2_with fail
  go_ret
  refine ⟨rfl, ⟨?_, H.out.ne, by simpa using H.out.lt, fun j hj => ?_⟩, ((Turn.refl (fun i => i = g) w).drewN nq).setCell (p := ⟨g, 1, none⟩) (fun _ => rfl) _⟩
  · exact (H.out.blk.drewN nq).set 1 _
  · exact (Turn.cell (((Turn.refl (fun i => i = g) w).drewN nq).setCell (p := ⟨g, 1, none⟩) (fun _ => rfl) _) (p := ⟨b, off + j, none⟩) H.out.lt H.out.ne).trans (H.out.cells j hj)
theorem rnumber_z {w : World} {g b off cap k : Nat} (h : RdZ w g b off cap k) (hk : k < 7) :
    Calls Tryz.prog 38 #[.pointer (some ⟨g, 0, none⟩)] w fun e w' => e = .returned (.int .i64 0) ∧ RdZ w' g b off cap (k + 1) ∧ Turn (fun i => i = g) w w' := by
  have H := Lib.hid (rlong_z h hk)
  clear h
  go_enter Tryz.func38, Tryz.ntmps38
  go_wp2_with fail
  refine H.out.mono ?_; rintro e w1 ⟨rfl, h1, t1⟩
  go_wp2_with fail
  go_ret
  exact ⟨rfl, h1, t1⟩
set_option maxRecDepth 100000 in
theorem rlength_z (most : Nat) {w : World} {g b off cap k : Nat} (h : RdZ w g b off cap k) (hk : k < 7) (hm : most ≤ 1000000) :
    Calls Tryz.prog 57 #[.pointer (some ⟨g, 0, none⟩), .int .i64 most] w fun e w' => e = .returned (.int .i64 0) ∧ RdZ w' g b off cap (k + 1) ∧ Turn (fun i => i = g) w w' := by
  have H := Lib.hid (rnumber_z h hk)
  clear h
  have x1 : decide ((most : Int) < 0) = false := decide_eq_false (by omega)
  go_enter Tryz.func57, Tryz.ntmps57
  go_wp2_with fail
  refine H.out.mono ?_; rintro e w1 ⟨rfl, h1, t1⟩
  have c0 := h1.blk.cell 0
  have c1 := h1.blk.cell 1
  simp only [List.getElem?_toArray, List.getElem?_cons_succ, List.getElem?_cons_zero] at c0 c1
  have hl := h1.blk.lt
  have H1 := Lib.hid (And.intro h1 t1)
  clear h1 t1
  have x2 : decide ((7 : Int) - ((k + 1 : Nat) : Int) < 0) = false := decide_eq_false (by omega)
  go_wp2_with fail
  go_quiet (fail)
  go_wp2_with fail
  go_ret
  exact ⟨rfl, H1.out.1.still ((Still.refl w1).drewN nq), H1.out.2.drewN nq⟩
theorem takeT_z (most : Nat) (f : Value) {w : World} {g b off cap k : Nat} (h : RdZ w g b off cap k) (hk : k < 7) (hm : most ≤ 1000000) :
    Calls Tryz.prog 30 #[.pointer (some ⟨g, 0, none⟩), .int .i64 most, f] w fun e w' => e = .returned (.slice none 0 0) ∧ RdZ w' g b off cap (k + 1) ∧ Turn (fun i => i = g) w w' := by
  have H := Lib.hid (rlength_z most h hk hm)
  clear h
  go_enter Tryz.func30, Tryz.ntmps30
  go_wp2_with fail
  refine H.out.mono ?_; rintro e w1 ⟨rfl, h1, t1⟩
  go_wp2_with fail
  go_ret
  exact ⟨rfl, h1, t1⟩
theorem takeS_z (most : Nat) (f : Value) {w : World} {g b off cap k : Nat} (h : RdZ w g b off cap k) (hk : k < 7) (hm : most ≤ 1000000) :
    Calls Tryz.prog 32 #[.pointer (some ⟨g, 0, none⟩), .int .i64 most, f] w fun e w' => e = .returned (.slice none 0 0) ∧ RdZ w' g b off cap (k + 1) ∧ Turn (fun i => i = g) w w' := by
  have H := Lib.hid (rlength_z most h hk hm)
  clear h
  go_enter Tryz.func32, Tryz.ntmps32
  go_wp2_with fail
  refine H.out.mono ?_; rintro e w1 ⟨rfl, h1, t1⟩
  go_wp2_with fail
  go_ret
  exact ⟨rfl, h1, t1⟩
theorem takeX_z (most : Nat) (f : Value) {w : World} {g b off cap k : Nat} (h : RdZ w g b off cap k) (hk : k < 7) (hm : most ≤ 1000000) :
    Calls Tryz.prog 34 #[.pointer (some ⟨g, 0, none⟩), .int .i64 most, f] w fun e w' => e = .returned (.slice none 0 0) ∧ RdZ w' g b off cap (k + 1) ∧ Turn (fun i => i = g) w w' := by
  have H := Lib.hid (rlength_z most h hk hm)
  clear h
  go_enter Tryz.func34, Tryz.ntmps34
  go_wp2_with fail
  refine H.out.mono ?_; rintro e w1 ⟨rfl, h1, t1⟩
  go_wp2_with fail
  go_ret
  exact ⟨rfl, h1, t1⟩
theorem takeF_z (most : Nat) (f : Value) {w : World} {g b off cap k : Nat} (h : RdZ w g b off cap k) (hk : k < 7) (hm : most ≤ 1000000) :
    Calls Tryz.prog 36 #[.pointer (some ⟨g, 0, none⟩), .int .i64 most, f] w fun e w' => e = .returned (.slice none 0 0) ∧ RdZ w' g b off cap (k + 1) ∧ Turn (fun i => i = g) w w' := by
  have H := Lib.hid (rlength_z most h hk hm)
  clear h
  go_enter Tryz.func36, Tryz.ntmps36
  go_wp2_with fail
  refine H.out.mono ?_; rintro e w1 ⟨rfl, h1, t1⟩
  go_wp2_with fail
  go_ret
  exact ⟨rfl, h1, t1⟩
end Go.Proofs.YthlifflapgccbaaGreat
/- Decode of an empty image's bytes, and of no image's. -/
namespace Go.Proofs.YthlifflapgccbaaGreat
set_option linter.unusedVariables false
open Go.ChangeShapes Go.WideShapes Go.ChangeAt Go.RowKit
open M (W)
theorem sets7_blk {w : World} {i : Nat} {t : TypeId} {x0 x1 x2 x3 x4 x5 x6 : Value} (h : Blk w i t #[x0, x1, x2, x3, x4, x5, x6]) (v0 v1 v2 v3 v4 v5 v6 : Value) :
    Blk (((((((w.setCell ⟨i, 0, none⟩ v0).setCell ⟨i, 1, none⟩ v1).setCell ⟨i, 2, none⟩ v2).setCell ⟨i, 3, none⟩ v3).setCell ⟨i, 4, none⟩ v4).setCell ⟨i, 5, none⟩ v5).setCell ⟨i, 6, none⟩ v6) i t #[v0, v1, v2, v3, v4, v5, v6] := by
  have h0 : Blk (w.setCell ⟨i, 0, none⟩ v0) i t #[v0, x1, x2, x3, x4, x5, x6] := by have := h.set 0 v0; simpa using this
  have h1 : Blk ((w.setCell ⟨i, 0, none⟩ v0).setCell ⟨i, 1, none⟩ v1) i t #[v0, v1, x2, x3, x4, x5, x6] := by have := h0.set 1 v1; simpa using this
  have h2 : Blk (((w.setCell ⟨i, 0, none⟩ v0).setCell ⟨i, 1, none⟩ v1).setCell ⟨i, 2, none⟩ v2) i t #[v0, v1, v2, x3, x4, x5, x6] := by have := h1.set 2 v2; simpa using this
  have h3 : Blk ((((w.setCell ⟨i, 0, none⟩ v0).setCell ⟨i, 1, none⟩ v1).setCell ⟨i, 2, none⟩ v2).setCell ⟨i, 3, none⟩ v3) i t #[v0, v1, v2, v3, x4, x5, x6] := by have := h2.set 3 v3; simpa using this
  have h4 : Blk (((((w.setCell ⟨i, 0, none⟩ v0).setCell ⟨i, 1, none⟩ v1).setCell ⟨i, 2, none⟩ v2).setCell ⟨i, 3, none⟩ v3).setCell ⟨i, 4, none⟩ v4) i t #[v0, v1, v2, v3, v4, x5, x6] := by have := h3.set 4 v4; simpa using this
  have h5 : Blk ((((((w.setCell ⟨i, 0, none⟩ v0).setCell ⟨i, 1, none⟩ v1).setCell ⟨i, 2, none⟩ v2).setCell ⟨i, 3, none⟩ v3).setCell ⟨i, 4, none⟩ v4).setCell ⟨i, 5, none⟩ v5) i t #[v0, v1, v2, v3, v4, v5, x6] := by have := h4.set 5 v5; simpa using this
  have h6 : Blk (((((((w.setCell ⟨i, 0, none⟩ v0).setCell ⟨i, 1, none⟩ v1).setCell ⟨i, 2, none⟩ v2).setCell ⟨i, 3, none⟩ v3).setCell ⟨i, 4, none⟩ v4).setCell ⟨i, 5, none⟩ v5).setCell ⟨i, 6, none⟩ v6) i t #[v0, v1, v2, v3, v4, v5, v6] := by have := h5.set 6 v6; simpa using this
  exact h6
theorem sets7_turn (w : World) (i : Nat) (v0 v1 v2 v3 v4 v5 v6 : Value) : Turn (fun k => k = i) w (((((((w.setCell ⟨i, 0, none⟩ v0).setCell ⟨i, 1, none⟩ v1).setCell ⟨i, 2, none⟩ v2).setCell ⟨i, 3, none⟩ v3).setCell ⟨i, 4, none⟩ v4).setCell ⟨i, 5, none⟩ v5).setCell ⟨i, 6, none⟩ v6) := by
  refine Turn.setCell (S := fun k => k = i) ?_ (p := ⟨i, 6, none⟩) (fun _ => rfl) _
  refine Turn.setCell (S := fun k => k = i) ?_ (p := ⟨i, 5, none⟩) (fun _ => rfl) _
  refine Turn.setCell (S := fun k => k = i) ?_ (p := ⟨i, 4, none⟩) (fun _ => rfl) _
  refine Turn.setCell (S := fun k => k = i) ?_ (p := ⟨i, 3, none⟩) (fun _ => rfl) _
  refine Turn.setCell (S := fun k => k = i) ?_ (p := ⟨i, 2, none⟩) (fun _ => rfl) _
  refine Turn.setCell (S := fun k => k = i) ?_ (p := ⟨i, 1, none⟩) (fun _ => rfl) _
  exact Turn.setCell (S := fun k => k = i) (Turn.refl (fun k => k = i) w) (p := ⟨i, 0, none⟩) (fun _ => rfl) _
theorem RdZ.turn {w w' : World} {g b off cap k : Nat} {S : Nat → Prop} (h : RdZ w g b off cap k) (t : Turn S w w') (hg : ¬ S g) (hb : ¬ S b) : RdZ w' g b off cap k :=
  ⟨h.blk.keep t hg, h.ne, Nat.lt_of_lt_of_le h.lt t.size, fun j hj => (t.cell (p := ⟨b, off + j, none⟩) h.lt hb).trans (h.cells j hj)⟩
set_option maxRecDepth 100000 in
theorem rimage_z {w : World} {g b off cap : Nat} (h : RdZ w g b off cap 0) :
    Calls Tryz.prog 10 #[.pointer (some ⟨g, 0, none⟩)] w fun e w' => e = .returned (.agg #[.slice none 0 0, .slice none 0 0, .slice none 0 0, .slice none 0 0, .slice none 0 0, .int .i64 0, .int .i64 0]) ∧ RdZ w' g b off cap 7 ∧ Turn (fun i => i = g) w w' := by
  have hgl := h.blk.lt
  have H0 : Hid (RdZ (w.alloc (.cells #[.slice none 0 0, .slice none 0 0, .slice none 0 0, .slice none 0 0, .slice none 0 0, .int .i64 0, .int .i64 0] 28)) g b off cap 0 ∧ Turn (fun i => i = g) w (w.alloc (.cells #[.slice none 0 0, .slice none 0 0, .slice none 0 0, .slice none 0 0, .slice none 0 0, .int .i64 0, .int .i64 0] 28)) ∧ Blk (w.alloc (.cells #[.slice none 0 0, .slice none 0 0, .slice none 0 0, .slice none 0 0, .slice none 0 0, .int .i64 0, .int .i64 0] 28)) w.heap.size 28 #[.slice none 0 0, .slice none 0 0, .slice none 0 0, .slice none 0 0, .slice none 0 0, .int .i64 0, .int .i64 0]) := ⟨h.still ((Still.refl w).alloc _), (Turn.refl _ w).alloc _, Blk.new w _ _⟩
  have HN : Hid (w.heap.size ≠ g) := by show _ ≠ _; omega
  have HBL : Hid (b < w.heap.size) := h.lt
  clear h
  go_enter Tryz.func10, Tryz.ntmps10
  go_wp2_with fail
  refine (takeT_z 1024 _ H0.out.1 (by decide) (by decide)).mono ?_; rintro e w1 ⟨rfl, h1, t1⟩
  have H1 : Hid (RdZ w1 g b off cap 1 ∧ Turn (fun i => i = g) w w1 ∧ Blk w1 w.heap.size 28 #[.slice none 0 0, .slice none 0 0, .slice none 0 0, .slice none 0 0, .slice none 0 0, .int .i64 0, .int .i64 0]) := ⟨h1, H0.out.2.1.trans t1, H0.out.2.2.keep t1 HN.out⟩
  clear h1 t1
  go_wp2_with fail
  refine (takeS_z 512 _ H1.out.1 (by decide) (by decide)).mono ?_; rintro e w2 ⟨rfl, h2, t2⟩
  have H2 : Hid (RdZ w2 g b off cap 2 ∧ Turn (fun i => i = g) w w2 ∧ Blk w2 w.heap.size 28 #[.slice none 0 0, .slice none 0 0, .slice none 0 0, .slice none 0 0, .slice none 0 0, .int .i64 0, .int .i64 0]) := ⟨h2, H1.out.2.1.trans t2, H1.out.2.2.keep t2 HN.out⟩
  clear h2 t2
  go_wp2_with fail
  refine (takeX_z 256 _ H2.out.1 (by decide) (by decide)).mono ?_; rintro e w3 ⟨rfl, h3, t3⟩
  have H3 : Hid (RdZ w3 g b off cap 3 ∧ Turn (fun i => i = g) w w3 ∧ Blk w3 w.heap.size 28 #[.slice none 0 0, .slice none 0 0, .slice none 0 0, .slice none 0 0, .slice none 0 0, .int .i64 0, .int .i64 0]) := ⟨h3, H2.out.2.1.trans t3, H2.out.2.2.keep t3 HN.out⟩
  clear h3 t3
  go_wp2_with fail
  refine (takeX_z 256 _ H3.out.1 (by decide) (by decide)).mono ?_; rintro e w4 ⟨rfl, h4, t4⟩
  have H4 : Hid (RdZ w4 g b off cap 4 ∧ Turn (fun i => i = g) w w4 ∧ Blk w4 w.heap.size 28 #[.slice none 0 0, .slice none 0 0, .slice none 0 0, .slice none 0 0, .slice none 0 0, .int .i64 0, .int .i64 0]) := ⟨h4, H3.out.2.1.trans t4, H3.out.2.2.keep t4 HN.out⟩
  clear h4 t4
  go_wp2_with fail
  refine (takeF_z 1024 _ H4.out.1 (by decide) (by decide)).mono ?_; rintro e w5 ⟨rfl, h5, t5⟩
  have H5 : Hid (RdZ w5 g b off cap 5 ∧ Turn (fun i => i = g) w w5 ∧ Blk w5 w.heap.size 28 #[.slice none 0 0, .slice none 0 0, .slice none 0 0, .slice none 0 0, .slice none 0 0, .int .i64 0, .int .i64 0]) := ⟨h5, H4.out.2.1.trans t5, H4.out.2.2.keep t5 HN.out⟩
  clear h5 t5
  go_wp2_with fail
  refine (rnumber_z H5.out.1 (by decide)).mono ?_; rintro e w6 ⟨rfl, h6, t6⟩
  have H6 : Hid (RdZ w6 g b off cap 6 ∧ Turn (fun i => i = g) w w6 ∧ Blk w6 w.heap.size 28 #[.slice none 0 0, .slice none 0 0, .slice none 0 0, .slice none 0 0, .slice none 0 0, .int .i64 0, .int .i64 0]) := ⟨h6, H5.out.2.1.trans t6, H5.out.2.2.keep t6 HN.out⟩
  clear h6 t6
  go_wp2_with fail
  refine (rnumber_z H6.out.1 (by decide)).mono ?_; rintro e w7 ⟨rfl, h7, t7⟩
  have H7 : Hid (RdZ w7 g b off cap 7 ∧ Turn (fun i => i = g) w w7 ∧ Blk w7 w.heap.size 28 #[.slice none 0 0, .slice none 0 0, .slice none 0 0, .slice none 0 0, .slice none 0 0, .int .i64 0, .int .i64 0]) := ⟨h7, H6.out.2.1.trans t7, H6.out.2.2.keep t7 HN.out⟩
  clear h7 t7
  obtain ⟨hl, c0, c1, c2, c3, c4, c5, c6⟩ := nilBox H7.out.2.2
  have f0 := H7.out.2.2.frozen 0
  have f1 := H7.out.2.2.frozen 1
  have f2 := H7.out.2.2.frozen 2
  have f3 := H7.out.2.2.frozen 3
  have f4 := H7.out.2.2.frozen 4
  have f5 := H7.out.2.2.frozen 5
  have f6 := H7.out.2.2.frozen 6
  go_wp2_with fail
  have hb := sets7_blk H7.out.2.2 (.slice none 0 0) (.slice none 0 0) (.slice none 0 0) (.slice none 0 0) (.slice none 0 0) (.int .i64 0) (.int .i64 0)
  have ht := sets7_turn w7 w.heap.size (.slice none 0 0) (.slice none 0 0) (.slice none 0 0) (.slice none 0 0) (.slice none 0 0) (.int .i64 0) (.int .i64 0)
  refine bodyPost_ret (results_cell_row rfl _ _ w.heap.size 28 #[.slice none 0 0, .slice none 0 0, .slice none 0 0, .slice none 0 0, .slice none 0 0, .int .i64 0, .int .i64 0] (0, 0) _ rfl hb Tryz.underlying28 rfl (by kernel_rfl)) rfl ?_
  have hn := HN.out
  have hbl := HBL.out
  refine ⟨rfl, H7.out.1.turn ht (fun e => hn e.symm) (fun e => by omega), ?_⟩
  exact ⟨ht.os.trans H7.out.2.1.os, ht.tape.trans H7.out.2.1.tape, ht.output.trans H7.out.2.1.output, Nat.le_trans H7.out.2.1.size ht.size, fun k hk hs => (ht.block k (Nat.lt_of_lt_of_le hk H7.out.2.1.size) (fun e => by omega)).trans (H7.out.2.1.block k hk hs)⟩
end Go.Proofs.YthlifflapgccbaaGreat
/- Decode of an empty image's bytes, and of no image's. -/
namespace Go.Proofs.YthlifflapgccbaaGreat
set_option linter.unusedVariables false
open Go.ChangeShapes Go.WideShapes Go.ChangeAt Go.RowKit
open M (W)
theorem conv4 {w : World} {r off : Nat} (c : Nat) (hc : ∀ j, j < 4 → w.cell? ⟨r, off + j, none⟩ = some (.int .u8 ([66, 69, 76, 49].getD j 0))) :
    (convert 22 9 (.slice (some ⟨r, off, none⟩) 4 c)).run Tryz.prog w = .ok (.string (strOfNums [66, 69, 76, 49])) w :=
  run_convert_bytes_arg w 22 5 Tryz.underlying22 Tryz.underlying5 r off 4 c [66, 69, 76, 49] rfl hc 9 Tryz.underlying9
theorem equal_bel {w : World} {r s : Nat} (c c' : Nat) (h1 : ∀ j, j < 4 → w.cell? ⟨r, 0 + j, none⟩ = some (.int .u8 ([66, 69, 76, 49].getD j 0))) (h2 : ∀ j, j < 4 → w.cell? ⟨s, 0 + j, none⟩ = some (.int .u8 ([66, 69, 76, 49].getD j 0))) :
    Calls Tryz.prog 56 #[.slice (some ⟨r, 0, none⟩) 4 c, .slice (some ⟨s, 0, none⟩) 4 c'] w fun e w' => e = .returned (.bool true) ∧ w' = w := by
  have e1 := conv4 c h1
  have e2 := conv4 c' h2
  have hss : ((strOfNums [66, 69, 76, 49]).toList == (strOfNums [66, 69, 76, 49]).toList) = true := by simp
  generalize strOfNums [66, 69, 76, 49] = X at *
  clear h1 h2
  go_enter Tryz.func56, Tryz.ntmps56
  go_wp2_with fail
  go_ret
  exact ⟨by simp, rfl⟩
theorem hasPrefix_bel {w : World} {r s : Nat} (c c' : Nat) (hc : 11 ≤ c) (hcm : c ≤ maxLen) (h1 : ∀ j, j < 4 → w.cell? ⟨r, 0 + j, none⟩ = some (.int .u8 ([66, 69, 76, 49].getD j 0))) (h2 : ∀ j, j < 4 → w.cell? ⟨s, 0 + j, none⟩ = some (.int .u8 ([66, 69, 76, 49].getD j 0))) :
    Calls Tryz.prog 29 #[.slice (some ⟨r, 0, none⟩) 11 c, .slice (some ⟨s, 0, none⟩) 4 c'] w fun e w' => e = .returned (.bool true) ∧ w' = w := by
  have H := Lib.hid (equal_bel c c' h1 h2)
  clear h1 h2
  unfold maxLen at hcm
  go_enter Tryz.func29, Tryz.ntmps29
  go_wp2_with (go_at_call 56; (with_reducible refine H.out.mono ?_); rintro e w1 ⟨rfl, rfl⟩)
  go_ret
  exact ⟨rfl, rfl⟩
theorem hasPrefix_short (w : World) (a : Option Addr) (c : Nat) (s : Option Addr) (c' : Nat) :
    Calls Tryz.prog 29 #[.slice a 3 c, .slice s 4 c'] w fun e w' => e = .returned (.bool false) ∧ w' = w := by
  go_enter Tryz.func29, Tryz.ntmps29
  go_wp2_with fail
  go_ret
  exact ⟨rfl, rfl⟩
theorem cut_bel {w : World} {r s : Nat} (c c' : Nat) (hc : 11 ≤ c) (hcm : c ≤ maxLen) (h1 : ∀ j, j < 4 → w.cell? ⟨r, 0 + j, none⟩ = some (.int .u8 ([66, 69, 76, 49].getD j 0))) (h2 : ∀ j, j < 4 → w.cell? ⟨s, 0 + j, none⟩ = some (.int .u8 ([66, 69, 76, 49].getD j 0))) :
    Calls Tryz.prog 9 #[.slice (some ⟨r, 0, none⟩) 11 c, .slice (some ⟨s, 0, none⟩) 4 c'] w fun e w' => e = .returned (.tuple #[.slice (some ⟨r, 4, none⟩) 7 (c - 4), .bool true]) ∧ w' = w := by
  have H := Lib.hid (hasPrefix_bel c c' hc hcm h1 h2)
  clear h1 h2
  unfold maxLen at hcm
  go_enter Tryz.func9, Tryz.ntmps9
  go_wp2_with fail
  refine H.out.mono ?_; rintro e w1 ⟨rfl, rfl⟩
  go_wp2_with fail
  go_ret2
  exact ⟨rfl, rfl⟩
theorem cut_short (w : World) (a : Option Addr) (c : Nat) (s : Option Addr) (c' : Nat) :
    Calls Tryz.prog 9 #[.slice a 3 c, .slice s 4 c'] w fun e w' => e = .returned (.tuple #[.slice a 3 c, .bool false]) ∧ w' = w := by
  go_enter Tryz.func9, Tryz.ntmps9
  go_wp2_with fail
  refine (hasPrefix_short w a c s c').mono ?_; rintro e w1 ⟨rfl, rfl⟩
  go_wp2_with fail
  go_ret2
  exact ⟨rfl, rfl⟩
theorem Still.later {S : Nat → Prop} {w w1 w2 : World} (h : Still w w1) (t : Turn S w1 w2) (hs : ∀ k, S k → w.heap.size ≤ k) : Still w w2 :=
  ⟨t.os.trans h.os, t.tape.trans h.tape, t.output.trans h.output, Nat.le_trans h.size t.size, fun k hk _ => (t.block k (Nat.lt_of_lt_of_le hk h.size) (fun e => by have := hs k e; omega)).trans (h.block k hk (fun e => e))⟩
theorem results_row_tmp {P : Program} {fn : Func} {p u : Tmp} {ty : TypeId} (h : fn.results = #[.cell p ty, .tmp u]) (tmps : Array Value) (w : World) (g : Nat) (t : TypeId) (cs : Array Value) (fr : Nat × Nat) (d : TypeDesc)
    (hp : tmps.getD p undef = .pointer (some ⟨g, 0, none⟩)) (hg : w.heap[g]? = some (.cells cs t fr))
    (hu : P.underlying ty = some d) (hd : (match d with | .struct _ | .array _ _ => true | _ => false) = true) (hi : (P.info? ty).map (·.size) = some cs.size) :
    (results fn tmps).run P w = .ok (.tuple #[.agg cs, tmps.getD u undef]) w := by
  rw [results_cell_tmp h, hp]
  simp [asAddr, run_loadVar_row w g t ty cs fr d hg hu hd hi]
set_option maxRecDepth 100000 in
theorem decode_short (w : World) (a : Option Addr) (c : Nat) :
    Calls Tryz.prog 4 #[.slice a 3 c] w fun e w' => e = .returned (.tuple #[.agg #[.slice none 0 0, .slice none 0 0, .slice none 0 0, .slice none 0 0, .slice none 0 0, .int .i64 0, .int .i64 0], .int .i64 20]) ∧ Still w w' := by
  have hcv := Go.Joins.run_convert_bytes_const_at (P := Tryz.prog) (w.alloc (.cells #[.slice none 0 0, .slice none 0 0, .slice none 0 0, .slice none 0 0, .slice none 0 0, .int .i64 0, .int .i64 0] 28)) 22 5 #[.int .u8 66, .int .u8 69, .int .u8 76, .int .u8 49] 4 4 (w.heap.size + 1) (by simp) Tryz.underlying22 Tryz.underlying5
  go_enter Tryz.func4, Tryz.ntmps4
  go_wp2_with fail
  refine (cut_short _ a c _ 4).mono ?_; rintro e w2 ⟨rfl, rfl⟩
  go_wp2_with fail
  have hb0 : Blk ((w.alloc (.cells #[.slice none 0 0, .slice none 0 0, .slice none 0 0, .slice none 0 0, .slice none 0 0, .int .i64 0, .int .i64 0] 28)).alloc (.cells #[.int .u8 66, .int .u8 69, .int .u8 76, .int .u8 49] 5 (4, 5))) w.heap.size 28 #[.slice none 0 0, .slice none 0 0, .slice none 0 0, .slice none 0 0, .slice none 0 0, .int .i64 0, .int .i64 0] := (Blk.new w _ _).alloc _
  refine bodyPost_ret (results_row_tmp rfl _ _ w.heap.size 28 #[.slice none 0 0, .slice none 0 0, .slice none 0 0, .slice none 0 0, .slice none 0 0, .int .i64 0, .int .i64 0] (0, 0) _ rfl hb0 Tryz.underlying28 rfl (by kernel_rfl)) rfl ?_
  refine ⟨rfl, ?_⟩
  have h0 : Still w ((w.alloc (.cells #[.slice none 0 0, .slice none 0 0, .slice none 0 0, .slice none 0 0, .slice none 0 0, .int .i64 0, .int .i64 0] 28)).alloc (.cells #[.int .u8 66, .int .u8 69, .int .u8 76, .int .u8 49] 5 (4, 5))) := ((Still.refl w).alloc _).alloc _
  exact h0
end Go.Proofs.YthlifflapgccbaaGreat
/- Decode of an empty image's bytes. -/
namespace Go.Proofs.YthlifflapgccbaaGreat
set_option linter.unusedVariables false
open Go.ChangeShapes Go.WideShapes Go.ChangeAt Go.RowKit
open M (W)
set_option maxRecDepth 100000 in
theorem decode_bel {w : World} {B : Nat} {a : Option Addr} {c : Nat} (h : w.ownsRow B 5 1 (.slice a 11 c) 11 (M.bel.map (Value.int .u8))) :
    Calls Tryz.prog 4 #[.slice a 11 c] w fun e w' => e = .returned (.tuple #[.agg #[.slice none 0 0, .slice none 0 0, .slice none 0 0, .slice none 0 0, .slice none 0 0, .int .i64 0, .int .i64 0], .int .i64 0]) ∧ Still w w' := by
  obtain ⟨r, rfl, hr, hnc, hcm, hcell, _⟩ := own_form h (by decide)
  have hcv := Go.Joins.run_convert_bytes_const_at (P := Tryz.prog) (w.alloc (.cells #[.slice none 0 0, .slice none 0 0, .slice none 0 0, .slice none 0 0, .slice none 0 0, .int .i64 0, .int .i64 0] 28)) 22 5 #[.int .u8 66, .int .u8 69, .int .u8 76, .int .u8 49] 4 4 (w.heap.size + 1) (by simp) Tryz.underlying22 Tryz.underlying5
  have S1 : Hid (Still w ((w.alloc (.cells #[.slice none 0 0, .slice none 0 0, .slice none 0 0, .slice none 0 0, .slice none 0 0, .int .i64 0, .int .i64 0] 28)).alloc (.cells #[.int .u8 66, .int .u8 69, .int .u8 76, .int .u8 49] 5 (4, 5)))) := ((Still.refl w).alloc _).alloc _
  have hb0 : Hid (Blk ((w.alloc (.cells #[.slice none 0 0, .slice none 0 0, .slice none 0 0, .slice none 0 0, .slice none 0 0, .int .i64 0, .int .i64 0] 28)).alloc (.cells #[.int .u8 66, .int .u8 69, .int .u8 76, .int .u8 49] 5 (4, 5))) w.heap.size 28 #[.slice none 0 0, .slice none 0 0, .slice none 0 0, .slice none 0 0, .slice none 0 0, .int .i64 0, .int .i64 0]) := (Blk.new w _ _).alloc _
  have HCUT := Lib.hid (cut_bel (w := (w.alloc (.cells #[.slice none 0 0, .slice none 0 0, .slice none 0 0, .slice none 0 0, .slice none 0 0, .int .i64 0, .int .i64 0] 28)).alloc (.cells #[.int .u8 66, .int .u8 69, .int .u8 76, .int .u8 49] 5 (4, 5))) (r := r) (s := w.heap.size + 1) c 4 hnc hcm (fun j hj => by
      rw [S1.out.cell (p := ⟨r, 0 + j, none⟩) hr]
      have h4 : j = 0 ∨ j = 1 ∨ j = 2 ∨ j = 3 := by omega
      rcases h4 with rfl | rfl | rfl | rfl <;> exact hcell _ _ rfl) (fun j hj => by
      rw [Go.Joins.cell_alloc_mark_at (w.alloc (.cells #[.slice none 0 0, .slice none 0 0, .slice none 0 0, .slice none 0 0, .slice none 0 0, .int .i64 0, .int .i64 0] 28)) _ _ _ _ _ (by simp)]
      have h4 : j = 0 ∨ j = 1 ∨ j = 2 ∨ j = 3 := by omega
      rcases h4 with rfl | rfl | rfl | rfl <;> rfl))
  have HRD : Hid (RdZ (((w.alloc (.cells #[.slice none 0 0, .slice none 0 0, .slice none 0 0, .slice none 0 0, .slice none 0 0, .int .i64 0, .int .i64 0] 28)).alloc (.cells #[.int .u8 66, .int .u8 69, .int .u8 76, .int .u8 49] 5 (4, 5))).alloc (.cells #[.slice (some ⟨r, 4, none⟩) 7 (c - 4), .int .i64 0, .int .i64 0, .bool false] 38)) (w.heap.size + 1 + 1) r 4 (c - 4) 0) := ⟨by
      have := Blk.new ((w.alloc (.cells #[.slice none 0 0, .slice none 0 0, .slice none 0 0, .slice none 0 0, .slice none 0 0, .int .i64 0, .int .i64 0] 28)).alloc (.cells #[.int .u8 66, .int .u8 69, .int .u8 76, .int .u8 49] 5 (4, 5))) 38 #[.slice (some ⟨r, 4, none⟩) 7 (c - 4), .int .i64 0, .int .i64 0, .bool false]
      rwa [show ((w.alloc (.cells #[.slice none 0 0, .slice none 0 0, .slice none 0 0, .slice none 0 0, .slice none 0 0, .int .i64 0, .int .i64 0] 28)).alloc (.cells #[.int .u8 66, .int .u8 69, .int .u8 76, .int .u8 49] 5 (4, 5))).heap.size = w.heap.size + 1 + 1 by simp] at this, by omega, by simp; omega, fun j hj => by
      rw [((S1.out.alloc _ : Still w (((w.alloc (.cells #[.slice none 0 0, .slice none 0 0, .slice none 0 0, .slice none 0 0, .slice none 0 0, .int .i64 0, .int .i64 0] 28)).alloc (.cells #[.int .u8 66, .int .u8 69, .int .u8 76, .int .u8 49] 5 (4, 5))).alloc (.cells #[.slice (some ⟨r, 4, none⟩) 7 (c - 4), .int .i64 0, .int .i64 0, .bool false] 38)))).cell (p := ⟨r, 4 + j, none⟩) hr]
      have h7 : j = 0 ∨ j = 1 ∨ j = 2 ∨ j = 3 ∨ j = 4 ∨ j = 5 ∨ j = 6 := by omega
      rcases h7 with rfl | rfl | rfl | rfl | rfl | rfl | rfl <;> exact hcell _ _ rfl⟩
  have S3 : Hid (Still w (((w.alloc (.cells #[.slice none 0 0, .slice none 0 0, .slice none 0 0, .slice none 0 0, .slice none 0 0, .int .i64 0, .int .i64 0] 28)).alloc (.cells #[.int .u8 66, .int .u8 69, .int .u8 76, .int .u8 49] 5 (4, 5))).alloc (.cells #[.slice (some ⟨r, 4, none⟩) 7 (c - 4), .int .i64 0, .int .i64 0, .bool false] 38))) := S1.out.alloc _
  have B3 : Hid (Blk (((w.alloc (.cells #[.slice none 0 0, .slice none 0 0, .slice none 0 0, .slice none 0 0, .slice none 0 0, .int .i64 0, .int .i64 0] 28)).alloc (.cells #[.int .u8 66, .int .u8 69, .int .u8 76, .int .u8 49] 5 (4, 5))).alloc (.cells #[.slice (some ⟨r, 4, none⟩) 7 (c - 4), .int .i64 0, .int .i64 0, .bool false] 38)) w.heap.size 28 #[.slice none 0 0, .slice none 0 0, .slice none 0 0, .slice none 0 0, .slice none 0 0, .int .i64 0, .int .i64 0]) := hb0.out.alloc _
  have HC := Lib.hid hcell
  have HR := Lib.hid hr
  clear h hcell hb0
  go_enter Tryz.func4, Tryz.ntmps4
  go_wp2_with fail
  refine HCUT.out.mono ?_; rintro e w2 ⟨rfl, rfl⟩
  go_wp2_with fail
  refine (rimage_z HRD.out).mono ?_; rintro e w4 ⟨rfl, h4, t4⟩
  have hn : w.heap.size ≠ w.heap.size + 1 + 1 := by omega
  have B4 := Lib.hid (B3.out.keep t4 hn)
  have S4 : Hid (Still w w4) := S3.out.later t4 (fun k hk => by omega)
  have r1 := h4.blk.cell 1
  have r3 := h4.blk.cell 3
  simp only [List.getElem?_toArray, List.getElem?_cons_succ, List.getElem?_cons_zero] at r1 r3
  have rl := h4.blk.lt
  clear h4 t4
  go_wp2_with fail
  refine (check_nil 0 0 _).mono ?_; rintro e w5 ⟨rfl, t5⟩
  have bm := t5.blk (Blk.new w4 28 #[.slice none 0 0, .slice none 0 0, .slice none 0 0, .slice none 0 0, .slice none 0 0, .int .i64 0, .int .i64 0])
  have br := t5.blk (B4.out.alloc (.cells #[.slice none 0 0, .slice none 0 0, .slice none 0 0, .slice none 0 0, .slice none 0 0, .int .i64 0, .int .i64 0] 28))
  have S5 : Hid (Still w w5) := Still.trans (S4.out.alloc _) t5
  obtain ⟨ml, m0, m1, m2, m3, m4, m5, m6⟩ := nilBox bm
  obtain ⟨hl, c0, c1, c2, c3, c4, c5, c6⟩ := nilBox br
  have f0 := br.frozen 0
  have f1 := br.frozen 1
  have f2 := br.frozen 2
  have f3 := br.frozen 3
  have f4 := br.frozen 4
  have f5 := br.frozen 5
  have f6 := br.frozen 6
  have BR := Lib.hid br
  clear bm br t5
  go_wp2_with fail
  have hb := sets7_blk BR.out (.slice none 0 0) (.slice none 0 0) (.slice none 0 0) (.slice none 0 0) (.slice none 0 0) (.int .i64 0) (.int .i64 0)
  have ht := sets7_turn w5 w.heap.size (.slice none 0 0) (.slice none 0 0) (.slice none 0 0) (.slice none 0 0) (.slice none 0 0) (.int .i64 0) (.int .i64 0)
  refine bodyPost_ret (results_row_tmp rfl _ _ w.heap.size 28 #[.slice none 0 0, .slice none 0 0, .slice none 0 0, .slice none 0 0, .slice none 0 0, .int .i64 0, .int .i64 0] (0, 0) _ rfl hb Tryz.underlying28 rfl (by kernel_rfl)) rfl ?_
  exact ⟨rfl, S5.out.later ht (fun k hk => by omega)⟩
end Go.Proofs.YthlifflapgccbaaGreat
