/- Decode of an empty image's bytes. -/
import Derived.Test.YtjeehbcbflofpaaCode7
namespace Go.Proofs.Ytjeehbcbflofpaa
set_option linter.unusedVariables false
open Go.ChangeShapes Go.WideShapes Go.ChangeAt Go.RowKit
open M (W)
set_option maxRecDepth 100000 in
theorem decode_bel {w : World} {B : Nat} {a : Option Addr} {c : Nat} (h : w.ownsRow B 5 1 (.slice a 11 c) 11 (M.bel.map (Value.int .u8))) :
    Calls Try.prog 14 #[.slice a 11 c] w fun e w' => e = .returned (.tuple #[.agg #[.slice none 0 0, .slice none 0 0, .slice none 0 0, .slice none 0 0, .slice none 0 0, .int .i64 0, .int .i64 0], .int .i64 0]) ∧ Still w w' := by
  obtain ⟨r, rfl, hr, hnc, hcm, hcell, _⟩ := own_form h (by decide)
  have hcv := Go.Joins.run_convert_bytes_const_at (P := Try.prog) (w.alloc (.cells #[.slice none 0 0, .slice none 0 0, .slice none 0 0, .slice none 0 0, .slice none 0 0, .int .i64 0, .int .i64 0] 27)) 30 5 #[.int .u8 66, .int .u8 69, .int .u8 76, .int .u8 49] 4 4 (w.heap.size + 1) (by simp) Try.underlying30 Try.underlying5
  have S1 : Hid (Still w ((w.alloc (.cells #[.slice none 0 0, .slice none 0 0, .slice none 0 0, .slice none 0 0, .slice none 0 0, .int .i64 0, .int .i64 0] 27)).alloc (.cells #[.int .u8 66, .int .u8 69, .int .u8 76, .int .u8 49] 5 (4, 5)))) := ((Still.refl w).alloc _).alloc _
  have hb0 : Hid (Blk ((w.alloc (.cells #[.slice none 0 0, .slice none 0 0, .slice none 0 0, .slice none 0 0, .slice none 0 0, .int .i64 0, .int .i64 0] 27)).alloc (.cells #[.int .u8 66, .int .u8 69, .int .u8 76, .int .u8 49] 5 (4, 5))) w.heap.size 27 #[.slice none 0 0, .slice none 0 0, .slice none 0 0, .slice none 0 0, .slice none 0 0, .int .i64 0, .int .i64 0]) := (Blk.new w _ _).alloc _
  have HCUT := Lib.hid (cut_bel (w := (w.alloc (.cells #[.slice none 0 0, .slice none 0 0, .slice none 0 0, .slice none 0 0, .slice none 0 0, .int .i64 0, .int .i64 0] 27)).alloc (.cells #[.int .u8 66, .int .u8 69, .int .u8 76, .int .u8 49] 5 (4, 5))) (r := r) (s := w.heap.size + 1) c 4 hnc hcm (fun j hj => by
      rw [S1.out.cell (p := ⟨r, 0 + j, none⟩) hr]
      have h4 : j = 0 ∨ j = 1 ∨ j = 2 ∨ j = 3 := by omega
      rcases h4 with rfl | rfl | rfl | rfl <;> exact hcell _ _ rfl) (fun j hj => by
      rw [Go.Joins.cell_alloc_mark_at (w.alloc (.cells #[.slice none 0 0, .slice none 0 0, .slice none 0 0, .slice none 0 0, .slice none 0 0, .int .i64 0, .int .i64 0] 27)) _ _ _ _ _ (by simp)]
      have h4 : j = 0 ∨ j = 1 ∨ j = 2 ∨ j = 3 := by omega
      rcases h4 with rfl | rfl | rfl | rfl <;> rfl))
  have HRD : Hid (RdZ (((w.alloc (.cells #[.slice none 0 0, .slice none 0 0, .slice none 0 0, .slice none 0 0, .slice none 0 0, .int .i64 0, .int .i64 0] 27)).alloc (.cells #[.int .u8 66, .int .u8 69, .int .u8 76, .int .u8 49] 5 (4, 5))).alloc (.cells #[.slice (some ⟨r, 4, none⟩) 7 (c - 4), .int .i64 0, .int .i64 0, .bool false] 69)) (w.heap.size + 1 + 1) r 4 (c - 4) 0) := ⟨by
      have := Blk.new ((w.alloc (.cells #[.slice none 0 0, .slice none 0 0, .slice none 0 0, .slice none 0 0, .slice none 0 0, .int .i64 0, .int .i64 0] 27)).alloc (.cells #[.int .u8 66, .int .u8 69, .int .u8 76, .int .u8 49] 5 (4, 5))) 69 #[.slice (some ⟨r, 4, none⟩) 7 (c - 4), .int .i64 0, .int .i64 0, .bool false]
      rwa [show ((w.alloc (.cells #[.slice none 0 0, .slice none 0 0, .slice none 0 0, .slice none 0 0, .slice none 0 0, .int .i64 0, .int .i64 0] 27)).alloc (.cells #[.int .u8 66, .int .u8 69, .int .u8 76, .int .u8 49] 5 (4, 5))).heap.size = w.heap.size + 1 + 1 by simp] at this, by omega, by simp; omega, fun j hj => by
      rw [((S1.out.alloc _ : Still w (((w.alloc (.cells #[.slice none 0 0, .slice none 0 0, .slice none 0 0, .slice none 0 0, .slice none 0 0, .int .i64 0, .int .i64 0] 27)).alloc (.cells #[.int .u8 66, .int .u8 69, .int .u8 76, .int .u8 49] 5 (4, 5))).alloc (.cells #[.slice (some ⟨r, 4, none⟩) 7 (c - 4), .int .i64 0, .int .i64 0, .bool false] 69)))).cell (p := ⟨r, 4 + j, none⟩) hr]
      have h7 : j = 0 ∨ j = 1 ∨ j = 2 ∨ j = 3 ∨ j = 4 ∨ j = 5 ∨ j = 6 := by omega
      rcases h7 with rfl | rfl | rfl | rfl | rfl | rfl | rfl <;> exact hcell _ _ rfl⟩
  have S3 : Hid (Still w (((w.alloc (.cells #[.slice none 0 0, .slice none 0 0, .slice none 0 0, .slice none 0 0, .slice none 0 0, .int .i64 0, .int .i64 0] 27)).alloc (.cells #[.int .u8 66, .int .u8 69, .int .u8 76, .int .u8 49] 5 (4, 5))).alloc (.cells #[.slice (some ⟨r, 4, none⟩) 7 (c - 4), .int .i64 0, .int .i64 0, .bool false] 69))) := S1.out.alloc _
  have B3 : Hid (Blk (((w.alloc (.cells #[.slice none 0 0, .slice none 0 0, .slice none 0 0, .slice none 0 0, .slice none 0 0, .int .i64 0, .int .i64 0] 27)).alloc (.cells #[.int .u8 66, .int .u8 69, .int .u8 76, .int .u8 49] 5 (4, 5))).alloc (.cells #[.slice (some ⟨r, 4, none⟩) 7 (c - 4), .int .i64 0, .int .i64 0, .bool false] 69)) w.heap.size 27 #[.slice none 0 0, .slice none 0 0, .slice none 0 0, .slice none 0 0, .slice none 0 0, .int .i64 0, .int .i64 0]) := hb0.out.alloc _
  have HC := Lib.hid hcell
  have HR := Lib.hid hr
  clear h hcell hb0
  go_enter Try.func14, Try.ntmps14
  go_wp2_with fail
  refine HCUT.out.mono ?_; rintro e w2 ⟨rfl, rfl⟩
  go_wp2_with fail
  refine (rimage_z HRD.out).mono ?_; rintro e w4 ⟨rfl, h4, t4⟩
  have hn : w.heap.size ≠ w.heap.size + 1 + 1 := by omega
  have B4 := Lib.hid (B3.out.keep t4 hn)
  have S4 : Hid (Still w w4) := S3.out.later t4 (fun k hk => by omega)
  have r1 := h4.blk.cell 1
  have r3 := h4.blk.cell 3
  simp only [List.getElem?_toArray, List.getElem?_cons_succ, List.getElem?_cons_zero] at r1 r3
  have rl := h4.blk.lt
  clear h4 t4
  go_wp2_with fail
  refine (check_nil 0 0 _).mono ?_; rintro e w5 ⟨rfl, t5⟩
  have bm := t5.blk (Blk.new w4 27 #[.slice none 0 0, .slice none 0 0, .slice none 0 0, .slice none 0 0, .slice none 0 0, .int .i64 0, .int .i64 0])
  have br := t5.blk (B4.out.alloc (.cells #[.slice none 0 0, .slice none 0 0, .slice none 0 0, .slice none 0 0, .slice none 0 0, .int .i64 0, .int .i64 0] 27))
  have S5 : Hid (Still w w5) := Still.trans (S4.out.alloc _) t5
  obtain ⟨ml, m0, m1, m2, m3, m4, m5, m6⟩ := nilBox bm
  obtain ⟨hl, c0, c1, c2, c3, c4, c5, c6⟩ := nilBox br
  have f0 := br.frozen 0
  have f1 := br.frozen 1
  have f2 := br.frozen 2
  have f3 := br.frozen 3
  have f4 := br.frozen 4
  have f5 := br.frozen 5
  have f6 := br.frozen 6
  have BR := Lib.hid br
  clear bm br t5
  go_wp2_with fail
  have hb := sets7_blk BR.out (.slice none 0 0) (.slice none 0 0) (.slice none 0 0) (.slice none 0 0) (.slice none 0 0) (.int .i64 0) (.int .i64 0)
  have ht := sets7_turn w5 w.heap.size (.slice none 0 0) (.slice none 0 0) (.slice none 0 0) (.slice none 0 0) (.slice none 0 0) (.int .i64 0) (.int .i64 0)
  refine bodyPost_ret (results_row_tmp rfl _ _ w.heap.size 27 #[.slice none 0 0, .slice none 0 0, .slice none 0 0, .slice none 0 0, .slice none 0 0, .int .i64 0, .int .i64 0] (0, 0) _ rfl hb Try.underlying27 rfl (by kernel_rfl)) rfl ?_
  exact ⟨rfl, S5.out.later ht (fun k hk => by omega)⟩
end Go.Proofs.Ytjeehbcbflofpaa
