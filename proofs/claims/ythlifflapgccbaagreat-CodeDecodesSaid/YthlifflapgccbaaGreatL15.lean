/- Lemmas, put together: Decode ImgBytes CutsW. -/
import Derived.Test.YthlifflapgccbaaGreatL14
import Derived.Test.YthlifflapgccbaaGreatL08
import Derived.Test.YthlifflapgccbaaGreatL11
import Derived.Test.YthlifflapgccbaaGreatEncode
import Derived.Test.YthlifflapgccbaaGreatLight
import Derived.Test.YthlifflapgccbaaGreatL05
/- Decode over any bytes. -/
namespace Go.Proofs.YthlifflapgccbaaGreat
set_option linter.unusedVariables false
set_option linter.unusedSimpArgs false
open Go.ChangeShapes Go.WideShapes Go.ChangeAt Go.RowKit
open M (W)
namespace M
theorem len_field_pos (x : Ins) : 1 ≤ (bIns x).length := by unfold bIns; have := num_pos x.op; simp only [List.length_append]; omega
theorem flat_sum {α : Type} (f : α → List Int) (g : α → Nat) : ∀ (l : List α), (∀ x ∈ l, g x ≤ (f x).length) → (l.map g).sum ≤ (l.flatMap f).length
  | [], h => by simp
  | x :: l, h => by
    have h1 := h x (by simp)
    have h2 := flat_sum f g l fun y hy => h y (by simp [hy])
    simp only [List.map_cons, List.sum_cons, List.flatMap_cons, List.length_append]
    omega
theorem flat_cnt {α : Type} (f : α → List Int) : ∀ (l : List α), (∀ x ∈ l, 1 ≤ (f x).length) → l.length ≤ (l.flatMap f).length
  | [], h => by simp
  | x :: l, h => by
    have h1 := h x (by simp)
    have h2 := flat_cnt f l fun y hy => h y (by simp [hy])
    simp only [List.length_cons, List.flatMap_cons, List.length_append]
    omega
theorem size_bytes (m : Img) : size m ≤ (bImg m).length := by
  have h1 : ∀ b : Bk, b.code.length ≤ (bBk b).length := fun b => by
    have := flat_cnt bIns b.code fun x _ => len_field_pos x
    unfold bBk many
    simp only [List.length_append]
    omega
  have h2 : ∀ f : Fn, (f.blocks.map fun b => b.code.length).sum ≤ (bFn f).length := fun f => by
    have := flat_sum bBk (fun b => b.code.length) f.blocks fun x _ => h1 x
    unfold bFn many
    simp only [List.length_append]
    omega
  have := flat_sum bFn (fun f => (f.blocks.map fun b => b.code.length).sum) m.funcs fun x _ => h2 x
  unfold size bImg many
  simp only [List.length_append]
  omega
/-- Bytes that are an image's, in order. -/
def Good (L : List Int) (m : Img) : Prop := L = bel4 ++ bImg m ∧ okImg m ∧ check m = 0
end M
set_option maxRecDepth 100000 in
theorem decode_no {w : World} {r z c : Nat} {L : List Int} (h : Raw w r z c L) (hb : M.Bytes L) (hx : L.take 4 ≠ M.bel4) :
    Calls Tryz.prog 4 #[.slice (some ⟨r, z, none⟩) L.length c] w fun e w' => e = .returned (.tuple #[.agg #[.slice none 0 0, .slice none 0 0, .slice none 0 0, .slice none 0 0, .slice none 0 0, .int .i64 0, .int .i64 0], .int .i64 20]) ∧ Still w w' := by
  have hcv := Go.Joins.run_convert_bytes_const_at (P := Tryz.prog) (w.alloc (.cells #[.slice none 0 0, .slice none 0 0, .slice none 0 0, .slice none 0 0, .slice none 0 0, .int .i64 0, .int .i64 0] 28)) 22 5 #[.int .u8 66, .int .u8 69, .int .u8 76, .int .u8 49] 4 4 (w.heap.size + 1) (by simp) Tryz.underlying22 Tryz.underlying5
  have h0 : Still w ((w.alloc (.cells #[.slice none 0 0, .slice none 0 0, .slice none 0 0, .slice none 0 0, .slice none 0 0, .int .i64 0, .int .i64 0] 28)).alloc (.cells #[.int .u8 66, .int .u8 69, .int .u8 76, .int .u8 49] 5 (4, 5))) := ((Still.refl w).alloc _).alloc _
  have hs : Raw ((w.alloc (.cells #[.slice none 0 0, .slice none 0 0, .slice none 0 0, .slice none 0 0, .slice none 0 0, .int .i64 0, .int .i64 0] 28)).alloc (.cells #[.int .u8 66, .int .u8 69, .int .u8 76, .int .u8 49] 5 (4, 5))) (w.heap.size + 1) 0 4 M.bel4 := ⟨by simp, ⟨by decide, by decide⟩, fun j hj => by
      rw [Nat.zero_add, Go.Joins.cell_alloc_mark_at (w.alloc (.cells #[.slice none 0 0, .slice none 0 0, .slice none 0 0, .slice none 0 0, .slice none 0 0, .int .i64 0, .int .i64 0] 28)) _ _ _ _ _ (by simp)]
      have h4 : j = 0 ∨ j = 1 ∨ j = 2 ∨ j = 3 := by simp [M.bel4] at hj; omega
      rcases h4 with rfl | rfl | rfl | rfl <;> rfl⟩
  have HCUT := Lib.hid (cut_no (h.still h0) hb hs hx)
  have S0 := Lib.hid h0
  clear h hb hx hs h0
  generalize L.length = n at *
  go_enter Tryz.func4, Tryz.ntmps4
  go_wp2_with fail
  refine HCUT.out.mono ?_; rintro e w2 ⟨rfl, rfl⟩
  go_wp2_with fail
  have hb0 : Blk ((w.alloc (.cells #[.slice none 0 0, .slice none 0 0, .slice none 0 0, .slice none 0 0, .slice none 0 0, .int .i64 0, .int .i64 0] 28)).alloc (.cells #[.int .u8 66, .int .u8 69, .int .u8 76, .int .u8 49] 5 (4, 5))) w.heap.size 28 #[.slice none 0 0, .slice none 0 0, .slice none 0 0, .slice none 0 0, .slice none 0 0, .int .i64 0, .int .i64 0] := (Blk.new w _ _).alloc _
  refine bodyPost_ret (results_row_tmp rfl _ _ w.heap.size 28 #[.slice none 0 0, .slice none 0 0, .slice none 0 0, .slice none 0 0, .slice none 0 0, .int .i64 0, .int .i64 0] (0, 0) _ rfl hb0 Tryz.underlying28 rfl (by kernel_rfl)) rfl ?_
  exact ⟨rfl, S0.out⟩
theorem drop4 {L R : List Int} (h : L = M.bel4 ++ R) : L.drop 4 = R := by subst h; rfl
theorem take4 {L : List Int} (h : L.take 4 = M.bel4) : L = M.bel4 ++ L.drop 4 := by rw [← h, List.take_append_drop]
theorem imgBox7 {w : World} {k : Nat} {t : TypeId} {x0 x1 x2 x3 x4 x5 x6 : Value} (h : Blk w k t #[x0, x1, x2, x3, x4, x5, x6]) :
    k < w.heap.size ∧ w.cell? ⟨k, 0, none⟩ = some x0 ∧ w.cell? ⟨k, 1, none⟩ = some x1 ∧ w.cell? ⟨k, 2, none⟩ = some x2 ∧ w.cell? ⟨k, 3, none⟩ = some x3 ∧ w.cell? ⟨k, 4, none⟩ = some x4 ∧ w.cell? ⟨k, 5, none⟩ = some x5 ∧ w.cell? ⟨k, 6, none⟩ = some x6 :=
  ⟨h.lt, h.cell 0, h.cell 1, h.cell 2, h.cell 3, h.cell 4, h.cell 5, h.cell 6⟩
set_option maxRecDepth 100000 in
set_option maxHeartbeats 4000000 in
theorem decode_yes {w : World} {r z c : Nat} {L : List Int} (h : Raw w r z c L) (hb : M.Bytes L) (hl : L.length ≤ 100000000) (hx : L.take 4 = M.bel4) :
    Calls Tryz.prog 4 #[.slice (some ⟨r, z, none⟩) L.length c] w fun e w' => Still w w' ∧ ((∃ (v : ImgV) (m : M.Img), e = .returned (.tuple #[.agg v.cells, .int .i64 0]) ∧ ImgQ (Fresh w w') w' v m ∧ M.Good L m) ∨ (e = .returned (.tuple #[.agg #[.slice none 0 0, .slice none 0 0, .slice none 0 0, .slice none 0 0, .slice none 0 0, .int .i64 0, .int .i64 0], .int .i64 20]) ∧ ∀ m, ¬ M.Good L m)) := by
  have hcv := Go.Joins.run_convert_bytes_const_at (P := Tryz.prog) (w.alloc (.cells #[.slice none 0 0, .slice none 0 0, .slice none 0 0, .slice none 0 0, .slice none 0 0, .int .i64 0, .int .i64 0] 28)) 22 5 #[.int .u8 66, .int .u8 69, .int .u8 76, .int .u8 49] 4 4 (w.heap.size + 1) (by simp) Tryz.underlying22 Tryz.underlying5
  have h0 : Still w ((w.alloc (.cells #[.slice none 0 0, .slice none 0 0, .slice none 0 0, .slice none 0 0, .slice none 0 0, .int .i64 0, .int .i64 0] 28)).alloc (.cells #[.int .u8 66, .int .u8 69, .int .u8 76, .int .u8 49] 5 (4, 5))) := ((Still.refl w).alloc _).alloc _
  have hs : Raw ((w.alloc (.cells #[.slice none 0 0, .slice none 0 0, .slice none 0 0, .slice none 0 0, .slice none 0 0, .int .i64 0, .int .i64 0] 28)).alloc (.cells #[.int .u8 66, .int .u8 69, .int .u8 76, .int .u8 49] 5 (4, 5))) (w.heap.size + 1) 0 4 M.bel4 := ⟨by simp, ⟨by decide, by decide⟩, fun j hj => by
      rw [Nat.zero_add, Go.Joins.cell_alloc_mark_at (w.alloc (.cells #[.slice none 0 0, .slice none 0 0, .slice none 0 0, .slice none 0 0, .slice none 0 0, .int .i64 0, .int .i64 0] 28)) _ _ _ _ _ (by simp)]
      have h4 : j = 0 ∨ j = 1 ∨ j = 2 ∨ j = 3 := by simp [M.bel4] at hj; omega
      rcases h4 with rfl | rfl | rfl | rfl <;> rfl⟩
  have hcut := cut_yes (h.still h0) hb hs hx
  have h4 : 4 ≤ L.length := by
    have := congrArg List.length hx
    rw [List.length_take] at this
    simp [M.bel4] at this
    omega
  obtain ⟨o, ho, hoo⟩ : ∃ o, past4 r z c = ⟨r, o, none⟩ ∧ (o = z + 4 ∨ L.length = 4) := by
    unfold past4
    split
    · exact ⟨z, rfl, .inr (by have := h.le; omega)⟩
    · exact ⟨z + 4, rfl, .inl rfl⟩
  rw [ho] at hcut
  have HCUT := Lib.hid hcut
  have S3 : Hid (Still w (((w.alloc (.cells #[.slice none 0 0, .slice none 0 0, .slice none 0 0, .slice none 0 0, .slice none 0 0, .int .i64 0, .int .i64 0] 28)).alloc (.cells #[.int .u8 66, .int .u8 69, .int .u8 76, .int .u8 49] 5 (4, 5))).alloc (.cells #[.slice (some ⟨r, o, none⟩) (L.length - 4) (c - 4), .int .i64 0, .int .i64 0, .bool false] 38))) := h0.alloc _
  have hdl : (L.drop 4).length = L.length - 4 := List.length_drop ..
  have HRD : Hid (Rd ⟨w.heap.size + 1 + 1, r, o, c - 4, L.drop 4⟩ (((w.alloc (.cells #[.slice none 0 0, .slice none 0 0, .slice none 0 0, .slice none 0 0, .slice none 0 0, .int .i64 0, .int .i64 0] 28)).alloc (.cells #[.int .u8 66, .int .u8 69, .int .u8 76, .int .u8 49] 5 (4, 5))).alloc (.cells #[.slice (some ⟨r, o, none⟩) (L.length - 4) (c - 4), .int .i64 0, .int .i64 0, .bool false] 38)) 0 0 false) := ⟨by
      have := Blk.new ((w.alloc (.cells #[.slice none 0 0, .slice none 0 0, .slice none 0 0, .slice none 0 0, .slice none 0 0, .int .i64 0, .int .i64 0] 28)).alloc (.cells #[.int .u8 66, .int .u8 69, .int .u8 76, .int .u8 49] 5 (4, 5))) 38 #[.slice (some ⟨r, o, none⟩) (L.length - 4) (c - 4), .int .i64 0, .int .i64 0, .bool false]
      rw [show ((w.alloc (.cells #[.slice none 0 0, .slice none 0 0, .slice none 0 0, .slice none 0 0, .slice none 0 0, .int .i64 0, .int .i64 0] 28)).alloc (.cells #[.int .u8 66, .int .u8 69, .int .u8 76, .int .u8 49] 5 (4, 5))).heap.size = w.heap.size + 1 + 1 by simp] at this
      rw [hdl]
      exact this, by have := h.lt; show r ≠ w.heap.size + 1 + 1; omega, by show r < _; have := h.lt; have := S3.out.size; omega, fun j hj => by
      have hj2 : j < L.length - 4 := by rw [← hdl]; exact hj
      show World.cell? _ ⟨r, o + j, none⟩ = _
      rw [S3.out.cell (p := ⟨r, o + j, none⟩) h.lt]
      rcases hoo with rfl | hoo
      · rw [Nat.add_assoc, h.cells (4 + j) (by omega)]
        simp [List.getD, List.getElem?_drop]
      · omega, Nat.zero_le _, by decide⟩
  have HOK : Hid (RP.ok ⟨w.heap.size + 1 + 1, r, o, c - 4, L.drop 4⟩) := ⟨hb.drop 4, by show (L.drop 4).length ≤ _; omega, by show (L.drop 4).length ≤ c - 4 ∧ c - 4 ≤ maxLen; have := h.le; omega⟩
  have B3 : Hid (Blk (((w.alloc (.cells #[.slice none 0 0, .slice none 0 0, .slice none 0 0, .slice none 0 0, .slice none 0 0, .int .i64 0, .int .i64 0] 28)).alloc (.cells #[.int .u8 66, .int .u8 69, .int .u8 76, .int .u8 49] 5 (4, 5))).alloc (.cells #[.slice (some ⟨r, o, none⟩) (L.length - 4) (c - 4), .int .i64 0, .int .i64 0, .bool false] 38)) w.heap.size 28 #[.slice none 0 0, .slice none 0 0, .slice none 0 0, .slice none 0 0, .slice none 0 0, .int .i64 0, .int .i64 0]) := ((Blk.new w _ _).alloc _).alloc _
  have HL : Hid (M.Bytes L ∧ L.length ≤ 100000000 ∧ L.take 4 = M.bel4 ∧ 4 ≤ L.length ∧ r < w.heap.size ∧ (L.drop 4).length = L.length - 4) := ⟨hb, hl, hx, h4, h.lt, hdl⟩
  clear h hb hl hx hs h0 hcut ho hoo h4
  generalize hD : L.drop 4 = D at HRD HOK
  have HD := Lib.hid hD
  clear hD hdl
  go_enter Tryz.func4, Tryz.ntmps4
  go_wp2_with fail
  refine HCUT.out.mono ?_; rintro e w2 ⟨rfl, rfl⟩
  go_wp2_with fail
  refine (rimage_any HOK.out _ 0 0 false HRD.out).mono ?_; rintro e w4 ⟨a10, n10, c10, a11, n11, c11, a12, n12, c12, a13, n13, c13, a14, n14, c14, v20, v21, k', sz', bad', rfl, hst⟩
  have hn : w.heap.size ≠ w.heap.size + 1 + 1 := by omega
  have B4 := Lib.hid (B3.out.keep hst.turn hn)
  have S4 : Hid (Still w w4) := S3.out.later hst.turn (fun k hk => by show w.heap.size ≤ k; have : k = w.heap.size + 1 + 1 := hk; omega)
  have r1 : w4.cell? ⟨w.heap.size + 1 + 1, 1, none⟩ = some (.int .i64 k') := hst.rd.blk.cell 1
  have r3 : w4.cell? ⟨w.heap.size + 1 + 1, 3, none⟩ = some (.bool bad') := hst.rd.blk.cell 3
  have rl : w.heap.size + 1 + 1 < w4.heap.size := hst.rd.blk.lt
  have hkl : k' ≤ D.length := hst.rd.le
  have HST := Lib.hid hst
  have BAD : Hid (∀ m, M.Good L m → bad' = false ∧ k' = D.length ∧ M.pImg 0 D = some (m, M.size m, [])) := fun m hm => by
    obtain ⟨g1, g2, g3⟩ := hm
    have hD : D = M.bImg m := by rw [← HD.out]; exact drop4 g1
    have hp : M.pImg 0 D = some (m, M.size m, []) := by rw [hD]; exact M.cmp_Img g2 g3
    obtain ⟨y1, y2, y3, y4⟩ := HST.out.yes rfl _ _ _ (by show M.pImg 0 (D.drop 0) = _; rw [List.drop_zero]; exact hp)
    have y5 : D.drop k' = [] := y3
    exact ⟨y1, by have := List.drop_eq_nil_iff.1 y5; omega, hp⟩
  have BR : Hid (Blk (w4.alloc (.cells #[.slice a10 n10 c10, .slice a11 n11 c11, .slice a12 n12 c12, .slice a13 n13 c13, .slice a14 n14 c14, .int .i64 v20, .int .i64 v21] 28)) w.heap.size 28 #[.slice none 0 0, .slice none 0 0, .slice none 0 0, .slice none 0 0, .slice none 0 0, .int .i64 0, .int .i64 0]) := B4.out.alloc _
  have S5 : Hid (Still w (w4.alloc (.cells #[.slice a10 n10 c10, .slice a11 n11 c11, .slice a12 n12 c12, .slice a13 n13 c13, .slice a14 n14 c14, .int .i64 v20, .int .i64 v21] 28))) := S4.out.alloc _
  have BM : Hid (Blk (w4.alloc (.cells #[.slice a10 n10 c10, .slice a11 n11 c11, .slice a12 n12 c12, .slice a13 n13 c13, .slice a14 n14 c14, .int .i64 v20, .int .i64 v21] 28)) w4.heap.size 28 #[.slice a10 n10 c10, .slice a11 n11 c11, .slice a12 n12 c12, .slice a13 n13 c13, .slice a14 n14 c14, .int .i64 v20, .int .i64 v21]) := Blk.new w4 _ _
  have HDL : Hid (D.length = L.length - 4) := by rw [← HD.out]; exact HL.out.2.2.2.2.2
  clear hst
  cases bad' with
  | true =>
    obtain ⟨hl, c0, c1, c2, c3, c4, c5, c6⟩ := nilBox BR.out
    have f0 := BR.out.frozen 0
    have f1 := BR.out.frozen 1
    have f2 := BR.out.frozen 2
    have f3 := BR.out.frozen 3
    have f4 := BR.out.frozen 4
    have f5 := BR.out.frozen 5
    have f6 := BR.out.frozen 6
    go_wp2_with fail
    have hb := sets7_blk BR.out (.slice none 0 0) (.slice none 0 0) (.slice none 0 0) (.slice none 0 0) (.slice none 0 0) (.int .i64 0) (.int .i64 0)
    have ht := sets7_turn (w4.alloc (.cells #[.slice a10 n10 c10, .slice a11 n11 c11, .slice a12 n12 c12, .slice a13 n13 c13, .slice a14 n14 c14, .int .i64 v20, .int .i64 v21] 28)) w.heap.size (.slice none 0 0) (.slice none 0 0) (.slice none 0 0) (.slice none 0 0) (.slice none 0 0) (.int .i64 0) (.int .i64 0)
    refine bodyPost_ret (results_row_tmp rfl _ _ w.heap.size 28 #[.slice none 0 0, .slice none 0 0, .slice none 0 0, .slice none 0 0, .slice none 0 0, .int .i64 0, .int .i64 0] (0, 0) _ rfl hb Tryz.underlying28 rfl (by kernel_rfl)) rfl ?_
    exact ⟨S5.out.later ht (fun k hk => by omega), .inr ⟨rfl, fun m hm => absurd (BAD.out m hm).1 (by decide)⟩⟩
  | false =>
    by_cases hk : k' = L.length - 4
    · obtain ⟨m, hm⟩ : ∃ m, M.pImg 0 D = some (m, sz', []) ∧ ImgQ (Fresh (((w.alloc (.cells #[.slice none 0 0, .slice none 0 0, .slice none 0 0, .slice none 0 0, .slice none 0 0, .int .i64 0, .int .i64 0] 28)).alloc (.cells #[.int .u8 66, .int .u8 69, .int .u8 76, .int .u8 49] 5 (4, 5))).alloc (.cells #[.slice (some ⟨r, o, none⟩) (L.length - 4) (c - 4), .int .i64 0, .int .i64 0, .bool false] 38)) w4) w4 ⟨a10, n10, c10, a11, n11, c11, a12, n12, c12, a13, n13, c13, a14, n14, c14, v20, v21⟩ m := by
        cases hp : M.pImg 0 D with
        | none => exact absurd (HST.out.no rfl (by show M.pImg 0 (D.drop 0) = _; rw [List.drop_zero]; exact hp)) (by decide)
        | some y =>
          obtain ⟨m, s1, R1⟩ := y
          obtain ⟨y1, y2, y3, y4⟩ := HST.out.yes rfl m s1 R1 (by show M.pImg 0 (D.drop 0) = _; rw [List.drop_zero]; exact hp)
          have y5 : D.drop k' = R1 := y3
          rw [List.drop_eq_nil_of_le (by rw [HDL.out]; omega)] at y5
          exact ⟨m, by rw [← y5, y2], y4⟩
      have hDB : M.Bytes D := by rw [← HD.out]; exact HL.out.1.drop 4
      obtain ⟨hbm, hmk⟩ := M.snd_Img 0 D m sz' [] hDB hm.1
      rw [List.append_nil] at hbm
      have HLm : Hid (L = M.bel4 ++ M.bImg m) := by show L = _; rw [← hbm, ← HD.out]; exact take4 HL.out.2.2.1
      have hsz : M.size m ≤ 1000000000 := Nat.le_trans (M.size_bytes m) (by rw [← hbm, HDL.out]; have := HL.out.2.1; omega)
      have his : ImgIs (w4.alloc (.cells #[.slice a10 n10 c10, .slice a11 n11 c11, .slice a12 n12 c12, .slice a13 n13 c13, .slice a14 n14 c14, .int .i64 v20, .int .i64 v21] 28)).heap.size (w4.alloc (.cells #[.slice a10 n10 c10, .slice a11 n11 c11, .slice a12 n12 c12, .slice a13 n13 c13, .slice a14 n14 c14, .int .i64 v20, .int .i64 v21] 28)) ⟨a10, n10, c10, a11, n11, c11, a12, n12, c12, a13, n13, c13, a14, n14, c14, v20, v21⟩ m := (hm.2.keep (R := fun b => b < w4.heap.size) ⟨fun b hb => Below.heap_alloc w4 _ b hb.2, fun b hb => hb.2⟩).is fun b hb => by simp; omega
      have HIS := Lib.hid (And.intro his hm)
      have HCK := Lib.hid (check_any (Nat.le_refl _) his hsz)
      have hk2 : (k' : Int) = ((L.length - 4 : Nat) : Int) := by omega
      have x0 : ((k' : Int) != ((L.length - 4 : Nat) : Int)) = false := by rw [hk2]; simp
      clear his hsz hbm hmk hDB hm hk hk2 hkl
      by_cases hc : M.check m = 0
      · rw [hc] at HCK
        have HC0 := Lib.hid hc
        clear hc
        obtain ⟨ml, m0, m1, m2, m3, m4, m5, m6⟩ := imgBox7 BM.out
        go_wp2_with fail
        refine HCK.out.mono ?_; rintro e w6 ⟨rfl, t6⟩
        have BR6 := Lib.hid (t6.blk BR.out)
        have T6 := Lib.hid t6
        obtain ⟨nl, n0, n1, n2, n3, n4, n5, n6⟩ := imgBox7 (t6.blk BM.out)
        clear t6
        obtain ⟨hl, c0, c1, c2, c3, c4, c5, c6⟩ := nilBox BR6.out
        have f0 := BR6.out.frozen 0
        have f1 := BR6.out.frozen 1
        have f2 := BR6.out.frozen 2
        have f3 := BR6.out.frozen 3
        have f4 := BR6.out.frozen 4
        have f5 := BR6.out.frozen 5
        have f6 := BR6.out.frozen 6
        go_wp2_with fail
        have hb := sets7_blk BR6.out (.slice a10 n10 c10) (.slice a11 n11 c11) (.slice a12 n12 c12) (.slice a13 n13 c13) (.slice a14 n14 c14) (.int .i64 v20) (.int .i64 v21)
        have ht := sets7_turn w6 w.heap.size (.slice a10 n10 c10) (.slice a11 n11 c11) (.slice a12 n12 c12) (.slice a13 n13 c13) (.slice a14 n14 c14) (.int .i64 v20) (.int .i64 v21)
        refine bodyPost_ret (results_row_tmp rfl _ _ w.heap.size 28 #[.slice a10 n10 c10, .slice a11 n11 c11, .slice a12 n12 c12, .slice a13 n13 c13, .slice a14 n14 c14, .int .i64 v20, .int .i64 v21] (0, 0) _ rfl hb Tryz.underlying28 rfl (by kernel_rfl)) rfl ?_
        have hsz3 : w.heap.size < (((w.alloc (.cells #[.slice none 0 0, .slice none 0 0, .slice none 0 0, .slice none 0 0, .slice none 0 0, .int .i64 0, .int .i64 0] 28)).alloc (.cells #[.int .u8 66, .int .u8 69, .int .u8 76, .int .u8 49] 5 (4, 5))).alloc (.cells #[.slice (some ⟨r, o, none⟩) (L.length - 4) (c - 4), .int .i64 0, .int .i64 0, .bool false] 38)).heap.size := by simp; omega
        have hqm := HIS.out.2.2
        generalize (((w.alloc (.cells #[.slice none 0 0, .slice none 0 0, .slice none 0 0, .slice none 0 0, .slice none 0 0, .int .i64 0, .int .i64 0] 28)).alloc (.cells #[.int .u8 66, .int .u8 69, .int .u8 76, .int .u8 49] 5 (4, 5))).alloc (.cells #[.slice (some ⟨r, o, none⟩) (L.length - 4) (c - 4), .int .i64 0, .int .i64 0, .bool false] 38)) = w3 at hqm hsz3
        refine ⟨(Still.trans S5.out T6.out).later ht (fun k hk => by omega), .inl ⟨_, m, rfl, hqm.keep ⟨fun b hb2 => (ht.block b (by have := hb2.2; have := T6.out.size; simp at this; omega) (by have := hb2.1; omega)).trans ((T6.out.block b (by have := hb2.2; simp; omega) (fun e => e)).trans (Below.heap_alloc w4 _ b hb2.2)), fun b hb2 => ⟨by have := hb2.1; omega, by have := hb2.2; have := T6.out.size; have := ht.size; simp at *; omega⟩⟩, HLm.out, HIS.out.1.ok (M.check_zero HC0.out).2, HC0.out⟩⟩
      · have x1 : ((M.check m) != 0) = true := bne_iff_ne.2 hc
        have HC0 := Lib.hid hc
        clear hc
        obtain ⟨ml, m0, m1, m2, m3, m4, m5, m6⟩ := imgBox7 BM.out
        go_wp2_with fail
        refine HCK.out.mono ?_; rintro e w6 ⟨rfl, t6⟩
        have BR6 := Lib.hid (t6.blk BR.out)
        have T6 := Lib.hid t6
        clear t6
        obtain ⟨hl, c0, c1, c2, c3, c4, c5, c6⟩ := nilBox BR6.out
        have f0 := BR6.out.frozen 0
        have f1 := BR6.out.frozen 1
        have f2 := BR6.out.frozen 2
        have f3 := BR6.out.frozen 3
        have f4 := BR6.out.frozen 4
        have f5 := BR6.out.frozen 5
        have f6 := BR6.out.frozen 6
        go_wp2_with fail
        have hb := sets7_blk BR6.out (.slice none 0 0) (.slice none 0 0) (.slice none 0 0) (.slice none 0 0) (.slice none 0 0) (.int .i64 0) (.int .i64 0)
        have ht := sets7_turn w6 w.heap.size (.slice none 0 0) (.slice none 0 0) (.slice none 0 0) (.slice none 0 0) (.slice none 0 0) (.int .i64 0) (.int .i64 0)
        refine bodyPost_ret (results_row_tmp rfl _ _ w.heap.size 28 #[.slice none 0 0, .slice none 0 0, .slice none 0 0, .slice none 0 0, .slice none 0 0, .int .i64 0, .int .i64 0] (0, 0) _ rfl hb Tryz.underlying28 rfl (by kernel_rfl)) rfl ?_
        refine ⟨(Still.trans S5.out T6.out).later ht (fun k hk => by omega), .inr ⟨rfl, fun m' hm' => ?_⟩⟩
        have h3 := (BAD.out m' hm').2.2
        rw [HIS.out.2.1] at h3
        simp only [Option.some.injEq, Prod.mk.injEq] at h3
        exact HC0.out (by rw [h3.1]; exact hm'.2.2)
    · have x0 : ((k' : Int) != ((L.length - 4 : Nat) : Int)) = true := bne_iff_ne.2 (by omega)
      have HK : Hid (¬ k' = D.length) := by show ¬ _; rw [HDL.out]; exact hk
      clear hk
      obtain ⟨hl, c0, c1, c2, c3, c4, c5, c6⟩ := nilBox BR.out
      have f0 := BR.out.frozen 0
      have f1 := BR.out.frozen 1
      have f2 := BR.out.frozen 2
      have f3 := BR.out.frozen 3
      have f4 := BR.out.frozen 4
      have f5 := BR.out.frozen 5
      have f6 := BR.out.frozen 6
      go_wp2_with fail
      have hb := sets7_blk BR.out (.slice none 0 0) (.slice none 0 0) (.slice none 0 0) (.slice none 0 0) (.slice none 0 0) (.int .i64 0) (.int .i64 0)
      have ht := sets7_turn (w4.alloc (.cells #[.slice a10 n10 c10, .slice a11 n11 c11, .slice a12 n12 c12, .slice a13 n13 c13, .slice a14 n14 c14, .int .i64 v20, .int .i64 v21] 28)) w.heap.size (.slice none 0 0) (.slice none 0 0) (.slice none 0 0) (.slice none 0 0) (.slice none 0 0) (.int .i64 0) (.int .i64 0)
      refine bodyPost_ret (results_row_tmp rfl _ _ w.heap.size 28 #[.slice none 0 0, .slice none 0 0, .slice none 0 0, .slice none 0 0, .slice none 0 0, .int .i64 0, .int .i64 0] (0, 0) _ rfl hb Tryz.underlying28 rfl (by kernel_rfl)) rfl ?_
      exact ⟨S5.out.later ht (fun k hk => by omega), .inr ⟨rfl, fun m hm => HK.out (BAD.out m hm).2.1⟩⟩
/-- Decode over any bytes: an image, where they are one's in order, and no other time. -/
theorem decode_any {w : World} {r z c : Nat} {L : List Int} (h : Raw w r z c L) (hb : M.Bytes L) (hl : L.length ≤ 100000000) :
    Calls Tryz.prog 4 #[.slice (some ⟨r, z, none⟩) L.length c] w fun e w' => Still w w' ∧ ((∃ (v : ImgV) (m : M.Img), e = .returned (.tuple #[.agg v.cells, .int .i64 0]) ∧ ImgQ (Fresh w w') w' v m ∧ M.Good L m) ∨ (e = .returned (.tuple #[.agg #[.slice none 0 0, .slice none 0 0, .slice none 0 0, .slice none 0 0, .slice none 0 0, .int .i64 0, .int .i64 0], .int .i64 20]) ∧ ∀ m, ¬ M.Good L m)) := by
  by_cases hx : L.take 4 = M.bel4
  · exact decode_yes h hb hl hx
  · exact (decode_no h hb hx).mono fun e w' ⟨h1, h2⟩ => ⟨h2, .inr ⟨h1, fun m hm => hx (by rw [hm.1]; rfl)⟩⟩
end Go.Proofs.YthlifflapgccbaaGreat
/- An image's bytes are bytes. No program in sight. -/
namespace Go.Proofs.YthlifflapgccbaaGreat
set_option linter.unusedVariables false
set_option linter.unusedSimpArgs false
namespace M
theorem Bytes.app {l m : List Int} (h : Bytes l) (k : Bytes m) : Bytes (l ++ m) := fun c hc => by
  rcases List.mem_append.1 hc with hc | hc
  · exact h c hc
  · exact k c hc
theorem Bytes.flat {α : Type} {f : α → List Int} (h : ∀ x, Bytes (f x)) (l : List α) : Bytes (l.flatMap f) := fun c hc => by
  obtain ⟨x, _, hx⟩ := List.mem_flatMap.1 hc
  exact h x c hx
theorem byt_num (n : Int) : Bytes (num n) := enc_bd _
theorem byt_many {α : Type} {f : α → List Int} (h : ∀ x, Bytes (f x)) (l : List α) : Bytes (many f l) := (byt_num _).app (Bytes.flat h l)
theorem byt_nums (l : List Int) : Bytes (nums l) := byt_many byt_num l
theorem byt_text (s : ByteArray) : Bytes (text s) := (byt_num _).app fun c hc => by
  unfold chars at hc
  obtain ⟨u, _, rfl⟩ := List.mem_map.1 hc
  have := u.toNat_lt
  omega
theorem byt_Ty (t : Ty) : Bytes (bTy t) := (byt_num _).app (byt_nums _)
theorem byt_Sh (s : Sh) : Bytes (bSh s) := ((byt_num _).app (byt_nums _)).app (byt_text _)
theorem byt_field (x : Ins) (c : UInt8) : Bytes (field x c) := by
  unfold field
  repeat' split
  all_goals first | exact byt_num _ | exact byt_nums _
theorem byt_Ins (x : Ins) : Bytes (bIns x) := (byt_num _).app (Bytes.flat (byt_field x) _)
theorem byt_Bk (b : Bk) : Bytes (bBk b) := (byt_nums _).app (byt_many byt_Ins _)
theorem byt_Fn (f : Fn) : Bytes (bFn f) := (((byt_nums _).app (byt_num _)).app (byt_num _)).app (byt_many byt_Bk _)
theorem byt_Img (m : Img) : Bytes (bImg m) := ((((((byt_many byt_Ty _).app (byt_many byt_Sh _)).app (byt_many byt_text _)).app (byt_many byt_text _)).app (byt_many byt_Fn _)).app (byt_num _)).app (byt_num _)
end M
end Go.Proofs.YthlifflapgccbaaGreat
/- CodeCuts, for any image and any bytes. -/
namespace Go.Proofs.YthlifflapgccbaaGreat
set_option linter.unusedVariables false
set_option linter.unusedSimpArgs false
open Go.ChangeShapes Go.WideShapes Go.ChangeAt Go.RowKit
open M (W)
/-- Bytes that lie in old memory. -/
structure Bys (B : Nat) (w : World) (a : Option Addr) (n : Nat) (L : List Int) : Prop where
  len : L.length = n
  bytes : M.Bytes L
  at_ : 0 < n → ∃ b off, a = some ⟨b, off, none⟩ ∧ b < B ∧ ∀ j u, (L.map (Value.int .u8))[j]? = some u → w.cell? ⟨b, off + j, none⟩ = some u
theorem Bys.keep {B : Nat} {w w' : World} {a : Option Addr} {n : Nat} {L : List Int} (h : Bys B w a n L) (hb : Below B w w') : Bys B w' a n L :=
  ⟨h.len, h.bytes, fun hn => by
    obtain ⟨b, off, h1, h2, h3⟩ := h.at_ hn
    exact ⟨b, off, h1, h2, fun j u hj => (World.cell?_of_block (w := w) (hb.block b h2)).trans (h3 j u hj)⟩⟩
theorem own_raw {w : World} {B : Nat} {a : Option Addr} {c : Nat} {L : List Int} (h : w.ownsRow B 5 1 (.slice a L.length c) L.length (L.map (Value.int .u8))) (hn : 0 < L.length) : ∃ r, a = some ⟨r, 0, none⟩ ∧ Raw w r 0 c L := by
  obtain ⟨g, rfl, h1, h2, h3, h4, _⟩ := own_form h hn
  exact ⟨g, rfl, h1, ⟨h2, h3⟩, fun j hj => by
    rw [Nat.zero_add, h4 j (.int .u8 (L.getD j 0)) (by simp [List.getD, List.getElem?_eq_getElem hj])]⟩
theorem Raw.take {w : World} {r o c : Nat} {L : List Int} (h : Raw w r o c L) (k : Nat) : Raw w r o c (L.take k) :=
  ⟨h.lt, by rw [List.length_take]; have := h.le; omega, fun j hj => by
    rw [List.length_take] at hj
    rw [h.cells j (by omega)]
    simp [List.getD, List.getElem?_take, show j < k by omega]⟩
theorem good_cut {m : M.Img} (hm : M.Good (M.bel4 ++ M.bImg m) m) {k : Nat} (hk : k ≤ (M.bel4 ++ M.bImg m).length) {m' : M.Img} (h : M.Good ((M.bel4 ++ M.bImg m).take k) m') : k = (M.bel4 ++ M.bImg m).length := by
  have h1 : M.bImg m' ++ (M.bel4 ++ M.bImg m).drop k = M.bImg m ++ [] := by
    have := congrArg (· ++ (M.bel4 ++ M.bImg m).drop k) h.1
    simp only [List.take_append_drop, List.append_assoc] at this
    have h2 := List.append_cancel_left this
    rw [List.append_nil]; exact h2.symm
  have hp := M.pre_Img m' m _ _ h.2.1 hm.2.1 h1
  have h3 := hp.2
  have := List.drop_eq_nil_iff.1 h3
  omega
theorem good_more {m : M.Img} (hm : M.Good (M.bel4 ++ M.bImg m) m) {LM : List Int} {m' : M.Img} (h : M.Good (M.bel4 ++ M.bImg m ++ LM) m') : LM = [] := by
  have h1 : M.bImg m' ++ [] = M.bImg m ++ LM := by
    have := h.1
    rw [List.append_assoc] at this
    rw [List.append_nil]; exact (List.append_cancel_left this).symm
  exact (M.pre_Img m' m _ _ h.2.1 hm.2.1 h1).2.symm
theorem wpList_append_src {P : Program} {w : World} {ops : Array Oper} {rest : List Oper} {o : Oper} {act : Act} {Q : Exit → Act → World → Prop} (hgd : o.guard = none) (s x : Operand) (t : TypeId)
    (ho : o.op = .call { callee := .builtin .append, args := #[s, x], argTypes := #[t, t] })
    (base : Nat) (e : TypeId) (size bytes : Nat) (z : Value) (ht : P.underlying t = some (.slice e)) (hi : (P.info? e).map (fun i => (i.zero, i.size, i.bytes)) = some (some z, size, bytes))
    (hzs : z.cells.size = size) (hsz : 0 < size) (a : Option Addr) (n c : Nat) (xs : List Value) (hs : act.eval s = .slice a n c) (hown : w.ownsRow base e size (.slice a n c) n xs)
    (src : Option Addr) (m c' : Nat) (news : List Value) (hx : act.eval x = .slice src m c') (hl : news.length = m * size) (hsrc : 0 < m → ∃ ad, src = some ad ∧ ∀ j u, news[j]? = some u → w.cell? (ad.add j) = some u) (h1 : ∀ u ∈ news, u.oneCell' = true)
    (h63 : n + m ≤ maxLen) (hbytes : (n + m) * bytes ≤ 140737488355328) (hbase : base ≤ w.heap.size)
    (h : ∀ a' cap w', Hid (w'.ownsRow base e size (.slice a' (n + m) cap) (n + m) (xs ++ news)) → Hid (Turn (fun k => (Value.slice a n c).ownBlock = some k) w w') →
      wpList P ops Q rest (act.put o.dst (.slice a' (n + m) cap)) w') : wpList P ops Q (o :: rest) act w := by
  obtain ⟨a', cap, w', hrun, h2, h3⟩ := run_append_src (P := P) w base t o.type e size bytes z ht hi hzs hsz a n c xs hown src m c' news hl hsrc h1 h63 hbytes hbase
  refine wpList_plain hgd fun K hK => ?_
  unfold Oper.wp
  simp [execOp, ho, resolve, invoke, builtin, hs, hx, hrun, Result.andThen]
  exact hK _ _ (h a' cap w' h2 h3)
end Go.Proofs.YthlifflapgccbaaGreat
