/- The writer: an image. -/
import Derived.Test.YthlifflapgccbaaGreatWrFunc
namespace Go.Proofs.YthlifflapgccbaaGreat
set_option linter.unusedVariables false
open Go.ChangeShapes Go.WideShapes Go.ChangeAt Go.RowKit
open M (W)
set_option maxRecDepth 100000 in
set_option maxHeartbeats 4000000 in
theorem image_any {B g : Nat} {xs : List Int} {w : World} {v : ImgV} {m : M.Img} (h : Lit B w g xs) (hB : B ≤ w.heap.size) (hp : ImgIs B w v m) (hx : (xs ++ M.bImg m).length ≤ 1000000000) :
    Calls Tryz.prog 53 #[.pointer (some ⟨g, 0, none⟩), .agg #[.slice v.ta v.tn v.tc, .slice v.sa v.sn v.sc, .slice v.xa v.xn v.xc, .slice v.na v.nn v.nc, .slice v.fa v.fn v.fc, .int .i64 v.main, .int .i64 v.exn]] w fun e w' => e = .returned (.tuple #[]) ∧ Writes B w' g (xs ++ M.bImg m) ∧ Wrote B w w' g := by
  have HX := Lib.hid hx
  have HB := Lib.hid hB
  have HP := Lib.hid hp
  have HL0 := Lib.hid (h.alloc (.cells #[.slice v.ta v.tn v.tc, .slice v.sa v.sn v.sc, .slice v.xa v.xn v.xc, .slice v.na v.nn v.nc, .slice v.fa v.fn v.fc, .int .i64 v.main, .int .i64 v.exn] 28))
  have HL1 := Lib.hid (h.behind #[.slice v.ta v.tn v.tc, .slice v.sa v.sn v.sc, .slice v.xa v.xn v.xc, .slice v.na v.nn v.nc, .slice v.fa v.fn v.fc, .int .i64 v.main, .int .i64 v.exn] 28)
  have HL2 := Lib.hid (Blk.new w 28 #[.slice v.ta v.tn v.tc, .slice v.sa v.sn v.sc, .slice v.xa v.xn v.xc, .slice v.na v.nn v.nc, .slice v.fa v.fn v.fc, .int .i64 v.main, .int .i64 v.exn])
  obtain ⟨l1, l2, l3, l4, l5⟩ := hp.le
  clear h hx hp hB
  go_enter Tryz.func53, Tryz.ntmps53
  go_wp2_with fail
  refine (putTy_any M.bTy 80 (enters_of Tryz.func80 (by kernel_rfl) rfl) (number_lit _ HL0.out (M.num_nat l1).1 (M.num_nat l1).2 (by have := HX.out; simp only [M.bImg, M.many, M.num, List.length_append] at this ⊢; omega)) ((HP.out.keep HL1.out.1.below HB.out).types) (by simp; have := HB.out; omega) l1 (by have := HX.out; simp only [M.bImg, M.num, List.length_append] at this ⊢; omega) (fun a2 n2 c2 y W ys _ hp hw hl => kind_any hw hp hl)).mono ?_; rintro e w1 ⟨rfl, v1, k1⟩
  have H1 : Hid (At B w g w.heap.size 28 #[.slice v.ta v.tn v.tc, .slice v.sa v.sn v.sc, .slice v.xa v.xn v.xc, .slice v.na v.nn v.nc, .slice v.fa v.fn v.fc, .int .i64 v.main, .int .i64 v.exn] _ w1) := ⟨v1, HL1.out.1.trans k1, (k1.blk HL2.out HL1.out.2).1, (k1.blk HL2.out HL1.out.2).2⟩
  clear v1 k1
  obtain ⟨bl, b0, b1, b2, b3, b4, b5, b6⟩ : w.heap.size < w1.heap.size ∧ w1.cell? ⟨w.heap.size, 0, none⟩ = some (.slice v.ta v.tn v.tc) ∧ w1.cell? ⟨w.heap.size, 1, none⟩ = some (.slice v.sa v.sn v.sc) ∧ w1.cell? ⟨w.heap.size, 2, none⟩ = some (.slice v.xa v.xn v.xc) ∧ w1.cell? ⟨w.heap.size, 3, none⟩ = some (.slice v.na v.nn v.nc) ∧ w1.cell? ⟨w.heap.size, 4, none⟩ = some (.slice v.fa v.fn v.fc) ∧ w1.cell? ⟨w.heap.size, 5, none⟩ = some (.int .i64 v.main) ∧ w1.cell? ⟨w.heap.size, 6, none⟩ = some (.int .i64 v.exn) := ⟨H1.out.bx.lt, H1.out.bx.cell 0, H1.out.bx.cell 1, H1.out.bx.cell 2, H1.out.bx.cell 3, H1.out.bx.cell 4, H1.out.bx.cell 5, H1.out.bx.cell 6⟩
  go_wp2_with fail
  refine (putSh_any M.bSh 82 (enters_of Tryz.func82 (by kernel_rfl) rfl) (number_any _ H1.out.wr (M.num_nat l2).1 (M.num_nat l2).2 (by have := HX.out; simp only [M.bImg, M.many, M.num, List.length_append] at this ⊢; omega)) ((HP.out.keep H1.out.wo.below HB.out).shapes) H1.out.wr.at l2 (by have := HX.out; simp only [M.bImg, M.num, List.length_append] at this ⊢; omega) (fun a2 n2 c2 y W ys _ hp hw hl => shape_any hw hp hl)).mono ?_; rintro e w2 ⟨rfl, v2, k2⟩
  have H2 := Lib.hid (H1.out.next v2 k2)
  clear v2 k2
  clear bl b0 b1 b2 b3 b4 b5 b6
  obtain ⟨bl, b0, b1, b2, b3, b4, b5, b6⟩ : w.heap.size < w2.heap.size ∧ w2.cell? ⟨w.heap.size, 0, none⟩ = some (.slice v.ta v.tn v.tc) ∧ w2.cell? ⟨w.heap.size, 1, none⟩ = some (.slice v.sa v.sn v.sc) ∧ w2.cell? ⟨w.heap.size, 2, none⟩ = some (.slice v.xa v.xn v.xc) ∧ w2.cell? ⟨w.heap.size, 3, none⟩ = some (.slice v.na v.nn v.nc) ∧ w2.cell? ⟨w.heap.size, 4, none⟩ = some (.slice v.fa v.fn v.fc) ∧ w2.cell? ⟨w.heap.size, 5, none⟩ = some (.int .i64 v.main) ∧ w2.cell? ⟨w.heap.size, 6, none⟩ = some (.int .i64 v.exn) := ⟨H2.out.bx.lt, H2.out.bx.cell 0, H2.out.bx.cell 1, H2.out.bx.cell 2, H2.out.bx.cell 3, H2.out.bx.cell 4, H2.out.bx.cell 5, H2.out.bx.cell 6⟩
  go_wp2_with fail
  refine (putTx_any M.text 84 (enters_of Tryz.func84 (by kernel_rfl) rfl) (number_any _ H2.out.wr (M.num_nat l3).1 (M.num_nat l3).2 (by have := HX.out; simp only [M.bImg, M.many, M.num, List.length_append] at this ⊢; omega)) ((HP.out.keep H2.out.wo.below HB.out).strings) H2.out.wr.at l3 (by have := HX.out; simp only [M.bImg, M.num, List.length_append] at this ⊢; omega) (fun y W ys _ hp hw hl => text_any y hw hp.2 hl)).mono ?_; rintro e w3 ⟨rfl, v3, k3⟩
  have H3 := Lib.hid (H2.out.next v3 k3)
  clear v3 k3
  clear bl b0 b1 b2 b3 b4 b5 b6
  obtain ⟨bl, b0, b1, b2, b3, b4, b5, b6⟩ : w.heap.size < w3.heap.size ∧ w3.cell? ⟨w.heap.size, 0, none⟩ = some (.slice v.ta v.tn v.tc) ∧ w3.cell? ⟨w.heap.size, 1, none⟩ = some (.slice v.sa v.sn v.sc) ∧ w3.cell? ⟨w.heap.size, 2, none⟩ = some (.slice v.xa v.xn v.xc) ∧ w3.cell? ⟨w.heap.size, 3, none⟩ = some (.slice v.na v.nn v.nc) ∧ w3.cell? ⟨w.heap.size, 4, none⟩ = some (.slice v.fa v.fn v.fc) ∧ w3.cell? ⟨w.heap.size, 5, none⟩ = some (.int .i64 v.main) ∧ w3.cell? ⟨w.heap.size, 6, none⟩ = some (.int .i64 v.exn) := ⟨H3.out.bx.lt, H3.out.bx.cell 0, H3.out.bx.cell 1, H3.out.bx.cell 2, H3.out.bx.cell 3, H3.out.bx.cell 4, H3.out.bx.cell 5, H3.out.bx.cell 6⟩
  go_wp2_with fail
  refine (putTx_any M.text 84 (enters_of Tryz.func84 (by kernel_rfl) rfl) (number_any _ H3.out.wr (M.num_nat l4).1 (M.num_nat l4).2 (by have := HX.out; simp only [M.bImg, M.many, M.num, List.length_append] at this ⊢; omega)) ((HP.out.keep H3.out.wo.below HB.out).names) H3.out.wr.at l4 (by have := HX.out; simp only [M.bImg, M.num, List.length_append] at this ⊢; omega) (fun y W ys _ hp hw hl => text_any y hw hp.2 hl)).mono ?_; rintro e w4 ⟨rfl, v4, k4⟩
  have H4 := Lib.hid (H3.out.next v4 k4)
  clear v4 k4
  clear bl b0 b1 b2 b3 b4 b5 b6
  obtain ⟨bl, b0, b1, b2, b3, b4, b5, b6⟩ : w.heap.size < w4.heap.size ∧ w4.cell? ⟨w.heap.size, 0, none⟩ = some (.slice v.ta v.tn v.tc) ∧ w4.cell? ⟨w.heap.size, 1, none⟩ = some (.slice v.sa v.sn v.sc) ∧ w4.cell? ⟨w.heap.size, 2, none⟩ = some (.slice v.xa v.xn v.xc) ∧ w4.cell? ⟨w.heap.size, 3, none⟩ = some (.slice v.na v.nn v.nc) ∧ w4.cell? ⟨w.heap.size, 4, none⟩ = some (.slice v.fa v.fn v.fc) ∧ w4.cell? ⟨w.heap.size, 5, none⟩ = some (.int .i64 v.main) ∧ w4.cell? ⟨w.heap.size, 6, none⟩ = some (.int .i64 v.exn) := ⟨H4.out.bx.lt, H4.out.bx.cell 0, H4.out.bx.cell 1, H4.out.bx.cell 2, H4.out.bx.cell 3, H4.out.bx.cell 4, H4.out.bx.cell 5, H4.out.bx.cell 6⟩
  go_wp2_with fail
  refine (putFn_any M.bFn 86 (enters_of Tryz.func86 (by kernel_rfl) rfl) (number_any _ H4.out.wr (M.num_nat l5).1 (M.num_nat l5).2 (by have := HX.out; simp only [M.bImg, M.many, M.num, List.length_append] at this ⊢; omega)) ((HP.out.keep H4.out.wo.below HB.out).funcs) H4.out.wr.at l5 (by have := HX.out; simp only [M.bImg, M.num, List.length_append] at this ⊢; omega) (fun a2 n2 c2 a3 n3 c3 y W ys _ hp hw hl => function_any hw hp hl)).mono ?_; rintro e w5 ⟨rfl, v5, k5⟩
  have H5 := Lib.hid (H4.out.next v5 k5)
  clear v5 k5
  clear bl b0 b1 b2 b3 b4 b5 b6
  obtain ⟨bl, b0, b1, b2, b3, b4, b5, b6⟩ : w.heap.size < w5.heap.size ∧ w5.cell? ⟨w.heap.size, 0, none⟩ = some (.slice v.ta v.tn v.tc) ∧ w5.cell? ⟨w.heap.size, 1, none⟩ = some (.slice v.sa v.sn v.sc) ∧ w5.cell? ⟨w.heap.size, 2, none⟩ = some (.slice v.xa v.xn v.xc) ∧ w5.cell? ⟨w.heap.size, 3, none⟩ = some (.slice v.na v.nn v.nc) ∧ w5.cell? ⟨w.heap.size, 4, none⟩ = some (.slice v.fa v.fn v.fc) ∧ w5.cell? ⟨w.heap.size, 5, none⟩ = some (.int .i64 v.main) ∧ w5.cell? ⟨w.heap.size, 6, none⟩ = some (.int .i64 v.exn) := ⟨H5.out.bx.lt, H5.out.bx.cell 0, H5.out.bx.cell 1, H5.out.bx.cell 2, H5.out.bx.cell 3, H5.out.bx.cell 4, H5.out.bx.cell 5, H5.out.bx.cell 6⟩
  go_wp2_with fail
  refine (number_any v.main H5.out.wr (by rw [HP.out.main]; exact HP.out.in_main.1) (by rw [HP.out.main]; exact HP.out.in_main.2) (by have := HX.out; simp only [M.bImg, M.num, List.length_append] at this ⊢; omega)).mono ?_; rintro e w6 ⟨rfl, v6, k6⟩
  have H6 := Lib.hid (H5.out.next v6 k6)
  clear v6 k6
  clear bl b0 b1 b2 b3 b4 b5 b6
  obtain ⟨bl, b0, b1, b2, b3, b4, b5, b6⟩ : w.heap.size < w6.heap.size ∧ w6.cell? ⟨w.heap.size, 0, none⟩ = some (.slice v.ta v.tn v.tc) ∧ w6.cell? ⟨w.heap.size, 1, none⟩ = some (.slice v.sa v.sn v.sc) ∧ w6.cell? ⟨w.heap.size, 2, none⟩ = some (.slice v.xa v.xn v.xc) ∧ w6.cell? ⟨w.heap.size, 3, none⟩ = some (.slice v.na v.nn v.nc) ∧ w6.cell? ⟨w.heap.size, 4, none⟩ = some (.slice v.fa v.fn v.fc) ∧ w6.cell? ⟨w.heap.size, 5, none⟩ = some (.int .i64 v.main) ∧ w6.cell? ⟨w.heap.size, 6, none⟩ = some (.int .i64 v.exn) := ⟨H6.out.bx.lt, H6.out.bx.cell 0, H6.out.bx.cell 1, H6.out.bx.cell 2, H6.out.bx.cell 3, H6.out.bx.cell 4, H6.out.bx.cell 5, H6.out.bx.cell 6⟩
  go_wp2_with fail
  refine (number_any v.exn H6.out.wr (by rw [HP.out.exn]; exact HP.out.in_exn.1) (by rw [HP.out.exn]; exact HP.out.in_exn.2) (by have := HX.out; have e1 := HP.out.main; simp only [M.bImg, M.num, List.length_append, e1] at this ⊢; omega)).mono ?_; rintro e w7 ⟨rfl, v7, k7⟩
  have H7 := Lib.hid (H6.out.next v7 k7)
  clear v7 k7
  clear bl b0 b1 b2 b3 b4 b5 b6
  go_wp2_with fail
  go_end0
  refine ⟨rfl, ?_, H7.out.wo⟩
  have := H7.out.wr
  rw [HP.out.main, HP.out.exn] at this
  simpa only [M.bImg, M.num, List.append_assoc] using this
end Go.Proofs.YthlifflapgccbaaGreat
