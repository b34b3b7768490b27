/- Encode of any image. -/
import Derived.Test.YthlifflapgccbaaGreatWrImage
import Derived.Test.YthlifflapgccbaaGreatRefBytes
namespace Go.Proofs.YthlifflapgccbaaGreat
set_option linter.unusedVariables false
set_option linter.unusedSimpArgs false
open Go.ChangeShapes Go.WideShapes Go.ChangeAt Go.RowKit
open M (W)
set_option maxRecDepth 100000 in
theorem encode_bad {B : Nat} {w : World} {v : ImgV} {m : M.Img} (hB : B ≤ w.heap.size) (hp : ImgIs B w v m) (hw : M.size m ≤ 1000000000) (hr : M.check m ≠ 0) :
    Calls Tryz.prog 26 #[.agg #[.slice v.ta v.tn v.tc, .slice v.sa v.sn v.sc, .slice v.xa v.xn v.xc, .slice v.na v.nn v.nc, .slice v.fa v.fn v.fc, .int .i64 v.main, .int .i64 v.exn]] w fun e w' => e = .returned (.tuple #[.slice none 0 0, .int .i64 (M.check m)]) ∧ Still w w' := by
  have hS : Still w (w.alloc (.cells #[.slice v.ta v.tn v.tc, .slice v.sa v.sn v.sc, .slice v.xa v.xn v.xc, .slice v.na v.nn v.nc, .slice v.fa v.fn v.fc, .int .i64 v.main, .int .i64 v.exn] 28)) := (Still.refl w).alloc _
  have HC := Lib.hid (check_any (Nat.le_trans hB hS.size) (hp.keep ((Still.below hS).mono hB) hB) hw)
  have HS := Lib.hid hS
  clear hp hw hB hS
  generalize M.check m = r at *
  have hr0 : (r == (0 : Int)) = false := beq_eq_false_iff_ne.2 hr
  have hr1 : (r != (0 : Int)) = true := by simp [bne, hr0]
  clear hr
  obtain ⟨ta, tn, tc, sa, sn, sc, xa, xn, xc, na, nn, nc, fa, fn, fc, mi, ei⟩ := v
  dsimp only at HC HS ⊢
  go_enter Tryz.func26, Tryz.ntmps26
  go_wp2_with fail
  refine HC.out.mono ?_; rintro e w2 ⟨rfl, t2⟩
  have HT := Lib.hid (HS.out.trans t2)
  clear t2
  go_wp2_with fail
  go_ret2
  exact ⟨rfl, HT.out⟩
set_option maxRecDepth 100000 in
theorem encode_good {B : Nat} {w : World} {v : ImgV} {m : M.Img} (hB : B ≤ w.heap.size) (hp : ImgIs B w v m) (hw : M.size m ≤ 1000000000) (hx : (M.bImg m).length ≤ 100000000) (hr : M.check m = 0) :
    Calls Tryz.prog 26 #[.agg #[.slice v.ta v.tn v.tc, .slice v.sa v.sn v.sc, .slice v.xa v.xn v.xc, .slice v.na v.nn v.nc, .slice v.fa v.fn v.fc, .int .i64 v.main, .int .i64 v.exn]] w fun e w' => ∃ a c, e = .returned (.tuple #[.slice a (M.bel4 ++ M.bImg m).length c, .int .i64 0]) ∧ w'.ownsRow B 5 1 (.slice a (M.bel4 ++ M.bImg m).length c) (M.bel4 ++ M.bImg m).length ((M.bel4 ++ M.bImg m).map (Value.int .u8)) ∧ Below B w w' := by
  have hS : Still w (w.alloc (.cells #[.slice v.ta v.tn v.tc, .slice v.sa v.sn v.sc, .slice v.xa v.xn v.xc, .slice v.na v.nn v.nc, .slice v.fa v.fn v.fc, .int .i64 v.main, .int .i64 v.exn] 28)) := (Still.refl w).alloc _
  have hc := check_any (Nat.le_trans hB hS.size) (hp.keep ((Still.below hS).mono hB) hB) hw
  rw [hr] at hc
  have HC := Lib.hid hc
  have HS := Lib.hid hS
  have HB := Lib.hid hB
  have HIMG := Lib.hid (fun W g (hW : Below B w W) (hl : Lit B W g M.bel4) => image_any hl (Nat.le_trans hB hW.size) (hp.keep hW hB) (by have h4 : M.bel4.length = 4 := rfl; rw [List.length_append, h4]; omega))
  clear hp hw hB hS hc hr hx
  obtain ⟨ta, tn, tc, sa, sn, sc, xa, xn, xc, na, nn, nc, fa, fn, fc, mi, ei⟩ := v
  dsimp only at HC HS HIMG ⊢
  generalize M.bImg m = bi at *
  go_enter Tryz.func26, Tryz.ntmps26
  go_wp2_with fail
  refine HC.out.mono ?_; rintro e w2 ⟨rfl, t2⟩
  have HT := Lib.hid (HS.out.trans t2)
  have HBX := Lib.hid (t2.blk (Blk.new w 28 #[.slice ta tn tc, .slice sa sn sc, .slice xa xn xc, .slice na nn nc, .slice fa fn fc, .int .i64 mi, .int .i64 ei]))
  clear t2
  obtain ⟨b0, b1, b2, b3, b4, b5, b6, b7⟩ := imgBox HBX.out
  have hcv := Go.Joins.run_convert_bytes_const_at (P := Tryz.prog) w2 22 5 #[.int .u8 66, .int .u8 69, .int .u8 76, .int .u8 49] 4 4 w2.heap.size rfl Tryz.underlying22 Tryz.underlying5
  go_wp2_with fail
  have hW : Still w2 ((w2.alloc (.cells #[.int .u8 66, .int .u8 69, .int .u8 76, .int .u8 49] 5 (4, 5))).alloc (.cells #[.slice (some ⟨w2.heap.size, 0, none⟩) 4 4] 95)) := ((Still.refl w2).alloc _).alloc _
  have hb1 : Blk ((w2.alloc (.cells #[.int .u8 66, .int .u8 69, .int .u8 76, .int .u8 49] 5 (4, 5))).alloc (.cells #[.slice (some ⟨w2.heap.size, 0, none⟩) 4 4] 95)) (w2.heap.size + 1) 95 #[.slice (some ⟨w2.heap.size, 0, none⟩) 4 4] := by
    have := Blk.new (w2.alloc (.cells #[.int .u8 66, .int .u8 69, .int .u8 76, .int .u8 49] 5 (4, 5))) 95 #[.slice (some ⟨w2.heap.size, 0, none⟩) 4 4]
    rwa [show (w2.alloc (.cells #[.int .u8 66, .int .u8 69, .int .u8 76, .int .u8 49] 5 (4, 5))).heap.size = w2.heap.size + 1 by simp] at this
  have hle2 : B ≤ w2.heap.size := Nat.le_trans HB.out HT.out.size
  have hlit : Lit B ((w2.alloc (.cells #[.int .u8 66, .int .u8 69, .int .u8 76, .int .u8 49] 5 (4, 5))).alloc (.cells #[.slice (some ⟨w2.heap.size, 0, none⟩) 4 4] 95)) (w2.heap.size + 1) M.bel4 := ⟨⟨w2.heap.size, hb1, hle2, by simp; omega, fun j u hj => by
    rw [Still.cell ((Still.refl (w2.alloc (.cells #[.int .u8 66, .int .u8 69, .int .u8 76, .int .u8 49] 5 (4, 5)))).alloc _) (p := ⟨w2.heap.size, j, none⟩) (by simp)]
    rw [Go.Joins.cell_alloc_mark_at w2 _ _ _ _ j rfl]
    simpa [M.bel4] using hj⟩, by omega⟩
  have hbel := (Still.below (HT.out.trans hW)).mono HB.out
  have HBEL := Lib.hid hbel
  refine (HIMG.out _ _ hbel hlit).mono ?_; rintro e w3 ⟨rfl, hw3, hk3⟩
  obtain ⟨a, c, hb3, ho3⟩ := hw3.ex
  have c30 : w3.cell? ⟨w2.heap.size + 1, 0, none⟩ = some (.slice a (M.bel4 ++ bi).length c) := hb3.cell 0
  have c3l : w2.heap.size + 1 < w3.heap.size := hb3.lt
  have HO3 := Lib.hid ho3
  have HK3 := Lib.hid hk3
  clear hw3 hb3 ho3 hk3 hlit hb1 hbel hW b0 b1 b2 b3 b4 b5 b6 b7
  generalize hkk : (M.bel4 ++ bi).length = kk at c30 HO3
  have HKK := Lib.hid hkk
  clear hkk
  go_wp2_with fail
  go_ret2
  have hkk := HKK.out
  subst hkk
  exact ⟨a, c, rfl, HO3.out, HBEL.out.trans HK3.out.below⟩
end Go.Proofs.YthlifflapgccbaaGreat
