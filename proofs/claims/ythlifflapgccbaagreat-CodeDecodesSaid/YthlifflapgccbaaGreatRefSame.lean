/- CodeSame, for any two images. -/
import Derived.Test.YthlifflapgccbaaGreatRefBytes
import Derived.Test.YthlifflapgccbaaGreatLight
import Derived.Test.YthlifflapgccbaaGreatRefCheck
import Derived.Test.YthlifflapgccbaaGreatL05
import Derived.Test.YthlifflapgccbaaGreatL07
import Derived.Test.YthlifflapgccbaaGreatL09
import Derived.Deep.RegionHeld3
namespace Go.Proofs.YthlifflapgccbaaGreat
set_option linter.unusedVariables false
set_option linter.unusedSimpArgs false
open Go.ChangeShapes Go.WideShapes Go.ChangeAt Go.RowKit
open M (W)
namespace M
def Bd (l : List Int) : Prop := ∀ c ∈ l, 0 ≤ c ∧ c ≤ 255
theorem Bd.app {l m : List Int} (h : Bd l) (k : Bd m) : Bd (l ++ m) := fun c hc => (List.mem_append.1 hc).elim (h c) (k c)
theorem Bd.flat {α : Type} {f : α → List Int} (h : ∀ x, Bd (f x)) (l : List α) : Bd (l.flatMap f) := fun c hc => by
  obtain ⟨x, _, hx⟩ := List.mem_flatMap.1 hc
  exact h x c hx
theorem bd_num (n : Int) : Bd (num n) := enc_bd (zig n)
theorem bd_many {α : Type} {f : α → List Int} (h : ∀ x, Bd (f x)) (l : List α) : Bd (many f l) := (bd_num _).app (Bd.flat h l)
theorem bd_chars (s : ByteArray) : Bd (chars s) := fun c hc => by
  unfold chars at hc
  obtain ⟨b, _, rfl⟩ := List.mem_map.1 hc
  have := b.toNat_lt
  omega
theorem bd_text (s : ByteArray) : Bd (text s) := (bd_num _).app (bd_chars s)
theorem bd_field (x : Ins) (c : UInt8) : Bd (field x c) := by
  unfold field
  repeat' split
  all_goals first | exact bd_num _ | exact bd_many bd_num _
theorem bd_Ins (x : Ins) : Bd (bIns x) := (bd_num _).app (Bd.flat (bd_field x) _)
theorem bd_Bk (b : Bk) : Bd (bBk b) := (bd_many bd_num _).app (bd_many bd_Ins _)
theorem bd_Fn (f : Fn) : Bd (bFn f) := (((bd_many bd_num _).app (bd_num _)).app (bd_num _)).app (bd_many bd_Bk _)
theorem bd_Img (m : Img) : Bd (bImg m) :=
  ((((((bd_many (fun t => (bd_num _).app (bd_many bd_num _)) _).app (bd_many (fun s => ((bd_num _).app (bd_many bd_num _)).app (bd_text _)) _)).app (bd_many bd_text _)).app (bd_many bd_text _)).app (bd_many bd_Fn _)).app (bd_num _)).app (bd_num _)
theorem bytes_inj {l m : List Int} (hl : Bd l) (hm : Bd m) (h : strOfNums l = strOfNums m) : l = m := by
  have h1 : (strOfNums l).data.toList = (strOfNums m).data.toList := by rw [h]
  have key : ∀ l : List Int, Bd l → (strOfNums l).data.toList.map (fun c => (c.toNat : Int)) = l := fun l hl => by
    have e : (strOfNums l).data.toList = l.map fun n => UInt8.ofNat n.toNat := by
      unfold strOfNums
      simp
    rw [e, List.map_map]
    refine (List.map_congr_left (fun c hc => ?_)).trans (List.map_id l)
    have := hl c hc
    simp
    omega
  rw [← key l hl, ← key m hm, h1]
theorem img_inj {a b : Img} (ha : okImg a) (hb : okImg b) (h : bImg a = bImg b) : a = b := (pre_Img a b [] [] ha hb (by rw [h])).1
end M
set_option maxRecDepth 100000 in
set_option maxHeartbeats 8000000 in
theorem refSame_any {u v : ImgV} {ma mb : M.Img} {w : World} (h1 : ImgIs w.heap.size w u ma) (h2 : ImgIs w.heap.size w v mb) (l1 : (M.bImg ma).length ≤ 100000000) (l2 : (M.bImg mb).length ≤ 100000000) :
    Calls Tryz.prog 6 #[.agg #[.slice u.ta u.tn u.tc, .slice u.sa u.sn u.sc, .slice u.xa u.xn u.xc, .slice u.na u.nn u.nc, .slice u.fa u.fn u.fc, .int .i64 u.main, .int .i64 u.exn], .agg #[.slice v.ta v.tn v.tc, .slice v.sa v.sn v.sc, .slice v.xa v.xn v.xc, .slice v.na v.nn v.nc, .slice v.fa v.fn v.fc, .int .i64 v.main, .int .i64 v.exn]] w fun e w' => e = .returned (.bool ((strOfNums (M.bel4 ++ M.bImg ma)).toList == (strOfNums (M.bel4 ++ M.bImg mb)).toList)) ∧ Below w.heap.size w w' := by
  have HA := Lib.hid (fun W (hW : Below w.heap.size w W) => bytes_any (Nat.le_refl _) (h1.later hW) l1)
  have HBY := Lib.hid (fun W (hW : Below w.heap.size w W) => bytes_any (Nat.le_refl _) (h2.later hW) l2)
  clear h1 h2 l1 l2
  obtain ⟨ta, tn, tc, sa, sn, sc, xa, xn, xc, na, nn, nc, fa, fn, fc, mi, ei⟩ := u
  obtain ⟨ta', tn', tc', sa', sn', sc', xa', xn', xc', na', nn', nc', fa', fn', fc', mi', ei'⟩ := v
  dsimp only at HA HBY ⊢
  generalize M.bel4 ++ M.bImg ma = XA at *
  generalize M.bel4 ++ M.bImg mb = XB at *
  have hb0 : Below w.heap.size w ((w.alloc (.cells #[.slice ta tn tc, .slice sa sn sc, .slice xa xn xc, .slice na nn nc, .slice fa fn fc, .int .i64 mi, .int .i64 ei] 28)).alloc (.cells #[.slice ta' tn' tc', .slice sa' sn' sc', .slice xa' xn' xc', .slice na' nn' nc', .slice fa' fn' fc', .int .i64 mi', .int .i64 ei'] 28)).drew := Still.below ((((Still.refl w).alloc _).alloc _).drew)
  have hx0 : Blk ((w.alloc (.cells #[.slice ta tn tc, .slice sa sn sc, .slice xa xn xc, .slice na nn nc, .slice fa fn fc, .int .i64 mi, .int .i64 ei] 28)).alloc (.cells #[.slice ta' tn' tc', .slice sa' sn' sc', .slice xa' xn' xc', .slice na' nn' nc', .slice fa' fn' fc', .int .i64 mi', .int .i64 ei'] 28)).drew w.heap.size 28 #[.slice ta tn tc, .slice sa sn sc, .slice xa xn xc, .slice na nn nc, .slice fa fn fc, .int .i64 mi, .int .i64 ei] := (Blk.new w _ _).alloc _
  have hy0 : Blk ((w.alloc (.cells #[.slice ta tn tc, .slice sa sn sc, .slice xa xn xc, .slice na nn nc, .slice fa fn fc, .int .i64 mi, .int .i64 ei] 28)).alloc (.cells #[.slice ta' tn' tc', .slice sa' sn' sc', .slice xa' xn' xc', .slice na' nn' nc', .slice fa' fn' fc', .int .i64 mi', .int .i64 ei'] 28)).drew (w.heap.size + 1) 28 #[.slice ta' tn' tc', .slice sa' sn' sc', .slice xa' xn' xc', .slice na' nn' nc', .slice fa' fn' fc', .int .i64 mi', .int .i64 ei'] := Blk.new2'
  have HB0 := Lib.hid hb0
  have HX0 := Lib.hid hx0
  have HY0 := Lib.hid hy0
  have g0 : ((w.alloc (.cells #[.slice ta tn tc, .slice sa sn sc, .slice xa xn xc, .slice na nn nc, .slice fa fn fc, .int .i64 mi, .int .i64 ei] 28)).alloc (.cells #[.slice ta' tn' tc', .slice sa' sn' sc', .slice xa' xn' xc', .slice na' nn' nc', .slice fa' fn' fc', .int .i64 mi', .int .i64 ei'] 28)).drew.cell? ⟨w.heap.size, 0, none⟩ = some (.slice ta tn tc) := hx0.cell 0
  have g1 : ((w.alloc (.cells #[.slice ta tn tc, .slice sa sn sc, .slice xa xn xc, .slice na nn nc, .slice fa fn fc, .int .i64 mi, .int .i64 ei] 28)).alloc (.cells #[.slice ta' tn' tc', .slice sa' sn' sc', .slice xa' xn' xc', .slice na' nn' nc', .slice fa' fn' fc', .int .i64 mi', .int .i64 ei'] 28)).drew.cell? ⟨w.heap.size, 1, none⟩ = some (.slice sa sn sc) := hx0.cell 1
  have g2 : ((w.alloc (.cells #[.slice ta tn tc, .slice sa sn sc, .slice xa xn xc, .slice na nn nc, .slice fa fn fc, .int .i64 mi, .int .i64 ei] 28)).alloc (.cells #[.slice ta' tn' tc', .slice sa' sn' sc', .slice xa' xn' xc', .slice na' nn' nc', .slice fa' fn' fc', .int .i64 mi', .int .i64 ei'] 28)).drew.cell? ⟨w.heap.size, 2, none⟩ = some (.slice xa xn xc) := hx0.cell 2
  have g3 : ((w.alloc (.cells #[.slice ta tn tc, .slice sa sn sc, .slice xa xn xc, .slice na nn nc, .slice fa fn fc, .int .i64 mi, .int .i64 ei] 28)).alloc (.cells #[.slice ta' tn' tc', .slice sa' sn' sc', .slice xa' xn' xc', .slice na' nn' nc', .slice fa' fn' fc', .int .i64 mi', .int .i64 ei'] 28)).drew.cell? ⟨w.heap.size, 3, none⟩ = some (.slice na nn nc) := hx0.cell 3
  have g4 : ((w.alloc (.cells #[.slice ta tn tc, .slice sa sn sc, .slice xa xn xc, .slice na nn nc, .slice fa fn fc, .int .i64 mi, .int .i64 ei] 28)).alloc (.cells #[.slice ta' tn' tc', .slice sa' sn' sc', .slice xa' xn' xc', .slice na' nn' nc', .slice fa' fn' fc', .int .i64 mi', .int .i64 ei'] 28)).drew.cell? ⟨w.heap.size, 4, none⟩ = some (.slice fa fn fc) := hx0.cell 4
  have g5 : ((w.alloc (.cells #[.slice ta tn tc, .slice sa sn sc, .slice xa xn xc, .slice na nn nc, .slice fa fn fc, .int .i64 mi, .int .i64 ei] 28)).alloc (.cells #[.slice ta' tn' tc', .slice sa' sn' sc', .slice xa' xn' xc', .slice na' nn' nc', .slice fa' fn' fc', .int .i64 mi', .int .i64 ei'] 28)).drew.cell? ⟨w.heap.size, 5, none⟩ = some (.int .i64 mi) := hx0.cell 5
  have g6 : ((w.alloc (.cells #[.slice ta tn tc, .slice sa sn sc, .slice xa xn xc, .slice na nn nc, .slice fa fn fc, .int .i64 mi, .int .i64 ei] 28)).alloc (.cells #[.slice ta' tn' tc', .slice sa' sn' sc', .slice xa' xn' xc', .slice na' nn' nc', .slice fa' fn' fc', .int .i64 mi', .int .i64 ei'] 28)).drew.cell? ⟨w.heap.size, 6, none⟩ = some (.int .i64 ei) := hx0.cell 6
  have g7 : ((w.alloc (.cells #[.slice ta tn tc, .slice sa sn sc, .slice xa xn xc, .slice na nn nc, .slice fa fn fc, .int .i64 mi, .int .i64 ei] 28)).alloc (.cells #[.slice ta' tn' tc', .slice sa' sn' sc', .slice xa' xn' xc', .slice na' nn' nc', .slice fa' fn' fc', .int .i64 mi', .int .i64 ei'] 28)).drew.cell? ⟨w.heap.size + 1, 0, none⟩ = some (.slice ta' tn' tc') := hy0.cell 0
  have g8 : ((w.alloc (.cells #[.slice ta tn tc, .slice sa sn sc, .slice xa xn xc, .slice na nn nc, .slice fa fn fc, .int .i64 mi, .int .i64 ei] 28)).alloc (.cells #[.slice ta' tn' tc', .slice sa' sn' sc', .slice xa' xn' xc', .slice na' nn' nc', .slice fa' fn' fc', .int .i64 mi', .int .i64 ei'] 28)).drew.cell? ⟨w.heap.size + 1, 1, none⟩ = some (.slice sa' sn' sc') := hy0.cell 1
  have g9 : ((w.alloc (.cells #[.slice ta tn tc, .slice sa sn sc, .slice xa xn xc, .slice na nn nc, .slice fa fn fc, .int .i64 mi, .int .i64 ei] 28)).alloc (.cells #[.slice ta' tn' tc', .slice sa' sn' sc', .slice xa' xn' xc', .slice na' nn' nc', .slice fa' fn' fc', .int .i64 mi', .int .i64 ei'] 28)).drew.cell? ⟨w.heap.size + 1, 2, none⟩ = some (.slice xa' xn' xc') := hy0.cell 2
  have g10 : ((w.alloc (.cells #[.slice ta tn tc, .slice sa sn sc, .slice xa xn xc, .slice na nn nc, .slice fa fn fc, .int .i64 mi, .int .i64 ei] 28)).alloc (.cells #[.slice ta' tn' tc', .slice sa' sn' sc', .slice xa' xn' xc', .slice na' nn' nc', .slice fa' fn' fc', .int .i64 mi', .int .i64 ei'] 28)).drew.cell? ⟨w.heap.size + 1, 3, none⟩ = some (.slice na' nn' nc') := hy0.cell 3
  have g11 : ((w.alloc (.cells #[.slice ta tn tc, .slice sa sn sc, .slice xa xn xc, .slice na nn nc, .slice fa fn fc, .int .i64 mi, .int .i64 ei] 28)).alloc (.cells #[.slice ta' tn' tc', .slice sa' sn' sc', .slice xa' xn' xc', .slice na' nn' nc', .slice fa' fn' fc', .int .i64 mi', .int .i64 ei'] 28)).drew.cell? ⟨w.heap.size + 1, 4, none⟩ = some (.slice fa' fn' fc') := hy0.cell 4
  have g12 : ((w.alloc (.cells #[.slice ta tn tc, .slice sa sn sc, .slice xa xn xc, .slice na nn nc, .slice fa fn fc, .int .i64 mi, .int .i64 ei] 28)).alloc (.cells #[.slice ta' tn' tc', .slice sa' sn' sc', .slice xa' xn' xc', .slice na' nn' nc', .slice fa' fn' fc', .int .i64 mi', .int .i64 ei'] 28)).drew.cell? ⟨w.heap.size + 1, 5, none⟩ = some (.int .i64 mi') := hy0.cell 5
  have g13 : ((w.alloc (.cells #[.slice ta tn tc, .slice sa sn sc, .slice xa xn xc, .slice na nn nc, .slice fa fn fc, .int .i64 mi, .int .i64 ei] 28)).alloc (.cells #[.slice ta' tn' tc', .slice sa' sn' sc', .slice xa' xn' xc', .slice na' nn' nc', .slice fa' fn' fc', .int .i64 mi', .int .i64 ei'] 28)).drew.cell? ⟨w.heap.size + 1, 6, none⟩ = some (.int .i64 ei') := hy0.cell 6
  clear hb0 hx0 hy0
  go_enter Tryz.func6, Tryz.ntmps6
  go_wp2_with fail
  refine wp_region_held_drew (S := fun W => W.cell? ⟨w.heap.size, 0, none⟩ = some (.slice ta tn tc) ∧ W.cell? ⟨w.heap.size, 1, none⟩ = some (.slice sa sn sc) ∧ W.cell? ⟨w.heap.size, 2, none⟩ = some (.slice xa xn xc) ∧ W.cell? ⟨w.heap.size, 3, none⟩ = some (.slice na nn nc) ∧ W.cell? ⟨w.heap.size, 4, none⟩ = some (.slice fa fn fc) ∧ W.cell? ⟨w.heap.size, 5, none⟩ = some (.int .i64 mi) ∧ W.cell? ⟨w.heap.size, 6, none⟩ = some (.int .i64 ei) ∧ W.cell? ⟨w.heap.size + 1, 0, none⟩ = some (.slice ta' tn' tc') ∧ W.cell? ⟨w.heap.size + 1, 1, none⟩ = some (.slice sa' sn' sc') ∧ W.cell? ⟨w.heap.size + 1, 2, none⟩ = some (.slice xa' xn' xc') ∧ W.cell? ⟨w.heap.size + 1, 3, none⟩ = some (.slice na' nn' nc') ∧ W.cell? ⟨w.heap.size + 1, 4, none⟩ = some (.slice fa' fn' fc') ∧ W.cell? ⟨w.heap.size + 1, 5, none⟩ = some (.int .i64 mi') ∧ W.cell? ⟨w.heap.size + 1, 6, none⟩ = some (.int .i64 ei')) (by kernel_rfl) ?_ (fun hHeld => ?_)
  · exact ⟨g0, g1, g2, g3, g4, g5, g6, g7, g8, g9, g10, g11, g12, g13⟩
  try simp only [Act.put, List.getElem_toArray, List.getElem_cons_succ, List.getElem_cons_zero, List.setIfInBounds_toArray, List.set_cons_zero, List.set_cons_succ]
  refine wpAnyH_take (i := 0) (v := ?_) rfl (by kernel_rfl) (by kernel_rfl) (by kernel_rfl) (fun _ _ _ h => h) (Or.inl ⟨by rfl, ?_⟩) (by assumption) ?_
  rotate_left
  · intro w hSw; (try dsimp only at hSw); go_simp; try with_reducible rfl
  try simp only [Act.put, List.getElem_toArray, List.getElem_cons_succ, List.getElem_cons_zero, List.setIfInBounds_toArray, List.set_cons_zero, List.set_cons_succ]
  refine wpAnyH_take (i := 3) (v := ?_) rfl (by kernel_rfl) (by kernel_rfl) (by kernel_rfl) (fun _ _ _ h => h) (Or.inl ⟨by rfl, ?_⟩) (by assumption) ?_
  rotate_left
  · intro w hSw; (try dsimp only at hSw); go_simp; try with_reducible rfl
  try simp only [Act.put, List.getElem_toArray, List.getElem_cons_succ, List.getElem_cons_zero, List.setIfInBounds_toArray, List.set_cons_zero, List.set_cons_succ]
  refine wpAnyH_ready (rs := [1]) (by kernel_rfl) (by simp) ?_
  refine AllReadyH.cons rfl (fun K hK => ?_) AllReadyH.nil
  go_simp
  refine (HA.out _ HB0.out).mono ?_; rintro e x1 ⟨z1, rfl, hz1, bz1⟩
  obtain ⟨a1, c1, rfl, ho1⟩ := hz1
  have HB1 := Lib.hid (below_next HB0.out bz1)
  have hx1 := Below.blk bz1 HX0.out
  have hy1 := Below.blk bz1 HY0.out
  have HX1 := Lib.hid hx1
  have HY1 := Lib.hid hy1
  have HO1 := Lib.hid ho1
  have cv1 := own_string ho1
  have q0 : x1.cell? ⟨w.heap.size, 0, none⟩ = some (.slice ta tn tc) := hx1.cell 0
  have q1 : x1.cell? ⟨w.heap.size, 1, none⟩ = some (.slice sa sn sc) := hx1.cell 1
  have q2 : x1.cell? ⟨w.heap.size, 2, none⟩ = some (.slice xa xn xc) := hx1.cell 2
  have q3 : x1.cell? ⟨w.heap.size, 3, none⟩ = some (.slice na nn nc) := hx1.cell 3
  have q4 : x1.cell? ⟨w.heap.size, 4, none⟩ = some (.slice fa fn fc) := hx1.cell 4
  have q5 : x1.cell? ⟨w.heap.size, 5, none⟩ = some (.int .i64 mi) := hx1.cell 5
  have q6 : x1.cell? ⟨w.heap.size, 6, none⟩ = some (.int .i64 ei) := hx1.cell 6
  have q7 : x1.cell? ⟨w.heap.size + 1, 0, none⟩ = some (.slice ta' tn' tc') := hy1.cell 0
  have q8 : x1.cell? ⟨w.heap.size + 1, 1, none⟩ = some (.slice sa' sn' sc') := hy1.cell 1
  have q9 : x1.cell? ⟨w.heap.size + 1, 2, none⟩ = some (.slice xa' xn' xc') := hy1.cell 2
  have q10 : x1.cell? ⟨w.heap.size + 1, 3, none⟩ = some (.slice na' nn' nc') := hy1.cell 3
  have q11 : x1.cell? ⟨w.heap.size + 1, 4, none⟩ = some (.slice fa' fn' fc') := hy1.cell 4
  have q12 : x1.cell? ⟨w.heap.size + 1, 5, none⟩ = some (.int .i64 mi') := hy1.cell 5
  have q13 : x1.cell? ⟨w.heap.size + 1, 6, none⟩ = some (.int .i64 ei') := hy1.cell 6
  clear hx1 hy1 ho1 bz1
  refine hK.out _ _ ?_ (fun hHeld => ?_)
  · exact ⟨q0, q1, q2, q3, q4, q5, q6, q7, q8, q9, q10, q11, q12, q13⟩
  clear hK K
  try simp only [Act.put, List.getElem_toArray, List.getElem_cons_succ, List.getElem_cons_zero, List.setIfInBounds_toArray, List.set_cons_zero, List.set_cons_succ]
  refine wpAnyH_ready (rs := [2, 4]) (by kernel_rfl) (by simp) ?_
  refine AllReadyH.cons rfl (fun K hK => ?_) (AllReadyH.cons rfl (fun K hK => ?_) AllReadyH.nil)
  · go_simp
    refine hK.out _ _ ?_ (fun hHeld => ?_)
    · go_keep
    clear hK K
    try simp only [Act.put, List.getElem_toArray, List.getElem_cons_succ, List.getElem_cons_zero, List.setIfInBounds_toArray, List.set_cons_zero, List.set_cons_succ]
    refine wpAnyH_ready (rs := [4]) (by kernel_rfl) (by simp) ?_
    refine AllReadyH.cons rfl (fun K hK => ?_) AllReadyH.nil
    go_simp
    refine (HBY.out _ HB1.out).mono ?_; rintro e x2 ⟨z2, rfl, hz2, bz2⟩
    obtain ⟨a2, c2, rfl, ho2⟩ := hz2
    have HB2 := Lib.hid (below_next HB1.out bz2)
    have hx2 := Below.blk bz2 HX1.out
    have hy2 := Below.blk bz2 HY1.out
    have cv2 := own_string ho2
    have cv3 := own_string (own_later HO1.out bz2)
    have r0 : x2.cell? ⟨w.heap.size, 0, none⟩ = some (.slice ta tn tc) := hx2.cell 0
    have r1 : x2.cell? ⟨w.heap.size, 1, none⟩ = some (.slice sa sn sc) := hx2.cell 1
    have r2 : x2.cell? ⟨w.heap.size, 2, none⟩ = some (.slice xa xn xc) := hx2.cell 2
    have r3 : x2.cell? ⟨w.heap.size, 3, none⟩ = some (.slice na nn nc) := hx2.cell 3
    have r4 : x2.cell? ⟨w.heap.size, 4, none⟩ = some (.slice fa fn fc) := hx2.cell 4
    have r5 : x2.cell? ⟨w.heap.size, 5, none⟩ = some (.int .i64 mi) := hx2.cell 5
    have r6 : x2.cell? ⟨w.heap.size, 6, none⟩ = some (.int .i64 ei) := hx2.cell 6
    have r7 : x2.cell? ⟨w.heap.size + 1, 0, none⟩ = some (.slice ta' tn' tc') := hy2.cell 0
    have r8 : x2.cell? ⟨w.heap.size + 1, 1, none⟩ = some (.slice sa' sn' sc') := hy2.cell 1
    have r9 : x2.cell? ⟨w.heap.size + 1, 2, none⟩ = some (.slice xa' xn' xc') := hy2.cell 2
    have r10 : x2.cell? ⟨w.heap.size + 1, 3, none⟩ = some (.slice na' nn' nc') := hy2.cell 3
    have r11 : x2.cell? ⟨w.heap.size + 1, 4, none⟩ = some (.slice fa' fn' fc') := hy2.cell 4
    have r12 : x2.cell? ⟨w.heap.size + 1, 5, none⟩ = some (.int .i64 mi') := hy2.cell 5
    have r13 : x2.cell? ⟨w.heap.size + 1, 6, none⟩ = some (.int .i64 ei') := hy2.cell 6
    clear hx2 hy2 ho2 bz2
    refine hK.out _ _ ?_ (fun hHeld => ?_)
    · exact ⟨r0, r1, r2, r3, r4, r5, r6, r7, r8, r9, r10, r11, r12, r13⟩
    clear hK K
    try simp only [Act.put, List.getElem_toArray, List.getElem_cons_succ, List.getElem_cons_zero, List.setIfInBounds_toArray, List.set_cons_zero, List.set_cons_succ]
    refine wpAnyH_ready (rs := [5]) (by kernel_rfl) (by simp) ?_
    refine AllReadyH.cons rfl (fun K hK => ?_) AllReadyH.nil
    go_simp
    refine hK.out _ _ ?_ (fun hHeld => ?_)
    · go_keep
    clear hK K
    try simp only [Act.put, List.getElem_toArray, List.getElem_cons_succ, List.getElem_cons_zero, List.setIfInBounds_toArray, List.set_cons_zero, List.set_cons_succ]
    refine wpAnyH_take (i := 6) (v := ?_) rfl (by kernel_rfl) (by kernel_rfl) (by kernel_rfl) (fun _ _ _ h => h) (Or.inl ⟨by rfl, ?_⟩) (by assumption) ?_
    rotate_left
    · intro w hSw; (try dsimp only at hSw); go_simp; try with_reducible rfl
    try simp only [Act.put, List.getElem_toArray, List.getElem_cons_succ, List.getElem_cons_zero, List.setIfInBounds_toArray, List.set_cons_zero, List.set_cons_succ]
    refine wpAnyH_take (i := 7) (v := ?_) rfl (by kernel_rfl) (by kernel_rfl) (by kernel_rfl) (fun _ _ _ h => h) (Or.inl ⟨by rfl, ?_⟩) (by assumption) ?_
    rotate_left
    · intro w hSw; (try dsimp only at hSw); go_simp; try with_reducible rfl
    try simp only [Act.put, List.getElem_toArray, List.getElem_cons_succ, List.getElem_cons_zero, List.setIfInBounds_toArray, List.set_cons_zero, List.set_cons_succ]
    refine wpAnyH_done (by kernel_rfl) ?_ _
    go_wp2_with fail
    go_ret
    exact ⟨rfl, HB2.out⟩
  · go_simp
    refine (HBY.out _ HB1.out).mono ?_; rintro e x2 ⟨z2, rfl, hz2, bz2⟩
    obtain ⟨a2, c2, rfl, ho2⟩ := hz2
    have HB2 := Lib.hid (below_next HB1.out bz2)
    have hx2 := Below.blk bz2 HX1.out
    have hy2 := Below.blk bz2 HY1.out
    have cv2 := own_string ho2
    have cv3 := own_string (own_later HO1.out bz2)
    have r0 : x2.cell? ⟨w.heap.size, 0, none⟩ = some (.slice ta tn tc) := hx2.cell 0
    have r1 : x2.cell? ⟨w.heap.size, 1, none⟩ = some (.slice sa sn sc) := hx2.cell 1
    have r2 : x2.cell? ⟨w.heap.size, 2, none⟩ = some (.slice xa xn xc) := hx2.cell 2
    have r3 : x2.cell? ⟨w.heap.size, 3, none⟩ = some (.slice na nn nc) := hx2.cell 3
    have r4 : x2.cell? ⟨w.heap.size, 4, none⟩ = some (.slice fa fn fc) := hx2.cell 4
    have r5 : x2.cell? ⟨w.heap.size, 5, none⟩ = some (.int .i64 mi) := hx2.cell 5
    have r6 : x2.cell? ⟨w.heap.size, 6, none⟩ = some (.int .i64 ei) := hx2.cell 6
    have r7 : x2.cell? ⟨w.heap.size + 1, 0, none⟩ = some (.slice ta' tn' tc') := hy2.cell 0
    have r8 : x2.cell? ⟨w.heap.size + 1, 1, none⟩ = some (.slice sa' sn' sc') := hy2.cell 1
    have r9 : x2.cell? ⟨w.heap.size + 1, 2, none⟩ = some (.slice xa' xn' xc') := hy2.cell 2
    have r10 : x2.cell? ⟨w.heap.size + 1, 3, none⟩ = some (.slice na' nn' nc') := hy2.cell 3
    have r11 : x2.cell? ⟨w.heap.size + 1, 4, none⟩ = some (.slice fa' fn' fc') := hy2.cell 4
    have r12 : x2.cell? ⟨w.heap.size + 1, 5, none⟩ = some (.int .i64 mi') := hy2.cell 5
    have r13 : x2.cell? ⟨w.heap.size + 1, 6, none⟩ = some (.int .i64 ei') := hy2.cell 6
    clear hx2 hy2 ho2 bz2
    refine hK.out _ _ ?_ (fun hHeld => ?_)
    · exact ⟨r0, r1, r2, r3, r4, r5, r6, r7, r8, r9, r10, r11, r12, r13⟩
    clear hK K
    try simp only [Act.put, List.getElem_toArray, List.getElem_cons_succ, List.getElem_cons_zero, List.setIfInBounds_toArray, List.set_cons_zero, List.set_cons_succ]
    refine wpAnyH_ready (rs := [2, 5]) (by kernel_rfl) (by simp) ?_
    refine AllReadyH.cons rfl (fun K hK => ?_) (AllReadyH.cons rfl (fun K hK => ?_) AllReadyH.nil)
    · go_simp
      refine hK.out _ _ ?_ (fun hHeld => ?_)
      · go_keep
      clear hK K
      try simp only [Act.put, List.getElem_toArray, List.getElem_cons_succ, List.getElem_cons_zero, List.setIfInBounds_toArray, List.set_cons_zero, List.set_cons_succ]
      refine wpAnyH_ready (rs := [5]) (by kernel_rfl) (by simp) ?_
      refine AllReadyH.cons rfl (fun K hK => ?_) AllReadyH.nil
      go_simp
      refine hK.out _ _ ?_ (fun hHeld => ?_)
      · go_keep
      clear hK K
      try simp only [Act.put, List.getElem_toArray, List.getElem_cons_succ, List.getElem_cons_zero, List.setIfInBounds_toArray, List.set_cons_zero, List.set_cons_succ]
      refine wpAnyH_take (i := 6) (v := ?_) rfl (by kernel_rfl) (by kernel_rfl) (by kernel_rfl) (fun _ _ _ h => h) (Or.inl ⟨by rfl, ?_⟩) (by assumption) ?_
      rotate_left
      · intro w hSw; (try dsimp only at hSw); go_simp; try with_reducible rfl
      try simp only [Act.put, List.getElem_toArray, List.getElem_cons_succ, List.getElem_cons_zero, List.setIfInBounds_toArray, List.set_cons_zero, List.set_cons_succ]
      refine wpAnyH_take (i := 7) (v := ?_) rfl (by kernel_rfl) (by kernel_rfl) (by kernel_rfl) (fun _ _ _ h => h) (Or.inl ⟨by rfl, ?_⟩) (by assumption) ?_
      rotate_left
      · intro w hSw; (try dsimp only at hSw); go_simp; try with_reducible rfl
      try simp only [Act.put, List.getElem_toArray, List.getElem_cons_succ, List.getElem_cons_zero, List.setIfInBounds_toArray, List.set_cons_zero, List.set_cons_succ]
      refine wpAnyH_done (by kernel_rfl) ?_ _
      go_wp2_with fail
      go_ret
      exact ⟨rfl, HB2.out⟩
    · go_simp
      refine hK.out _ _ ?_ (fun hHeld => ?_)
      · go_keep
      clear hK K
      try simp only [Act.put, List.getElem_toArray, List.getElem_cons_succ, List.getElem_cons_zero, List.setIfInBounds_toArray, List.set_cons_zero, List.set_cons_succ]
      refine wpAnyH_ready (rs := [2]) (by kernel_rfl) (by simp) ?_
      refine AllReadyH.cons rfl (fun K hK => ?_) AllReadyH.nil
      go_simp
      refine hK.out _ _ ?_ (fun hHeld => ?_)
      · go_keep
      clear hK K
      try simp only [Act.put, List.getElem_toArray, List.getElem_cons_succ, List.getElem_cons_zero, List.setIfInBounds_toArray, List.set_cons_zero, List.set_cons_succ]
      refine wpAnyH_take (i := 6) (v := ?_) rfl (by kernel_rfl) (by kernel_rfl) (by kernel_rfl) (fun _ _ _ h => h) (Or.inl ⟨by rfl, ?_⟩) (by assumption) ?_
      rotate_left
      · intro w hSw; (try dsimp only at hSw); go_simp; try with_reducible rfl
      try simp only [Act.put, List.getElem_toArray, List.getElem_cons_succ, List.getElem_cons_zero, List.setIfInBounds_toArray, List.set_cons_zero, List.set_cons_succ]
      refine wpAnyH_take (i := 7) (v := ?_) rfl (by kernel_rfl) (by kernel_rfl) (by kernel_rfl) (fun _ _ _ h => h) (Or.inl ⟨by rfl, ?_⟩) (by assumption) ?_
      rotate_left
      · intro w hSw; (try dsimp only at hSw); go_simp; try with_reducible rfl
      try simp only [Act.put, List.getElem_toArray, List.getElem_cons_succ, List.getElem_cons_zero, List.setIfInBounds_toArray, List.set_cons_zero, List.set_cons_succ]
      refine wpAnyH_done (by kernel_rfl) ?_ _
      go_wp2_with fail
      go_ret
      exact ⟨rfl, HB2.out⟩
end Go.Proofs.YthlifflapgccbaaGreat
