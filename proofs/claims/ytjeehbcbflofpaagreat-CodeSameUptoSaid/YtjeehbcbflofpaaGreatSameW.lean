/- CodeSame, for any two images. -/
import Derived.Test.YtjeehbcbflofpaaGreatRefSame
namespace Go.Proofs.YtjeehbcbflofpaaGreat
set_option linter.unusedVariables false
set_option linter.unusedSimpArgs false
open Go.ChangeShapes Go.WideShapes Go.ChangeAt Go.RowKit
open M (W)
/-- What stands while two images are read: their boxes. -/
structure Seen2 (w : World) (C1 C2 : Array Value) (W : World) : Prop where
  still : Still w W
  b1 : Blk W w.heap.size 28 C1
  b2 : Blk W (w.heap.size + 1) 28 C2
theorem Seen2.next {w W W' : World} {C1 C2 : Array Value} (h : Seen2 w C1 C2 W) (t : Still W W') : Seen2 w C1 C2 W' := ⟨h.still.trans t, t.blk h.b1, t.blk h.b2⟩
theorem Seen2.below {w W : World} {C1 C2 : Array Value} (h : Seen2 w C1 C2 W) : Below w.heap.size w W := Still.below h.still
theorem bool_of {b r : Bool} {p : Prop} (hb : b = true ↔ p) (hr : r = true ↔ p) : r = b := by
  cases r <;> cases b <;> simp_all
theorem same_det {B : Nat} {u v : ImgV} {ma mb : M.Img} {w : World} (h1 : ImgIs B w u ma) (h2 : ImgIs B w v mb) (hB : B ≤ w.heap.size) (bb : Bool) (hbb : bb = true ↔ ma = mb) :
    Calls Tryz.prog 9 #[.agg #[.slice u.ta u.tn u.tc, .slice u.sa u.sn u.sc, .slice u.xa u.xn u.xc, .slice u.na u.nn u.nc, .slice u.fa u.fn u.fc, .int .i64 u.main, .int .i64 u.exn], .agg #[.slice v.ta v.tn v.tc, .slice v.sa v.sn v.sc, .slice v.xa v.xn v.xc, .slice v.na v.nn v.nc, .slice v.fa v.fn v.fc, .int .i64 v.main, .int .i64 v.exn]] w fun e w' => e = .returned (.bool bb) ∧ Still w w' :=
  (Same_any h1 h2 hB).mono fun e w' h => by
    obtain ⟨r, he, hr, ht⟩ := h
    exact ⟨by rw [he, bool_of hbb hr], ht⟩
theorem plain_of_check {m : M.Img} (h : M.check m = 0) : M.anyIns (fun x => !(M.plainIns x)) m = false := by
  unfold M.check at h
  cases hq : M.big m <;> cases hk : M.anyIns (fun x => !(M.plainIns x)) m <;> simp_all
theorem bd_bel4 : M.Bd M.bel4 := by intro c hc; simp [M.bel4] at hc; omega
theorem refSame_det {u v : ImgV} {ma mb : M.Img} {w : World} (h1 : ImgIs w.heap.size w u ma) (h2 : ImgIs w.heap.size w v mb) (l1 : (M.bImg ma).length ≤ 100000000) (l2 : (M.bImg mb).length ≤ 100000000) (ca : M.check ma = 0) (cb : M.check mb = 0) (bb : Bool) (hbb : bb = true ↔ ma = mb) :
    Calls Tryz.prog 8 #[.agg #[.slice u.ta u.tn u.tc, .slice u.sa u.sn u.sc, .slice u.xa u.xn u.xc, .slice u.na u.nn u.nc, .slice u.fa u.fn u.fc, .int .i64 u.main, .int .i64 u.exn], .agg #[.slice v.ta v.tn v.tc, .slice v.sa v.sn v.sc, .slice v.xa v.xn v.xc, .slice v.na v.nn v.nc, .slice v.fa v.fn v.fc, .int .i64 v.main, .int .i64 v.exn]] w fun e w' => e = .returned (.bool bb) ∧ Below w.heap.size w w' :=
  (refSame_any h1 h2 l1 l2).mono fun e w' h => by
    obtain ⟨he, ht⟩ := h
    refine ⟨?_, ht⟩
    have hr : ((strOfNums (M.bel4 ++ M.bImg ma)).toList == (strOfNums (M.bel4 ++ M.bImg mb)).toList) = true ↔ ma = mb := by
      constructor
      · intro hs
        exact M.img_inj (h1.ok (plain_of_check ca)) (h2.ok (plain_of_check cb)) (List.append_cancel_left (M.bytes_inj (bd_bel4.app (M.bd_Img ma)) (bd_bel4.app (M.bd_Img mb)) ((str_beq _ _).1 hs)))
      · rintro rfl
        simp
    rw [he, bool_of hbb hr]
set_option maxRecDepth 100000 in
set_option maxHeartbeats 8000000 in
theorem codeSame_w {u v : ImgV} {ma mb : M.Img} {w : World} (h1 : ImgIs w.heap.size w u ma) (h2 : ImgIs w.heap.size w v mb) (f1 : M.fitImg ma) (f2 : M.fitImg mb) :
    Calls Tryz.prog 5 #[.agg #[.slice u.ta u.tn u.tc, .slice u.sa u.sn u.sc, .slice u.xa u.xn u.xc, .slice u.na u.nn u.nc, .slice u.fa u.fn u.fc, .int .i64 u.main, .int .i64 u.exn], .agg #[.slice v.ta v.tn v.tc, .slice v.sa v.sn v.sc, .slice v.xa v.xn v.xc, .slice v.na v.nn v.nc, .slice v.fa v.fn v.fc, .int .i64 v.main, .int .i64 v.exn]] w fun e w' => e = .returned (.bool true) ∧ Below w.heap.size w w' := by
  obtain ⟨bb, hbb⟩ : ∃ bb : Bool, (bb = true ↔ ma = mb) := by
    by_cases h : ma = mb
    · exact ⟨true, iff_of_true rfl h⟩
    · exact ⟨false, iff_of_false (by decide) h⟩
  have HLA := Lib.hid (fun W (hW : Below w.heap.size w W) => light_any (Nat.le_refl _) (h1.later hW) f1)
  have HLB := Lib.hid (fun W (hW : Below w.heap.size w W) => light_any (Nat.le_refl _) (h2.later hW) f2)
  have hla : M.light ma = true → M.wImg ma ≤ 40000 := fun h => of_decide_eq_true h
  have hlb : M.light mb = true → M.wImg mb ≤ 40000 := fun h => of_decide_eq_true h
  have s1 := size_le ma
  have s2 := size_le mb
  have n1 := h1.len
  have n2 := h2.len
  have HSZ := Lib.hid (fun W (hW : Below w.heap.size w W) (h : M.light ma = true) => size_any (Nat.le_refl _) (h1.later hW) (by have := hla h; omega))
  have HCA := Lib.hid (fun W (hW : Below w.heap.size w W) (h : M.light ma = true) => refCheck_any (Nat.le_refl _) (h1.later hW) (by have := hla h; omega))
  have HCB := Lib.hid (fun W (hW : Below w.heap.size w W) (h : M.light mb = true) => refCheck_any (Nat.le_refl _) (h2.later hW) (by have := hlb h; omega))
  have HAA := Lib.hid (fun W (hW : Below w.heap.size w W) => same_det (h1.later hW) (h1.later hW) (Nat.le_refl _) true (iff_of_true rfl rfl))
  have HAB := Lib.hid (fun W (hW : Below w.heap.size w W) => same_det (h1.later hW) (h2.later hW) (Nat.le_refl _) bb hbb)
  have HBA := Lib.hid (fun W (hW : Below w.heap.size w W) => same_det (h2.later hW) (h1.later hW) (Nat.le_refl _) bb (hbb.trans eq_comm))
  have HRS := Lib.hid (fun W (hW : Below w.heap.size w W) (ha : M.light ma = true) (hb : M.light mb = true) (ca : M.check ma = 0) (cb : M.check mb = 0) =>
    refSame_det (h1.later hW) (h2.later hW) (by have := hla ha; omega) (by have := hlb hb; omega) ca cb bb hbb)
  have HSF : Hid (M.size ma = (ma.funcs.map M.sizeFn).sum) := rfl
  have HSM : Hid (M.light ma = true → M.size ma ≤ 1000000000) := fun h => by have := hla h; omega
  have p5 := h1.funcs
  have l5 := h1.le.2.2.2.2
  clear hla hlb s1 s2 n1 n2 h1 h2 f1 f2 hbb
  obtain ⟨ta, tn, tc, sa, sn, sc, xa, xn, xc, na, nn, nc, fa, fn, fc, mi, ei⟩ := u
  obtain ⟨ta', tn', tc', sa', sn', sc', xa', xn', xc', na', nn', nc', fa', fn', fc', mi', ei'⟩ := v
  dsimp only at HLA HLB HSZ HCA HCB HAA HAB HBA HRS p5 l5 ⊢
  have HL := Lib.hid p5
  have HLEN := Lib.hid p5.len
  have hfn : fn ≤ 9223372036854775807 := by unfold maxLen at l5; omega
  have HB : Hid (w.heap.size ≤ w.heap.size) := Nat.le_refl _
  clear p5 l5
  generalize ma.funcs = fl at *
  generalize M.light ma = la at *
  generalize M.light mb = lb at *
  generalize M.check ma = ra at *
  generalize M.check mb = rb at *
  generalize M.size ma = sz at *
  obtain ⟨C1, hC1⟩ : ∃ C1 : Array Value, (#[.slice ta tn tc, .slice sa sn sc, .slice xa xn xc, .slice na nn nc, .slice fa fn fc, .int .i64 mi, .int .i64 ei] : Array Value) = C1 := ⟨_, rfl⟩
  obtain ⟨C2, hC2⟩ : ∃ C2 : Array Value, (#[.slice ta' tn' tc', .slice sa' sn' sc', .slice xa' xn' xc', .slice na' nn' nc', .slice fa' fn' fc', .int .i64 mi', .int .i64 ei'] : Array Value) = C2 := ⟨_, rfl⟩
  have HC1 := Lib.hid hC1
  have HC2 := Lib.hid hC2
  have HS0 : Hid (Seen2 w C1 C2 ((w.alloc (.cells #[.slice ta tn tc, .slice sa sn sc, .slice xa xn xc, .slice na nn nc, .slice fa fn fc, .int .i64 mi, .int .i64 ei] 28)).alloc (.cells #[.slice ta' tn' tc', .slice sa' sn' sc', .slice xa' xn' xc', .slice na' nn' nc', .slice fa' fn' fc', .int .i64 mi', .int .i64 ei'] 28))) := ⟨((Still.refl w).alloc _).alloc _, by rw [← hC1]; exact (Blk.new w _ _).alloc _, by rw [← hC2]; exact Blk.new2'⟩
  clear hC1 hC2
  go_enter Tryz.func5, Tryz.ntmps5
  go_wp2_with fail
  refine (HLA.out _ HS0.out.below).mono ?_; rintro e w1 ⟨rfl, t1⟩
  have HS1 := Lib.hid (HS0.out.next t1)
  clear t1
  have hb1 : Blk w1 w.heap.size 28 #[.slice ta tn tc, .slice sa sn sc, .slice xa xn xc, .slice na nn nc, .slice fa fn fc, .int .i64 mi, .int .i64 ei] := by rw [HC1.out]; exact HS1.out.b1
  have hb2 : Blk w1 (w.heap.size + 1) 28 #[.slice ta' tn' tc', .slice sa' sn' sc', .slice xa' xn' xc', .slice na' nn' nc', .slice fa' fn' fc', .int .i64 mi', .int .i64 ei'] := by rw [HC2.out]; exact HS1.out.b2
  obtain ⟨a0, a1, a2, a3, a4, a5, a6, a7⟩ := imgBox hb1
  obtain ⟨b0, b1, b2, b3, b4, b5, b6, b7⟩ := imgBox hb2
  clear hb1 hb2
  cases la with
  | false =>
    go_wp2_with fail
    refine (lives4_any _).mono ?_; rintro e w2 ⟨rfl, t2⟩
    have HE := Lib.hid (below_next HS1.out.below t2)
    clear t2
    go_wp2_with fail
    go_ret
    exact ⟨rfl, HE.out⟩
  | true =>
    go_wp2_with fail
    clear a0 a1 a2 a3 a4 a5 a6 a7 b0 b1 b2 b3 b4 b5 b6 b7
    refine (HLB.out _ HS1.out.below).mono ?_; rintro e w2 ⟨rfl, t2⟩
    have HS2 := Lib.hid (HS1.out.next t2)
    clear t2
    have hb1 : Blk w2 w.heap.size 28 #[.slice ta tn tc, .slice sa sn sc, .slice xa xn xc, .slice na nn nc, .slice fa fn fc, .int .i64 mi, .int .i64 ei] := by rw [HC1.out]; exact HS2.out.b1
    have hb2 : Blk w2 (w.heap.size + 1) 28 #[.slice ta' tn' tc', .slice sa' sn' sc', .slice xa' xn' xc', .slice na' nn' nc', .slice fa' fn' fc', .int .i64 mi', .int .i64 ei'] := by rw [HC2.out]; exact HS2.out.b2
    obtain ⟨a0, a1, a2, a3, a4, a5, a6, a7⟩ := imgBox hb1
    obtain ⟨b0, b1, b2, b3, b4, b5, b6, b7⟩ := imgBox hb2
    clear hb1 hb2
    cases lb with
    | false =>
      go_wp2_with fail
      refine (lives4_any _).mono ?_; rintro e w3 ⟨rfl, t3⟩
      have HE := Lib.hid (below_next HS2.out.below t3)
      clear t3
      go_wp2_with fail
      go_ret
      exact ⟨rfl, HE.out⟩
    | true =>
      have HW : Hid (∀ i, ((fl.take i).map M.sizeFn).sum ≤ 1000000000) := fun i => by
        have := sum_take_le M.sizeFn fl i
        have h2 := HSF.out
        have h3 := HSM.out (by trivial)
        omega
      go_wp2_with fail
      clear a0 a1 a2 a3 a4 a5 a6 a7 b0 b1 b2 b3 b4 b5 b6 b7
      go_loopw [5, 22] (fun z q wr => ∃ i n : Nat, q = .int .i64 i ∧ z = .int .i64 n ∧ i ≤ fn ∧ n = ((fl.take i).map M.sizeFn).sum ∧ Seen2 w C1 C2 wr) (fun _ q _ => fn - (intOf q).toNat)
      case atStart => exact ⟨0, 0, rfl, rfl, by omega, by simp, HS2.out⟩
      case round =>
        obtain ⟨i, n, rfl, rfl, hi, hn, hd⟩ := hrel
        have ht := hd.still
        have HN := Lib.hid hn
        clear hn
        by_cases hlt : i < fn
        · skip
          obtain ⟨b1, off1, f, cs1, rfl, hbB1, hx1, hcl1, hq1, hc1⟩ := HL.out.here hlt
          have hP1 := hq1
          obtain ⟨pa, pn, pc, ba, bn, bc, rfl, hr1⟩ := hq1
          have hbl1 : b1 < wr.heap.size := Nat.lt_of_lt_of_le (Nat.lt_of_lt_of_le hbB1 HB.out) ht.size
          have d10 : wr.cell? ⟨b1, off1 + i * 4, none⟩ = some (.slice pa pn pc) := (Still.cell ht (p := ⟨b1, _, none⟩) (Nat.lt_of_lt_of_le hbB1 HB.out)).trans (by simpa using hc1 0 (by decide))
          have d11 : wr.cell? ⟨b1, off1 + i * 4 + 1, none⟩ = some (.int .i64 f.result) := (Still.cell ht (p := ⟨b1, _, none⟩) (Nat.lt_of_lt_of_le hbB1 HB.out)).trans (by simpa using hc1 1 (by decide))
          have d12 : wr.cell? ⟨b1, off1 + i * 4 + 2, none⟩ = some (.int .i64 f.slots) := (Still.cell ht (p := ⟨b1, _, none⟩) (Nat.lt_of_lt_of_le hbB1 HB.out)).trans (by simpa using hc1 2 (by decide))
          have d13 : wr.cell? ⟨b1, off1 + i * 4 + 3, none⟩ = some (.slice ba bn bc) := (Still.cell ht (p := ⟨b1, _, none⟩) (Nat.lt_of_lt_of_le hbB1 HB.out)).trans (by simpa using hc1 3 (by decide))
          clear hcl1 hr1 hc1
          obtain ⟨_, _, _, hbl3, hbll, hn3, _, _⟩ := hP1.at_len
          have HBLK := Lib.hid hbll
          have HBL3 := Lib.hid hbl3
          have HST := Lib.hid (sum_step M.sizeFn hx1)
          have hn63 : bn ≤ 9223372036854775807 := by unfold maxLen at hn3; omega
          have HD := Lib.hid (hd.next ((Still.refl wr).alloc (.cells #[.slice pa pn pc, .int .i64 f.result, .int .i64 f.slots, .slice ba bn bc] 42)))
          have HSN : Hid (M.sizeFn f = (f.blocks.map fun b => b.code.length).sum) := rfl
          have HTO := Lib.hid (HW.out (i + 1))
          clear hx1 hP1 ht hd hbl3 hbll hn3
          go_wp2_with fail
          go_loopw [5, 29] (fun z q wr => ∃ j n2 : Nat, q = .int .i64 j ∧ z = .int .i64 n2 ∧ j ≤ bn ∧ n2 = n + ((f.blocks.take j).map fun b => b.code.length).sum ∧ Seen2 w C1 C2 wr) (fun _ q _ => bn - (intOf q).toNat)
          case atStart => exact ⟨0, n, rfl, rfl, by omega, by simp, HD.out⟩
          case round =>
            obtain ⟨j, n2, rfl, rfl, hj, hn2, hd⟩ := hrel
            have ht := hd.still
            have HN2 := Lib.hid hn2
            clear hn2
            by_cases hlt2 : j < bn
            · skip
              obtain ⟨b2, off2, k, cs2, rfl, hbB2, hx2, hcl2, hq2, hc2⟩ := HBLK.out.here hlt2
              have hP2 := hq2
              obtain ⟨ia, inn, ic, ca, cn, cc, rfl, hr2⟩ := hq2
              have hbl2 : b2 < wr.heap.size := Nat.lt_of_lt_of_le (Nat.lt_of_lt_of_le hbB2 HB.out) ht.size
              have d20 : wr.cell? ⟨b2, off2 + j * 2, none⟩ = some (.slice ia inn ic) := (Still.cell ht (p := ⟨b2, _, none⟩) (Nat.lt_of_lt_of_le hbB2 HB.out)).trans (by simpa using hc2 0 (by decide))
              have d21 : wr.cell? ⟨b2, off2 + j * 2 + 1, none⟩ = some (.slice ca cn cc) := (Still.cell ht (p := ⟨b2, _, none⟩) (Nat.lt_of_lt_of_le hbB2 HB.out)).trans (by simpa using hc2 1 (by decide))
              clear hcl2 hr2 hc2
              obtain ⟨_, _, _, hcl3, _, _⟩ := hP2.at_len
              have HST2 := Lib.hid (sum_step (fun b : M.Bk => b.code.length) hx2)
              have HTK2 := Lib.hid (sum_take_le (fun b : M.Bk => b.code.length) f.blocks (j + 1))
              have HD := Lib.hid (hd.next ((Still.refl wr).alloc (.cells #[.slice ia inn ic, .slice ca cn cc] 45)))
              have hcn : n2 + cn ≤ 1000000000 := by
                have q1 := HN2.out; have q2 := HST2.out; have q3 := HTK2.out; have q4 := HTO.out; have q5 := HST.out; have q6 := HSN.out; have q7 := HN.out
                try dsimp only at *
                omega
              have HC3 := Lib.hid hcl3
              clear hx2 hP2 ht hd hcl3
              go_wp2_with fail
              go_roundw
              case rel => exact ⟨j + 1, n2 + cn, by go_num, by go_num, by omega, by rw [HST2.out, HN2.out, HC3.out]; omega, HD.out⟩
              case measure => simp [intOf]; omega
            · obtain rfl : bn = j := by omega
              have HE := Lib.hid (sum_end (fun b : M.Bk => b.code.length) HBL3.out)
              have HD := Lib.hid hd
              clear ht hd
              go_wp2_with fail
              go_roundw
              case rel => exact ⟨i + 1, n2, by go_num, rfl, by omega, by rw [HST.out, HN2.out, HN.out, HE.out, HSN.out], HD.out⟩
              case measure => simp [intOf]; omega
        · obtain rfl : fn = i := by omega
          have hnz : n = sz := by rw [HN.out, sum_end M.sizeFn HLEN.out, HSF.out]
          subst hnz
          have hd0 : Seen2 w C1 C2 wr.drew := hd.next ((Still.refl wr).drew)
          have HD0 := Lib.hid hd0
          have hzz : ((n : Int) != n) = false := by simp
          have hbz : (bb != bb) = false := by simp
          clear ht hd hd0
          have hb1 : Blk wr.drew w.heap.size 28 #[.slice ta tn tc, .slice sa sn sc, .slice xa xn xc, .slice na nn nc, .slice fa fn fc, .int .i64 mi, .int .i64 ei] := by rw [HC1.out]; exact HD0.out.b1
          have hb2 : Blk wr.drew (w.heap.size + 1) 28 #[.slice ta' tn' tc', .slice sa' sn' sc', .slice xa' xn' xc', .slice na' nn' nc', .slice fa' fn' fc', .int .i64 mi', .int .i64 ei'] := by rw [HC2.out]; exact HD0.out.b2
          have g0 : wr.drew.cell? ⟨w.heap.size, 0, none⟩ = some (.slice ta tn tc) := hb1.cell 0
          have g1 : wr.drew.cell? ⟨w.heap.size, 1, none⟩ = some (.slice sa sn sc) := hb1.cell 1
          have g2 : wr.drew.cell? ⟨w.heap.size, 2, none⟩ = some (.slice xa xn xc) := hb1.cell 2
          have g3 : wr.drew.cell? ⟨w.heap.size, 3, none⟩ = some (.slice na nn nc) := hb1.cell 3
          have g4 : wr.drew.cell? ⟨w.heap.size, 4, none⟩ = some (.slice fa fn fc) := hb1.cell 4
          have g5 : wr.drew.cell? ⟨w.heap.size, 5, none⟩ = some (.int .i64 mi) := hb1.cell 5
          have g6 : wr.drew.cell? ⟨w.heap.size, 6, none⟩ = some (.int .i64 ei) := hb1.cell 6
          have g7 : wr.drew.cell? ⟨w.heap.size + 1, 0, none⟩ = some (.slice ta' tn' tc') := hb2.cell 0
          have g8 : wr.drew.cell? ⟨w.heap.size + 1, 1, none⟩ = some (.slice sa' sn' sc') := hb2.cell 1
          have g9 : wr.drew.cell? ⟨w.heap.size + 1, 2, none⟩ = some (.slice xa' xn' xc') := hb2.cell 2
          have g10 : wr.drew.cell? ⟨w.heap.size + 1, 3, none⟩ = some (.slice na' nn' nc') := hb2.cell 3
          have g11 : wr.drew.cell? ⟨w.heap.size + 1, 4, none⟩ = some (.slice fa' fn' fc') := hb2.cell 4
          have g12 : wr.drew.cell? ⟨w.heap.size + 1, 5, none⟩ = some (.int .i64 mi') := hb2.cell 5
          have g13 : wr.drew.cell? ⟨w.heap.size + 1, 6, none⟩ = some (.int .i64 ei') := hb2.cell 6
          clear hb1 hb2
          go_wp2_with fail
          go_region_held3 (fun W => W.cell? ⟨w.heap.size, 0, none⟩ = some (.slice ta tn tc) ∧ W.cell? ⟨w.heap.size, 1, none⟩ = some (.slice sa sn sc) ∧ W.cell? ⟨w.heap.size, 2, none⟩ = some (.slice xa xn xc) ∧ W.cell? ⟨w.heap.size, 3, none⟩ = some (.slice na nn nc) ∧ W.cell? ⟨w.heap.size, 4, none⟩ = some (.slice fa fn fc) ∧ W.cell? ⟨w.heap.size, 5, none⟩ = some (.int .i64 mi) ∧ W.cell? ⟨w.heap.size, 6, none⟩ = some (.int .i64 ei) ∧ W.cell? ⟨w.heap.size + 1, 0, none⟩ = some (.slice ta' tn' tc') ∧ W.cell? ⟨w.heap.size + 1, 1, none⟩ = some (.slice sa' sn' sc') ∧ W.cell? ⟨w.heap.size + 1, 2, none⟩ = some (.slice xa' xn' xc') ∧ W.cell? ⟨w.heap.size + 1, 3, none⟩ = some (.slice na' nn' nc') ∧ W.cell? ⟨w.heap.size + 1, 4, none⟩ = some (.slice fa' fn' fc') ∧ W.cell? ⟨w.heap.size + 1, 5, none⟩ = some (.int .i64 mi') ∧ W.cell? ⟨w.heap.size + 1, 6, none⟩ = some (.int .i64 ei')) (first | exact ⟨t0, t1, t2, t3, t4, t5, t6, t7, t8, t9, t10, t11, t12, t13⟩ | exact ⟨s0, s1, s2, s3, s4, s5, s6, s7, s8, s9, s10, s11, s12, s13⟩ | exact ⟨r0, r1, r2, r3, r4, r5, r6, r7, r8, r9, r10, r11, r12, r13⟩ | exact ⟨q0, q1, q2, q3, q4, q5, q6, q7, q8, q9, q10, q11, q12, q13⟩ | exact ⟨g0, g1, g2, g3, g4, g5, g6, g7, g8, g9, g10, g11, g12, g13⟩ | go_keep)
            (first
            | (go_at_call 13; refine (HSZ.out _ HD0.out.below (by trivial)).mono ?_; rintro e x1 ⟨rfl, y1⟩
               have HD1 := Lib.hid (HD0.out.next y1)
               clear y1
               have hb1 : Blk x1 w.heap.size 28 #[.slice ta tn tc, .slice sa sn sc, .slice xa xn xc, .slice na nn nc, .slice fa fn fc, .int .i64 mi, .int .i64 ei] := by rw [HC1.out]; exact HD1.out.b1
               have hb2 : Blk x1 (w.heap.size + 1) 28 #[.slice ta' tn' tc', .slice sa' sn' sc', .slice xa' xn' xc', .slice na' nn' nc', .slice fa' fn' fc', .int .i64 mi', .int .i64 ei'] := by rw [HC2.out]; exact HD1.out.b2
               have q0 : x1.cell? ⟨w.heap.size, 0, none⟩ = some (.slice ta tn tc) := hb1.cell 0
               have q1 : x1.cell? ⟨w.heap.size, 1, none⟩ = some (.slice sa sn sc) := hb1.cell 1
               have q2 : x1.cell? ⟨w.heap.size, 2, none⟩ = some (.slice xa xn xc) := hb1.cell 2
               have q3 : x1.cell? ⟨w.heap.size, 3, none⟩ = some (.slice na nn nc) := hb1.cell 3
               have q4 : x1.cell? ⟨w.heap.size, 4, none⟩ = some (.slice fa fn fc) := hb1.cell 4
               have q5 : x1.cell? ⟨w.heap.size, 5, none⟩ = some (.int .i64 mi) := hb1.cell 5
               have q6 : x1.cell? ⟨w.heap.size, 6, none⟩ = some (.int .i64 ei) := hb1.cell 6
               have q7 : x1.cell? ⟨w.heap.size + 1, 0, none⟩ = some (.slice ta' tn' tc') := hb2.cell 0
               have q8 : x1.cell? ⟨w.heap.size + 1, 1, none⟩ = some (.slice sa' sn' sc') := hb2.cell 1
               have q9 : x1.cell? ⟨w.heap.size + 1, 2, none⟩ = some (.slice xa' xn' xc') := hb2.cell 2
               have q10 : x1.cell? ⟨w.heap.size + 1, 3, none⟩ = some (.slice na' nn' nc') := hb2.cell 3
               have q11 : x1.cell? ⟨w.heap.size + 1, 4, none⟩ = some (.slice fa' fn' fc') := hb2.cell 4
               have q12 : x1.cell? ⟨w.heap.size + 1, 5, none⟩ = some (.int .i64 mi') := hb2.cell 5
               have q13 : x1.cell? ⟨w.heap.size + 1, 6, none⟩ = some (.int .i64 ei') := hb2.cell 6
               clear hb1 hb2)
            | (go_at_call 9; with_reducible refine (HAA.out _ HD1.out.below).mono ?_; rintro e x2 ⟨rfl, y2⟩
               have HD2 := Lib.hid (HD1.out.next y2)
               clear y2
               have hb1 : Blk x2 w.heap.size 28 #[.slice ta tn tc, .slice sa sn sc, .slice xa xn xc, .slice na nn nc, .slice fa fn fc, .int .i64 mi, .int .i64 ei] := by rw [HC1.out]; exact HD2.out.b1
               have hb2 : Blk x2 (w.heap.size + 1) 28 #[.slice ta' tn' tc', .slice sa' sn' sc', .slice xa' xn' xc', .slice na' nn' nc', .slice fa' fn' fc', .int .i64 mi', .int .i64 ei'] := by rw [HC2.out]; exact HD2.out.b2
               have r0 : x2.cell? ⟨w.heap.size, 0, none⟩ = some (.slice ta tn tc) := hb1.cell 0
               have r1 : x2.cell? ⟨w.heap.size, 1, none⟩ = some (.slice sa sn sc) := hb1.cell 1
               have r2 : x2.cell? ⟨w.heap.size, 2, none⟩ = some (.slice xa xn xc) := hb1.cell 2
               have r3 : x2.cell? ⟨w.heap.size, 3, none⟩ = some (.slice na nn nc) := hb1.cell 3
               have r4 : x2.cell? ⟨w.heap.size, 4, none⟩ = some (.slice fa fn fc) := hb1.cell 4
               have r5 : x2.cell? ⟨w.heap.size, 5, none⟩ = some (.int .i64 mi) := hb1.cell 5
               have r6 : x2.cell? ⟨w.heap.size, 6, none⟩ = some (.int .i64 ei) := hb1.cell 6
               have r7 : x2.cell? ⟨w.heap.size + 1, 0, none⟩ = some (.slice ta' tn' tc') := hb2.cell 0
               have r8 : x2.cell? ⟨w.heap.size + 1, 1, none⟩ = some (.slice sa' sn' sc') := hb2.cell 1
               have r9 : x2.cell? ⟨w.heap.size + 1, 2, none⟩ = some (.slice xa' xn' xc') := hb2.cell 2
               have r10 : x2.cell? ⟨w.heap.size + 1, 3, none⟩ = some (.slice na' nn' nc') := hb2.cell 3
               have r11 : x2.cell? ⟨w.heap.size + 1, 4, none⟩ = some (.slice fa' fn' fc') := hb2.cell 4
               have r12 : x2.cell? ⟨w.heap.size + 1, 5, none⟩ = some (.int .i64 mi') := hb2.cell 5
               have r13 : x2.cell? ⟨w.heap.size + 1, 6, none⟩ = some (.int .i64 ei') := hb2.cell 6
               clear hb1 hb2)
            | (go_at_call 9; with_reducible refine (HAB.out _ HD2.out.below).mono ?_; rintro e x3 ⟨rfl, y3⟩
               have HD3 := Lib.hid (HD2.out.next y3)
               clear y3
               have hb1 : Blk x3 w.heap.size 28 #[.slice ta tn tc, .slice sa sn sc, .slice xa xn xc, .slice na nn nc, .slice fa fn fc, .int .i64 mi, .int .i64 ei] := by rw [HC1.out]; exact HD3.out.b1
               have hb2 : Blk x3 (w.heap.size + 1) 28 #[.slice ta' tn' tc', .slice sa' sn' sc', .slice xa' xn' xc', .slice na' nn' nc', .slice fa' fn' fc', .int .i64 mi', .int .i64 ei'] := by rw [HC2.out]; exact HD3.out.b2
               have s0 : x3.cell? ⟨w.heap.size, 0, none⟩ = some (.slice ta tn tc) := hb1.cell 0
               have s1 : x3.cell? ⟨w.heap.size, 1, none⟩ = some (.slice sa sn sc) := hb1.cell 1
               have s2 : x3.cell? ⟨w.heap.size, 2, none⟩ = some (.slice xa xn xc) := hb1.cell 2
               have s3 : x3.cell? ⟨w.heap.size, 3, none⟩ = some (.slice na nn nc) := hb1.cell 3
               have s4 : x3.cell? ⟨w.heap.size, 4, none⟩ = some (.slice fa fn fc) := hb1.cell 4
               have s5 : x3.cell? ⟨w.heap.size, 5, none⟩ = some (.int .i64 mi) := hb1.cell 5
               have s6 : x3.cell? ⟨w.heap.size, 6, none⟩ = some (.int .i64 ei) := hb1.cell 6
               have s7 : x3.cell? ⟨w.heap.size + 1, 0, none⟩ = some (.slice ta' tn' tc') := hb2.cell 0
               have s8 : x3.cell? ⟨w.heap.size + 1, 1, none⟩ = some (.slice sa' sn' sc') := hb2.cell 1
               have s9 : x3.cell? ⟨w.heap.size + 1, 2, none⟩ = some (.slice xa' xn' xc') := hb2.cell 2
               have s10 : x3.cell? ⟨w.heap.size + 1, 3, none⟩ = some (.slice na' nn' nc') := hb2.cell 3
               have s11 : x3.cell? ⟨w.heap.size + 1, 4, none⟩ = some (.slice fa' fn' fc') := hb2.cell 4
               have s12 : x3.cell? ⟨w.heap.size + 1, 5, none⟩ = some (.int .i64 mi') := hb2.cell 5
               have s13 : x3.cell? ⟨w.heap.size + 1, 6, none⟩ = some (.int .i64 ei') := hb2.cell 6
               clear hb1 hb2)
            | (go_at_call 9; with_reducible refine (HBA.out _ HD3.out.below).mono ?_; rintro e x4 ⟨rfl, y4⟩
               have HD4 := Lib.hid (HD3.out.next y4)
               clear y4
               have hb1 : Blk x4 w.heap.size 28 #[.slice ta tn tc, .slice sa sn sc, .slice xa xn xc, .slice na nn nc, .slice fa fn fc, .int .i64 mi, .int .i64 ei] := by rw [HC1.out]; exact HD4.out.b1
               have hb2 : Blk x4 (w.heap.size + 1) 28 #[.slice ta' tn' tc', .slice sa' sn' sc', .slice xa' xn' xc', .slice na' nn' nc', .slice fa' fn' fc', .int .i64 mi', .int .i64 ei'] := by rw [HC2.out]; exact HD4.out.b2
               have t0 : x4.cell? ⟨w.heap.size, 0, none⟩ = some (.slice ta tn tc) := hb1.cell 0
               have t1 : x4.cell? ⟨w.heap.size, 1, none⟩ = some (.slice sa sn sc) := hb1.cell 1
               have t2 : x4.cell? ⟨w.heap.size, 2, none⟩ = some (.slice xa xn xc) := hb1.cell 2
               have t3 : x4.cell? ⟨w.heap.size, 3, none⟩ = some (.slice na nn nc) := hb1.cell 3
               have t4 : x4.cell? ⟨w.heap.size, 4, none⟩ = some (.slice fa fn fc) := hb1.cell 4
               have t5 : x4.cell? ⟨w.heap.size, 5, none⟩ = some (.int .i64 mi) := hb1.cell 5
               have t6 : x4.cell? ⟨w.heap.size, 6, none⟩ = some (.int .i64 ei) := hb1.cell 6
               have t7 : x4.cell? ⟨w.heap.size + 1, 0, none⟩ = some (.slice ta' tn' tc') := hb2.cell 0
               have t8 : x4.cell? ⟨w.heap.size + 1, 1, none⟩ = some (.slice sa' sn' sc') := hb2.cell 1
               have t9 : x4.cell? ⟨w.heap.size + 1, 2, none⟩ = some (.slice xa' xn' xc') := hb2.cell 2
               have t10 : x4.cell? ⟨w.heap.size + 1, 3, none⟩ = some (.slice na' nn' nc') := hb2.cell 3
               have t11 : x4.cell? ⟨w.heap.size + 1, 4, none⟩ = some (.slice fa' fn' fc') := hb2.cell 4
               have t12 : x4.cell? ⟨w.heap.size + 1, 5, none⟩ = some (.int .i64 mi') := hb2.cell 5
               have t13 : x4.cell? ⟨w.heap.size + 1, 6, none⟩ = some (.int .i64 ei') := hb2.cell 6
               clear hb1 hb2))
          all_goals
            clear g0 g1 g2 g3 g4 g5 g6 g7 g8 g9 g10 g11 g12 g13 q0 q1 q2 q3 q4 q5 q6 q7 q8 q9 q10 q11 q12 q13 r0 r1 r2 r3 r4 r5 r6 r7 r8 r9 r10 r11 r12 r13 s0 s1 s2 s3 s4 s5 s6 s7 s8 s9 s10 s11 s12 s13
            by_cases hra : ra = 0
            · subst hra
              go_wp2_with fail
              clear t0 t1 t2 t3 t4 t5 t6 t7 t8 t9 t10 t11 t12 t13
              refine (HCA.out _ HD4.out.below (by trivial)).mono ?_; rintro e x5 ⟨rfl, y5⟩
              have HD5 := Lib.hid (HD4.out.next y5)
              clear y5
              have hb1 : Blk x5 w.heap.size 28 #[.slice ta tn tc, .slice sa sn sc, .slice xa xn xc, .slice na nn nc, .slice fa fn fc, .int .i64 mi, .int .i64 ei] := by rw [HC1.out]; exact HD5.out.b1
              have hb2 : Blk x5 (w.heap.size + 1) 28 #[.slice ta' tn' tc', .slice sa' sn' sc', .slice xa' xn' xc', .slice na' nn' nc', .slice fa' fn' fc', .int .i64 mi', .int .i64 ei'] := by rw [HC2.out]; exact HD5.out.b2
              obtain ⟨a0, a1, a2, a3, a4, a5, a6, a7⟩ := imgBox hb1
              obtain ⟨b0, b1, b2, b3, b4, b5, b6, b7⟩ := imgBox hb2
              clear hb1 hb2
              by_cases hrb : rb = 0
              · subst hrb
                go_wp2_with fail
                clear a0 a1 a2 a3 a4 a5 a6 a7 b0 b1 b2 b3 b4 b5 b6 b7
                refine (HCB.out _ HD5.out.below (by trivial)).mono ?_; rintro e x6 ⟨rfl, y6⟩
                have hd6 := HD5.out.next y6
                have hd7 : Seen2 w C1 C2 x6.drew := hd6.next ((Still.refl x6).drew)
                have HD7 := Lib.hid hd7
                have HD6 := Lib.hid hd6
                have hbe : (bb == bb) = true := by simp
                clear y6 hd6 hd7
                have hb1 : Blk x6 w.heap.size 28 #[.slice ta tn tc, .slice sa sn sc, .slice xa xn xc, .slice na nn nc, .slice fa fn fc, .int .i64 mi, .int .i64 ei] := by rw [HC1.out]; exact HD6.out.b1
                have hb2 : Blk x6 (w.heap.size + 1) 28 #[.slice ta' tn' tc', .slice sa' sn' sc', .slice xa' xn' xc', .slice na' nn' nc', .slice fa' fn' fc', .int .i64 mi', .int .i64 ei'] := by rw [HC2.out]; exact HD6.out.b2
                obtain ⟨a0, a1, a2, a3, a4, a5, a6, a7⟩ := imgBox hb1
                obtain ⟨b0, b1, b2, b3, b4, b5, b6, b7⟩ := imgBox hb2
                clear hb1 hb2
                have hb1 : Blk x6.drew w.heap.size 28 #[.slice ta tn tc, .slice sa sn sc, .slice xa xn xc, .slice na nn nc, .slice fa fn fc, .int .i64 mi, .int .i64 ei] := by rw [HC1.out]; exact HD7.out.b1
                have hb2 : Blk x6.drew (w.heap.size + 1) 28 #[.slice ta' tn' tc', .slice sa' sn' sc', .slice xa' xn' xc', .slice na' nn' nc', .slice fa' fn' fc', .int .i64 mi', .int .i64 ei'] := by rw [HC2.out]; exact HD7.out.b2
                have g0 : x6.drew.cell? ⟨w.heap.size, 0, none⟩ = some (.slice ta tn tc) := hb1.cell 0
                have g1 : x6.drew.cell? ⟨w.heap.size, 1, none⟩ = some (.slice sa sn sc) := hb1.cell 1
                have g2 : x6.drew.cell? ⟨w.heap.size, 2, none⟩ = some (.slice xa xn xc) := hb1.cell 2
                have g3 : x6.drew.cell? ⟨w.heap.size, 3, none⟩ = some (.slice na nn nc) := hb1.cell 3
                have g4 : x6.drew.cell? ⟨w.heap.size, 4, none⟩ = some (.slice fa fn fc) := hb1.cell 4
                have g5 : x6.drew.cell? ⟨w.heap.size, 5, none⟩ = some (.int .i64 mi) := hb1.cell 5
                have g6 : x6.drew.cell? ⟨w.heap.size, 6, none⟩ = some (.int .i64 ei) := hb1.cell 6
                have g7 : x6.drew.cell? ⟨w.heap.size + 1, 0, none⟩ = some (.slice ta' tn' tc') := hb2.cell 0
                have g8 : x6.drew.cell? ⟨w.heap.size + 1, 1, none⟩ = some (.slice sa' sn' sc') := hb2.cell 1
                have g9 : x6.drew.cell? ⟨w.heap.size + 1, 2, none⟩ = some (.slice xa' xn' xc') := hb2.cell 2
                have g10 : x6.drew.cell? ⟨w.heap.size + 1, 3, none⟩ = some (.slice na' nn' nc') := hb2.cell 3
                have g11 : x6.drew.cell? ⟨w.heap.size + 1, 4, none⟩ = some (.slice fa' fn' fc') := hb2.cell 4
                have g12 : x6.drew.cell? ⟨w.heap.size + 1, 5, none⟩ = some (.int .i64 mi') := hb2.cell 5
                have g13 : x6.drew.cell? ⟨w.heap.size + 1, 6, none⟩ = some (.int .i64 ei') := hb2.cell 6
                clear hb1 hb2
                go_wp2_with fail
                clear a0 a1 a2 a3 a4 a5 a6 a7 b0 b1 b2 b3 b4 b5 b6 b7
                go_region_held3 (fun W => W.cell? ⟨w.heap.size, 0, none⟩ = some (.slice ta tn tc) ∧ W.cell? ⟨w.heap.size, 1, none⟩ = some (.slice sa sn sc) ∧ W.cell? ⟨w.heap.size, 2, none⟩ = some (.slice xa xn xc) ∧ W.cell? ⟨w.heap.size, 3, none⟩ = some (.slice na nn nc) ∧ W.cell? ⟨w.heap.size, 4, none⟩ = some (.slice fa fn fc) ∧ W.cell? ⟨w.heap.size, 5, none⟩ = some (.int .i64 mi) ∧ W.cell? ⟨w.heap.size, 6, none⟩ = some (.int .i64 ei) ∧ W.cell? ⟨w.heap.size + 1, 0, none⟩ = some (.slice ta' tn' tc') ∧ W.cell? ⟨w.heap.size + 1, 1, none⟩ = some (.slice sa' sn' sc') ∧ W.cell? ⟨w.heap.size + 1, 2, none⟩ = some (.slice xa' xn' xc') ∧ W.cell? ⟨w.heap.size + 1, 3, none⟩ = some (.slice na' nn' nc') ∧ W.cell? ⟨w.heap.size + 1, 4, none⟩ = some (.slice fa' fn' fc') ∧ W.cell? ⟨w.heap.size + 1, 5, none⟩ = some (.int .i64 mi') ∧ W.cell? ⟨w.heap.size + 1, 6, none⟩ = some (.int .i64 ei')) (first | exact ⟨t0, t1, t2, t3, t4, t5, t6, t7, t8, t9, t10, t11, t12, t13⟩ | exact ⟨s0, s1, s2, s3, s4, s5, s6, s7, s8, s9, s10, s11, s12, s13⟩ | exact ⟨r0, r1, r2, r3, r4, r5, r6, r7, r8, r9, r10, r11, r12, r13⟩ | exact ⟨g0, g1, g2, g3, g4, g5, g6, g7, g8, g9, g10, g11, g12, g13⟩ | go_keep)
                  (first
                  | (go_at_call 9; with_reducible refine (HAB.out _ HD7.out.below).mono ?_; rintro e x8 ⟨rfl, y8⟩
                     have HD8 := Lib.hid (HD7.out.next y8)
                     clear y8
                     have hb1 : Blk x8 w.heap.size 28 #[.slice ta tn tc, .slice sa sn sc, .slice xa xn xc, .slice na nn nc, .slice fa fn fc, .int .i64 mi, .int .i64 ei] := by rw [HC1.out]; exact HD8.out.b1
                     have hb2 : Blk x8 (w.heap.size + 1) 28 #[.slice ta' tn' tc', .slice sa' sn' sc', .slice xa' xn' xc', .slice na' nn' nc', .slice fa' fn' fc', .int .i64 mi', .int .i64 ei'] := by rw [HC2.out]; exact HD8.out.b2
                     have r0 : x8.cell? ⟨w.heap.size, 0, none⟩ = some (.slice ta tn tc) := hb1.cell 0
                     have r1 : x8.cell? ⟨w.heap.size, 1, none⟩ = some (.slice sa sn sc) := hb1.cell 1
                     have r2 : x8.cell? ⟨w.heap.size, 2, none⟩ = some (.slice xa xn xc) := hb1.cell 2
                     have r3 : x8.cell? ⟨w.heap.size, 3, none⟩ = some (.slice na nn nc) := hb1.cell 3
                     have r4 : x8.cell? ⟨w.heap.size, 4, none⟩ = some (.slice fa fn fc) := hb1.cell 4
                     have r5 : x8.cell? ⟨w.heap.size, 5, none⟩ = some (.int .i64 mi) := hb1.cell 5
                     have r6 : x8.cell? ⟨w.heap.size, 6, none⟩ = some (.int .i64 ei) := hb1.cell 6
                     have r7 : x8.cell? ⟨w.heap.size + 1, 0, none⟩ = some (.slice ta' tn' tc') := hb2.cell 0
                     have r8 : x8.cell? ⟨w.heap.size + 1, 1, none⟩ = some (.slice sa' sn' sc') := hb2.cell 1
                     have r9 : x8.cell? ⟨w.heap.size + 1, 2, none⟩ = some (.slice xa' xn' xc') := hb2.cell 2
                     have r10 : x8.cell? ⟨w.heap.size + 1, 3, none⟩ = some (.slice na' nn' nc') := hb2.cell 3
                     have r11 : x8.cell? ⟨w.heap.size + 1, 4, none⟩ = some (.slice fa' fn' fc') := hb2.cell 4
                     have r12 : x8.cell? ⟨w.heap.size + 1, 5, none⟩ = some (.int .i64 mi') := hb2.cell 5
                     have r13 : x8.cell? ⟨w.heap.size + 1, 6, none⟩ = some (.int .i64 ei') := hb2.cell 6
                     clear hb1 hb2)
                  | (go_at_call 8; refine (HRS.out _ HD8.out.below (by trivial) (by trivial) (by trivial) (by trivial)).mono ?_; rintro e x9 ⟨rfl, y9⟩
                     have HB9 := Lib.hid (below_next HD8.out.below y9)
                     have hb1 : Blk x9 w.heap.size 28 #[.slice ta tn tc, .slice sa sn sc, .slice xa xn xc, .slice na nn nc, .slice fa fn fc, .int .i64 mi, .int .i64 ei] := by rw [HC1.out]; exact Below.blk y9 HD8.out.b1
                     have hb2 : Blk x9 (w.heap.size + 1) 28 #[.slice ta' tn' tc', .slice sa' sn' sc', .slice xa' xn' xc', .slice na' nn' nc', .slice fa' fn' fc', .int .i64 mi', .int .i64 ei'] := by rw [HC2.out]; exact Below.blk y9 HD8.out.b2
                     have HX9 := Lib.hid hb1
                     have HY9 := Lib.hid hb2
                     have s0 : x9.cell? ⟨w.heap.size, 0, none⟩ = some (.slice ta tn tc) := hb1.cell 0
                     have s1 : x9.cell? ⟨w.heap.size, 1, none⟩ = some (.slice sa sn sc) := hb1.cell 1
                     have s2 : x9.cell? ⟨w.heap.size, 2, none⟩ = some (.slice xa xn xc) := hb1.cell 2
                     have s3 : x9.cell? ⟨w.heap.size, 3, none⟩ = some (.slice na nn nc) := hb1.cell 3
                     have s4 : x9.cell? ⟨w.heap.size, 4, none⟩ = some (.slice fa fn fc) := hb1.cell 4
                     have s5 : x9.cell? ⟨w.heap.size, 5, none⟩ = some (.int .i64 mi) := hb1.cell 5
                     have s6 : x9.cell? ⟨w.heap.size, 6, none⟩ = some (.int .i64 ei) := hb1.cell 6
                     have s7 : x9.cell? ⟨w.heap.size + 1, 0, none⟩ = some (.slice ta' tn' tc') := hb2.cell 0
                     have s8 : x9.cell? ⟨w.heap.size + 1, 1, none⟩ = some (.slice sa' sn' sc') := hb2.cell 1
                     have s9 : x9.cell? ⟨w.heap.size + 1, 2, none⟩ = some (.slice xa' xn' xc') := hb2.cell 2
                     have s10 : x9.cell? ⟨w.heap.size + 1, 3, none⟩ = some (.slice na' nn' nc') := hb2.cell 3
                     have s11 : x9.cell? ⟨w.heap.size + 1, 4, none⟩ = some (.slice fa' fn' fc') := hb2.cell 4
                     have s12 : x9.cell? ⟨w.heap.size + 1, 5, none⟩ = some (.int .i64 mi') := hb2.cell 5
                     have s13 : x9.cell? ⟨w.heap.size + 1, 6, none⟩ = some (.int .i64 ei') := hb2.cell 6
                     clear y9 hb1 hb2)
                  | (go_at_call 10; refine (lives4_any _).mono ?_; rintro e x10 ⟨rfl, y10⟩
                     have HB10 := Lib.hid (below_next HB9.out y10)
                     have hb1 := Below.blk y10 HX9.out
                     have hb2 := Below.blk y10 HY9.out
                     have t0 : x10.cell? ⟨w.heap.size, 0, none⟩ = some (.slice ta tn tc) := hb1.cell 0
                     have t1 : x10.cell? ⟨w.heap.size, 1, none⟩ = some (.slice sa sn sc) := hb1.cell 1
                     have t2 : x10.cell? ⟨w.heap.size, 2, none⟩ = some (.slice xa xn xc) := hb1.cell 2
                     have t3 : x10.cell? ⟨w.heap.size, 3, none⟩ = some (.slice na nn nc) := hb1.cell 3
                     have t4 : x10.cell? ⟨w.heap.size, 4, none⟩ = some (.slice fa fn fc) := hb1.cell 4
                     have t5 : x10.cell? ⟨w.heap.size, 5, none⟩ = some (.int .i64 mi) := hb1.cell 5
                     have t6 : x10.cell? ⟨w.heap.size, 6, none⟩ = some (.int .i64 ei) := hb1.cell 6
                     have t7 : x10.cell? ⟨w.heap.size + 1, 0, none⟩ = some (.slice ta' tn' tc') := hb2.cell 0
                     have t8 : x10.cell? ⟨w.heap.size + 1, 1, none⟩ = some (.slice sa' sn' sc') := hb2.cell 1
                     have t9 : x10.cell? ⟨w.heap.size + 1, 2, none⟩ = some (.slice xa' xn' xc') := hb2.cell 2
                     have t10 : x10.cell? ⟨w.heap.size + 1, 3, none⟩ = some (.slice na' nn' nc') := hb2.cell 3
                     have t11 : x10.cell? ⟨w.heap.size + 1, 4, none⟩ = some (.slice fa' fn' fc') := hb2.cell 4
                     have t12 : x10.cell? ⟨w.heap.size + 1, 5, none⟩ = some (.int .i64 mi') := hb2.cell 5
                     have t13 : x10.cell? ⟨w.heap.size + 1, 6, none⟩ = some (.int .i64 ei') := hb2.cell 6
                     clear y10 hb1 hb2))
                all_goals
                  go_wp2_with fail
                  go_ret
                  exact ⟨rfl, HB10.out⟩
              · have hr1 : (rb != (0 : Int)) = true := by simp [hrb]
                go_wp2_with fail
                clear a0 a1 a2 a3 a4 a5 a6 a7 b0 b1 b2 b3 b4 b5 b6 b7
                refine (HCB.out _ HD5.out.below (by trivial)).mono ?_; rintro e x6 ⟨rfl, y6⟩
                have HD6 := Lib.hid (HD5.out.next y6)
                clear y6 hrb
                go_wp2_with fail
                refine (lives4_any _).mono ?_; rintro e x7 ⟨rfl, y7⟩
                have HE := Lib.hid (below_next HD6.out.below y7)
                clear y7
                go_wp2_with fail
                go_ret
                exact ⟨rfl, HE.out⟩
            · have hr1 : (ra != (0 : Int)) = true := by simp [hra]
              go_wp2_with fail
              clear t0 t1 t2 t3 t4 t5 t6 t7 t8 t9 t10 t11 t12 t13
              refine (HCA.out _ HD4.out.below (by trivial)).mono ?_; rintro e x5 ⟨rfl, y5⟩
              have HD5 := Lib.hid (HD4.out.next y5)
              clear y5 hra
              go_wp2_with fail
              refine (lives4_any _).mono ?_; rintro e x7 ⟨rfl, y7⟩
              have HE := Lib.hid (below_next HD5.out.below y7)
              clear y7
              go_wp2_with fail
              go_ret
              exact ⟨rfl, HE.out⟩
end Go.Proofs.YtjeehbcbflofpaaGreat
