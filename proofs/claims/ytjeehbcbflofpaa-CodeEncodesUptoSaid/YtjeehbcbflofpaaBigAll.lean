/- code.big and code.Check of any image. -/
import Derived.Test.YtjeehbcbflofpaaSize
namespace Go.Proofs.Ytjeehbcbflofpaa
set_option linter.unusedVariables false
set_option linter.unusedSimpArgs false
open Go.ChangeShapes Go.WideShapes Go.ChangeAt Go.RowKit
open M (W)
theorem imgBox {w : World} {k : Nat} {t : TypeId} {a b c d e f g : Value} (h : Blk w k t #[a, b, c, d, e, f, g]) :
    k < w.heap.size ∧ w.cell? ⟨k, 0, none⟩ = some a ∧ w.cell? ⟨k, 1, none⟩ = some b ∧ w.cell? ⟨k, 2, none⟩ = some c ∧ w.cell? ⟨k, 3, none⟩ = some d ∧ w.cell? ⟨k, 4, none⟩ = some e ∧ w.cell? ⟨k, 5, none⟩ = some f ∧ w.cell? ⟨k, 6, none⟩ = some g :=
  ⟨h.lt, h.cell 0, h.cell 1, h.cell 2, h.cell 3, h.cell 4, h.cell 5, h.cell 6⟩
set_option maxRecDepth 100000 in
set_option maxHeartbeats 4000000 in
theorem big_any {B : Nat} {w : World} {v : ImgV} {m : M.Img} (hB : B ≤ w.heap.size) (hp : ImgIs B w v m) (hw : M.size m ≤ 1000000000) :
    Calls Try.prog 21 #[.agg #[.slice v.ta v.tn v.tc, .slice v.sa v.sn v.sc, .slice v.xa v.xn v.xc, .slice v.na v.nn v.nc, .slice v.fa v.fn v.fc, .int .i64 v.main, .int .i64 v.exn]] w fun e w' => e = .returned (.bool (M.big m)) ∧ Still w w' := by
  obtain ⟨l1, l2, l3, l4, l5⟩ := hp.le
  have e1 := hp.types.len
  have e2 := hp.shapes.len
  have e3 := hp.strings.len
  have e4 := hp.names.len
  have e5 := hp.funcs.len
  have HC1 := Lib.hid (fun W (hW : Still w W) => have ht : Below B w W := (Still.below hW).mono hB; containsTy_any (c := v.tc) M.bigTy 51 (enters_of Try.func51 (by kernel_rfl) rfl) (Lies.keep hp.types ht hB (fun _ _ _ h => h.keep ht hB)) (Nat.le_trans hB hW.size) l1 (fun a2 n2 c2 y W _ hp _ => bigType_any hp))
  have HC2 := Lib.hid (fun W (hW : Still w W) => have ht : Below B w W := (Still.below hW).mono hB; containsSh_any (c := v.sc) M.bigSh 53 (enters_of Try.func53 (by kernel_rfl) rfl) (Lies.keep hp.shapes ht hB (fun _ _ _ h => h.keep ht hB)) (Nat.le_trans hB hW.size) l2 (fun a2 n2 c2 y W _ hp _ => bigShape_any hp))
  have HC3 := Lib.hid (fun W (hW : Still w W) => have ht : Below B w W := (Still.below hW).mono hB; containsTx_any (c := v.xc) M.bigTx 55 (enters_of Try.func55 (by kernel_rfl) rfl) (Lies.keep hp.strings ht hB (fun _ _ _ h => h)) (Nat.le_trans hB hW.size) l3 (fun y W _ hp _ => (bigText_any y W).mono (fun e w' h => ⟨h.1, by rw [h.2]; exact Still.refl _⟩)))
  have HC4 := Lib.hid (fun W (hW : Still w W) => have ht : Below B w W := (Still.below hW).mono hB; containsTx_any (c := v.nc) M.bigTx 55 (enters_of Try.func55 (by kernel_rfl) rfl) (Lies.keep hp.names ht hB (fun _ _ _ h => h)) (Nat.le_trans hB hW.size) l4 (fun y W _ hp _ => (bigText_any y W).mono (fun e w' h => ⟨h.1, by rw [h.2]; exact Still.refl _⟩)))
  have HC5 := Lib.hid (fun W (hW : Still w W) => have ht : Below B w W := (Still.below hW).mono hB; containsFn_any (c := v.fc) M.bigFn 57 (enters_of Try.func57 (by kernel_rfl) rfl) (Lies.keep hp.funcs ht hB (fun _ _ _ h => h.keep ht hB)) (Nat.le_trans hB hW.size) l5 (fun a2 n2 c2 a3 n3 c3 y W _ hp hb => bigFunc_any hp hb))
  have HSZ := Lib.hid (fun W (hW : Still w W) => size_any (Nat.le_trans hB hW.size) (hp.keep ((Still.below hW).mono hB) hB) hw)
  have HAI := Lib.hid (fun W (hW : Still w W) => anyInstr_any M.bigIns 59 (enters_of Try.func59 (by kernel_rfl) rfl) (Nat.le_trans hB hW.size) (hp.keep ((Still.below hW).mono hB) hB) (fun la ln lc ma mn mc va vn vc x W hp _ => bigInstr_any hp))
  obtain ⟨ta, tn, tc, sa, sn, sc, xa, xn, xc, na, nn, nc, fa, fn, fc, mi, ei⟩ := v
  dsimp only at l1 l2 l3 l4 l5 e1 e2 e3 e4 e5 HC1 HC2 HC3 HC4 HC5 HSZ HAI ⊢
  have HA : Hid (M.big m = (decide (1024 < tn) || decide (512 < sn) || decide (256 < xn) || decide (256 < nn) || decide (1024 < fn) ||
      m.types.any M.bigTy || m.shapes.any M.bigSh || m.strings.any M.bigTx || m.names.any M.bigTx || m.funcs.any M.bigFn || decide (20000 < M.size m) || M.anyIns M.bigIns m)) := by
    unfold M.big
    rw [e1, e2, e3, e4, e5]
    rfl
  generalize M.big m = r at *
  generalize m.types.any M.bigTy = q1 at *
  generalize m.shapes.any M.bigSh = q2 at *
  generalize m.strings.any M.bigTx = q3 at *
  generalize m.names.any M.bigTx = q4 at *
  generalize m.funcs.any M.bigFn = q5 at *
  generalize M.size m = z at *
  generalize M.anyIns M.bigIns m = q7 at *
  have HZ := Lib.hid hw
  clear hB hp e1 e2 e3 e4 e5 hw
  by_cases hb0 : (1024 : Int) < tn
  · skip
    go_enter Try.func21, Try.ntmps21
    go_wp2_with fail
    go_ret
    refine ⟨?_, (Still.refl w).alloc _⟩
    rw [HA.out]
    have e0 : decide (1024 < tn) = true := decide_eq_true (by omega)
    simp only [e0, Bool.or_true, Bool.true_or, Bool.or_false, Bool.false_or]
    rfl
  · skip
    by_cases hb1 : (512 : Int) < sn
    · skip
      go_enter Try.func21, Try.ntmps21
      go_wp2_with fail
      go_ret
      refine ⟨?_, (Still.refl w).alloc _⟩
      rw [HA.out]
      have e0 : decide (1024 < tn) = false := decide_eq_false (by omega)
      have e1 : decide (512 < sn) = true := decide_eq_true (by omega)
      simp only [e0, e1, Bool.or_true, Bool.true_or, Bool.or_false, Bool.false_or]
      rfl
    · skip
      by_cases hb2 : (256 : Int) < xn
      · skip
        go_enter Try.func21, Try.ntmps21
        go_wp2_with fail
        go_ret
        refine ⟨?_, (Still.refl w).alloc _⟩
        rw [HA.out]
        have e0 : decide (1024 < tn) = false := decide_eq_false (by omega)
        have e1 : decide (512 < sn) = false := decide_eq_false (by omega)
        have e2 : decide (256 < xn) = true := decide_eq_true (by omega)
        simp only [e0, e1, e2, Bool.or_true, Bool.true_or, Bool.or_false, Bool.false_or]
        rfl
      · skip
        by_cases hb3 : (256 : Int) < nn
        · skip
          go_enter Try.func21, Try.ntmps21
          go_wp2_with fail
          go_ret
          refine ⟨?_, (Still.refl w).alloc _⟩
          rw [HA.out]
          have e0 : decide (1024 < tn) = false := decide_eq_false (by omega)
          have e1 : decide (512 < sn) = false := decide_eq_false (by omega)
          have e2 : decide (256 < xn) = false := decide_eq_false (by omega)
          have e3 : decide (256 < nn) = true := decide_eq_true (by omega)
          simp only [e0, e1, e2, e3, Bool.or_true, Bool.true_or, Bool.or_false, Bool.false_or]
          rfl
        · skip
          by_cases hb4 : (1024 : Int) < fn
          · skip
            go_enter Try.func21, Try.ntmps21
            go_wp2_with fail
            go_ret
            refine ⟨?_, (Still.refl w).alloc _⟩
            rw [HA.out]
            have e0 : decide (1024 < tn) = false := decide_eq_false (by omega)
            have e1 : decide (512 < sn) = false := decide_eq_false (by omega)
            have e2 : decide (256 < xn) = false := decide_eq_false (by omega)
            have e3 : decide (256 < nn) = false := decide_eq_false (by omega)
            have e4 : decide (1024 < fn) = true := decide_eq_true (by omega)
            simp only [e0, e1, e2, e3, e4, Bool.or_true, Bool.true_or, Bool.or_false, Bool.false_or]
            rfl
          · skip
            go_enter Try.func21, Try.ntmps21
            go_wp2_with fail
            have HT0 : Hid (Still w (w.alloc (.cells #[.slice ta tn tc, .slice sa sn sc, .slice xa xn xc, .slice na nn nc, .slice fa fn fc, .int .i64 mi, .int .i64 ei] 27))) := (Still.refl w).alloc _
            have HX0 : Hid (Blk (w.alloc (.cells #[.slice ta tn tc, .slice sa sn sc, .slice xa xn xc, .slice na nn nc, .slice fa fn fc, .int .i64 mi, .int .i64 ei] 27)) w.heap.size 27 #[.slice ta tn tc, .slice sa sn sc, .slice xa xn xc, .slice na nn nc, .slice fa fn fc, .int .i64 mi, .int .i64 ei]) := Blk.new w _ _
            refine (HC1.out _ HT0.out).mono ?_; rintro e w1 ⟨rfl, t1⟩
            have HT1 := Lib.hid (HT0.out.trans t1)
            have HX1 := Lib.hid (t1.blk HX0.out)
            clear t1
            have bf1 := imgBox HX1.out
            obtain ⟨b0, b1, b2, b3, b4, b5, b6, b7⟩ := bf1
            cases q1 with
            | true =>
              go_wp2_with fail
              go_ret
              refine ⟨?_, HT1.out⟩
              rw [HA.out]
              have e0 : decide (1024 < tn) = false := decide_eq_false (by omega)
              have e1 : decide (512 < sn) = false := decide_eq_false (by omega)
              have e2 : decide (256 < xn) = false := decide_eq_false (by omega)
              have e3 : decide (256 < nn) = false := decide_eq_false (by omega)
              have e4 : decide (1024 < fn) = false := decide_eq_false (by omega)
              simp only [e0, e1, e2, e3, e4, Bool.or_true, Bool.true_or, Bool.or_false, Bool.false_or]
              rfl
            | false =>
              go_wp2_with fail
              clear b0 b1 b2 b3 b4 b5 b6 b7
              refine (HC2.out _ HT1.out).mono ?_; rintro e w2 ⟨rfl, t2⟩
              have HT2 := Lib.hid (HT1.out.trans t2)
              have HX2 := Lib.hid (t2.blk HX1.out)
              clear t2
              have bf2 := imgBox HX2.out
              obtain ⟨b0, b1, b2, b3, b4, b5, b6, b7⟩ := bf2
              cases q2 with
              | true =>
                go_wp2_with fail
                go_ret
                refine ⟨?_, HT2.out⟩
                rw [HA.out]
                have e0 : decide (1024 < tn) = false := decide_eq_false (by omega)
                have e1 : decide (512 < sn) = false := decide_eq_false (by omega)
                have e2 : decide (256 < xn) = false := decide_eq_false (by omega)
                have e3 : decide (256 < nn) = false := decide_eq_false (by omega)
                have e4 : decide (1024 < fn) = false := decide_eq_false (by omega)
                simp only [e0, e1, e2, e3, e4, Bool.or_true, Bool.true_or, Bool.or_false, Bool.false_or]
                rfl
              | false =>
                go_wp2_with fail
                clear b0 b1 b2 b3 b4 b5 b6 b7
                refine (HC3.out _ HT2.out).mono ?_; rintro e w3 ⟨rfl, t3⟩
                have HT3 := Lib.hid (HT2.out.trans t3)
                have HX3 := Lib.hid (t3.blk HX2.out)
                clear t3
                have bf3 := imgBox HX3.out
                obtain ⟨b0, b1, b2, b3, b4, b5, b6, b7⟩ := bf3
                cases q3 with
                | true =>
                  go_wp2_with fail
                  go_ret
                  refine ⟨?_, HT3.out⟩
                  rw [HA.out]
                  have e0 : decide (1024 < tn) = false := decide_eq_false (by omega)
                  have e1 : decide (512 < sn) = false := decide_eq_false (by omega)
                  have e2 : decide (256 < xn) = false := decide_eq_false (by omega)
                  have e3 : decide (256 < nn) = false := decide_eq_false (by omega)
                  have e4 : decide (1024 < fn) = false := decide_eq_false (by omega)
                  simp only [e0, e1, e2, e3, e4, Bool.or_true, Bool.true_or, Bool.or_false, Bool.false_or]
                  rfl
                | false =>
                  go_wp2_with fail
                  clear b0 b1 b2 b3 b4 b5 b6 b7
                  refine (HC4.out _ HT3.out).mono ?_; rintro e w4 ⟨rfl, t4⟩
                  have HT4 := Lib.hid (HT3.out.trans t4)
                  have HX4 := Lib.hid (t4.blk HX3.out)
                  clear t4
                  have bf4 := imgBox HX4.out
                  obtain ⟨b0, b1, b2, b3, b4, b5, b6, b7⟩ := bf4
                  cases q4 with
                  | true =>
                    go_wp2_with fail
                    go_ret
                    refine ⟨?_, HT4.out⟩
                    rw [HA.out]
                    have e0 : decide (1024 < tn) = false := decide_eq_false (by omega)
                    have e1 : decide (512 < sn) = false := decide_eq_false (by omega)
                    have e2 : decide (256 < xn) = false := decide_eq_false (by omega)
                    have e3 : decide (256 < nn) = false := decide_eq_false (by omega)
                    have e4 : decide (1024 < fn) = false := decide_eq_false (by omega)
                    simp only [e0, e1, e2, e3, e4, Bool.or_true, Bool.true_or, Bool.or_false, Bool.false_or]
                    rfl
                  | false =>
                    go_wp2_with fail
                    clear b0 b1 b2 b3 b4 b5 b6 b7
                    refine (HC5.out _ HT4.out).mono ?_; rintro e w5 ⟨rfl, t5⟩
                    have HT5 := Lib.hid (HT4.out.trans t5)
                    have HX5 := Lib.hid (t5.blk HX4.out)
                    clear t5
                    have bf5 := imgBox HX5.out
                    obtain ⟨b0, b1, b2, b3, b4, b5, b6, b7⟩ := bf5
                    cases q5 with
                    | true =>
                      go_wp2_with fail
                      go_ret
                      refine ⟨?_, HT5.out⟩
                      rw [HA.out]
                      have e0 : decide (1024 < tn) = false := decide_eq_false (by omega)
                      have e1 : decide (512 < sn) = false := decide_eq_false (by omega)
                      have e2 : decide (256 < xn) = false := decide_eq_false (by omega)
                      have e3 : decide (256 < nn) = false := decide_eq_false (by omega)
                      have e4 : decide (1024 < fn) = false := decide_eq_false (by omega)
                      simp only [e0, e1, e2, e3, e4, Bool.or_true, Bool.true_or, Bool.or_false, Bool.false_or]
                      rfl
                    | false =>
                      go_wp2_with fail
                      clear b0 b1 b2 b3 b4 b5 b6 b7
                      refine (HSZ.out _ HT5.out).mono ?_; rintro e w6 ⟨rfl, t6⟩
                      have HT6 := Lib.hid (HT5.out.trans t6)
                      have HX6 := Lib.hid (t6.blk HX5.out)
                      clear t6
                      have bf6 := imgBox HX6.out
                      obtain ⟨b0, b1, b2, b3, b4, b5, b6, b7⟩ := bf6
                      by_cases hz : (20000 : Int) < z
                      · skip
                        go_wp2_with fail
                        go_ret
                        refine ⟨?_, HT6.out⟩
                        rw [HA.out]
                        have e0 : decide (1024 < tn) = false := decide_eq_false (by omega)
                        have e1 : decide (512 < sn) = false := decide_eq_false (by omega)
                        have e2 : decide (256 < xn) = false := decide_eq_false (by omega)
                        have e3 : decide (256 < nn) = false := decide_eq_false (by omega)
                        have e4 : decide (1024 < fn) = false := decide_eq_false (by omega)
                        have e5 : decide (20000 < z) = true := decide_eq_true (by omega)
                        simp only [e0, e1, e2, e3, e4, e5, Bool.or_true, Bool.true_or, Bool.or_false, Bool.false_or]
                        rfl
                      · skip
                        go_wp2_with fail
                        clear b0 b1 b2 b3 b4 b5 b6 b7
                        refine (HAI.out _ HT6.out).mono ?_; rintro e w7 ⟨rfl, t7⟩
                        have HT7 := Lib.hid (HT6.out.trans t7)
                        have HX7 := Lib.hid (t7.blk HX6.out)
                        clear t7
                        have bf7 := imgBox HX7.out
                        obtain ⟨b0, b1, b2, b3, b4, b5, b6, b7⟩ := bf7
                        clear b0 b1 b2 b3 b4 b5 b6 b7
                        go_wp2_with fail
                        go_ret
                        refine ⟨?_, HT7.out⟩
                        rw [HA.out]
                        have e0 : decide (1024 < tn) = false := decide_eq_false (by omega)
                        have e1 : decide (512 < sn) = false := decide_eq_false (by omega)
                        have e2 : decide (256 < xn) = false := decide_eq_false (by omega)
                        have e3 : decide (256 < nn) = false := decide_eq_false (by omega)
                        have e4 : decide (1024 < fn) = false := decide_eq_false (by omega)
                        have e5 : decide (20000 < z) = false := decide_eq_false (by omega)
                        simp only [e0, e1, e2, e3, e4, e5, Bool.or_true, Bool.true_or, Bool.or_false, Bool.false_or]
                        show Ending.returned (.bool (decide ((20000 : Int) < z) || q7)) = _
                        rw [decide_eq_false (by omega)]
                        rfl
set_option maxRecDepth 100000 in
set_option maxHeartbeats 4000000 in
theorem check_any {B : Nat} {w : World} {v : ImgV} {m : M.Img} (hB : B ≤ w.heap.size) (hp : ImgIs B w v m) (hw : M.size m ≤ 1000000000) :
    Calls Try.prog 12 #[.agg #[.slice v.ta v.tn v.tc, .slice v.sa v.sn v.sc, .slice v.xa v.xn v.xc, .slice v.na v.nn v.nc, .slice v.fa v.fn v.fc, .int .i64 v.main, .int .i64 v.exn]] w fun e w' => e = .returned (.int .i64 (M.check m)) ∧ Still w w' := by
  have HBG := Lib.hid (fun W (hW : Still w W) => big_any (Nat.le_trans hB hW.size) (hp.keep ((Still.below hW).mono hB) hB) hw)
  have HAI := Lib.hid (fun W (hW : Still w W) => anyInstr_any (fun x => !(M.plainIns x)) 23 (enters_of Try.func23 (by kernel_rfl) rfl) (Nat.le_trans hB hW.size) (hp.keep ((Still.below hW).mono hB) hB) (fun la ln lc ma mn mc va vn vc x W hp _ => notPlain_any hp))
  obtain ⟨ta, tn, tc, sa, sn, sc, xa, xn, xc, na, nn, nc, fa, fn, fc, mi, ei⟩ := v
  dsimp only at HBG HAI ⊢
  have HA : Hid (M.check m = if M.big m then 2 else if M.anyIns (fun x => !(M.plainIns x)) m then 1 else 0) := rfl
  generalize M.check m = r at *
  generalize M.big m = q1 at *
  generalize M.anyIns (fun x => !(M.plainIns x)) m = q2 at *
  clear hB hp hw
  have HT0 : Hid (Still w (w.alloc (.cells #[.slice ta tn tc, .slice sa sn sc, .slice xa xn xc, .slice na nn nc, .slice fa fn fc, .int .i64 mi, .int .i64 ei] 27))) := (Still.refl w).alloc _
  have HX0 : Hid (Blk (w.alloc (.cells #[.slice ta tn tc, .slice sa sn sc, .slice xa xn xc, .slice na nn nc, .slice fa fn fc, .int .i64 mi, .int .i64 ei] 27)) w.heap.size 27 #[.slice ta tn tc, .slice sa sn sc, .slice xa xn xc, .slice na nn nc, .slice fa fn fc, .int .i64 mi, .int .i64 ei]) := Blk.new w _ _
  go_enter Try.func12, Try.ntmps12
  go_wp2_with fail
  refine (HBG.out _ HT0.out).mono ?_; rintro e w1 ⟨rfl, t1⟩
  have HT1 := Lib.hid (HT0.out.trans t1)
  have HX1 := Lib.hid (t1.blk HX0.out)
  clear t1
  obtain ⟨b0, b1, b2, b3, b4, b5, b6, b7⟩ := imgBox HX1.out
  cases q1 with
  | true =>
    go_wp2_with fail
    go_ret
    exact ⟨by rw [HA.out]; rfl, HT1.out⟩
  | false =>
    go_wp2_with fail
    clear b0 b1 b2 b3 b4 b5 b6 b7
    refine (HAI.out _ HT1.out).mono ?_; rintro e w2 ⟨rfl, t2⟩
    have HT2 := Lib.hid (HT1.out.trans t2)
    clear t2
    cases q2 with
    | true =>
      go_wp2_with fail
      go_ret
      exact ⟨by rw [HA.out]; rfl, HT2.out⟩
    | false =>
      go_wp2_with fail
      go_ret
      exact ⟨by rw [HA.out]; rfl, HT2.out⟩
end Go.Proofs.Ytjeehbcbflofpaa
