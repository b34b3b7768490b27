/- Lemmas, put together: Size BigAll. -/
import Derived.Test.YtglalgjffkoneaaGreatDoorV6
/- code.Size of any image. -/
namespace Go.Proofs.YtglalgjffkoneaaGreatDoor
set_option linter.unusedVariables false
set_option linter.unusedSimpArgs false
open Go.ChangeShapes Go.WideShapes Go.ChangeAt Go.RowKit
open M (W)
def M.sizeFn (f : M.Fn) : Nat := (f.blocks.map fun b => b.code.length).sum
theorem sum_take_le {α : Type} (f : α → Nat) (l : List α) (i : Nat) : ((l.take i).map f).sum ≤ (l.map f).sum := by
  have h : (l.map f).sum = ((l.take i).map f).sum + ((l.drop i).map f).sum := by
    rw [← List.sum_append, ← List.map_append, List.take_append_drop]
  omega
theorem sum_le_sum {α : Type} (f g : α → Nat) : ∀ (l : List α), (∀ x ∈ l, f x ≤ g x) → (l.map f).sum ≤ (l.map g).sum
  | [], _ => by simp
  | x :: l, h => by
    have h1 := h x (by simp)
    have h2 := sum_le_sum f g l (fun y hy => h y (by simp [hy]))
    simp only [List.map_cons, List.sum_cons]
    omega
theorem sizeFn_le (f : M.Fn) : M.sizeFn f ≤ M.wFn f := by
  unfold M.sizeFn M.wFn
  have := sum_le_sum (fun b : M.Bk => b.code.length) M.wBk f.blocks (fun b _ => by unfold M.wBk; omega)
  omega
theorem size_le (m : M.Img) : M.size m ≤ M.wImg m := by
  unfold M.size M.wImg
  have := sum_le_sum M.sizeFn M.wFn m.funcs (fun f _ => sizeFn_le f)
  unfold M.sizeFn at this
  omega
set_option maxRecDepth 100000 in
set_option maxHeartbeats 2000000 in
theorem size_any {B : Nat} {w : World} {v : ImgV} {m : M.Img} (hB : B ≤ w.heap.size) (hp : ImgIs B w v m) (hw : M.size m ≤ 1000000000) :
    Calls Tryz.prog 112 #[.agg #[.slice v.ta v.tn v.tc, .slice v.sa v.sn v.sc, .slice v.xa v.xn v.xc, .slice v.na v.nn v.nc, .slice v.fa v.fn v.fc, .int .i64 v.main, .int .i64 v.exn]] w fun e w' => e = .returned (.int .i64 (M.size m : Nat)) ∧ Still w w' := by
  have hL := hp.funcs
  have hle := hp.le.2.2.2.2
  obtain ⟨ta, tn, tc, sa, sn, sc, xa, xn, xc, na, nn, nc, fa, fn, fc, mi, ei⟩ := v
  dsimp only at hL hle ⊢
  have HL := Lib.hid hL
  have HB := Lib.hid hB
  have HLEN := Lib.hid hL.len
  have hfn : fn ≤ 9223372036854775807 := by unfold maxLen at hle; omega
  have HA : Hid (M.size m = (m.funcs.map M.sizeFn).sum) := rfl
  generalize m.funcs = fl at *
  generalize M.size m = r at *
  have HW : Hid (∀ i, ((fl.take i).map M.sizeFn).sum ≤ 1000000000) := fun i => by
    have := sum_take_le M.sizeFn fl i
    have := HA.out
    omega
  clear hB hp hL hle hw
  go_enter Tryz.func112, Tryz.ntmps112
  go_wp2_with fail
  go_loopw [3, 11] (fun z q wr => ∃ i n : Nat, q = .int .i64 i ∧ z = .int .i64 n ∧ i ≤ fn ∧ n = ((fl.take i).map M.sizeFn).sum ∧ Still w wr) (fun _ q _ => fn - (intOf q).toNat)
  case atStart => exact ⟨0, 0, rfl, rfl, by omega, by simp, (Still.refl w).alloc _⟩
  case round =>
    obtain ⟨i, n, rfl, rfl, hi, hn, ht⟩ := hrel
    have HN := Lib.hid hn
    clear hn
    by_cases hlt : i < fn
    · skip
      obtain ⟨b1, off1, f, cs1, rfl, hbB1, hx1, hcl1, hq1, hc1⟩ := HL.out.here hlt
      have hP1 := hq1
      obtain ⟨pa, pn, pc, ba, bn, bc, rfl, hr1⟩ := hq1
      have hbl1 : b1 < wr.heap.size := Nat.lt_of_lt_of_le (Nat.lt_of_lt_of_le hbB1 HB.out) ht.size
      have d10 : wr.cell? ⟨b1, off1 + i * 4, none⟩ = some (.slice pa pn pc) := (Still.cell ht (p := ⟨b1, _, none⟩) (Nat.lt_of_lt_of_le hbB1 HB.out)).trans (by simpa using hc1 0 (by decide))
      have d11 : wr.cell? ⟨b1, off1 + i * 4 + 1, none⟩ = some (.int .i64 f.result) := (Still.cell ht (p := ⟨b1, _, none⟩) (Nat.lt_of_lt_of_le hbB1 HB.out)).trans (by simpa using hc1 1 (by decide))
      have d12 : wr.cell? ⟨b1, off1 + i * 4 + 2, none⟩ = some (.int .i64 f.slots) := (Still.cell ht (p := ⟨b1, _, none⟩) (Nat.lt_of_lt_of_le hbB1 HB.out)).trans (by simpa using hc1 2 (by decide))
      have d13 : wr.cell? ⟨b1, off1 + i * 4 + 3, none⟩ = some (.slice ba bn bc) := (Still.cell ht (p := ⟨b1, _, none⟩) (Nat.lt_of_lt_of_le hbB1 HB.out)).trans (by simpa using hc1 3 (by decide))
      clear hcl1 hr1 hc1
      obtain ⟨_, _, _, hbl3, hbll, hn3, _, _⟩ := hP1.at_len
      have HBLK := Lib.hid hbll
      have HBL3 := Lib.hid hbl3
      have HST := Lib.hid (sum_step M.sizeFn hx1)
      have hn63 : bn ≤ 9223372036854775807 := by unfold maxLen at hn3; omega
      have HT := Lib.hid ht
      have HSF : Hid (M.sizeFn f = (f.blocks.map fun b => b.code.length).sum) := rfl
      have HTO := Lib.hid (HW.out (i + 1))
      clear hx1 hP1 ht hbl3 hbll hn3
      go_wp2_with fail
      go_loopw [3, 18] (fun z q wr => ∃ j n2 : Nat, q = .int .i64 j ∧ z = .int .i64 n2 ∧ j ≤ bn ∧ n2 = n + ((f.blocks.take j).map fun b => b.code.length).sum ∧ Still w wr) (fun _ q _ => bn - (intOf q).toNat)
      case atStart => exact ⟨0, n, rfl, rfl, by omega, by simp, HT.out.alloc _⟩
      case round =>
        obtain ⟨j, n2, rfl, rfl, hj, hn2, ht⟩ := hrel
        have HN2 := Lib.hid hn2
        clear hn2
        by_cases hlt2 : j < bn
        · skip
          obtain ⟨b2, off2, k, cs2, rfl, hbB2, hx2, hcl2, hq2, hc2⟩ := HBLK.out.here hlt2
          have hP2 := hq2
          obtain ⟨ia, inn, ic, ca, cn, cc, rfl, hr2⟩ := hq2
          have hbl2 : b2 < wr.heap.size := Nat.lt_of_lt_of_le (Nat.lt_of_lt_of_le hbB2 HB.out) ht.size
          have d20 : wr.cell? ⟨b2, off2 + j * 2, none⟩ = some (.slice ia inn ic) := (Still.cell ht (p := ⟨b2, _, none⟩) (Nat.lt_of_lt_of_le hbB2 HB.out)).trans (by simpa using hc2 0 (by decide))
          have d21 : wr.cell? ⟨b2, off2 + j * 2 + 1, none⟩ = some (.slice ca cn cc) := (Still.cell ht (p := ⟨b2, _, none⟩) (Nat.lt_of_lt_of_le hbB2 HB.out)).trans (by simpa using hc2 1 (by decide))
          clear hcl2 hr2 hc2
          obtain ⟨_, _, _, hcl3, _, _⟩ := hP2.at_len
          have HST2 := Lib.hid (sum_step (fun b : M.Bk => b.code.length) hx2)
          have HTK2 := Lib.hid (sum_take_le (fun b : M.Bk => b.code.length) f.blocks (j + 1))
          have HT := Lib.hid ht
          have hcn : n2 + cn ≤ 1000000000 := by
            have := HN2.out; have := HST2.out; have := HTK2.out; have := HTO.out; have := HST.out; have := HSF.out; have := HN.out
            try dsimp only at *
            omega
          have HC3 := Lib.hid hcl3
          clear hx2 hP2 ht hcl3
          go_wp2_with fail
          go_roundw
          case rel => exact ⟨j + 1, n2 + cn, by go_num, by go_num, by omega, by rw [HST2.out, HN2.out, HC3.out]; omega, HT.out.alloc _⟩
          case measure => simp [intOf]; omega
        · obtain rfl : j = bn := by omega
          have HE := Lib.hid (sum_end (fun b : M.Bk => b.code.length) HBL3.out)
          have HT := Lib.hid ht
          clear ht
          go_wp2_with fail
          go_roundw
          case rel => exact ⟨i + 1, n2, by go_num, rfl, by omega, by rw [HST.out, HN2.out, HN.out, HE.out, HSF.out], HT.out⟩
          case measure => simp [intOf]; omega
    · obtain rfl : i = fn := by omega
      have HE := Lib.hid (sum_end M.sizeFn HLEN.out)
      have HT := Lib.hid ht
      clear ht
      go_wp2_with fail
      go_ret
      refine ⟨?_, HT.out⟩
      have : r = n := by rw [HA.out, HN.out, HE.out]
      rw [this]
      rfl
end Go.Proofs.YtglalgjffkoneaaGreatDoor
/- code.big and code.Check of any image. -/
namespace Go.Proofs.YtglalgjffkoneaaGreatDoor
set_option linter.unusedVariables false
set_option linter.unusedSimpArgs false
open Go.ChangeShapes Go.WideShapes Go.ChangeAt Go.RowKit
open M (W)
theorem imgBox {w : World} {k : Nat} {t : TypeId} {a b c d e f g : Value} (h : Blk w k t #[a, b, c, d, e, f, g]) :
    k < w.heap.size ∧ w.cell? ⟨k, 0, none⟩ = some a ∧ w.cell? ⟨k, 1, none⟩ = some b ∧ w.cell? ⟨k, 2, none⟩ = some c ∧ w.cell? ⟨k, 3, none⟩ = some d ∧ w.cell? ⟨k, 4, none⟩ = some e ∧ w.cell? ⟨k, 5, none⟩ = some f ∧ w.cell? ⟨k, 6, none⟩ = some g :=
  ⟨h.lt, h.cell 0, h.cell 1, h.cell 2, h.cell 3, h.cell 4, h.cell 5, h.cell 6⟩
set_option maxRecDepth 100000 in
set_option maxHeartbeats 4000000 in
theorem big_any {B : Nat} {w : World} {v : ImgV} {m : M.Img} (hB : B ≤ w.heap.size) (hp : ImgIs B w v m) (hw : M.size m ≤ 1000000000) :
    Calls Tryz.prog 70 #[.agg #[.slice v.ta v.tn v.tc, .slice v.sa v.sn v.sc, .slice v.xa v.xn v.xc, .slice v.na v.nn v.nc, .slice v.fa v.fn v.fc, .int .i64 v.main, .int .i64 v.exn]] w fun e w' => e = .returned (.bool (M.big m)) ∧ Still w w' := by
  obtain ⟨l1, l2, l3, l4, l5⟩ := hp.le
  have e1 := hp.types.len
  have e2 := hp.shapes.len
  have e3 := hp.strings.len
  have e4 := hp.names.len
  have e5 := hp.funcs.len
  have HC1 := Lib.hid (fun W (hW : Still w W) => have ht : Below B w W := (Still.below hW).mono hB; containsTy_any (c := v.tc) M.bigTy 105 (enters_of Tryz.func105 (by kernel_rfl) rfl) (Lies.keep hp.types ht hB (fun _ _ _ h => h.keep ht hB)) (Nat.le_trans hB hW.size) l1 (fun a2 n2 c2 y W _ hp _ => bigType_any hp))
  have HC2 := Lib.hid (fun W (hW : Still w W) => have ht : Below B w W := (Still.below hW).mono hB; containsSh_any (c := v.sc) M.bigSh 107 (enters_of Tryz.func107 (by kernel_rfl) rfl) (Lies.keep hp.shapes ht hB (fun _ _ _ h => h.keep ht hB)) (Nat.le_trans hB hW.size) l2 (fun a2 n2 c2 y W _ hp _ => bigShape_any hp))
  have HC3 := Lib.hid (fun W (hW : Still w W) => have ht : Below B w W := (Still.below hW).mono hB; containsTx_any (c := v.xc) M.bigTx 109 (enters_of Tryz.func109 (by kernel_rfl) rfl) (Lies.keep hp.strings ht hB (fun _ _ _ h => h)) (Nat.le_trans hB hW.size) l3 (fun y W _ hp _ => (bigText_any y W).mono (fun e w' h => ⟨h.1, by rw [h.2]; exact Still.refl _⟩)))
  have HC4 := Lib.hid (fun W (hW : Still w W) => have ht : Below B w W := (Still.below hW).mono hB; containsTx_any (c := v.nc) M.bigTx 109 (enters_of Tryz.func109 (by kernel_rfl) rfl) (Lies.keep hp.names ht hB (fun _ _ _ h => h)) (Nat.le_trans hB hW.size) l4 (fun y W _ hp _ => (bigText_any y W).mono (fun e w' h => ⟨h.1, by rw [h.2]; exact Still.refl _⟩)))
  have HC5 := Lib.hid (fun W (hW : Still w W) => have ht : Below B w W := (Still.below hW).mono hB; containsFn_any (c := v.fc) M.bigFn 111 (enters_of Tryz.func111 (by kernel_rfl) rfl) (Lies.keep hp.funcs ht hB (fun _ _ _ h => h.keep ht hB)) (Nat.le_trans hB hW.size) l5 (fun a2 n2 c2 a3 n3 c3 y W _ hp hb => bigFunc_any hp hb))
  have HSZ := Lib.hid (fun W (hW : Still w W) => size_any (Nat.le_trans hB hW.size) (hp.keep ((Still.below hW).mono hB) hB) hw)
  have HAI := Lib.hid (fun W (hW : Still w W) => anyInstr_any M.bigIns 113 (enters_of Tryz.func113 (by kernel_rfl) rfl) (Nat.le_trans hB hW.size) (hp.keep ((Still.below hW).mono hB) hB) (fun la ln lc ma mn mc va vn vc x W hp _ => bigInstr_any hp))
  obtain ⟨ta, tn, tc, sa, sn, sc, xa, xn, xc, na, nn, nc, fa, fn, fc, mi, ei⟩ := v
  dsimp only at l1 l2 l3 l4 l5 e1 e2 e3 e4 e5 HC1 HC2 HC3 HC4 HC5 HSZ HAI ⊢
  have HA : Hid (M.big m = (decide (1024 < tn) || decide (512 < sn) || decide (256 < xn) || decide (256 < nn) || decide (1024 < fn) ||
      m.types.any M.bigTy || m.shapes.any M.bigSh || m.strings.any M.bigTx || m.names.any M.bigTx || m.funcs.any M.bigFn || decide (20000 < M.size m) || M.anyIns M.bigIns m)) := by
    unfold M.big
    rw [e1, e2, e3, e4, e5]
    rfl
  generalize M.big m = r at *
  generalize m.types.any M.bigTy = q1 at *
  generalize m.shapes.any M.bigSh = q2 at *
  generalize m.strings.any M.bigTx = q3 at *
  generalize m.names.any M.bigTx = q4 at *
  generalize m.funcs.any M.bigFn = q5 at *
  generalize M.size m = z at *
  generalize M.anyIns M.bigIns m = q7 at *
  have HZ := Lib.hid hw
  clear hB hp e1 e2 e3 e4 e5 hw
  by_cases hb0 : (1024 : Int) < tn
  · skip
    go_enter Tryz.func70, Tryz.ntmps70
    go_wp2_with fail
    go_ret
    refine ⟨?_, (Still.refl w).alloc _⟩
    rw [HA.out]
    have e0 : decide (1024 < tn) = true := decide_eq_true (by omega)
    simp only [e0, Bool.or_true, Bool.true_or, Bool.or_false, Bool.false_or]
    rfl
  · skip
    by_cases hb1 : (512 : Int) < sn
    · skip
      go_enter Tryz.func70, Tryz.ntmps70
      go_wp2_with fail
      go_ret
      refine ⟨?_, (Still.refl w).alloc _⟩
      rw [HA.out]
      have e0 : decide (1024 < tn) = false := decide_eq_false (by omega)
      have e1 : decide (512 < sn) = true := decide_eq_true (by omega)
      simp only [e0, e1, Bool.or_true, Bool.true_or, Bool.or_false, Bool.false_or]
      rfl
    · skip
      by_cases hb2 : (256 : Int) < xn
      · skip
        go_enter Tryz.func70, Tryz.ntmps70
        go_wp2_with fail
        go_ret
        refine ⟨?_, (Still.refl w).alloc _⟩
        rw [HA.out]
        have e0 : decide (1024 < tn) = false := decide_eq_false (by omega)
        have e1 : decide (512 < sn) = false := decide_eq_false (by omega)
        have e2 : decide (256 < xn) = true := decide_eq_true (by omega)
        simp only [e0, e1, e2, Bool.or_true, Bool.true_or, Bool.or_false, Bool.false_or]
        rfl
      · skip
        by_cases hb3 : (256 : Int) < nn
        · skip
          go_enter Tryz.func70, Tryz.ntmps70
          go_wp2_with fail
          go_ret
          refine ⟨?_, (Still.refl w).alloc _⟩
          rw [HA.out]
          have e0 : decide (1024 < tn) = false := decide_eq_false (by omega)
          have e1 : decide (512 < sn) = false := decide_eq_false (by omega)
          have e2 : decide (256 < xn) = false := decide_eq_false (by omega)
          have e3 : decide (256 < nn) = true := decide_eq_true (by omega)
          simp only [e0, e1, e2, e3, Bool.or_true, Bool.true_or, Bool.or_false, Bool.false_or]
          rfl
        · skip
          by_cases hb4 : (1024 : Int) < fn
          · skip
            go_enter Tryz.func70, Tryz.ntmps70
            go_wp2_with fail
            go_ret
            refine ⟨?_, (Still.refl w).alloc _⟩
            rw [HA.out]
            have e0 : decide (1024 < tn) = false := decide_eq_false (by omega)
            have e1 : decide (512 < sn) = false := decide_eq_false (by omega)
            have e2 : decide (256 < xn) = false := decide_eq_false (by omega)
            have e3 : decide (256 < nn) = false := decide_eq_false (by omega)
            have e4 : decide (1024 < fn) = true := decide_eq_true (by omega)
            simp only [e0, e1, e2, e3, e4, Bool.or_true, Bool.true_or, Bool.or_false, Bool.false_or]
            rfl
          · skip
            go_enter Tryz.func70, Tryz.ntmps70
            go_wp2_with fail
            have HT0 : Hid (Still w (w.alloc (.cells #[.slice ta tn tc, .slice sa sn sc, .slice xa xn xc, .slice na nn nc, .slice fa fn fc, .int .i64 mi, .int .i64 ei] 27))) := (Still.refl w).alloc _
            have HX0 : Hid (Blk (w.alloc (.cells #[.slice ta tn tc, .slice sa sn sc, .slice xa xn xc, .slice na nn nc, .slice fa fn fc, .int .i64 mi, .int .i64 ei] 27)) w.heap.size 27 #[.slice ta tn tc, .slice sa sn sc, .slice xa xn xc, .slice na nn nc, .slice fa fn fc, .int .i64 mi, .int .i64 ei]) := Blk.new w _ _
            refine (HC1.out _ HT0.out).mono ?_; rintro e w1 ⟨rfl, t1⟩
            have HT1 := Lib.hid (HT0.out.trans t1)
            have HX1 := Lib.hid (t1.blk HX0.out)
            clear t1
            have bf1 := imgBox HX1.out
            obtain ⟨b0, b1, b2, b3, b4, b5, b6, b7⟩ := bf1
            cases q1 with
            | true =>
              go_wp2_with fail
              go_ret
              refine ⟨?_, HT1.out⟩
              rw [HA.out]
              have e0 : decide (1024 < tn) = false := decide_eq_false (by omega)
              have e1 : decide (512 < sn) = false := decide_eq_false (by omega)
              have e2 : decide (256 < xn) = false := decide_eq_false (by omega)
              have e3 : decide (256 < nn) = false := decide_eq_false (by omega)
              have e4 : decide (1024 < fn) = false := decide_eq_false (by omega)
              simp only [e0, e1, e2, e3, e4, Bool.or_true, Bool.true_or, Bool.or_false, Bool.false_or]
              rfl
            | false =>
              go_wp2_with fail
              clear b0 b1 b2 b3 b4 b5 b6 b7
              refine (HC2.out _ HT1.out).mono ?_; rintro e w2 ⟨rfl, t2⟩
              have HT2 := Lib.hid (HT1.out.trans t2)
              have HX2 := Lib.hid (t2.blk HX1.out)
              clear t2
              have bf2 := imgBox HX2.out
              obtain ⟨b0, b1, b2, b3, b4, b5, b6, b7⟩ := bf2
              cases q2 with
              | true =>
                go_wp2_with fail
                go_ret
                refine ⟨?_, HT2.out⟩
                rw [HA.out]
                have e0 : decide (1024 < tn) = false := decide_eq_false (by omega)
                have e1 : decide (512 < sn) = false := decide_eq_false (by omega)
                have e2 : decide (256 < xn) = false := decide_eq_false (by omega)
                have e3 : decide (256 < nn) = false := decide_eq_false (by omega)
                have e4 : decide (1024 < fn) = false := decide_eq_false (by omega)
                simp only [e0, e1, e2, e3, e4, Bool.or_true, Bool.true_or, Bool.or_false, Bool.false_or]
                rfl
              | false =>
                go_wp2_with fail
                clear b0 b1 b2 b3 b4 b5 b6 b7
                refine (HC3.out _ HT2.out).mono ?_; rintro e w3 ⟨rfl, t3⟩
                have HT3 := Lib.hid (HT2.out.trans t3)
                have HX3 := Lib.hid (t3.blk HX2.out)
                clear t3
                have bf3 := imgBox HX3.out
                obtain ⟨b0, b1, b2, b3, b4, b5, b6, b7⟩ := bf3
                cases q3 with
                | true =>
                  go_wp2_with fail
                  go_ret
                  refine ⟨?_, HT3.out⟩
                  rw [HA.out]
                  have e0 : decide (1024 < tn) = false := decide_eq_false (by omega)
                  have e1 : decide (512 < sn) = false := decide_eq_false (by omega)
                  have e2 : decide (256 < xn) = false := decide_eq_false (by omega)
                  have e3 : decide (256 < nn) = false := decide_eq_false (by omega)
                  have e4 : decide (1024 < fn) = false := decide_eq_false (by omega)
                  simp only [e0, e1, e2, e3, e4, Bool.or_true, Bool.true_or, Bool.or_false, Bool.false_or]
                  rfl
                | false =>
                  go_wp2_with fail
                  clear b0 b1 b2 b3 b4 b5 b6 b7
                  refine (HC4.out _ HT3.out).mono ?_; rintro e w4 ⟨rfl, t4⟩
                  have HT4 := Lib.hid (HT3.out.trans t4)
                  have HX4 := Lib.hid (t4.blk HX3.out)
                  clear t4
                  have bf4 := imgBox HX4.out
                  obtain ⟨b0, b1, b2, b3, b4, b5, b6, b7⟩ := bf4
                  cases q4 with
                  | true =>
                    go_wp2_with fail
                    go_ret
                    refine ⟨?_, HT4.out⟩
                    rw [HA.out]
                    have e0 : decide (1024 < tn) = false := decide_eq_false (by omega)
                    have e1 : decide (512 < sn) = false := decide_eq_false (by omega)
                    have e2 : decide (256 < xn) = false := decide_eq_false (by omega)
                    have e3 : decide (256 < nn) = false := decide_eq_false (by omega)
                    have e4 : decide (1024 < fn) = false := decide_eq_false (by omega)
                    simp only [e0, e1, e2, e3, e4, Bool.or_true, Bool.true_or, Bool.or_false, Bool.false_or]
                    rfl
                  | false =>
                    go_wp2_with fail
                    clear b0 b1 b2 b3 b4 b5 b6 b7
                    refine (HC5.out _ HT4.out).mono ?_; rintro e w5 ⟨rfl, t5⟩
                    have HT5 := Lib.hid (HT4.out.trans t5)
                    have HX5 := Lib.hid (t5.blk HX4.out)
                    clear t5
                    have bf5 := imgBox HX5.out
                    obtain ⟨b0, b1, b2, b3, b4, b5, b6, b7⟩ := bf5
                    cases q5 with
                    | true =>
                      go_wp2_with fail
                      go_ret
                      refine ⟨?_, HT5.out⟩
                      rw [HA.out]
                      have e0 : decide (1024 < tn) = false := decide_eq_false (by omega)
                      have e1 : decide (512 < sn) = false := decide_eq_false (by omega)
                      have e2 : decide (256 < xn) = false := decide_eq_false (by omega)
                      have e3 : decide (256 < nn) = false := decide_eq_false (by omega)
                      have e4 : decide (1024 < fn) = false := decide_eq_false (by omega)
                      simp only [e0, e1, e2, e3, e4, Bool.or_true, Bool.true_or, Bool.or_false, Bool.false_or]
                      rfl
                    | false =>
                      go_wp2_with fail
                      clear b0 b1 b2 b3 b4 b5 b6 b7
                      refine (HSZ.out _ HT5.out).mono ?_; rintro e w6 ⟨rfl, t6⟩
                      have HT6 := Lib.hid (HT5.out.trans t6)
                      have HX6 := Lib.hid (t6.blk HX5.out)
                      clear t6
                      have bf6 := imgBox HX6.out
                      obtain ⟨b0, b1, b2, b3, b4, b5, b6, b7⟩ := bf6
                      by_cases hz : (20000 : Int) < z
                      · skip
                        go_wp2_with fail
                        go_ret
                        refine ⟨?_, HT6.out⟩
                        rw [HA.out]
                        have e0 : decide (1024 < tn) = false := decide_eq_false (by omega)
                        have e1 : decide (512 < sn) = false := decide_eq_false (by omega)
                        have e2 : decide (256 < xn) = false := decide_eq_false (by omega)
                        have e3 : decide (256 < nn) = false := decide_eq_false (by omega)
                        have e4 : decide (1024 < fn) = false := decide_eq_false (by omega)
                        have e5 : decide (20000 < z) = true := decide_eq_true (by omega)
                        simp only [e0, e1, e2, e3, e4, e5, Bool.or_true, Bool.true_or, Bool.or_false, Bool.false_or]
                        rfl
                      · skip
                        go_wp2_with fail
                        clear b0 b1 b2 b3 b4 b5 b6 b7
                        refine (HAI.out _ HT6.out).mono ?_; rintro e w7 ⟨rfl, t7⟩
                        have HT7 := Lib.hid (HT6.out.trans t7)
                        have HX7 := Lib.hid (t7.blk HX6.out)
                        clear t7
                        have bf7 := imgBox HX7.out
                        obtain ⟨b0, b1, b2, b3, b4, b5, b6, b7⟩ := bf7
                        clear b0 b1 b2 b3 b4 b5 b6 b7
                        go_wp2_with fail
                        go_ret
                        refine ⟨?_, HT7.out⟩
                        rw [HA.out]
                        have e0 : decide (1024 < tn) = false := decide_eq_false (by omega)
                        have e1 : decide (512 < sn) = false := decide_eq_false (by omega)
                        have e2 : decide (256 < xn) = false := decide_eq_false (by omega)
                        have e3 : decide (256 < nn) = false := decide_eq_false (by omega)
                        have e4 : decide (1024 < fn) = false := decide_eq_false (by omega)
                        have e5 : decide (20000 < z) = false := decide_eq_false (by omega)
                        simp only [e0, e1, e2, e3, e4, e5, Bool.or_true, Bool.true_or, Bool.or_false, Bool.false_or]
                        show Ending.returned (.bool (decide ((20000 : Int) < z) || q7)) = _
                        rw [decide_eq_false (by omega)]
                        rfl
set_option maxRecDepth 100000 in
set_option maxHeartbeats 4000000 in
theorem check_any {B : Nat} {w : World} {v : ImgV} {m : M.Img} (hB : B ≤ w.heap.size) (hp : ImgIs B w v m) (hw : M.size m ≤ 1000000000) :
    Calls Tryz.prog 39 #[.agg #[.slice v.ta v.tn v.tc, .slice v.sa v.sn v.sc, .slice v.xa v.xn v.xc, .slice v.na v.nn v.nc, .slice v.fa v.fn v.fc, .int .i64 v.main, .int .i64 v.exn]] w fun e w' => e = .returned (.int .i64 (M.check m)) ∧ Still w w' := by
  have HBG := Lib.hid (fun W (hW : Still w W) => big_any (Nat.le_trans hB hW.size) (hp.keep ((Still.below hW).mono hB) hB) hw)
  have HAI := Lib.hid (fun W (hW : Still w W) => anyInstr_any (fun x => !(M.plainIns x)) 72 (enters_of Tryz.func72 (by kernel_rfl) rfl) (Nat.le_trans hB hW.size) (hp.keep ((Still.below hW).mono hB) hB) (fun la ln lc ma mn mc va vn vc x W hp _ => notPlain_any hp))
  obtain ⟨ta, tn, tc, sa, sn, sc, xa, xn, xc, na, nn, nc, fa, fn, fc, mi, ei⟩ := v
  dsimp only at HBG HAI ⊢
  have HA : Hid (M.check m = if M.big m then 2 else if M.anyIns (fun x => !(M.plainIns x)) m then 1 else 0) := rfl
  generalize M.check m = r at *
  generalize M.big m = q1 at *
  generalize M.anyIns (fun x => !(M.plainIns x)) m = q2 at *
  clear hB hp hw
  have HT0 : Hid (Still w (w.alloc (.cells #[.slice ta tn tc, .slice sa sn sc, .slice xa xn xc, .slice na nn nc, .slice fa fn fc, .int .i64 mi, .int .i64 ei] 27))) := (Still.refl w).alloc _
  have HX0 : Hid (Blk (w.alloc (.cells #[.slice ta tn tc, .slice sa sn sc, .slice xa xn xc, .slice na nn nc, .slice fa fn fc, .int .i64 mi, .int .i64 ei] 27)) w.heap.size 27 #[.slice ta tn tc, .slice sa sn sc, .slice xa xn xc, .slice na nn nc, .slice fa fn fc, .int .i64 mi, .int .i64 ei]) := Blk.new w _ _
  go_enter Tryz.func39, Tryz.ntmps39
  go_wp2_with fail
  refine (HBG.out _ HT0.out).mono ?_; rintro e w1 ⟨rfl, t1⟩
  have HT1 := Lib.hid (HT0.out.trans t1)
  have HX1 := Lib.hid (t1.blk HX0.out)
  clear t1
  obtain ⟨b0, b1, b2, b3, b4, b5, b6, b7⟩ := imgBox HX1.out
  cases q1 with
  | true =>
    go_wp2_with fail
    go_ret
    exact ⟨by rw [HA.out]; rfl, HT1.out⟩
  | false =>
    go_wp2_with fail
    clear b0 b1 b2 b3 b4 b5 b6 b7
    refine (HAI.out _ HT1.out).mono ?_; rintro e w2 ⟨rfl, t2⟩
    have HT2 := Lib.hid (HT1.out.trans t2)
    clear t2
    cases q2 with
    | true =>
      go_wp2_with fail
      go_ret
      exact ⟨by rw [HA.out]; rfl, HT2.out⟩
    | false =>
      go_wp2_with fail
      go_ret
      exact ⟨by rw [HA.out]; rfl, HT2.out⟩
end Go.Proofs.YtglalgjffkoneaaGreatDoor
