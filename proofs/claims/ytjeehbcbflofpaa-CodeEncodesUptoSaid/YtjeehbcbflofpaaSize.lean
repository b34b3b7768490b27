/- code.Size of any image. -/
import Derived.Test.YtjeehbcbflofpaaCheck
namespace Go.Proofs.Ytjeehbcbflofpaa
set_option linter.unusedVariables false
set_option linter.unusedSimpArgs false
open Go.ChangeShapes Go.WideShapes Go.ChangeAt Go.RowKit
open M (W)
def M.sizeFn (f : M.Fn) : Nat := (f.blocks.map fun b => b.code.length).sum
theorem sum_take_le {α : Type} (f : α → Nat) (l : List α) (i : Nat) : ((l.take i).map f).sum ≤ (l.map f).sum := by
  have h : (l.map f).sum = ((l.take i).map f).sum + ((l.drop i).map f).sum := by
    rw [← List.sum_append, ← List.map_append, List.take_append_drop]
  omega
theorem sum_le_sum {α : Type} (f g : α → Nat) : ∀ (l : List α), (∀ x ∈ l, f x ≤ g x) → (l.map f).sum ≤ (l.map g).sum
  | [], _ => by simp
  | x :: l, h => by
    have h1 := h x (by simp)
    have h2 := sum_le_sum f g l (fun y hy => h y (by simp [hy]))
    simp only [List.map_cons, List.sum_cons]
    omega
theorem sizeFn_le (f : M.Fn) : M.sizeFn f ≤ M.wFn f := by
  unfold M.sizeFn M.wFn
  have := sum_le_sum (fun b : M.Bk => b.code.length) M.wBk f.blocks (fun b _ => by unfold M.wBk; omega)
  omega
theorem size_le (m : M.Img) : M.size m ≤ M.wImg m := by
  unfold M.size M.wImg
  have := sum_le_sum M.sizeFn M.wFn m.funcs (fun f _ => sizeFn_le f)
  unfold M.sizeFn at this
  omega
set_option maxRecDepth 100000 in
set_option maxHeartbeats 2000000 in
theorem size_any {B : Nat} {w : World} {v : ImgV} {m : M.Img} (hB : B ≤ w.heap.size) (hp : ImgIs B w v m) (hw : M.size m ≤ 1000000000) :
    Calls Try.prog 58 #[.agg #[.slice v.ta v.tn v.tc, .slice v.sa v.sn v.sc, .slice v.xa v.xn v.xc, .slice v.na v.nn v.nc, .slice v.fa v.fn v.fc, .int .i64 v.main, .int .i64 v.exn]] w fun e w' => e = .returned (.int .i64 (M.size m : Nat)) ∧ Still w w' := by
  have hL := hp.funcs
  have hle := hp.le.2.2.2.2
  obtain ⟨ta, tn, tc, sa, sn, sc, xa, xn, xc, na, nn, nc, fa, fn, fc, mi, ei⟩ := v
  dsimp only at hL hle ⊢
  have HL := Lib.hid hL
  have HB := Lib.hid hB
  have HLEN := Lib.hid hL.len
  have hfn : fn ≤ 9223372036854775807 := by unfold maxLen at hle; omega
  have HA : Hid (M.size m = (m.funcs.map M.sizeFn).sum) := rfl
  generalize m.funcs = fl at *
  generalize M.size m = r at *
  have HW : Hid (∀ i, ((fl.take i).map M.sizeFn).sum ≤ 1000000000) := fun i => by
    have := sum_take_le M.sizeFn fl i
    have := HA.out
    omega
  clear hB hp hL hle hw
  go_enter Try.func58, Try.ntmps58
  go_wp2_with fail
  go_loopw [3, 11] (fun z q wr => ∃ i n : Nat, q = .int .i64 i ∧ z = .int .i64 n ∧ i ≤ fn ∧ n = ((fl.take i).map M.sizeFn).sum ∧ Still w wr) (fun _ q _ => fn - (intOf q).toNat)
  case atStart => exact ⟨0, 0, rfl, rfl, by omega, by simp, (Still.refl w).alloc _⟩
  case round =>
    obtain ⟨i, n, rfl, rfl, hi, hn, ht⟩ := hrel
    have HN := Lib.hid hn
    clear hn
    by_cases hlt : i < fn
    · skip
      obtain ⟨b1, off1, f, cs1, rfl, hbB1, hx1, hcl1, hq1, hc1⟩ := HL.out.here hlt
      have hP1 := hq1
      obtain ⟨pa, pn, pc, ba, bn, bc, rfl, hr1⟩ := hq1
      have hbl1 : b1 < wr.heap.size := Nat.lt_of_lt_of_le (Nat.lt_of_lt_of_le hbB1 HB.out) ht.size
      have d10 : wr.cell? ⟨b1, off1 + i * 4, none⟩ = some (.slice pa pn pc) := (Still.cell ht (p := ⟨b1, _, none⟩) (Nat.lt_of_lt_of_le hbB1 HB.out)).trans (by simpa using hc1 0 (by decide))
      have d11 : wr.cell? ⟨b1, off1 + i * 4 + 1, none⟩ = some (.int .i64 f.result) := (Still.cell ht (p := ⟨b1, _, none⟩) (Nat.lt_of_lt_of_le hbB1 HB.out)).trans (by simpa using hc1 1 (by decide))
      have d12 : wr.cell? ⟨b1, off1 + i * 4 + 2, none⟩ = some (.int .i64 f.slots) := (Still.cell ht (p := ⟨b1, _, none⟩) (Nat.lt_of_lt_of_le hbB1 HB.out)).trans (by simpa using hc1 2 (by decide))
      have d13 : wr.cell? ⟨b1, off1 + i * 4 + 3, none⟩ = some (.slice ba bn bc) := (Still.cell ht (p := ⟨b1, _, none⟩) (Nat.lt_of_lt_of_le hbB1 HB.out)).trans (by simpa using hc1 3 (by decide))
      clear hcl1 hr1 hc1
      obtain ⟨_, _, _, hbl3, hbll, hn3, _, _⟩ := hP1.at_len
      have HBLK := Lib.hid hbll
      have HBL3 := Lib.hid hbl3
      have HST := Lib.hid (sum_step M.sizeFn hx1)
      have hn63 : bn ≤ 9223372036854775807 := by unfold maxLen at hn3; omega
      have HT := Lib.hid ht
      have HSF : Hid (M.sizeFn f = (f.blocks.map fun b => b.code.length).sum) := rfl
      have HTO := Lib.hid (HW.out (i + 1))
      clear hx1 hP1 ht hbl3 hbll hn3
      go_wp2_with fail
      go_loopw [3, 18] (fun z q wr => ∃ j n2 : Nat, q = .int .i64 j ∧ z = .int .i64 n2 ∧ j ≤ bn ∧ n2 = n + ((f.blocks.take j).map fun b => b.code.length).sum ∧ Still w wr) (fun _ q _ => bn - (intOf q).toNat)
      case atStart => exact ⟨0, n, rfl, rfl, by omega, by simp, HT.out.alloc _⟩
      case round =>
        obtain ⟨j, n2, rfl, rfl, hj, hn2, ht⟩ := hrel
        have HN2 := Lib.hid hn2
        clear hn2
        by_cases hlt2 : j < bn
        · skip
          obtain ⟨b2, off2, k, cs2, rfl, hbB2, hx2, hcl2, hq2, hc2⟩ := HBLK.out.here hlt2
          have hP2 := hq2
          obtain ⟨ia, inn, ic, ca, cn, cc, rfl, hr2⟩ := hq2
          have hbl2 : b2 < wr.heap.size := Nat.lt_of_lt_of_le (Nat.lt_of_lt_of_le hbB2 HB.out) ht.size
          have d20 : wr.cell? ⟨b2, off2 + j * 2, none⟩ = some (.slice ia inn ic) := (Still.cell ht (p := ⟨b2, _, none⟩) (Nat.lt_of_lt_of_le hbB2 HB.out)).trans (by simpa using hc2 0 (by decide))
          have d21 : wr.cell? ⟨b2, off2 + j * 2 + 1, none⟩ = some (.slice ca cn cc) := (Still.cell ht (p := ⟨b2, _, none⟩) (Nat.lt_of_lt_of_le hbB2 HB.out)).trans (by simpa using hc2 1 (by decide))
          clear hcl2 hr2 hc2
          obtain ⟨_, _, _, hcl3, _, _⟩ := hP2.at_len
          have HST2 := Lib.hid (sum_step (fun b : M.Bk => b.code.length) hx2)
          have HTK2 := Lib.hid (sum_take_le (fun b : M.Bk => b.code.length) f.blocks (j + 1))
          have HT := Lib.hid ht
          have hcn : n2 + cn ≤ 1000000000 := by
            have := HN2.out; have := HST2.out; have := HTK2.out; have := HTO.out; have := HST.out; have := HSF.out; have := HN.out
            try dsimp only at *
            omega
          have HC3 := Lib.hid hcl3
          clear hx2 hP2 ht hcl3
          go_wp2_with fail
          go_roundw
          case rel => exact ⟨j + 1, n2 + cn, by go_num, by go_num, by omega, by rw [HST2.out, HN2.out, HC3.out]; omega, HT.out.alloc _⟩
          case measure => simp [intOf]; omega
        · obtain rfl : j = bn := by omega
          have HE := Lib.hid (sum_end (fun b : M.Bk => b.code.length) HBL3.out)
          have HT := Lib.hid ht
          clear ht
          go_wp2_with fail
          go_roundw
          case rel => exact ⟨i + 1, n2, by go_num, rfl, by omega, by rw [HST.out, HN2.out, HN.out, HE.out, HSF.out], HT.out⟩
          case measure => simp [intOf]; omega
    · obtain rfl : i = fn := by omega
      have HE := Lib.hid (sum_end M.sizeFn HLEN.out)
      have HT := Lib.hid ht
      clear ht
      go_wp2_with fail
      go_ret
      refine ⟨?_, HT.out⟩
      have : r = n := by rw [HA.out, HN.out, HE.out]
      rw [this]
      rfl
end Go.Proofs.Ytjeehbcbflofpaa
