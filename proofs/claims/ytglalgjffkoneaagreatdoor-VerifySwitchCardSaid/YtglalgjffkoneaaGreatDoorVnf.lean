/- needWholeFunc: may a function be one of an image? -/
import Derived.Test.YtglalgjffkoneaaGreatDoorV5
import Derived.Test.YtglalgjffkoneaaGreatDoorV6
namespace Go.Proofs.YtglalgjffkoneaaGreatDoor
set_option linter.unusedVariables false
set_option linter.unusedSimpArgs false
open Go.ChangeShapes Go.WideShapes Go.ChangeAt Go.RowKit
def innB (nT : Nat) (n : Int) : Bool := n == -1 || hasB n nT
def bkB (nT : Nat) (slots : Int) (b : M.Bk) : Bool := decide ((b.inn.length : Int) = slots) && b.inn.all (innB nT)
def firstB (f : M.Fn) : Bool := match f.blocks with | [] => true | b :: _ => decide (b.inn.take f.params.length = f.params) && (b.inn.drop f.params.length).all (fun n => n == -1)
def fnB (nT : Nat) (f : M.Fn) : Bool := inAll nT f.params && hasB f.result nT && (decide ((f.params.length : Int) ≤ f.slots) && (decide (0 < f.blocks.length) && (f.blocks.all (bkB nT f.slots) && firstB f)))
/-- The first block's In may be cut. -/
def BkRoom (w : World) (ba : Option Addr) (bn : Nat) : Prop := ∀ b off, ba = some ⟨b, off, none⟩ → 0 < bn → ∀ ia inn ic, w.cell? ⟨b, off, none⟩ = some (.slice ia inn ic) → inn ≤ ic
theorem Ints.take {B : Nat} {w : World} {a : Option Addr} {n : Nat} {xs : List Int} (h : Ints B w a n xs) {k : Nat} (hk : k ≤ n) : Ints B w a k (xs.take k) :=
  ⟨by rw [List.length_take, h.len]; omega, fun h0 => by
    obtain ⟨b, off, ha, hB, hx⟩ := h.at_ (by omega)
    refine ⟨b, off, ha, hB, fun i x hi => hx i x ?_⟩
    rw [List.getElem?_take] at hi
    split at hi
    · exact hi
    · cases hi⟩
theorem Ints.drop {B : Nat} {w : World} {b off : Nat} {n : Nat} {xs : List Int} (h : Ints B w (some ⟨b, off, none⟩) n xs) {k : Nat} (hk : k ≤ n) : Ints B w (some ⟨b, off + k, none⟩) (n - k) (xs.drop k) :=
  ⟨by rw [List.length_drop, h.len], fun h0 => by
    obtain ⟨b', off', ha, hB, hx⟩ := h.at_ (by omega)
    simp only [Option.some.injEq, Addr.mk.injEq, and_true] at ha
    obtain ⟨rfl, rfl⟩ := ha
    refine ⟨b, off + k, rfl, hB, fun i x hi => ?_⟩
    rw [List.getElem?_drop] at hi
    obtain ⟨cs, h1, h2, h3⟩ := hx (k + i) x hi
    refine ⟨cs, h1, h2, fun j hj => ?_⟩
    rw [← h3 j hj]
    congr 2
    omega⟩
/-- While a function is gone through: the image's box, the function's. -/
structure NFat (w : World) (mc fc : Array Value) (W : World) : Prop where
  st : Still w W
  img : Blk W w.heap.size 27 mc
  fn : Blk W (w.heap.size + 1) 45 fc
theorem NFat.still {w W W' : World} {mc fc : Array Value} (h : NFat w mc fc W) (t : Still W W') : NFat w mc fc W' := ⟨h.st.trans t, t.blk h.img, t.blk h.fn⟩
set_option maxRecDepth 100000 in
set_option maxHeartbeats 8000000 in
theorem needFn_any {B : Nat} {w : World} {v : ImgV} {m : M.Img} {f : M.Fn} (hp : ImgIs B w v m) (hB : B ≤ w.heap.size) {pa : Option Addr} {pn pc : Nat} {ba : Option Addr} {bn bc : Nat} (hpar : Ints B w pa pn f.params) (hpn : pn ≤ maxLen) (hbn : bn ≤ maxLen) (hbl : Lies B w 2 (BkIs B w) ba bn f.blocks) (hroom : BkRoom w ba bn) :
    Calls Tryz.prog 48 #[.agg #[.slice v.ta v.tn v.tc, .slice v.sa v.sn v.sc, .slice v.xa v.xn v.xc, .slice v.na v.nn v.nc, .slice v.fa v.fn v.fc, .int .i64 v.main, .int .i64 v.exn], .agg #[.slice pa pn pc, .int .i64 f.result, .int .i64 f.slots, .slice ba bn bc]] w (AskR (fnB m.types.length f = true) w) := by
  have HTN : Hid (m.types.length = v.tn) := hp.types.len
  have HPL : Hid (f.params.length = pn) := hpar.len
  have HBL : Hid (f.blocks.length = bn) := hbl.len
  have HPAR := Lib.hid hpar
  have HBLK := Lib.hid hbl
  have HRM := Lib.hid hroom
  have HB := Lib.hid hB
  have hpn63 : pn ≤ 9223372036854775807 := by unfold maxLen at hpn; omega
  have hbn63 : bn ≤ 9223372036854775807 := by unfold maxLen at hbn; omega
  have HPN := Lib.hid (And.intro hpn hbn)
  rw [HTN.out]
  have HQ : Hid (fnB v.tn f = (inAll v.tn f.params && hasB f.result v.tn && (decide ((f.params.length : Int) ≤ f.slots) && (decide (0 < f.blocks.length) && (f.blocks.all (bkB v.tn f.slots) && firstB f))))) := rfl
  have S2 : Hid (NFat w v.cells #[.slice pa pn pc, .int .i64 f.result, .int .i64 f.slots, .slice ba bn bc] ((w.alloc (.cells v.cells 27)).alloc (.cells #[.slice pa pn pc, .int .i64 f.result, .int .i64 f.slots, .slice ba bn bc] 45))) :=
    ⟨((Still.refl w).alloc _).alloc _, Blk.alloc (Blk.new w 27 v.cells) _, by
      have := Blk.new (w.alloc (.cells v.cells 27)) 45 #[.slice pa pn pc, .int .i64 f.result, .int .i64 f.slots, .slice ba bn bc]
      rwa [show (w.alloc (.cells v.cells 27)).heap.size = w.heap.size + 1 by simp] at this⟩
  have HK : Hid (∀ {W : World}, Still w W → B ≤ W.heap.size ∧ Ints B W pa pn f.params ∧ Lies B W 2 (BkIs B W) ba bn f.blocks) := fun {W} hW => ⟨Nat.le_trans hB hW.size, hpar.keep ((Still.below hW).mono hB) hB, Lies.keep hbl ((Still.below hW).mono hB) hB fun cs x _ h => h.keep ((Still.below hW).mono hB) hB⟩
  obtain ⟨ta, tn, tc, sa, sn, sc, xa, xn, xc, na, nn, nc, fa, fn, fc, mi, ei⟩ := v
  dsimp only at HTN HQ S2 ⊢
  obtain ⟨params, result, slots, blocks⟩ := f
  dsimp only at *
  generalize hfn : fnB tn ⟨params, result, slots, blocks⟩ = r at *
  clear hp hB hpar hbn hpn hbl hroom hfn
  go_enter Tryz.func48, Tryz.ntmps48
  go_wp2_with fail
  generalize ((w.alloc (.cells (ImgV.cells ⟨ta, tn, tc, sa, sn, sc, xa, xn, xc, na, nn, nc, fa, fn, fc, mi, ei⟩) 27)).alloc (.cells #[.slice pa pn pc, .int .i64 result, .int .i64 slots, .slice ba bn bc] 45)) = w2 at S2 ⊢
  refine (hasAllTy_any ta tn tc (HK.out S2.out.st).2.1 (HK.out S2.out.st).1 HPN.out.1).mono ?_; rintro e w3 ⟨rfl, t3⟩
  have S3 := Lib.hid (S2.out.still t3)
  clear t3
  generalize inAll tn params = q1 at *
  generalize hq2 : hasB result tn = q2 at *
  have m0 : w3.cell? ⟨w.heap.size, 0, none⟩ = some (.slice ta tn tc) := S3.out.img.cell 0
  have f0 : w3.cell? ⟨w.heap.size + 1, 0, none⟩ = some (.slice pa pn pc) := S3.out.fn.cell 0
  have f1 : w3.cell? ⟨w.heap.size + 1, 1, none⟩ = some (.int .i64 result) := S3.out.fn.cell 1
  have f2 : w3.cell? ⟨w.heap.size + 1, 2, none⟩ = some (.int .i64 slots) := S3.out.fn.cell 2
  have f3 : w3.cell? ⟨w.heap.size + 1, 3, none⟩ = some (.slice ba bn bc) := S3.out.fn.cell 3
  have lM := S3.out.img.lt
  have lF := S3.out.fn.lt
  cases q1 with
  | false =>
    go_wp2_with fail
    refine (need_no _).mono ?_; rintro e wz ⟨rfl, rfl⟩
    exact ⟨rfl, S3.out.st, .inr ⟨fun e => by rw [HQ.out] at e; simp at e, rfl⟩⟩
  | true =>
    go_wp2_with fail
    refine (hasTy_any _ _ _ _ _).mono ?_; rintro e w3' ⟨rfl, rfl⟩
    cases q2 with
    | false =>
      go_wp2_with fail
      refine (need_no _).mono ?_; rintro e wz ⟨rfl, rfl⟩
      exact ⟨rfl, S3.out.st, .inr ⟨fun e => by rw [HQ.out] at e; simp at e, rfl⟩⟩
    | true =>
      go_wp2_with fail
      refine (need_yes _).mono ?_; rintro e w3'' ⟨rfl, rfl⟩
      by_cases h3 : (pn : Int) ≤ slots
      rotate_left
      · have x3 : decide ((pn : Int) ≤ slots) = false := decide_eq_false h3
        have HQ : Hid (r = false) := by
          have := HQ.out
          rw [HPL.out, x3] at this
          show _ = _
          simpa using this
        clear h3
        go_wp2_with fail
        refine (need_no _).mono ?_; rintro e wz ⟨rfl, rfl⟩
        exact ⟨rfl, S3.out.st, .inr ⟨fun e => by rw [HQ.out] at e; simp at e, rfl⟩⟩
      have x3 : decide ((pn : Int) ≤ slots) = true := decide_eq_true h3
      have H3 := Lib.hid h3
      clear h3
      go_wp2_with fail
      refine (need_yes _).mono ?_; rintro e w3' ⟨rfl, rfl⟩
      by_cases h4 : 0 < bn
      rotate_left
      · obtain rfl : bn = 0 := by omega
        have HQ : Hid (r = false) := by
          have := HQ.out
          rw [HBL.out] at this
          show _ = _
          simpa using this
        clear h4
        go_wp2_with fail
        refine (need_no _).mono ?_; rintro e wz ⟨rfl, rfl⟩
        exact ⟨rfl, S3.out.st, .inr ⟨fun e => by rw [HQ.out] at e; simp at e, rfl⟩⟩
      have x4 : decide ((bn : Int) > 0) = true := decide_eq_true (by omega)
      have x4' : decide (0 < bn) = true := decide_eq_true (by omega)
      have H4 := Lib.hid h4
      clear h4
      go_wp2_with fail
      refine (need_yes _).mono ?_; rintro e w3'' ⟨rfl, rfl⟩
      have HQ2 : Hid (r = (blocks.all (bkB tn slots) && firstB ⟨params, result, slots, blocks⟩)) := by
        have := HQ.out
        rw [HPL.out, x3, HBL.out, decide_eq_true H4.out] at this
        show _ = _
        simpa using this
      clear HQ
      have HQ := HQ2
      clear HQ2
      go_wp2_with fail
      clear m0 f0 f1 f2 f3 lM lF hq2
      go_loopw [5, 7, 39, 53] (fun _ _ z _ wr => ∃ j : Nat, z = .int .i64 j ∧ j ≤ bn ∧ (blocks.take j).all (bkB tn slots) = true ∧ NFat w (ImgV.cells ⟨ta, tn, tc, sa, sn, sc, xa, xn, xc, na, nn, nc, fa, fn, fc, mi, ei⟩) #[.slice pa pn pc, .int .i64 result, .int .i64 slots, .slice ba bn bc] wr) (fun _ _ z _ _ => bn - (intOf z).toNat)
      case atStart => exact ⟨0, rfl, Nat.zero_le _, by simp, S3.out⟩
      case round =>
        obtain ⟨wo, hwo⟩ : ∃ wo, wo = wr := ⟨_, rfl⟩
        subst hwo
        obtain ⟨j, rfl, hj, hall, ht⟩ := hrel
        have S4 := Lib.hid ht
        have HALL := Lib.hid hall
        clear ht hall
        by_cases hlt : j < bn
        · obtain ⟨b1, off, x, cs, hba, hbB, hxi, hcl, hPx, hcell⟩ := (HK.out S4.out.st).2.2.here hlt
          obtain ⟨ia, inn, ic, ca, cn, cc, rfl, hinn, hcn, hin, hcode⟩ := hPx
          have d0 : wo.cell? ⟨b1, off + j * 2, none⟩ = some (.slice ia inn ic) := by simpa using hcell 0 (by decide)
          have d1 : wo.cell? ⟨b1, off + j * 2 + 1, none⟩ = some (.slice ca cn cc) := by simpa using hcell 1 (by decide)
          have hbl : b1 < wo.heap.size := by have := (HK.out S4.out.st).1; omega
          have HIN := Lib.hid hin
          have HIL := Lib.hid hin.len
          have HX : Hid ((blocks.take (j + 1)).all (bkB tn slots) = bkB tn slots x ∧ x ∈ blocks) := ⟨by rw [List.take_add_one, hxi, List.all_append, HALL.out]; simp, List.mem_of_getElem? hxi⟩
          have HBA := Lib.hid hba
          have hinn63 : inn ≤ 9223372036854775807 := by unfold maxLen at hinn; omega
          have HINN := Lib.hid hinn
          clear hcell hcl hxi hcode hin hinn hcn
          have S5 : Hid (NFat w (ImgV.cells ⟨ta, tn, tc, sa, sn, sc, xa, xn, xc, na, nn, nc, fa, fn, fc, mi, ei⟩) #[.slice pa pn pc, .int .i64 result, .int .i64 slots, .slice ba bn bc] (wo.alloc (.cells #[.slice ia inn ic, .slice ca cn cc] 48)) ∧ Blk (wo.alloc (.cells #[.slice ia inn ic, .slice ca cn cc] 48)) wo.heap.size 48 #[.slice ia inn ic, .slice ca cn cc] ∧ Still wo (wo.alloc (.cells #[.slice ia inn ic, .slice ca cn cc] 48))) := ⟨S4.out.still ((Still.refl wo).alloc _), Blk.new wo _ _, (Still.refl wo).alloc _⟩
          have f2 := S5.out.1.fn.cell 2
          have e0 := S5.out.2.1.cell 0
          have lF := S5.out.1.fn.lt
          have l5 := S5.out.2.1.lt
          by_cases h5 : (inn : Int) = slots
          rotate_left
          · have x5 : ((inn : Int) == slots) = false := beq_eq_false_iff_ne.2 h5
            have HQ : Hid (r = false) := by
              have h0 : bkB tn slots x = false := by unfold bkB; rw [HIL.out, decide_eq_false h5]; rfl
              have h1 : blocks.all (bkB tn slots) = false := List.all_eq_false.2 ⟨x, HX.out.2, by rw [h0]; decide⟩
              show _ = _
              rw [HQ.out, h1]
              rfl
            have S5a := Lib.hid S5.out.1
            clear h5
            subst hba
            go_wp2_with fail
            refine (need_no _).mono ?_; rintro e wz ⟨rfl, rfl⟩
            exact ⟨rfl, S5a.out.st, .inr ⟨fun e => by rw [HQ.out] at e; simp at e, rfl⟩⟩
          have x5 : ((inn : Int) == slots) = true := beq_iff_eq.2 h5
          have H5 := Lib.hid h5
          clear h5
          subst hba
          go_wp2_with fail
          clear e0 f2 lF l5
          generalize wo.alloc (.cells #[.slice ia inn ic, .slice ca cn cc] 48) = w5 at S5 ⊢
          obtain ⟨K, hK⟩ : ∃ K, wo.heap.size = K := ⟨_, rfl⟩
          rw [hK] at S5 hbl
          rw [hK]
          have HKK := Lib.hid hK
          clear hK d0 d1
          refine (need_yes _).mono ?_; rintro e w5' ⟨rfl, rfl⟩
          have e0 := S5.out.2.1.cell 0
          have l5 := S5.out.2.1.lt
          go_wp2_with fail
          clear e0 l5
          go_loopw [7, 53] (fun _ z w6 => ∃ i : Nat, z = .int .i64 i ∧ i ≤ inn ∧ (x.inn.take i).all (innB tn) = true ∧ Still w5' w6) (fun _ z _ => inn - (intOf z).toNat)
          case atStart => exact ⟨0, rfl, Nat.zero_le _, by simp, Still.refl _⟩
          case round =>
            obtain ⟨i, rfl, hi, hal, t6⟩ := hrel
            have HAL := Lib.hid hal
            have T6 := Lib.hid t6
            have S6 := Lib.hid (S5.out.1.still t6)
            clear hal t6
            by_cases hlt2 : i < inn
            · obtain ⟨b2, off2, hia, hb2, hc2⟩ := ints_cell HIN.out (by omega)
              obtain ⟨y, hy⟩ : ∃ y, x.inn.getD i 0 = y := ⟨_, rfl⟩
              have hil : i < x.inn.length := by have := HIL.out; omega
              have d2 : wr.cell? ⟨b2, off2 + i, none⟩ = some (.int .i64 y) := (T6.out.cell (p := ⟨b2, off2 + i, none⟩) (by have := S5.out.2.2.size; have := HKK.out; have := (HK.out S4.out.st).1; show b2 < w5'.heap.size; omega)).trans ((S5.out.2.2.cell (p := ⟨b2, off2 + i, none⟩) (by have := (HK.out S4.out.st).1; show b2 < _; omega)).trans (by rw [← hy]; exact hc2 i hlt2))
              have hbl2 : b2 < wr.heap.size := World.block_lt_of_cell? _ _ d2
              have HY : Hid (y ∈ x.inn ∧ (x.inn.take (i + 1)).all (innB tn) = innB tn y) := by
                have e : x.inn[i]? = some y := by rw [← hy]; simp [List.getD, List.getElem?_eq_getElem hil]
                exact ⟨List.mem_of_getElem? e, by rw [List.take_add_one, e, List.all_append, HAL.out]; simp⟩
              clear hc2 hy hil
              subst hia
              have m0 := S6.out.img.cell 0
              have lM := S6.out.img.lt
              have hii : (i : Int) < inn := by omega
              by_cases hy1 : y = -1
              · have y1 : (y == -1) = true := by simp [hy1]
                have HY1 := Lib.hid hy1
                clear hy1
                go_wp2_with fail
                refine (need_yes _).mono ?_; rintro e w7 ⟨rfl, rfl⟩
                go_wp2_with fail
                go_roundw
                case rel => exact ⟨i + 1, by go_num, by omega, by rw [HY.out.2]; unfold innB; rw [HY1.out]; rfl, T6.out⟩
                case measure => simp [intOf]; omega
              · have y1 : (y == -1) = false := beq_eq_false_iff_ne.2 hy1
                clear hy1
                go_wp2_with fail
                refine (hasTy_any _ _ _ _ _).mono ?_; rintro e w7 ⟨rfl, rfl⟩
                have HYB : Hid (innB tn y = hasB y tn) := by show _ = _; unfold innB; rw [y1]; rfl
                cases hq3 : hasB y tn with
                | false =>
                  have HQ : Hid (r = false) := by
                    have h0 : bkB tn slots x = false := by
                      have : x.inn.all (innB tn) = false := List.all_eq_false.2 ⟨y, HY.out.1, by rw [HYB.out, hq3]; decide⟩
                      unfold bkB; rw [this, Bool.and_false]
                    have h1 : blocks.all (bkB tn slots) = false := List.all_eq_false.2 ⟨x, HX.out.2, by rw [h0]; decide⟩
                    show _ = _
                    rw [HQ.out, h1]
                    rfl
                  go_wp2_with fail
                  refine (need_no _).mono ?_; rintro e wz ⟨rfl, rfl⟩
                  exact ⟨rfl, S6.out.st, .inr ⟨fun e => by rw [HQ.out] at e; simp at e, rfl⟩⟩
                | true =>
                  have HQ3 := Lib.hid hq3
                  go_wp2_with fail
                  refine (need_yes _).mono ?_; rintro e w8 ⟨rfl, rfl⟩
                  clear hq3
                  go_wp2_with fail
                  go_roundw
                  case rel => exact ⟨i + 1, by go_num, by omega, by rw [HY.out.2, HYB.out, HQ3.out], T6.out⟩
                  case measure => simp [intOf]; omega
            · obtain rfl : i = inn := by omega
              have x6 : decide ((i : Int) < i) = false := decide_eq_false (by omega)
              have x6' : decide (i < i) = false := decide_eq_false (by omega)
              clear hlt2
              go_wp2_with fail
              go_roundw
              case rel =>
                refine ⟨j + 1, by go_num, by omega, ?_, S6.out⟩
                rw [HX.out.1]
                unfold bkB
                rw [HIL.out, decide_eq_true H5.out]
                have := HAL.out
                rw [List.take_of_length_le (by rw [HIL.out]; exact Nat.le_refl _)] at this
                rw [this]
                rfl
              case measure => simp [intOf]; omega
        · obtain rfl : j = bn := by omega
          have x6 : decide ((j : Int) < j) = false := decide_eq_false (by omega)
          have x6' : decide (j < j) = false := decide_eq_false (by omega)
          have hall := HALL.out
          rw [List.take_of_length_le (by rw [HBL.out]; exact Nat.le_refl _)] at hall
          obtain ⟨b1, off, x, cs, hba, hbB, hxi, hcl, hPx, hcell⟩ := (HK.out S4.out.st).2.2.here H4.out
          have hcell0 := hcell
          obtain ⟨ia, inn, ic, ca, cn, cc, rfl, hinn, hcn, hin, hcode⟩ := hPx
          have d0 : wo.cell? ⟨b1, off, none⟩ = some (.slice ia inn ic) := by simpa using hcell 0 (by decide)
          have hbl : b1 < wo.heap.size := by have := (HK.out S4.out.st).1; omega
          have hb1w : b1 < w.heap.size := by have := HB.out; omega
          have hic : inn ≤ ic := HRM.out b1 off hba H4.out ia inn ic ((S4.out.st.cell (p := ⟨b1, off, none⟩) hb1w).symm.trans d0)
          have HIN := Lib.hid hin
          have HINL : Hid (x.inn.length = inn) := hin.len
          have HINN := Lib.hid hinn
          have hinn63 : inn ≤ 9223372036854775807 := by unfold maxLen at hinn; omega
          have HF : Hid (r = (decide (x.inn.take pn = params) && (x.inn.drop pn).all (fun n => n == -1))) := by
            have h0 : ∃ l, blocks = x :: l := by
              cases blocks with
              | nil => simp at hxi
              | cons y l => simp at hxi; exact ⟨l, by rw [hxi]⟩
            obtain ⟨l, rfl⟩ := h0
            show _ = _
            rw [HQ.out, hall]
            simp only [firstB, HPL.out, Bool.true_and]
          have hslots : Hid ((inn : Int) = slots) := by
            have := (List.all_eq_true.1 hall) x (List.mem_of_getElem? hxi)
            unfold bkB at this
            rw [Bool.and_eq_true] at this
            have := of_decide_eq_true this.1
            rw [HINL.out] at this
            exact this
          have hpi : pn ≤ inn := by have := hslots.out; have := H3.out; omega
          have f3 := S4.out.fn.cell 3
          have f0 := S4.out.fn.cell 0
          have lF := S4.out.fn.lt
          have hpic : (pn : Int) ≤ ic := by omega
          have hpii : (pn : Int) ≤ inn := by omega
          clear hcell hcell0 hcl hxi hcode hin hinn hcn hall hlt
          subst hba
          go_wp2_with fail
          obtain ⟨wD, hwD⟩ : ∃ wD, wo.drew = wD := ⟨_, rfl⟩
          have S6 := Lib.hid (S4.out.still (show Still wo wD by rw [← hwD]; exact (Still.refl wo).drew))
          have hf0 : wD.cell? ⟨w.heap.size + 1, 0, none⟩ = some (.slice pa pn pc) := S6.out.fn.cell 0
          have HWD : Hid (Still wo wD) := by rw [← hwD]; exact (Still.refl wo).drew
          have HEQ := Lib.hid (equalInt_any (c := ic) (c' := pc) (Ints.take (HIN.out.keep ((Still.below HWD.out).mono (HK.out S4.out.st).1) (HK.out S4.out.st).1) hpi) (HK.out S6.out.st).2.1 (HK.out S6.out.st).1 (Nat.le_trans hpi HINN.out) HPN.out.1)
          clear f0 f3 d0
          have lF := S6.out.fn.lt
          rcases ia with _ | ⟨b2, off2, spot⟩
          · skip
            refine wp_region_held_drew (S := fun W => W.cell? ⟨w.heap.size + 1, 0, none⟩ = some (.slice pa pn pc)) (by kernel_rfl) (by rw [hwD]; exact hf0) (fun hHeld => ?_)
            try simp only [Act.put, List.getElem_toArray, List.getElem_cons_succ, List.getElem_cons_zero, List.setIfInBounds_toArray, List.set_cons_zero, List.set_cons_succ]
            rw [hwD] at hHeld ⊢
            clear hwD
            refine wpAnyH_take (i := 0) (v := ?_) rfl (by kernel_rfl) (by kernel_rfl) (by kernel_rfl) (fun _ _ _ h => h) (Or.inl ⟨by rfl, ?_⟩) (by assumption) ?_
            rotate_left
            · intro w hSw; (try dsimp only at hSw); go_simp; try with_reducible rfl
            try simp only [Act.put, List.getElem_toArray, List.getElem_cons_succ, List.getElem_cons_zero, List.setIfInBounds_toArray, List.set_cons_zero, List.set_cons_succ]
            refine wpAnyH_take (i := 1) (v := ?_) rfl (by kernel_rfl) (by kernel_rfl) (by kernel_rfl) (fun _ _ _ h => h) (Or.inl ⟨by rfl, ?_⟩) (by assumption) ?_
            rotate_left
            · intro w hSw; (try dsimp only at hSw); go_simp; try with_reducible rfl
            try simp only [Act.put, List.getElem_toArray, List.getElem_cons_succ, List.getElem_cons_zero, List.setIfInBounds_toArray, List.set_cons_zero, List.set_cons_succ]
            refine wpAnyH_take (i := 2) (v := ?_) rfl (by kernel_rfl) (by kernel_rfl) (by kernel_rfl) (fun _ _ _ h => h) (Or.inl ⟨by rfl, ?_⟩) (by assumption) ?_
            rotate_left
            · intro w hSw; (try dsimp only at hSw); go_simp; try with_reducible rfl
            try simp only [Act.put, List.getElem_toArray, List.getElem_cons_succ, List.getElem_cons_zero, List.setIfInBounds_toArray, List.set_cons_zero, List.set_cons_succ]
            refine wpAnyH_take (i := 3) (v := ?_) rfl (by kernel_rfl) (by kernel_rfl) (by kernel_rfl) (fun _ _ _ h => h) (Or.inl ⟨by rfl, ?_⟩) (by assumption) ?_
            rotate_left
            · intro w hSw; (try dsimp only at hSw); go_simp; try with_reducible rfl
            try simp only [Act.put, List.getElem_toArray, List.getElem_cons_succ, List.getElem_cons_zero, List.setIfInBounds_toArray, List.set_cons_zero, List.set_cons_succ]
            refine wpAnyH_take (i := 4) (v := ?_) rfl (by kernel_rfl) (by kernel_rfl) (by kernel_rfl) (fun _ _ _ h => h) (Or.inl ⟨by rfl, ?_⟩) (by assumption) ?_
            rotate_left
            · intro w hSw; (try dsimp only at hSw); go_simp; try with_reducible rfl
            try simp only [Act.put, List.getElem_toArray, List.getElem_cons_succ, List.getElem_cons_zero, List.setIfInBounds_toArray, List.set_cons_zero, List.set_cons_succ]
            refine wpAnyH_take (i := 5) (v := ?_) rfl (by kernel_rfl) (by kernel_rfl) (by kernel_rfl) (fun _ _ _ h => h) (Or.inl ⟨by rfl, ?_⟩) (by assumption) ?_
            rotate_left
            · intro w hSw; (try dsimp only at hSw); go_simp; try with_reducible rfl
            try simp only [Act.put, List.getElem_toArray, List.getElem_cons_succ, List.getElem_cons_zero, List.setIfInBounds_toArray, List.set_cons_zero, List.set_cons_succ]
            refine wpAnyH_take (i := 6) (v := ?_) rfl (by kernel_rfl) (by kernel_rfl) (by kernel_rfl) (fun _ _ _ h => h) (Or.inl ⟨by rfl, ?_⟩) (by assumption) ?_
            rotate_left
            · intro w hSw; (try dsimp only at hSw); go_simp; try with_reducible rfl
            try simp only [Act.put, List.getElem_toArray, List.getElem_cons_succ, List.getElem_cons_zero, List.setIfInBounds_toArray, List.set_cons_zero, List.set_cons_succ]
            refine wpAnyH_ready (rs := [7]) (by kernel_rfl) (by simp) ?_
            refine AllReadyH.cons rfl (fun K hK => ?_) AllReadyH.nil
            go_simp
            refine HEQ.out.mono ?_; rintro e w5 ⟨rq, rfl, hrq, t5⟩
            have HRQ := Lib.hid hrq
            have S7 := Lib.hid (S6.out.still t5)
            have T57 := Lib.hid t5
            have hH5 : w5.cell? ⟨w.heap.size + 1, 0, none⟩ = some (.slice pa pn pc) := S7.out.fn.cell 0
            have hsl5 : w.heap.size + 1 < w5.heap.size := S7.out.fn.lt
            clear hrq t5 hHeld
            refine hK.out _ _ hH5 (fun hHeld => ?_)
            clear hK K
            refine wpAnyH_ready (rs := [8]) (by kernel_rfl) (by simp) ?_
            refine AllReadyH.cons rfl (fun K hK => ?_) AllReadyH.nil
            go_simp
            cases rq with
            | false =>
              have HQ : Hid (r = false) := by
                have : ¬ (x.inn.take pn = params) := fun e => absurd (HRQ.out.2 e) (by decide)
                show _ = _
                rw [HF.out, decide_eq_false this]; rfl
              refine (need_no _).mono ?_; rintro e wz ⟨rfl, rfl⟩
              exact ⟨rfl, S7.out.st, .inr ⟨fun e => by rw [HQ.out] at e; simp at e, rfl⟩⟩
            | true =>
              refine (need_yes _).mono ?_; rintro e w7 ⟨rfl, rfl⟩
              refine hK.out _ _ hHeld (fun hHeld => ?_)
              clear hK K
              refine wpAnyH_done (by kernel_rfl) ?_ _
              clear hHeld
              have HF2 : Hid (r = (x.inn.drop pn).all (fun n => n == -1)) := by
                have : x.inn.take pn = params := HRQ.out.1 (by first | rfl | trivial)
                show _ = _
                rw [HF.out, decide_eq_true this]; rfl
              go_wp2_with fail
              all_goals
                clear hHeld hH5 hsl5 lF
                first
                  | (obtain ⟨ad, had⟩ : ∃ ad, ({ block := b2, off := off2, spot := spot } : Addr).add pn = ad := ⟨_, rfl⟩
                     rw [had]
                     have HAD := Lib.hid had
                     clear had)
                  | skip
                go_loopw [10, 88] (fun _ z wr => ∃ i : Nat, z = .int .i64 i ∧ i ≤ inn - pn ∧ ((x.inn.drop pn).take i).all (fun n => n == -1) = true ∧ Still w7 wr) (fun _ z _ => inn - pn - (intOf z).toNat)
                case atStart => exact ⟨0, rfl, Nat.zero_le _, by simp, Still.refl _⟩
                case round =>
                  obtain ⟨i, rfl, hi, hal, t8⟩ := hrel
                  have HAL := Lib.hid hal
                  have T8 := Lib.hid t8
                  have S8 := Lib.hid (S7.out.still t8)
                  clear hal t8
                  have hdl : (x.inn.drop pn).length = inn - pn := by rw [List.length_drop, HINL.out]
                  by_cases hlt2 : i < inn - pn
                  · obtain ⟨b3, off3, hia, hb3, hc3⟩ := ints_cell HIN.out (by omega)
                    first
                      | (cases hia; done)
                      | (exfalso; omega)
                      | (have had : ad = ⟨b3, off3 + pn, none⟩ := by
                           have h1 := Option.some.inj hia
                           have h2 := HAD.out
                           rw [h1] at h2
                           rw [← h2, Go.WideShapes.add_plain]
                         obtain ⟨y, hy⟩ : ∃ y, x.inn.getD (pn + i) 0 = y := ⟨_, rfl⟩
                         have d2 : wr.cell? (ad.add i) = some (.int .i64 y) := by
                           rw [had, Go.WideShapes.add_plain]
                           exact ((HWD.out.trans (T57.out.trans T8.out)).cell (p := ⟨b3, off3 + pn + i, none⟩) (by have := (HK.out S4.out.st).1; show b3 < wo.heap.size; omega)).trans (by rw [← hy, Nat.add_assoc]; exact hc3 (pn + i) (by omega))
                         have hbl2 : ad.block < wr.heap.size := by have h3 := World.block_lt_of_cell? wr (ad.add i) d2; rw [had, Go.WideShapes.add_plain] at h3; rw [had]; exact h3
                         clear had hia
                         have HY : Hid (y ∈ x.inn.drop pn ∧ ((x.inn.drop pn).take (i + 1)).all (fun n => n == -1) = (y == -1)) := by
                           have hil : pn + i < x.inn.length := by have := HINL.out; omega
                           have e : (x.inn.drop pn)[i]? = some y := by rw [List.getElem?_drop, ← hy]; simp [List.getD, List.getElem?_eq_getElem hil]
                           exact ⟨List.mem_of_getElem? e, by rw [List.take_add_one, e, List.all_append, HAL.out]; simp⟩
                         have hii : (i : Int) < (inn - pn : Nat) := by omega
                         clear hc3 hy
                         cases hy1 : (y == -1) with
                         | false =>
                           have HQ : Hid (r = false) := by
                             show _ = _
                             rw [HF2.out, List.all_eq_false.2 ⟨y, HY.out.1, by simp [hy1]⟩]
                           go_wp2_with fail
                           refine (need_no _).mono ?_; rintro e wz ⟨rfl, rfl⟩
                           exact ⟨rfl, S8.out.st, .inr ⟨fun e => by rw [HQ.out] at e; simp at e, rfl⟩⟩
                         | true =>
                           have HY1 := Lib.hid hy1
                           go_wp2_with fail
                           refine (need_yes _).mono ?_; rintro e w9 ⟨rfl, rfl⟩
                           clear hy1
                           go_wp2_with fail
                           go_roundw
                           case rel => exact ⟨i + 1, by go_num, by omega, by rw [HY.out.2, HY1.out], T8.out⟩
                           case measure => simp [intOf]; omega)
                  · obtain rfl : i = inn - pn := by omega
                    have x6 : decide (((inn - pn : Nat) : Int) < (inn - pn : Nat)) = false := decide_eq_false (by omega)
                    have x6' : decide (inn - pn < inn - pn) = false := decide_eq_false (by omega)
                    clear hlt2
                    go_wp2_with fail
                    go_end0
                    refine ⟨S8.out.st, .inl ⟨?_, rfl⟩⟩
                    rw [HF2.out]
                    have := HAL.out
                    rwa [List.take_of_length_le (by omega)] at this
          · skip
            refine wp_region_held_drew (S := fun W => W.cell? ⟨w.heap.size + 1, 0, none⟩ = some (.slice pa pn pc)) (by kernel_rfl) (by rw [hwD]; exact hf0) (fun hHeld => ?_)
            try simp only [Act.put, List.getElem_toArray, List.getElem_cons_succ, List.getElem_cons_zero, List.setIfInBounds_toArray, List.set_cons_zero, List.set_cons_succ]
            rw [hwD] at hHeld ⊢
            clear hwD
            refine wpAnyH_take (i := 0) (v := ?_) rfl (by kernel_rfl) (by kernel_rfl) (by kernel_rfl) (fun _ _ _ h => h) (Or.inl ⟨by rfl, ?_⟩) (by assumption) ?_
            rotate_left
            · intro w hSw; (try dsimp only at hSw); go_simp; try with_reducible rfl
            try simp only [Act.put, List.getElem_toArray, List.getElem_cons_succ, List.getElem_cons_zero, List.setIfInBounds_toArray, List.set_cons_zero, List.set_cons_succ]
            refine wpAnyH_take (i := 1) (v := ?_) rfl (by kernel_rfl) (by kernel_rfl) (by kernel_rfl) (fun _ _ _ h => h) (Or.inl ⟨by rfl, ?_⟩) (by assumption) ?_
            rotate_left
            · intro w hSw; (try dsimp only at hSw); go_simp; try with_reducible rfl
            try simp only [Act.put, List.getElem_toArray, List.getElem_cons_succ, List.getElem_cons_zero, List.setIfInBounds_toArray, List.set_cons_zero, List.set_cons_succ]
            refine wpAnyH_take (i := 2) (v := ?_) rfl (by kernel_rfl) (by kernel_rfl) (by kernel_rfl) (fun _ _ _ h => h) (Or.inl ⟨by rfl, ?_⟩) (by assumption) ?_
            rotate_left
            · intro w hSw; (try dsimp only at hSw); go_simp; try with_reducible rfl
            try simp only [Act.put, List.getElem_toArray, List.getElem_cons_succ, List.getElem_cons_zero, List.setIfInBounds_toArray, List.set_cons_zero, List.set_cons_succ]
            refine wpAnyH_take (i := 3) (v := ?_) rfl (by kernel_rfl) (by kernel_rfl) (by kernel_rfl) (fun _ _ _ h => h) (Or.inl ⟨by rfl, ?_⟩) (by assumption) ?_
            rotate_left
            · intro w hSw; (try dsimp only at hSw); go_simp; try with_reducible rfl
            try simp only [Act.put, List.getElem_toArray, List.getElem_cons_succ, List.getElem_cons_zero, List.setIfInBounds_toArray, List.set_cons_zero, List.set_cons_succ]
            refine wpAnyH_take (i := 4) (v := ?_) rfl (by kernel_rfl) (by kernel_rfl) (by kernel_rfl) (fun _ _ _ h => h) (Or.inl ⟨by rfl, ?_⟩) (by assumption) ?_
            rotate_left
            · intro w hSw; (try dsimp only at hSw); go_simp; try with_reducible rfl
            try simp only [Act.put, List.getElem_toArray, List.getElem_cons_succ, List.getElem_cons_zero, List.setIfInBounds_toArray, List.set_cons_zero, List.set_cons_succ]
            refine wpAnyH_take (i := 5) (v := ?_) rfl (by kernel_rfl) (by kernel_rfl) (by kernel_rfl) (fun _ _ _ h => h) (Or.inl ⟨by rfl, ?_⟩) (by assumption) ?_
            rotate_left
            · intro w hSw; (try dsimp only at hSw); go_simp; try with_reducible rfl
            try simp only [Act.put, List.getElem_toArray, List.getElem_cons_succ, List.getElem_cons_zero, List.setIfInBounds_toArray, List.set_cons_zero, List.set_cons_succ]
            refine wpAnyH_take (i := 6) (v := ?_) rfl (by kernel_rfl) (by kernel_rfl) (by kernel_rfl) (fun _ _ _ h => h) (Or.inl ⟨by rfl, ?_⟩) (by assumption) ?_
            rotate_left
            · intro w hSw; (try dsimp only at hSw); go_simp; try with_reducible rfl
            try simp only [Act.put, List.getElem_toArray, List.getElem_cons_succ, List.getElem_cons_zero, List.setIfInBounds_toArray, List.set_cons_zero, List.set_cons_succ]
            refine wpAnyH_ready (rs := [7]) (by kernel_rfl) (by simp) ?_
            refine AllReadyH.cons rfl (fun K hK => ?_) AllReadyH.nil
            go_simp
            refine HEQ.out.mono ?_; rintro e w5 ⟨rq, rfl, hrq, t5⟩
            have HRQ := Lib.hid hrq
            have S7 := Lib.hid (S6.out.still t5)
            have T57 := Lib.hid t5
            have hH5 : w5.cell? ⟨w.heap.size + 1, 0, none⟩ = some (.slice pa pn pc) := S7.out.fn.cell 0
            have hsl5 : w.heap.size + 1 < w5.heap.size := S7.out.fn.lt
            clear hrq t5 hHeld
            refine hK.out _ _ hH5 (fun hHeld => ?_)
            clear hK K
            refine wpAnyH_ready (rs := [8]) (by kernel_rfl) (by simp) ?_
            refine AllReadyH.cons rfl (fun K hK => ?_) AllReadyH.nil
            go_simp
            cases rq with
            | false =>
              have HQ : Hid (r = false) := by
                have : ¬ (x.inn.take pn = params) := fun e => absurd (HRQ.out.2 e) (by decide)
                show _ = _
                rw [HF.out, decide_eq_false this]; rfl
              refine (need_no _).mono ?_; rintro e wz ⟨rfl, rfl⟩
              exact ⟨rfl, S7.out.st, .inr ⟨fun e => by rw [HQ.out] at e; simp at e, rfl⟩⟩
            | true =>
              refine (need_yes _).mono ?_; rintro e w7 ⟨rfl, rfl⟩
              refine hK.out _ _ hHeld (fun hHeld => ?_)
              clear hK K
              refine wpAnyH_done (by kernel_rfl) ?_ _
              clear hHeld
              have HF2 : Hid (r = (x.inn.drop pn).all (fun n => n == -1)) := by
                have : x.inn.take pn = params := HRQ.out.1 (by first | rfl | trivial)
                show _ = _
                rw [HF.out, decide_eq_true this]; rfl
              go_wp2_with fail
              all_goals
                clear hHeld hH5 hsl5 lF
                first
                  | (obtain ⟨ad, had⟩ : ∃ ad, ({ block := b2, off := off2, spot := spot } : Addr).add pn = ad := ⟨_, rfl⟩
                     rw [had]
                     have HAD := Lib.hid had
                     clear had)
                  | skip
                go_loopw [10, 88] (fun _ z wr => ∃ i : Nat, z = .int .i64 i ∧ i ≤ inn - pn ∧ ((x.inn.drop pn).take i).all (fun n => n == -1) = true ∧ Still w7 wr) (fun _ z _ => inn - pn - (intOf z).toNat)
                case atStart => exact ⟨0, rfl, Nat.zero_le _, by simp, Still.refl _⟩
                case round =>
                  obtain ⟨i, rfl, hi, hal, t8⟩ := hrel
                  have HAL := Lib.hid hal
                  have T8 := Lib.hid t8
                  have S8 := Lib.hid (S7.out.still t8)
                  clear hal t8
                  have hdl : (x.inn.drop pn).length = inn - pn := by rw [List.length_drop, HINL.out]
                  by_cases hlt2 : i < inn - pn
                  · obtain ⟨b3, off3, hia, hb3, hc3⟩ := ints_cell HIN.out (by omega)
                    first
                      | (cases hia; done)
                      | (exfalso; omega)
                      | (have had : ad = ⟨b3, off3 + pn, none⟩ := by
                           have h1 := Option.some.inj hia
                           have h2 := HAD.out
                           rw [h1] at h2
                           rw [← h2, Go.WideShapes.add_plain]
                         obtain ⟨y, hy⟩ : ∃ y, x.inn.getD (pn + i) 0 = y := ⟨_, rfl⟩
                         have d2 : wr.cell? (ad.add i) = some (.int .i64 y) := by
                           rw [had, Go.WideShapes.add_plain]
                           exact ((HWD.out.trans (T57.out.trans T8.out)).cell (p := ⟨b3, off3 + pn + i, none⟩) (by have := (HK.out S4.out.st).1; show b3 < wo.heap.size; omega)).trans (by rw [← hy, Nat.add_assoc]; exact hc3 (pn + i) (by omega))
                         have hbl2 : ad.block < wr.heap.size := by have h3 := World.block_lt_of_cell? wr (ad.add i) d2; rw [had, Go.WideShapes.add_plain] at h3; rw [had]; exact h3
                         clear had hia
                         have HY : Hid (y ∈ x.inn.drop pn ∧ ((x.inn.drop pn).take (i + 1)).all (fun n => n == -1) = (y == -1)) := by
                           have hil : pn + i < x.inn.length := by have := HINL.out; omega
                           have e : (x.inn.drop pn)[i]? = some y := by rw [List.getElem?_drop, ← hy]; simp [List.getD, List.getElem?_eq_getElem hil]
                           exact ⟨List.mem_of_getElem? e, by rw [List.take_add_one, e, List.all_append, HAL.out]; simp⟩
                         have hii : (i : Int) < (inn - pn : Nat) := by omega
                         clear hc3 hy
                         cases hy1 : (y == -1) with
                         | false =>
                           have HQ : Hid (r = false) := by
                             show _ = _
                             rw [HF2.out, List.all_eq_false.2 ⟨y, HY.out.1, by simp [hy1]⟩]
                           go_wp2_with fail
                           refine (need_no _).mono ?_; rintro e wz ⟨rfl, rfl⟩
                           exact ⟨rfl, S8.out.st, .inr ⟨fun e => by rw [HQ.out] at e; simp at e, rfl⟩⟩
                         | true =>
                           have HY1 := Lib.hid hy1
                           go_wp2_with fail
                           refine (need_yes _).mono ?_; rintro e w9 ⟨rfl, rfl⟩
                           clear hy1
                           go_wp2_with fail
                           go_roundw
                           case rel => exact ⟨i + 1, by go_num, by omega, by rw [HY.out.2, HY1.out], T8.out⟩
                           case measure => simp [intOf]; omega)
                  · obtain rfl : i = inn - pn := by omega
                    have x6 : decide (((inn - pn : Nat) : Int) < (inn - pn : Nat)) = false := decide_eq_false (by omega)
                    have x6' : decide (inn - pn < inn - pn) = false := decide_eq_false (by omega)
                    clear hlt2
                    go_wp2_with fail
                    go_end0
                    refine ⟨S8.out.st, .inl ⟨?_, rfl⟩⟩
                    rw [HF2.out]
                    have := HAL.out
                    rwa [List.take_of_length_le (by omega)] at this
end Go.Proofs.YtglalgjffkoneaaGreatDoor
