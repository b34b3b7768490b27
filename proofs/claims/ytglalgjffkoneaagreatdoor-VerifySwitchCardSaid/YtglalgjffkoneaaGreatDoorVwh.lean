/- needWhole: may an image be gone through? -/
import Derived.Test.YtglalgjffkoneaaGreatDoorVnf
import Derived.Test.YtglalgjffkoneaaGreatDoorV8
namespace Go.Proofs.YtglalgjffkoneaaGreatDoor
set_option linter.unusedVariables false
set_option linter.unusedSimpArgs false
open Go.ChangeShapes Go.WideShapes Go.ChangeAt Go.RowKit
open Vf (nth shAt tyAt nth_nat numT)
def risesB : List Int → Bool
  | [] => true
  | [_] => true
  | x :: y :: l => decide (x < y) && risesB (y :: l)
theorem risesB_iff : ∀ l : List Int, risesB l = true ↔ Rises l
  | [] => ⟨fun _ j h => by simp at h, fun _ => rfl⟩
  | [x] => ⟨fun _ j h => by simp at h, fun _ => rfl⟩
  | x :: y :: l => by
    unfold risesB
    rw [Bool.and_eq_true, decide_eq_true_eq, risesB_iff (y :: l)]
    constructor
    · rintro ⟨h1, h2⟩ j hj
      cases j with
      | zero => simpa using h1
      | succ j => simpa using h2 j (by simpa using hj)
    · intro h
      refine ⟨by simpa using h 0 (by simp), fun j hj => by simpa using h (j + 1) (by simpa using hj)⟩
def tyB (ns : Nat) (t : M.Ty) : Bool := risesB t.shapes && inAll ns t.shapes
def shB (nt : Nat) (s : M.Sh) : Bool := mayB s && inAll nt s.fields
def zeroT (m : M.Img) : Bool := match m.types with | t :: _ => t.imm && decide (t.shapes.length = 0) | [] => false
def zeroS (m : M.Img) : Bool := match m.shapes with | s :: _ => s.kind == 3 | [] => false
def exnB (m : M.Img) : Bool := hasB m.exn m.types.length && thrownB m (tyAt m m.exn)
def mainB (m : M.Img) : Bool := hasB m.main m.funcs.length && decide (((nth m.funcs m.main).map (fun f => f.params.length)).getD 0 = 0)
def wholeB (m : M.Img) : Bool := decide (M.check m = 0) && (zeroT m && (zeroS m && (m.types.all (tyB m.shapes.length) && (m.shapes.all (shB m.types.length) && (exnB m && (mainB m && m.funcs.all (fnB m.types.length)))))))
/-- Each function's first In may be cut. -/
def Room (w : World) (v : ImgV) : Prop := ∀ b off i, v.fa = some ⟨b, off, none⟩ → i < v.fn → ∀ ba bn bc, w.cell? ⟨b, off + i * 4 + 3, none⟩ = some (.slice ba bn bc) → BkRoom w ba bn
/-- While an image is looked at: its box. -/
structure IMat (w : World) (mc : Array Value) (W : World) : Prop where
  st : Still w W
  img : Blk W w.heap.size 27 mc
theorem IMat.still {w W W' : World} {mc : Array Value} (h : IMat w mc W) (t : Still W W') : IMat w mc W' := ⟨h.st.trans t, t.blk h.img⟩
theorem BkRoom.still {B : Nat} {w W : World} {ba : Option Addr} {bn : Nat} {P : List Value → M.Bk → Prop} {l : List M.Bk} (h : BkRoom w ba bn) (t : Still w W) (hB : B ≤ w.heap.size) (hl : Lies B W 2 P ba bn l) : BkRoom W ba bn := fun b off hba h0 ia inn ic hc => by
  obtain ⟨b', off', e, hb, _⟩ := hl.at_ h0
  rw [hba] at e
  simp only [Option.some.injEq, Addr.mk.injEq, and_true] at e
  obtain ⟨rfl, rfl⟩ := e
  exact h b off hba h0 ia inn ic ((t.cell (p := ⟨b, off, none⟩) (Nat.lt_of_lt_of_le hb hB)).symm.trans hc)
set_option maxRecDepth 100000 in
set_option maxHeartbeats 8000000 in
theorem needWhole_any {B : Nat} {w : World} {v : ImgV} {m : M.Img} (hp : ImgIs B w v m) (hB : B ≤ w.heap.size) (hw : M.size m ≤ 1000000000) (hroom : Room w v) :
    Calls Tryz.prog 23 #[.agg #[.slice v.ta v.tn v.tc, .slice v.sa v.sn v.sc, .slice v.xa v.xn v.xc, .slice v.na v.nn v.nc, .slice v.fa v.fn v.fc, .int .i64 v.main, .int .i64 v.exn]] w (AskR (wholeB m = true) w) := by
  have HTN : Hid (m.types.length = v.tn) := hp.types.len
  have HSN : Hid (m.shapes.length = v.sn) := hp.shapes.len
  have HFN : Hid (m.funcs.length = v.fn) := hp.funcs.len
  have HME : Hid (v.main = m.main ∧ v.exn = m.exn) := ⟨hp.main, hp.exn⟩
  have HB := Lib.hid hB
  have HP := Lib.hid hp
  have HRM := Lib.hid hroom
  have htn63 : v.tn ≤ 9223372036854775807 := by have := hp.le.1; unfold maxLen at this; omega
  have hsn63 : v.sn ≤ 9223372036854775807 := by have := hp.le.2.1; unfold maxLen at this; omega
  have hfn63 : v.fn ≤ 9223372036854775807 := by have := hp.le.2.2.2.2; unfold maxLen at this; omega
  have HQ : Hid (wholeB m = (decide (M.check m = 0) && (zeroT m && (zeroS m && (m.types.all (tyB v.sn) && (m.shapes.all (shB v.tn) && (exnB m && (mainB m && m.funcs.all (fnB v.tn))))))))) := by
    show _ = _
    rw [← HTN.out, ← HSN.out]
    rfl
  have HK : Hid (∀ {W : World}, Still w W → B ≤ W.heap.size ∧ ImgIs B W v m) := fun {W} hW => ⟨Nat.le_trans hB hW.size, hp.keep ((Still.below hW).mono hB) hB⟩
  have HCK : Hid (∀ {W : World}, Still w W → Calls Tryz.prog 39 #[.agg #[.slice v.ta v.tn v.tc, .slice v.sa v.sn v.sc, .slice v.xa v.xn v.xc, .slice v.na v.nn v.nc, .slice v.fa v.fn v.fc, .int .i64 v.main, .int .i64 v.exn]] W fun e w' => e = .returned (.int .i64 (M.check m)) ∧ Still W w') := fun {W} hW => check_any (HK.out hW).1 (HK.out hW).2 hw
  have HTH : Hid (∀ {W : World}, Still w W → ∀ {im : Bool} {a : Option Addr} {n c : Nat} {xs : List Int}, Ints B W a n xs → n ≤ maxLen → (∀ x ∈ xs, 0 ≤ x ∧ x < m.shapes.length) → Calls Tryz.prog 46 #[.agg #[.slice v.ta v.tn v.tc, .slice v.sa v.sn v.sc, .slice v.xa v.xn v.xc, .slice v.na v.nn v.nc, .slice v.fa v.fn v.fc, .int .i64 v.main, .int .i64 v.exn], .agg #[.bool im, .slice a n c]] W fun e w' => e = .returned (.bool (thrownB m ⟨im, xs⟩)) ∧ Still W w') := fun {W} hW {im a n c xs} h1 h2 h3 => thrown_any (HK.out hW).2 (HK.out hW).1 h1 h2 h3
  have HNF : Hid (∀ {W : World}, Still w W → ∀ {f : M.Fn} {pa : Option Addr} {pn pc : Nat} {ba : Option Addr} {bn bc : Nat}, Ints B W pa pn f.params → pn ≤ maxLen → bn ≤ maxLen → Lies B W 2 (BkIs B W) ba bn f.blocks → BkRoom W ba bn → Calls Tryz.prog 48 #[.agg #[.slice v.ta v.tn v.tc, .slice v.sa v.sn v.sc, .slice v.xa v.xn v.xc, .slice v.na v.nn v.nc, .slice v.fa v.fn v.fc, .int .i64 v.main, .int .i64 v.exn], .agg #[.slice pa pn pc, .int .i64 f.result, .int .i64 f.slots, .slice ba bn bc]] W (AskR (fnB v.tn f = true) W)) := fun {W} hW {f pa pn pc ba bn bc} h1 h2 h3 h4 h5 => by
    have := needFn_any (pc := pc) (bc := bc) (HK.out hW).2 (HK.out hW).1 h1 h2 h3 h4 h5
    rwa [HTN.out] at this
  have S1 : Hid (IMat w v.cells (w.alloc (.cells v.cells 27))) := ⟨(Still.refl w).alloc _, Blk.new w _ _⟩
  obtain ⟨ta, tn, tc, sa, sn, sc, xa, xn, xc, na, nn, nc, fa, fn, fc, mi, ei⟩ := v
  dsimp only at *
  obtain ⟨vv, hvv⟩ : ∃ vv : ImgV, vv = ⟨ta, tn, tc, sa, sn, sc, xa, xn, xc, na, nn, nc, fa, fn, fc, mi, ei⟩ := ⟨_, rfl⟩
  generalize hwb : wholeB m = r at *
  generalize hck : M.check m = ck at *
  clear hp hB hw hroom hwb hck hvv
  go_enter Tryz.func23, Tryz.ntmps23
  go_wp2_with fail
  generalize w.alloc (.cells (ImgV.cells ⟨ta, tn, tc, sa, sn, sc, xa, xn, xc, na, nn, nc, fa, fn, fc, mi, ei⟩) 27) = w1 at S1 ⊢
  refine (HCK.out S1.out.st).mono ?_; rintro e w2 ⟨rfl, t2⟩
  have S2 := Lib.hid (S1.out.still t2)
  clear t2
  by_cases hc0 : ck = 0
  rotate_left
  · have x0 : (ck == 0) = false := beq_eq_false_iff_ne.2 hc0
    have HQ : Hid (r = false) := by
      have h0 : decide (ck = 0) = false := by
        exact decide_eq_false hc0
      show _ = _
      rw [HQ.out, h0]
      simp
    clear hc0
    go_wp2_with fail
    refine (need_no _).mono ?_; rintro e wz ⟨rfl, rfl⟩
    exact ⟨rfl, S2.out.st, .inr ⟨fun e => by rw [HQ.out] at e; simp at e, rfl⟩⟩
  subst hc0
  have m0 := S2.out.img.cell 0
  have lM := S2.out.img.lt
  go_wp2_with fail
  refine (need_yes _).mono ?_; rintro e w2' ⟨rfl, rfl⟩
  go_wp2_with fail
  refine (hasTy_any _ _ _ _ _).mono ?_; rintro e w3 ⟨rfl, rfl⟩
  by_cases htn : 0 < tn
  rotate_left
  · have hb : hasB 0 tn = false := by unfold hasB; simp; omega
    have HQ : Hid (r = false) := by
      have h0 : zeroT m = false := by
        have : m.types = [] := List.eq_nil_of_length_eq_zero (by rw [HTN.out]; omega)
        unfold zeroT
        rw [this]
      show _ = _
      rw [HQ.out, h0]
      simp
    go_wp2_with fail
    refine (need_no _).mono ?_; rintro e wz ⟨rfl, rfl⟩
    exact ⟨rfl, S2.out.st, .inr ⟨fun e => by rw [HQ.out] at e; simp at e, rfl⟩⟩
  have hb : hasB 0 tn = true := (hasB_iff _ _).2 ⟨by omega, by omega⟩
  obtain ⟨b1, off, t0, cs, hba, hbB, hxi, hcl, hPx, hcell⟩ := (HK.out S2.out.st).2.types.here htn
  obtain ⟨a0, n0, c0, rfl, hn0, hin0⟩ := hPx
  have d0 : w3.cell? ⟨b1, off, none⟩ = some (.bool t0.imm) := by simpa using hcell 0 (by decide)
  have d1 : w3.cell? ⟨b1, off + 1, none⟩ = some (.slice a0 n0 c0) := by simpa using hcell 1 (by decide)
  have hbl : b1 < w3.heap.size := World.block_lt_of_cell? _ _ d0
  have HZ : Hid (zeroT m = (t0.imm && decide (n0 = 0))) := by
    have h0 : ∃ l, m.types = t0 :: l := by
      cases hm : m.types with
      | nil => rw [hm] at hxi; simp at hxi
      | cons y l => rw [hm] at hxi; simp at hxi; exact ⟨l, by rw [hxi]⟩
    obtain ⟨l, hl⟩ := h0
    show _ = _
    unfold zeroT
    rw [hl]
    show (t0.imm && decide (t0.shapes.length = 0)) = _
    rw [hin0.len]
  have hti : (0 : Int) < tn := by omega
  clear hcell hcl hxi hin0
  subst hba
  generalize t0.imm = im0 at *
  cases im0 with
  | false =>
    have HQ : Hid (r = false) := by
      have h0 : zeroT m = false := by
        rw [HZ.out]
        rfl
      show _ = _
      rw [HQ.out, h0]
      simp
    go_wp2_with fail
    refine (need_no _).mono ?_; rintro e wz ⟨rfl, rfl⟩
    exact ⟨rfl, S2.out.st, .inr ⟨fun e => by rw [HQ.out] at e; simp at e, rfl⟩⟩
  | true =>
  by_cases hn00 : n0 = 0
  rotate_left
  · have x0 : ((n0 : Int) == 0) = false := beq_eq_false_iff_ne.2 (by omega)
    have HQ : Hid (r = false) := by
      have h0 : zeroT m = false := by
        rw [HZ.out, decide_eq_false hn00]
        rfl
      show _ = _
      rw [HQ.out, h0]
      simp
    go_wp2_with fail
    refine (need_no _).mono ?_; rintro e wz ⟨rfl, rfl⟩
    exact ⟨rfl, S2.out.st, .inr ⟨fun e => by rw [HQ.out] at e; simp at e, rfl⟩⟩
  subst hn00
  have HC1 : Hid (zeroT m = true) := by rw [HZ.out]; rfl
  clear HZ
  have m1 := S2.out.img.cell 1
  go_wp2_with fail
  refine (need_yes _).mono ?_; rintro e w3' ⟨rfl, rfl⟩
  clear hti d0 d1 hbl hb
  go_wp2_with fail
  refine (hasSh_any _ _ _ _ _).mono ?_; rintro e w3 ⟨rfl, rfl⟩
  by_cases hsn : 0 < sn
  rotate_left
  · have hb : hasB 0 sn = false := by unfold hasB; simp; omega
    have HQ : Hid (r = false) := by
      have h0 : zeroS m = false := by
        have : m.shapes = [] := List.eq_nil_of_length_eq_zero (by rw [HSN.out]; omega)
        unfold zeroS
        rw [this]
      show _ = _
      rw [HQ.out, h0]
      simp
    go_wp2_with fail
    refine (need_no _).mono ?_; rintro e wz ⟨rfl, rfl⟩
    exact ⟨rfl, S2.out.st, .inr ⟨fun e => by rw [HQ.out] at e; simp at e, rfl⟩⟩
  have hb : hasB 0 sn = true := (hasB_iff _ _).2 ⟨by omega, by omega⟩
  obtain ⟨b2, off2, s0, cs, hba2, hbB2, hxi, hcl, hPx, hcell⟩ := (HK.out S2.out.st).2.shapes.here hsn
  obtain ⟨a0', n0', c0', rfl, hn0', hkd, hnm, hin0⟩ := hPx
  have d0 : w3.cell? ⟨b2, off2, none⟩ = some (.int .i64 s0.kind) := by simpa using hcell 0 (by decide)
  have hbl : b2 < w3.heap.size := World.block_lt_of_cell? _ _ d0
  have HZ : Hid (zeroS m = (s0.kind == 3)) := by
    have h0 : ∃ l, m.shapes = s0 :: l := by
      cases hm : m.shapes with
      | nil => rw [hm] at hxi; simp at hxi
      | cons y l => rw [hm] at hxi; simp at hxi; exact ⟨l, by rw [hxi]⟩
    obtain ⟨l, hl⟩ := h0
    show _ = _
    unfold zeroS
    rw [hl]
  have hsi : (0 : Int) < sn := by omega
  clear hcell hcl hxi hin0
  subst hba2
  generalize s0.kind = kd at *
  cases hk3 : (kd == 3) with
  | false =>
    have HQ : Hid (r = false) := by
      have h0 : zeroS m = false := by
        rw [HZ.out, hk3]
      show _ = _
      rw [HQ.out, h0]
      simp
    go_wp2_with fail
    refine (need_no _).mono ?_; rintro e wz ⟨rfl, rfl⟩
    exact ⟨rfl, S2.out.st, .inr ⟨fun e => by rw [HQ.out] at e; simp at e, rfl⟩⟩
  | true =>
  have HC2 : Hid (zeroS m = true) := by rw [HZ.out]; exact hk3
  clear HZ
  go_wp2_with fail
  refine (need_yes _).mono ?_; rintro e w3' ⟨rfl, rfl⟩
  clear hsi d0 hbl hb hk3
  go_wp2_with fail
  clear m0 m1 lM
  go_loopw [3, 47] (fun _ z wr => ∃ j : Nat, z = .int .i64 j ∧ j ≤ tn ∧ (m.types.take j).all (tyB sn) = true ∧ IMat w (ImgV.cells ⟨some ⟨b1, off, none⟩, tn, tc, some ⟨b2, off2, none⟩, sn, sc, xa, xn, xc, na, nn, nc, fa, fn, fc, mi, ei⟩) wr) (fun _ z _ => tn - (intOf z).toNat)
  case atStart => exact ⟨0, rfl, Nat.zero_le _, by simp, S2.out⟩
  case round =>
    obtain ⟨j, rfl, hj, hall, ht⟩ := hrel
    have S4 := Lib.hid ht
    have HALL := Lib.hid hall
    clear ht hall
    by_cases hlt : j < tn
    · obtain ⟨b3, off3, x, cs, hba, hbB3, hxi, hcl, hPx, hcell⟩ := (HK.out S4.out.st).2.types.here hlt
      simp only [Option.some.injEq, Addr.mk.injEq, and_true] at hba
      obtain ⟨rfl, rfl⟩ := hba
      obtain ⟨a, n, c, rfl, hn, hin⟩ := hPx
      have d0 : wr.cell? ⟨b1, off + j * 2, none⟩ = some (.bool x.imm) := by simpa using hcell 0 (by decide)
      have d1 : wr.cell? ⟨b1, off + j * 2 + 1, none⟩ = some (.slice a n c) := by simpa using hcell 1 (by decide)
      have hbl : b1 < wr.heap.size := World.block_lt_of_cell? _ _ d0
      have HIN := Lib.hid hin
      have HN := Lib.hid hn
      have HX : Hid ((m.types.take (j + 1)).all (tyB sn) = tyB sn x ∧ x ∈ m.types) := ⟨by rw [List.take_add_one, hxi, List.all_append, HALL.out]; simp, List.mem_of_getElem? hxi⟩
      have hni : (j : Int) < tn := by omega
      have hn63 : n ≤ 9223372036854775807 := by unfold maxLen at hn; omega
      have S5 : Hid (IMat w (ImgV.cells ⟨some ⟨b1, off, none⟩, tn, tc, some ⟨b2, off2, none⟩, sn, sc, xa, xn, xc, na, nn, nc, fa, fn, fc, mi, ei⟩) (wr.alloc (.cells #[.bool x.imm, .slice a n c] 51)) ∧ Blk (wr.alloc (.cells #[.bool x.imm, .slice a n c] 51)) wr.heap.size 51 #[.bool x.imm, .slice a n c] ∧ Still wr (wr.alloc (.cells #[.bool x.imm, .slice a n c] 51))) := ⟨S4.out.still ((Still.refl wr).alloc _), Blk.new wr _ _, (Still.refl wr).alloc _⟩
      have m0 := S5.out.1.img.cell 0
      have m1 := S5.out.1.img.cell 1
      have m2 := S5.out.1.img.cell 2
      have m3 := S5.out.1.img.cell 3
      have m4 := S5.out.1.img.cell 4
      have m5 := S5.out.1.img.cell 5
      have m6 := S5.out.1.img.cell 6
      have e0 := S5.out.2.1.cell 0
      have e1 := S5.out.2.1.cell 1
      have e2 := S5.out.2.1.cell 2
      have e3 := S5.out.2.1.cell 3
      have lM := S5.out.1.img.lt
      have l5 := S5.out.2.1.lt
      clear hcell hcl hxi hin hn 
      go_wp2_with fail
      clear m0 m1 m2 m3 m4 m5 m6 e0 e1 e2 e3 lM l5 d0 d1
      generalize wr.alloc (.cells #[.bool x.imm, .slice a n c] 51) = w5 at S5 ⊢
      obtain ⟨KK, hKK⟩ : ∃ KK, wr.heap.size = KK := ⟨_, rfl⟩
      rw [hKK] at S5 hbl
      rw [hKK]
      have HKK := Lib.hid hKK
      clear hKK
      refine (rises_any (HIN.out.keep ((Still.below S5.out.2.2).mono (HK.out S4.out.st).1) (HK.out S4.out.st).1) (HK.out S5.out.1.st).1 HN.out).mono ?_; rintro e w6 ⟨rr, rfl, hrr, t6⟩
      have S6 : Hid (IMat w (ImgV.cells ⟨some ⟨b1, off, none⟩, tn, tc, some ⟨b2, off2, none⟩, sn, sc, xa, xn, xc, na, nn, nc, fa, fn, fc, mi, ei⟩) w6 ∧ Blk w6 KK 51 #[.bool x.imm, .slice a n c] ∧ Still wr w6) := ⟨S5.out.1.still t6, t6.blk S5.out.2.1, S5.out.2.2.trans t6⟩
      have S6a := Lib.hid S6.out.1
      have m0 := S6.out.1.img.cell 0
      have m1 := S6.out.1.img.cell 1
      have e1 := S6.out.2.1.cell 1
      have lM := S6.out.1.img.lt
      have l5 := S6.out.2.1.lt
      clear t6
      have HRR := Lib.hid hrr
      clear hrr
      cases rr with
      | false =>
        have HQ : Hid (r = false) := by
          have h2 : tyB sn x = false := by
            unfold tyB
            cases h3 : risesB x.shapes with
            | false => rfl
            | true => exact absurd (HRR.out.2 ((risesB_iff _).1 h3)) (by decide)
          have h1 : m.types.all (tyB sn) = false := List.all_eq_false.2 ⟨x, HX.out.2, by rw [h2]; decide⟩
          show _ = _
          rw [HQ.out, h1]
          simp
        go_wp2_with fail
        refine (need_no _).mono ?_; rintro e wz ⟨rfl, rfl⟩
        exact ⟨rfl, S6a.out.st, .inr ⟨fun e => by rw [HQ.out] at e; simp at e, rfl⟩⟩
      | true =>
        skip
        go_wp2_with fail
        refine (hasAllSh_any (some ⟨b2, off2, none⟩) sn sc (HIN.out.keep ((Still.below S6.out.2.2).mono (HK.out S4.out.st).1) (HK.out S4.out.st).1) (HK.out S6.out.1.st).1 HN.out).mono ?_; rintro e w7 ⟨rfl, t7⟩
        have S7 := Lib.hid (S6.out.1.still t7)
        clear t7 m0 m1 e1 lM l5
        cases hq : inAll sn x.shapes with
        | false =>
          have HQ : Hid (r = false) := by
            have h2 : tyB sn x = false := by
              unfold tyB
              rw [hq, Bool.and_false]
            have h1 : m.types.all (tyB sn) = false := List.all_eq_false.2 ⟨x, HX.out.2, by rw [h2]; decide⟩
            show _ = _
            rw [HQ.out, h1]
            simp
          go_wp2_with fail
          refine (need_no _).mono ?_; rintro e wz ⟨rfl, rfl⟩
          exact ⟨rfl, S7.out.st, .inr ⟨fun e => by rw [HQ.out] at e; simp at e, rfl⟩⟩
        | true =>
          have HQ2 := Lib.hid hq
          go_wp2_with fail
          refine (need_yes _).mono ?_; rintro e w8 ⟨rfl, rfl⟩
          clear hq
          go_wp2_with fail
          go_roundw
          case rel =>
            refine ⟨j + 1, by go_num, by omega, ?_, S7.out⟩
            rw [HX.out.1]
            unfold tyB; rw [HQ2.out, (risesB_iff _).2 (HRR.out.1 (by first | rfl | trivial))]; rfl
          case measure => simp [intOf]; omega
    · obtain rfl : tn = j := by omega
      have x6 : decide ((tn : Int) < tn) = false := decide_eq_false (by omega)
      have x6' : decide (tn < tn) = false := decide_eq_false (by omega)
      have HC_types : Hid (m.types.all (tyB sn) = true) := by
        have := HALL.out
        rwa [List.take_of_length_le (by rw [HTN.out]; exact Nat.le_refl _)] at this
      clear hlt
      have m1 := S4.out.img.cell 1
      have lM := S4.out.img.lt
      go_wp2_with fail
      clear m1 lM
      go_loopw [5, 66] (fun _ z wr => ∃ j : Nat, z = .int .i64 j ∧ j ≤ sn ∧ (m.shapes.take j).all (shB tn) = true ∧ IMat w (ImgV.cells ⟨some ⟨b1, off, none⟩, tn, tc, some ⟨b2, off2, none⟩, sn, sc, xa, xn, xc, na, nn, nc, fa, fn, fc, mi, ei⟩) wr) (fun _ z _ => sn - (intOf z).toNat)
      case atStart => exact ⟨0, rfl, Nat.zero_le _, by simp, S4.out⟩
      case round =>
        obtain ⟨j, rfl, hj, hall, ht⟩ := hrel
        have S4 := Lib.hid ht
        have HALL := Lib.hid hall
        clear ht hall
        by_cases hlt : j < sn
        · obtain ⟨b3, off3, x, cs, hba, hbB3, hxi, hcl, hPx, hcell⟩ := (HK.out S4.out.st).2.shapes.here hlt
          simp only [Option.some.injEq, Addr.mk.injEq, and_true] at hba
          obtain ⟨rfl, rfl⟩ := hba
          obtain ⟨a, n, c, rfl, hn, hkd, hnm, hin⟩ := hPx
          have d0 : wr.cell? ⟨b2, off2 + j * 3, none⟩ = some (.int .i64 x.kind) := by simpa using hcell 0 (by decide)
          have d1 : wr.cell? ⟨b2, off2 + j * 3 + 1, none⟩ = some (.slice a n c) := by simpa using hcell 1 (by decide)
          have d2 : wr.cell? ⟨b2, off2 + j * 3 + 2, none⟩ = some (.string x.name) := by simpa using hcell 2 (by decide)
          have hbl : b2 < wr.heap.size := World.block_lt_of_cell? _ _ d0
          have HIN := Lib.hid hin
          have HN := Lib.hid hn
          have HX : Hid ((m.shapes.take (j + 1)).all (shB tn) = shB tn x ∧ x ∈ m.shapes) := ⟨by rw [List.take_add_one, hxi, List.all_append, HALL.out]; simp, List.mem_of_getElem? hxi⟩
          have hni : (j : Int) < sn := by omega
          have hn63 : n ≤ 9223372036854775807 := by unfold maxLen at hn; omega
          have S5 : Hid (IMat w (ImgV.cells ⟨some ⟨b1, off, none⟩, tn, tc, some ⟨b2, off2, none⟩, sn, sc, xa, xn, xc, na, nn, nc, fa, fn, fc, mi, ei⟩) (wr.alloc (.cells #[.int .i64 x.kind, .slice a n c, .string x.name] 42)) ∧ Blk (wr.alloc (.cells #[.int .i64 x.kind, .slice a n c, .string x.name] 42)) wr.heap.size 42 #[.int .i64 x.kind, .slice a n c, .string x.name] ∧ Still wr (wr.alloc (.cells #[.int .i64 x.kind, .slice a n c, .string x.name] 42))) := ⟨S4.out.still ((Still.refl wr).alloc _), Blk.new wr _ _, (Still.refl wr).alloc _⟩
          have m0 := S5.out.1.img.cell 0
          have m1 := S5.out.1.img.cell 1
          have m2 := S5.out.1.img.cell 2
          have m3 := S5.out.1.img.cell 3
          have m4 := S5.out.1.img.cell 4
          have m5 := S5.out.1.img.cell 5
          have m6 := S5.out.1.img.cell 6
          have e0 := S5.out.2.1.cell 0
          have e1 := S5.out.2.1.cell 1
          have e2 := S5.out.2.1.cell 2
          have e3 := S5.out.2.1.cell 3
          have lM := S5.out.1.img.lt
          have l5 := S5.out.2.1.lt
          clear hcell hcl hxi hin hn 
          go_wp2_with fail
          clear m0 m1 m2 m3 m4 m5 m6 e0 e1 e2 e3 lM l5 d0 d1 d2
          generalize wr.alloc (.cells #[.int .i64 x.kind, .slice a n c, .string x.name] 42) = w5 at S5 ⊢
          obtain ⟨KK, hKK⟩ : ∃ KK, wr.heap.size = KK := ⟨_, rfl⟩
          rw [hKK] at S5 hbl
          rw [hKK]
          have HKK := Lib.hid hKK
          clear hKK
          refine (mayBe_any (s := x) (HIN.out.keep ((Still.below S5.out.2.2).mono (HK.out S4.out.st).1) (HK.out S4.out.st).1)).mono ?_; rintro e w6 ⟨rfl, t6⟩
          have S6 : Hid (IMat w (ImgV.cells ⟨some ⟨b1, off, none⟩, tn, tc, some ⟨b2, off2, none⟩, sn, sc, xa, xn, xc, na, nn, nc, fa, fn, fc, mi, ei⟩) w6 ∧ Blk w6 KK 42 #[.int .i64 x.kind, .slice a n c, .string x.name] ∧ Still wr w6) := ⟨S5.out.1.still t6, t6.blk S5.out.2.1, S5.out.2.2.trans t6⟩
          have S6a := Lib.hid S6.out.1
          have m0 := S6.out.1.img.cell 0
          have m1 := S6.out.1.img.cell 1
          have e1 := S6.out.2.1.cell 1
          have lM := S6.out.1.img.lt
          have l5 := S6.out.2.1.lt
          clear t6
          cases hrr : mayB x with
          | false =>
            have HQ : Hid (r = false) := by
              have h2 : shB tn x = false := by
                unfold shB
                rw [hrr]
                rfl
              have h1 : m.shapes.all (shB tn) = false := List.all_eq_false.2 ⟨x, HX.out.2, by rw [h2]; decide⟩
              show _ = _
              rw [HQ.out, h1]
              simp
            go_wp2_with fail
            refine (need_no _).mono ?_; rintro e wz ⟨rfl, rfl⟩
            exact ⟨rfl, S6a.out.st, .inr ⟨fun e => by rw [HQ.out] at e; simp at e, rfl⟩⟩
          | true =>
            have HRR := Lib.hid hrr
            go_wp2_with fail
            refine (hasAllTy_any (some ⟨b1, off, none⟩) tn tc (HIN.out.keep ((Still.below S6.out.2.2).mono (HK.out S4.out.st).1) (HK.out S4.out.st).1) (HK.out S6.out.1.st).1 HN.out).mono ?_; rintro e w7 ⟨rfl, t7⟩
            have S7 := Lib.hid (S6.out.1.still t7)
            clear t7 m0 m1 e1 lM l5
            cases hq : inAll tn x.fields with
            | false =>
              have HQ : Hid (r = false) := by
                have h2 : shB tn x = false := by
                  unfold shB
                  rw [hq, Bool.and_false]
                have h1 : m.shapes.all (shB tn) = false := List.all_eq_false.2 ⟨x, HX.out.2, by rw [h2]; decide⟩
                show _ = _
                rw [HQ.out, h1]
                simp
              go_wp2_with fail
              refine (need_no _).mono ?_; rintro e wz ⟨rfl, rfl⟩
              exact ⟨rfl, S7.out.st, .inr ⟨fun e => by rw [HQ.out] at e; simp at e, rfl⟩⟩
            | true =>
              have HQ2 := Lib.hid hq
              go_wp2_with fail
              refine (need_yes _).mono ?_; rintro e w8 ⟨rfl, rfl⟩
              clear hq
              go_wp2_with fail
              go_roundw
              case rel =>
                refine ⟨j + 1, by go_num, by omega, ?_, S7.out⟩
                rw [HX.out.1]
                unfold shB; rw [HQ2.out, HRR.out]; rfl
              case measure => simp [intOf]; omega
        · obtain rfl : sn = j := by omega
          have x6 : decide ((sn : Int) < sn) = false := decide_eq_false (by omega)
          have x6' : decide (sn < sn) = false := decide_eq_false (by omega)
          have HC_shapes : Hid (m.shapes.all (shB tn) = true) := by
            have := HALL.out
            rwa [List.take_of_length_le (by rw [HSN.out]; exact Nat.le_refl _)] at this
          clear hlt
          have m0 := S4.out.img.cell 0
          have m1 := S4.out.img.cell 1
          have m2 := S4.out.img.cell 2
          have m3 := S4.out.img.cell 3
          have m4 := S4.out.img.cell 4
          have m5 := S4.out.img.cell 5
          have m6 := S4.out.img.cell 6
          have lM := S4.out.img.lt
          obtain ⟨rfl, rfl⟩ := HME.out
          go_wp2_with fail
          obtain ⟨wD, hwD⟩ : ∃ wD, wr.drew = wD := ⟨_, rfl⟩
          have SDr : Hid (Still wr wD) := by rw [← hwD]; exact (Still.refl wr).drew
          have S6 := Lib.hid (S4.out.still SDr.out)
          have hcD : wD.cell? ⟨w.heap.size, 0, none⟩ = some (.slice (some ⟨b1, off, none⟩) tn tc) ∧ wD.cell? ⟨w.heap.size, 1, none⟩ = some (.slice (some ⟨b2, off2, none⟩) sn sc) ∧ wD.cell? ⟨w.heap.size, 2, none⟩ = some (.slice xa xn xc) ∧ wD.cell? ⟨w.heap.size, 3, none⟩ = some (.slice na nn nc) ∧ wD.cell? ⟨w.heap.size, 4, none⟩ = some (.slice fa fn fc) ∧ wD.cell? ⟨w.heap.size, 5, none⟩ = some (.int .i64 m.main) ∧ wD.cell? ⟨w.heap.size, 6, none⟩ = some (.int .i64 m.exn) := ⟨S6.out.img.cell 0, S6.out.img.cell 1, S6.out.img.cell 2, S6.out.img.cell 3, S6.out.img.cell 4, S6.out.img.cell 5, S6.out.img.cell 6⟩
          have lMD : w.heap.size < wD.heap.size := S6.out.img.lt
          clear m0 m1 m2 m3 m4 m5 m6
          cases hq : hasB m.exn tn with
          | false =>
            have HHB : Hid (Calls Tryz.prog 40 #[.slice (some ⟨b1, off, none⟩) tn tc, .int .i64 m.exn] wD fun e w' => e = .returned (.bool false) ∧ w' = wD) := by rw [← hq]; exact hasTy_any _ _ _ _ _
            have HQ : Hid (r = false) := by
              have h0 : exnB m = false := by
                unfold exnB
                rw [HTN.out, hq]
                rfl
              show _ = _
              rw [HQ.out, h0]
              simp
            refine wp_region_held_drew (S := fun W => W.cell? ⟨w.heap.size, 0, none⟩ = some (.slice (some ⟨b1, off, none⟩) tn tc) ∧ W.cell? ⟨w.heap.size, 1, none⟩ = some (.slice (some ⟨b2, off2, none⟩) sn sc) ∧ W.cell? ⟨w.heap.size, 2, none⟩ = some (.slice xa xn xc) ∧ W.cell? ⟨w.heap.size, 3, none⟩ = some (.slice na nn nc) ∧ W.cell? ⟨w.heap.size, 4, none⟩ = some (.slice fa fn fc) ∧ W.cell? ⟨w.heap.size, 5, none⟩ = some (.int .i64 m.main) ∧ W.cell? ⟨w.heap.size, 6, none⟩ = some (.int .i64 m.exn)) (by kernel_rfl) (by rw [hwD]; exact hcD) (fun hHeld => ?_)
            try simp only [Act.put, List.getElem_toArray, List.getElem_cons_succ, List.getElem_cons_zero, List.setIfInBounds_toArray, List.set_cons_zero, List.set_cons_succ]
            rw [hwD] at hHeld ⊢
            clear hwD
            refine wpAnyH_take (i := 0) (v := ?_) rfl (by kernel_rfl) (by kernel_rfl) (by kernel_rfl) (fun _ _ _ h => h) (Or.inl ⟨by rfl, ?_⟩) (by assumption) ?_
            rotate_left
            · intro w hSw; (try dsimp only at hSw); go_simp; try with_reducible rfl
            try simp only [Act.put, List.getElem_toArray, List.getElem_cons_succ, List.getElem_cons_zero, List.setIfInBounds_toArray, List.set_cons_zero, List.set_cons_succ]
            refine wpAnyH_take (i := 1) (v := ?_) rfl (by kernel_rfl) (by kernel_rfl) (by kernel_rfl) (fun _ _ _ h => h) (Or.inl ⟨by rfl, ?_⟩) (by assumption) ?_
            rotate_left
            · intro w hSw; (try dsimp only at hSw); go_simp; try with_reducible rfl
            try simp only [Act.put, List.getElem_toArray, List.getElem_cons_succ, List.getElem_cons_zero, List.setIfInBounds_toArray, List.set_cons_zero, List.set_cons_succ]
            refine wpAnyH_take (i := 2) (v := ?_) rfl (by kernel_rfl) (by kernel_rfl) (by kernel_rfl) (fun _ _ _ h => h) (Or.inl ⟨by rfl, ?_⟩) (by assumption) ?_
            rotate_left
            · intro w hSw; (try dsimp only at hSw); go_simp; try with_reducible rfl
            try simp only [Act.put, List.getElem_toArray, List.getElem_cons_succ, List.getElem_cons_zero, List.setIfInBounds_toArray, List.set_cons_zero, List.set_cons_succ]
            refine wpAnyH_take (i := 3) (v := ?_) rfl (by kernel_rfl) (by kernel_rfl) (by kernel_rfl) (fun _ _ _ h => h) (Or.inl ⟨by rfl, ?_⟩) (by assumption) ?_
            rotate_left
            · intro w hSw; (try dsimp only at hSw); go_simp; try with_reducible rfl
            try simp only [Act.put, List.getElem_toArray, List.getElem_cons_succ, List.getElem_cons_zero, List.setIfInBounds_toArray, List.set_cons_zero, List.set_cons_succ]
            refine wpAnyH_ready (rs := [4]) (by kernel_rfl) (by simp) ?_
            refine AllReadyH.cons rfl (fun K hK => ?_) AllReadyH.nil
            go_simp
            refine HHB.out.mono ?_; rintro e w5 ⟨rfl, rfl⟩
            refine hK.out _ _ hHeld (fun hHeld => ?_)
            clear hK K
            refine wpAnyH_take (i := 5) (v := ?_) rfl (by kernel_rfl) (by kernel_rfl) (by kernel_rfl) (fun _ _ _ h => h) (Or.inl ⟨by rfl, ?_⟩) (by assumption) ?_
            rotate_left
            · intro w hSw; (try dsimp only at hSw); go_simp; try with_reducible rfl
            try simp only [Act.put, List.getElem_toArray, List.getElem_cons_succ, List.getElem_cons_zero, List.setIfInBounds_toArray, List.set_cons_zero, List.set_cons_succ]
            refine wpAnyH_take (i := 6) (v := undef) rfl (by kernel_rfl) (by kernel_rfl) (by kernel_rfl) (fun _ _ _ h => h) (Or.inr ⟨by rfl, rfl⟩) (by assumption) ?_
            try simp only [Act.put, List.getElem_toArray, List.getElem_cons_succ, List.getElem_cons_zero, List.setIfInBounds_toArray, List.set_cons_zero, List.set_cons_succ]
            refine wpAnyH_take (i := 7) (v := undef) rfl (by kernel_rfl) (by kernel_rfl) (by kernel_rfl) (fun _ _ _ h => h) (Or.inr ⟨by rfl, rfl⟩) (by assumption) ?_
            try simp only [Act.put, List.getElem_toArray, List.getElem_cons_succ, List.getElem_cons_zero, List.setIfInBounds_toArray, List.set_cons_zero, List.set_cons_succ]
            refine wpAnyH_take (i := 8) (v := undef) rfl (by kernel_rfl) (by kernel_rfl) (by kernel_rfl) (fun _ _ _ h => h) (Or.inr ⟨by rfl, rfl⟩) (by assumption) ?_
            try simp only [Act.put, List.getElem_toArray, List.getElem_cons_succ, List.getElem_cons_zero, List.setIfInBounds_toArray, List.set_cons_zero, List.set_cons_succ]
            refine wpAnyH_take (i := 9) (v := undef) rfl (by kernel_rfl) (by kernel_rfl) (by kernel_rfl) (fun _ _ _ h => h) (Or.inr ⟨by rfl, rfl⟩) (by assumption) ?_
            try simp only [Act.put, List.getElem_toArray, List.getElem_cons_succ, List.getElem_cons_zero, List.setIfInBounds_toArray, List.set_cons_zero, List.set_cons_succ]
            refine wpAnyH_take (i := 10) (v := undef) rfl (by kernel_rfl) (by kernel_rfl) (by kernel_rfl) (fun _ _ _ h => h) (Or.inr ⟨by rfl, rfl⟩) (by assumption) ?_
            try simp only [Act.put, List.getElem_toArray, List.getElem_cons_succ, List.getElem_cons_zero, List.setIfInBounds_toArray, List.set_cons_zero, List.set_cons_succ]
            refine wpAnyH_take (i := 11) (v := undef) rfl (by kernel_rfl) (by kernel_rfl) (by kernel_rfl) (fun _ _ _ h => h) (Or.inr ⟨by rfl, rfl⟩) (by assumption) ?_
            try simp only [Act.put, List.getElem_toArray, List.getElem_cons_succ, List.getElem_cons_zero, List.setIfInBounds_toArray, List.set_cons_zero, List.set_cons_succ]
            refine wpAnyH_take (i := 12) (v := undef) rfl (by kernel_rfl) (by kernel_rfl) (by kernel_rfl) (fun _ _ _ h => h) (Or.inr ⟨by rfl, rfl⟩) (by assumption) ?_
            try simp only [Act.put, List.getElem_toArray, List.getElem_cons_succ, List.getElem_cons_zero, List.setIfInBounds_toArray, List.set_cons_zero, List.set_cons_succ]
            refine wpAnyH_take (i := 13) (v := undef) rfl (by kernel_rfl) (by kernel_rfl) (by kernel_rfl) (fun _ _ _ h => h) (Or.inr ⟨by rfl, rfl⟩) (by assumption) ?_
            try simp only [Act.put, List.getElem_toArray, List.getElem_cons_succ, List.getElem_cons_zero, List.setIfInBounds_toArray, List.set_cons_zero, List.set_cons_succ]
            refine wpAnyH_take (i := 14) (v := ?_) rfl (by kernel_rfl) (by kernel_rfl) (by kernel_rfl) (fun _ _ _ h => h) (Or.inl ⟨by rfl, ?_⟩) (by assumption) ?_
            rotate_left
            · intro w hSw; (try dsimp only at hSw); go_simp; try with_reducible rfl
            try simp only [Act.put, List.getElem_toArray, List.getElem_cons_succ, List.getElem_cons_zero, List.setIfInBounds_toArray, List.set_cons_zero, List.set_cons_succ]
            refine wpAnyH_ready (rs := [15]) (by kernel_rfl) (by simp) ?_
            refine AllReadyH.cons rfl (fun K hK => ?_) AllReadyH.nil
            go_simp
            refine (need_no _).mono ?_; rintro e wz ⟨rfl, rfl⟩
            exact ⟨rfl, S6.out.st, .inr ⟨fun e => by rw [HQ.out] at e; simp at e, rfl⟩⟩
          | true =>
            obtain ⟨he0, he1⟩ := (hasB_iff _ _).1 hq
            have HHB : Hid (Calls Tryz.prog 40 #[.slice (some ⟨b1, off, none⟩) tn tc, .int .i64 m.exn] wD fun e w' => e = .returned (.bool true) ∧ w' = wD) := by rw [← hq]; exact hasTy_any _ _ _ _ _
            obtain ⟨k, hk⟩ := Int.eq_ofNat_of_zero_le he0
            have hktn : k < tn := by omega
            obtain ⟨b3, off3, x, cs, hba, hbB3, hxi, hcl, hPx, hcell⟩ := (HK.out S6.out.st).2.types.here hktn
            simp only [Option.some.injEq, Addr.mk.injEq, and_true] at hba
            obtain ⟨rfl, rfl⟩ := hba
            obtain ⟨a, n, c, rfl, hn, hin⟩ := hPx
            have d0 : wD.cell? ⟨b1, off + k * 2, none⟩ = some (.bool x.imm) := by simpa using hcell 0 (by decide)
            have d1 : wD.cell? ⟨b1, off + k * 2 + 1, none⟩ = some (.slice a n c) := by simpa using hcell 1 (by decide)
            have hbl : b1 < wD.heap.size := World.block_lt_of_cell? _ _ d0
            have hxin : ∀ s ∈ x.shapes, 0 ≤ s ∧ s < m.shapes.length := by
              have h1 := List.all_eq_true.1 HC_types.out x (List.mem_of_getElem? hxi)
              unfold tyB at h1
              rw [Bool.and_eq_true] at h1
              rw [HSN.out]
              exact (inAll_iff _ _).1 h1.2
            have HTHR := Lib.hid (HTH.out S6.out.st (im := x.imm) (c := c) hin hn hxin)
            have HXE : Hid (exnB m = thrownB m ⟨x.imm, x.shapes⟩) := by
              show _ = _
              unfold exnB
              rw [HTN.out, hq, Bool.true_and]
              unfold tyAt
              rw [hk, nth_nat, hxi]
              rfl
            generalize thrownB m ⟨x.imm, x.shapes⟩ = q at *
            have hki : (k : Int) < tn := by omega
            clear hxin hin hn hcell hcl hq he0 he1
            rw [hk] at hcD HHB ⊢
            refine wp_region_held_drew (S := fun W => W.cell? ⟨w.heap.size, 0, none⟩ = some (.slice (some ⟨b1, off, none⟩) tn tc) ∧ W.cell? ⟨w.heap.size, 1, none⟩ = some (.slice (some ⟨b2, off2, none⟩) sn sc) ∧ W.cell? ⟨w.heap.size, 2, none⟩ = some (.slice xa xn xc) ∧ W.cell? ⟨w.heap.size, 3, none⟩ = some (.slice na nn nc) ∧ W.cell? ⟨w.heap.size, 4, none⟩ = some (.slice fa fn fc) ∧ W.cell? ⟨w.heap.size, 5, none⟩ = some (.int .i64 m.main) ∧ W.cell? ⟨w.heap.size, 6, none⟩ = some (.int .i64 (k : Int)) ∧ W.cell? ⟨b1, off + k * 2, none⟩ = some (.bool x.imm) ∧ W.cell? ⟨b1, off + k * 2 + 1, none⟩ = some (.slice a n c)) (by kernel_rfl) (by rw [hwD]; exact ⟨hcD.1, hcD.2.1, hcD.2.2.1, hcD.2.2.2.1, hcD.2.2.2.2.1, hcD.2.2.2.2.2.1, hcD.2.2.2.2.2.2, d0, d1⟩) (fun hHeld => ?_)
            try simp only [Act.put, List.getElem_toArray, List.getElem_cons_succ, List.getElem_cons_zero, List.setIfInBounds_toArray, List.set_cons_zero, List.set_cons_succ]
            rw [hwD] at hHeld ⊢
            clear hwD
            refine wpAnyH_take (i := 0) (v := ?_) rfl (by kernel_rfl) (by kernel_rfl) (by kernel_rfl) (fun _ _ _ h => h) (Or.inl ⟨by rfl, ?_⟩) (by assumption) ?_
            rotate_left
            · intro w hSw; (try dsimp only at hSw); go_simp; try with_reducible rfl
            try simp only [Act.put, List.getElem_toArray, List.getElem_cons_succ, List.getElem_cons_zero, List.setIfInBounds_toArray, List.set_cons_zero, List.set_cons_succ]
            refine wpAnyH_take (i := 1) (v := ?_) rfl (by kernel_rfl) (by kernel_rfl) (by kernel_rfl) (fun _ _ _ h => h) (Or.inl ⟨by rfl, ?_⟩) (by assumption) ?_
            rotate_left
            · intro w hSw; (try dsimp only at hSw); go_simp; try with_reducible rfl
            try simp only [Act.put, List.getElem_toArray, List.getElem_cons_succ, List.getElem_cons_zero, List.setIfInBounds_toArray, List.set_cons_zero, List.set_cons_succ]
            refine wpAnyH_take (i := 2) (v := ?_) rfl (by kernel_rfl) (by kernel_rfl) (by kernel_rfl) (fun _ _ _ h => h) (Or.inl ⟨by rfl, ?_⟩) (by assumption) ?_
            rotate_left
            · intro w hSw; (try dsimp only at hSw); go_simp; try with_reducible rfl
            try simp only [Act.put, List.getElem_toArray, List.getElem_cons_succ, List.getElem_cons_zero, List.setIfInBounds_toArray, List.set_cons_zero, List.set_cons_succ]
            refine wpAnyH_take (i := 3) (v := ?_) rfl (by kernel_rfl) (by kernel_rfl) (by kernel_rfl) (fun _ _ _ h => h) (Or.inl ⟨by rfl, ?_⟩) (by assumption) ?_
            rotate_left
            · intro w hSw; (try dsimp only at hSw); go_simp; try with_reducible rfl
            try simp only [Act.put, List.getElem_toArray, List.getElem_cons_succ, List.getElem_cons_zero, List.setIfInBounds_toArray, List.set_cons_zero, List.set_cons_succ]
            refine wpAnyH_ready (rs := [4]) (by kernel_rfl) (by simp) ?_
            refine AllReadyH.cons rfl (fun K hK => ?_) AllReadyH.nil
            go_simp
            refine HHB.out.mono ?_; rintro e w5 ⟨rfl, rfl⟩
            refine hK.out _ _ hHeld (fun hHeld => ?_)
            clear hK K
            refine wpAnyH_take (i := 5) (v := ?_) rfl (by kernel_rfl) (by kernel_rfl) (by kernel_rfl) (fun _ _ _ h => h) (Or.inl ⟨by rfl, ?_⟩) (by assumption) ?_
            rotate_left
            · intro w hSw; (try dsimp only at hSw); go_simp; try with_reducible rfl
            try simp only [Act.put, List.getElem_toArray, List.getElem_cons_succ, List.getElem_cons_zero, List.setIfInBounds_toArray, List.set_cons_zero, List.set_cons_succ]
            refine wpAnyH_take (i := 6) (v := ?_) rfl (by kernel_rfl) (by kernel_rfl) (by kernel_rfl) (fun _ _ _ h => h) (Or.inl ⟨by rfl, ?_⟩) (by assumption) ?_
            rotate_left
            · intro w hSw; (try dsimp only at hSw); go_simp; try with_reducible rfl
            try simp only [Act.put, List.getElem_toArray, List.getElem_cons_succ, List.getElem_cons_zero, List.setIfInBounds_toArray, List.set_cons_zero, List.set_cons_succ]
            refine wpAnyH_take (i := 7) (v := ?_) rfl (by kernel_rfl) (by kernel_rfl) (by kernel_rfl) (fun _ _ _ h => h) (Or.inl ⟨by rfl, ?_⟩) (by assumption) ?_
            rotate_left
            · intro w hSw; (try dsimp only at hSw); go_simp; try with_reducible rfl
            try simp only [Act.put, List.getElem_toArray, List.getElem_cons_succ, List.getElem_cons_zero, List.setIfInBounds_toArray, List.set_cons_zero, List.set_cons_succ]
            refine wpAnyH_take (i := 8) (v := ?_) rfl (by kernel_rfl) (by kernel_rfl) (by kernel_rfl) (fun _ _ _ h => h) (Or.inl ⟨by rfl, ?_⟩) (by assumption) ?_
            rotate_left
            · intro w hSw; (try dsimp only at hSw); go_simp; try with_reducible rfl
            try simp only [Act.put, List.getElem_toArray, List.getElem_cons_succ, List.getElem_cons_zero, List.setIfInBounds_toArray, List.set_cons_zero, List.set_cons_succ]
            refine wpAnyH_take (i := 9) (v := ?_) rfl (by kernel_rfl) (by kernel_rfl) (by kernel_rfl) (fun _ _ _ h => h) (Or.inl ⟨by rfl, ?_⟩) (by assumption) ?_
            rotate_left
            · intro w hSw; (try dsimp only at hSw); go_simp; try with_reducible rfl
            try simp only [Act.put, List.getElem_toArray, List.getElem_cons_succ, List.getElem_cons_zero, List.setIfInBounds_toArray, List.set_cons_zero, List.set_cons_succ]
            refine wpAnyH_take (i := 10) (v := ?_) rfl (by kernel_rfl) (by kernel_rfl) (by kernel_rfl) (fun _ _ _ h => h) (Or.inl ⟨by rfl, ?_⟩) (by assumption) ?_
            rotate_left
            · intro w hSw; (try dsimp only at hSw); go_simp; try with_reducible rfl
            try simp only [Act.put, List.getElem_toArray, List.getElem_cons_succ, List.getElem_cons_zero, List.setIfInBounds_toArray, List.set_cons_zero, List.set_cons_succ]
            refine wpAnyH_take (i := 11) (v := ?_) rfl (by kernel_rfl) (by kernel_rfl) (by kernel_rfl) (fun _ _ _ h => h) (Or.inl ⟨by rfl, ?_⟩) (by assumption) ?_
            rotate_left
            · intro w hSw; (try dsimp only at hSw); go_simp; try with_reducible rfl
            try simp only [Act.put, List.getElem_toArray, List.getElem_cons_succ, List.getElem_cons_zero, List.setIfInBounds_toArray, List.set_cons_zero, List.set_cons_succ]
            refine wpAnyH_take (i := 12) (v := ?_) rfl (by kernel_rfl) (by kernel_rfl) (by kernel_rfl) (fun _ _ _ h => h) (Or.inl ⟨by rfl, ?_⟩) (by assumption) ?_
            rotate_left
            · intro w hSw; (try dsimp only at hSw); go_simp; try with_reducible rfl
            try simp only [Act.put, List.getElem_toArray, List.getElem_cons_succ, List.getElem_cons_zero, List.setIfInBounds_toArray, List.set_cons_zero, List.set_cons_succ]
            refine wpAnyH_ready (rs := [13]) (by kernel_rfl) (by simp) ?_
            refine AllReadyH.cons rfl (fun K hK => ?_) AllReadyH.nil
            go_simp
            try rw [hk] at HTHR
            refine HTHR.out.mono ?_; rintro e w6 ⟨rfl, t6⟩
            have S7 := Lib.hid (S6.out.still t6)
            have hH6 : w6.cell? ⟨w.heap.size, 0, none⟩ = some (.slice (some ⟨b1, off, none⟩) tn tc) ∧ w6.cell? ⟨w.heap.size, 1, none⟩ = some (.slice (some ⟨b2, off2, none⟩) sn sc) ∧ w6.cell? ⟨w.heap.size, 2, none⟩ = some (.slice xa xn xc) ∧ w6.cell? ⟨w.heap.size, 3, none⟩ = some (.slice na nn nc) ∧ w6.cell? ⟨w.heap.size, 4, none⟩ = some (.slice fa fn fc) ∧ w6.cell? ⟨w.heap.size, 5, none⟩ = some (.int .i64 m.main) ∧ w6.cell? ⟨w.heap.size, 6, none⟩ = some (.int .i64 (k : Int)) ∧ w6.cell? ⟨b1, off + k * 2, none⟩ = some (.bool x.imm) ∧ w6.cell? ⟨b1, off + k * 2 + 1, none⟩ = some (.slice a n c) := ⟨S7.out.img.cell 0, S7.out.img.cell 1, S7.out.img.cell 2, S7.out.img.cell 3, S7.out.img.cell 4, S7.out.img.cell 5, by rw [← hk]; exact S7.out.img.cell 6, (t6.cell (p := ⟨b1, off + k * 2, none⟩) hbl).trans d0, (t6.cell (p := ⟨b1, off + k * 2 + 1, none⟩) hbl).trans d1⟩
            clear t6 hHeld
            refine hK.out _ _ hH6 (fun hHeld => ?_)
            clear hK K
            refine wpAnyH_take (i := 14) (v := ?_) rfl (by kernel_rfl) (by kernel_rfl) (by kernel_rfl) (fun _ _ _ h => h) (Or.inl ⟨by rfl, ?_⟩) (by assumption) ?_
            rotate_left
            · intro w hSw; (try dsimp only at hSw); go_simp; try with_reducible rfl
            try simp only [Act.put, List.getElem_toArray, List.getElem_cons_succ, List.getElem_cons_zero, List.setIfInBounds_toArray, List.set_cons_zero, List.set_cons_succ]
            cases q with
            | false =>
              have HQ : Hid (r = false) := by
                have h0 : exnB m = false := by
                  exact HXE.out
                show _ = _
                rw [HQ.out, h0]
                simp
              refine wpAnyH_ready (rs := [15]) (by kernel_rfl) (by simp) ?_
              refine AllReadyH.cons rfl (fun K hK => ?_) AllReadyH.nil
              go_simp
              refine (need_no _).mono ?_; rintro e wz ⟨rfl, rfl⟩
              exact ⟨rfl, S7.out.st, .inr ⟨fun e => by rw [HQ.out] at e; simp at e, rfl⟩⟩
            | true =>
              have HC_exn : Hid (exnB m = true) := HXE.out
              refine wpAnyH_ready (rs := [15]) (by kernel_rfl) (by simp) ?_
              refine AllReadyH.cons rfl (fun K hK => ?_) AllReadyH.nil
              go_simp
              refine (need_yes _).mono ?_; rintro e w7 ⟨rfl, rfl⟩
              refine hK.out _ _ hHeld (fun hHeld => ?_)
              clear hK K
              refine wpAnyH_done (by kernel_rfl) ?_ _
              clear hHeld hH6 hcD d0 d1 hbl lMD
              have m4 : w7.cell? ⟨w.heap.size, 4, none⟩ = some (.slice fa fn fc) := S7.out.img.cell 4
              have m5 : w7.cell? ⟨w.heap.size, 5, none⟩ = some (.int .i64 m.main) := S7.out.img.cell 5
              have lM := S7.out.img.lt
              go_wp2_with fail
              refine (hasFn_any _ _ _ _ _).mono ?_; rintro e w8 ⟨rfl, rfl⟩
              cases hq2 : hasB m.main fn with
              | false =>
                have HQ : Hid (r = false) := by
                  have h0 : mainB m = false := by
                    unfold mainB
                    rw [HFN.out, hq2]
                    rfl
                  show _ = _
                  rw [HQ.out, h0]
                  simp
                go_wp2_with fail
                refine (need_no _).mono ?_; rintro e wz ⟨rfl, rfl⟩
                exact ⟨rfl, S7.out.st, .inr ⟨fun e => by rw [HQ.out] at e; simp at e, rfl⟩⟩
              | true =>
                obtain ⟨he0, he1⟩ := (hasB_iff _ _).1 hq2
                obtain ⟨k2, hk2⟩ := Int.eq_ofNat_of_zero_le he0
                have hkfn : k2 < fn := by omega
                obtain ⟨b3, off3, y, cs, hba, hbB3, hxi, hcl, hPx, hcell⟩ := (HK.out S7.out.st).2.funcs.here hkfn
                obtain ⟨pa, pn, pc, ba, bn, bc, rfl, hn, hbn, hr64, hs64, hin, hbk⟩ := hPx
                have d0 : w8.cell? ⟨b3, off3 + k2 * 4, none⟩ = some (.slice pa pn pc) := by simpa using hcell 0 (by decide)
                have hbl : b3 < w8.heap.size := World.block_lt_of_cell? _ _ d0
                have HMA : Hid (mainB m = decide (pn = 0)) := by
                  show _ = _
                  unfold mainB
                  rw [HFN.out, hq2, Bool.true_and, hk2, nth_nat, hxi]
                  show decide (y.params.length = 0) = _
                  rw [hin.len]
                rw [hk2] at hq2 m5 ⊢
                have hki2 : (k2 : Int) < fn := by omega
                have hba : fa = some ⟨b3, off3, none⟩ := hba
                clear hcell hcl hxi hin hbk hn hbn
                subst hba
                by_cases hpn0 : pn = 0
                rotate_left
                · have x0 : ((pn : Int) == 0) = false := beq_eq_false_iff_ne.2 (by omega)
                  have HQ : Hid (r = false) := by
                    have h0 : mainB m = false := by
                      rw [HMA.out, decide_eq_false hpn0]
                    show _ = _
                    rw [HQ.out, h0]
                    simp
                  go_wp2_with fail
                  refine (need_no _).mono ?_; rintro e wz ⟨rfl, rfl⟩
                  exact ⟨rfl, S7.out.st, .inr ⟨fun e => by rw [HQ.out] at e; simp at e, rfl⟩⟩
                subst hpn0
                have HC_main : Hid (mainB m = true) := HMA.out
                go_wp2_with fail
                refine (need_yes _).mono ?_; rintro e w9 ⟨rfl, rfl⟩
                go_wp2_with fail
                have HKE := Lib.hid (And.intro hk hk2)
                clear m4 m5 lM d0 hbl hq2 hki2 hki hHeld hk hk2 HME he0 he1 hba hktn hkfn HTHR hbB hbB2 hbB3
                go_loopw [7, 117] (fun _ z wr => ∃ j : Nat, z = .int .i64 j ∧ j ≤ fn ∧ (m.funcs.take j).all (fnB tn) = true ∧ IMat w (ImgV.cells ⟨some ⟨b1, off, none⟩, tn, tc, some ⟨b2, off2, none⟩, sn, sc, xa, xn, xc, na, nn, nc, some ⟨b3, off3, none⟩, fn, fc, m.main, m.exn⟩) wr) (fun _ z _ => fn - (intOf z).toNat)
                case atStart => exact ⟨0, rfl, Nat.zero_le _, by simp, S7.out⟩
                case round =>
                  obtain ⟨j, rfl, hj, hall, ht⟩ := hrel
                  have S4 := Lib.hid ht
                  have HALL := Lib.hid hall
                  clear ht hall
                  by_cases hlt : j < fn
                  · obtain ⟨b4, off4, x, cs, hba, hbB4, hxi, hcl, hPx, hcell⟩ := (HK.out S4.out.st).2.funcs.here hlt
                    simp only [Option.some.injEq, Addr.mk.injEq, and_true] at hba
                    obtain ⟨rfl, rfl⟩ := hba
                    obtain ⟨pa, pn, pc, ba, bn, bc, rfl, hn, hbn, hr64, hs64, hin, hbk⟩ := hPx
                    have d0 : wr.cell? ⟨b3, off3 + j * 4, none⟩ = some (.slice pa pn pc) := by simpa using hcell 0 (by decide)
                    have d1 : wr.cell? ⟨b3, off3 + j * 4 + 1, none⟩ = some (.int .i64 x.result) := by simpa using hcell 1 (by decide)
                    have d2 : wr.cell? ⟨b3, off3 + j * 4 + 2, none⟩ = some (.int .i64 x.slots) := by simpa using hcell 2 (by decide)
                    have d3 : wr.cell? ⟨b3, off3 + j * 4 + 3, none⟩ = some (.slice ba bn bc) := by simpa using hcell 3 (by decide)
                    have hbB3 := hbB4
                    have HRB : Hid (BkRoom w ba bn) := HRM.out b3 off3 j rfl hlt ba bn bc ((S4.out.st.cell (p := ⟨b3, off3 + j * 4 + 3, none⟩) (by have := HB.out; show b3 < w.heap.size; omega)).symm.trans d3)
                    have HBK := Lib.hid hbk
                    have hbn63 : bn ≤ 9223372036854775807 := by unfold maxLen at hbn; omega
                    have HBN := Lib.hid hbn
                    have hbl : b3 < wr.heap.size := World.block_lt_of_cell? _ _ d0
                    have HIN := Lib.hid hin
                    have HN := Lib.hid hn
                    have HX : Hid ((m.funcs.take (j + 1)).all (fnB tn) = fnB tn x ∧ x ∈ m.funcs) := ⟨by rw [List.take_add_one, hxi, List.all_append, HALL.out]; simp, List.mem_of_getElem? hxi⟩
                    have hni : (j : Int) < fn := by omega
                    have hn63 : pn ≤ 9223372036854775807 := by unfold maxLen at hn; omega
                    have S5 : Hid (IMat w (ImgV.cells ⟨some ⟨b1, off, none⟩, tn, tc, some ⟨b2, off2, none⟩, sn, sc, xa, xn, xc, na, nn, nc, some ⟨b3, off3, none⟩, fn, fc, m.main, m.exn⟩) (wr.alloc (.cells #[.slice pa pn pc, .int .i64 x.result, .int .i64 x.slots, .slice ba bn bc] 45)) ∧ Blk (wr.alloc (.cells #[.slice pa pn pc, .int .i64 x.result, .int .i64 x.slots, .slice ba bn bc] 45)) wr.heap.size 45 #[.slice pa pn pc, .int .i64 x.result, .int .i64 x.slots, .slice ba bn bc] ∧ Still wr (wr.alloc (.cells #[.slice pa pn pc, .int .i64 x.result, .int .i64 x.slots, .slice ba bn bc] 45))) := ⟨S4.out.still ((Still.refl wr).alloc _), Blk.new wr _ _, (Still.refl wr).alloc _⟩
                    have m0 := S5.out.1.img.cell 0
                    have m1 := S5.out.1.img.cell 1
                    have m2 := S5.out.1.img.cell 2
                    have m3 := S5.out.1.img.cell 3
                    have m4 := S5.out.1.img.cell 4
                    have m5 := S5.out.1.img.cell 5
                    have m6 := S5.out.1.img.cell 6
                    have e0 := S5.out.2.1.cell 0
                    have e1 := S5.out.2.1.cell 1
                    have e2 := S5.out.2.1.cell 2
                    have e3 := S5.out.2.1.cell 3
                    have lM := S5.out.1.img.lt
                    have l5 := S5.out.2.1.lt
                    clear hcell hcl hxi hin hn hbk hbn
                    go_wp2_with fail
                    clear m0 m1 m2 m3 m4 m5 m6 e0 e1 e2 e3 lM l5 d0 d1 d2 d3
                    generalize wr.alloc (.cells #[.slice pa pn pc, .int .i64 x.result, .int .i64 x.slots, .slice ba bn bc] 45) = w5 at S5 ⊢
                    obtain ⟨KK, hKK⟩ : ∃ KK, wr.heap.size = KK := ⟨_, rfl⟩
                    rw [hKK] at S5 hbl
                    rw [hKK]
                    have HKK := Lib.hid hKK
                    clear hKK
                    have HI5 : Ints B w5 pa pn x.params := (HIN.out.keep ((Still.below S5.out.2.2).mono (HK.out S4.out.st).1) (HK.out S4.out.st).1)
                    have HL5 : Lies B w5 2 (BkIs B w5) ba bn x.blocks := Lies.keep HBK.out ((Still.below S5.out.2.2).mono (HK.out S4.out.st).1) (HK.out S4.out.st).1 fun cs x _ h => h.keep ((Still.below S5.out.2.2).mono (HK.out S4.out.st).1) (HK.out S4.out.st).1
                    have HR5 : BkRoom w5 ba bn := HRB.out.still S5.out.1.st HB.out HL5
                    have HC5 := Lib.hid (HNF.out S5.out.1.st (f := x) (pc := pc) (bc := bc) HI5 HN.out HBN.out HL5 HR5)
                    clear HI5 HL5 HR5
                    refine HC5.out.mono ?_; rintro e w6 ⟨t6, ⟨hP, rfl⟩ | ⟨hP, rfl⟩⟩
                    · have HPX := Lib.hid hP
                      have S7 := Lib.hid (S5.out.1.still t6)
                      clear t6 hP
                      go_wp2_with fail
                      go_roundw
                      case rel => exact ⟨j + 1, by go_num, by omega, by rw [HX.out.1]; exact HPX.out, S7.out⟩
                      case measure => simp [intOf]; omega
                    · refine ⟨rfl, S5.out.1.st.trans t6, .inr ⟨fun e => ?_, rfl⟩⟩
                      have h2 : fnB tn x = false := by simpa using hP
                      have h1 : m.funcs.all (fnB tn) = false := List.all_eq_false.2 ⟨x, HX.out.2, by rw [h2]; decide⟩
                      rw [HQ.out, h1] at e
                      simp at e
                  · obtain rfl : fn = j := by omega
                    have x6 : decide ((fn : Int) < fn) = false := decide_eq_false (by omega)
                    have x6' : decide (fn < fn) = false := decide_eq_false (by omega)
                    have HC_funcs : Hid (m.funcs.all (fnB tn) = true) := by
                      have := HALL.out
                      rwa [List.take_of_length_le (by rw [HFN.out]; exact Nat.le_refl _)] at this
                    clear hlt
                    go_wp2_with fail
                    go_end0
                    refine ⟨S4.out.st, .inl ⟨?_, rfl⟩⟩
                    rw [HQ.out, HC1.out, HC2.out, HC_types.out, HC_shapes.out, HC_exn.out, HC_main.out, HC_funcs.out]
                    rfl
end Go.Proofs.YtglalgjffkoneaaGreatDoor
