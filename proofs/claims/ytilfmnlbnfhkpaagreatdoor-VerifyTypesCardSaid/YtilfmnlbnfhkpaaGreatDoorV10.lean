/- Lemmas, put together: Vim Vholds Vfa Vfu Vve Vsr Vle. -/
import Derived.Test.YtilfmnlbnfhkpaaGreatDoorVth
import Derived.Test.YtilfmnlbnfhkpaaGreatDoorV2
import Derived.Test.YtilfmnlbnfhkpaaGreatDoorV9
/- image: all functions, all blocks. -/
namespace Go.Proofs.YtilfmnlbnfhkpaaGreatDoor
set_option linter.unusedVariables false
set_option linter.unusedSimpArgs false
open Go.ChangeShapes Go.WideShapes Go.ChangeAt Go.RowKit
open Vf (K nth nth_nat tyAt atK isK numT oneT le beginK tsub WrongAt WrongBk WrongFn WrongImg Last)
def ImageR (c : WkC) (w : World) (e : Ending) (w' : World) : Prop :=
  ∃ res, WrongImg c.m 0 c.m.funcs res ∧ RowsAt c w' ∧ Turn (fun j => j = c.X) w w' ∧ ((res = none ∧ e = .returned (.tuple #[])) ∨ (∃ (i j k : Nat), res = some (i, j, k) ∧ e = .panicked [{ v := wrongV, recovered := false }] ∧ ∃ g v0 v1 v2 v3 v4, Blk w' c.X 77 (c.cells g i j k v0 v1 v2 v3 v4)))
theorem wfn_good {m : M.Img} {f : M.Fn} {l : List M.Bk} {j : Nat} {b : M.Bk} (hb : l[j]? = some b) (h : WrongBk m f b none) {res : Option (Nat × Nat)} (hr : WrongFn m f (j + 1) (l.drop (j + 1)) res) : WrongFn m f j (l.drop j) res := by
  have hd : l.drop j = b :: l.drop (j + 1) := by
    have hil := (List.getElem?_eq_some_iff.1 hb).1
    rw [List.drop_eq_getElem_cons hil, (List.getElem?_eq_some_iff.1 hb).2]
  rw [hd]
  exact .inr ⟨h, hr⟩
theorem wfn_bad {m : M.Img} {f : M.Fn} {l : List M.Bk} {j n : Nat} {b : M.Bk} (hb : l[j]? = some b) (h : WrongBk m f b (some n)) : WrongFn m f j (l.drop j) (some (j, n)) := by
  have hd : l.drop j = b :: l.drop (j + 1) := by
    have hil := (List.getElem?_eq_some_iff.1 hb).1
    rw [List.drop_eq_getElem_cons hil, (List.getElem?_eq_some_iff.1 hb).2]
  rw [hd]
  exact .inl ⟨n, h, rfl⟩
theorem wimg_good {m : M.Img} {l : List M.Fn} {i : Nat} {f : M.Fn} (hf : l[i]? = some f) (h : WrongFn m f 0 f.blocks none) {res : Option (Nat × Nat × Nat)} (hr : WrongImg m (i + 1) (l.drop (i + 1)) res) : WrongImg m i (l.drop i) res := by
  have hd : l.drop i = f :: l.drop (i + 1) := by
    have hil := (List.getElem?_eq_some_iff.1 hf).1
    rw [List.drop_eq_getElem_cons hil, (List.getElem?_eq_some_iff.1 hf).2]
  rw [hd]
  exact .inr ⟨h, hr⟩
theorem wimg_bad {m : M.Img} {l : List M.Fn} {i j n : Nat} {f : M.Fn} (hf : l[i]? = some f) (h : WrongFn m f 0 f.blocks (some (j, n))) : WrongImg m i (l.drop i) (some (i, j, n)) := by
  have hd : l.drop i = f :: l.drop (i + 1) := by
    have hil := (List.getElem?_eq_some_iff.1 hf).1
    rw [List.drop_eq_getElem_cons hil, (List.getElem?_eq_some_iff.1 hf).2]
  rw [hd]
  exact .inl ⟨j, n, h, rfl⟩
/-- A function's first instructions are asked in a walk that stands there. -/
theorem RowsAt.at {c : WkC} {w : World} (h : RowsAt c w) {f : M.Fn} {g : FV} {fi bi ii : Int} (hb : ∃ v0 v1 v2 v3 v4, Blk w c.X 77 (c.cells g fi bi ii v0 v1 v2 v3 v4)) (hg : g.res = f.result ∧ g.slots = f.slots ∧ g.pn ≤ maxLen ∧ g.bn ≤ maxLen) (hp : Ints c.B w g.pa g.pn f.params) (hk : Lies c.B w 2 (BkIs c.B w) g.ba g.bn f.blocks) (ho : fnB c.m.types.length f = true) : WkF c w f g fi bi ii := ⟨h, hb, hg, hp, hk, ho⟩
set_option maxRecDepth 100000 in
set_option maxHeartbeats 8000000 in
theorem image_any (c : WkC) (hok : ∀ f ∈ c.m.funcs, ∀ b ∈ f.blocks, ∀ x ∈ b.code, StepOk c x) (hfn : ∀ f ∈ c.m.funcs, fnB c.m.types.length f = true ∧ f.slots ≤ 200) {w : World} (h : RowsAt c w) {g0 : FV} {f0 b0 i0 : Int} {v0 v1 v2 v3 v4 : Value} (hbox : Blk w c.X 77 (c.cells g0 f0 b0 i0 v0 v1 v2 v3 v4)) :
    Calls Tryz.prog 32 #[.pointer (some ⟨c.X, 0, none⟩)] w (ImageR c w) := by
  have HOK := Lib.hid hok
  have HFN := Lib.hid hfn
  have HH := Lib.hid h
  have HBX := Lib.hid hbox
  have HFL : Hid (c.m.funcs.length = c.v.fn) := h.img.funcs.len
  obtain ⟨X, hX⟩ : ∃ X, c.X = X := ⟨_, rfl⟩
  have HX := Lib.hid hX
  obtain ⟨fa, hfa⟩ : ∃ fa, c.v.fa = fa := ⟨_, rfl⟩
  obtain ⟨fn, hfn2⟩ : ∃ fn, c.v.fn = fn := ⟨_, rfl⟩
  have HFV : Hid (c.v.fa = fa ∧ c.v.fn = fn) := ⟨hfa, hfn2⟩
  have hfn63 : fn ≤ 9223372036854775807 := by have := h.img.le.2.2.2.2; unfold maxLen at this; omega
  have x4 : w.cell? ⟨X, 4, none⟩ = some (.slice fa fn c.v.fc) := by rw [← hX, ← hfa, ← hfn2]; exact hbox.cell 4
  have lX : X < w.heap.size := by rw [← hX]; exact hbox.lt
  rw [hX]
  rw [hfn2] at HFL
  clear hok hfn h hbox hX hfa hfn2
  go_enter Tryz.func32, Tryz.ntmps32
  go_wp2_with fail
  clear x4 lX
  go_loopw [2, 3, 4, 5, 12, 28] (fun _ _ _ _ z _ wr => ∃ i : Nat, z = .int .i64 i ∧ i ≤ fn ∧ RowsAt c wr ∧ (∃ g f0 b0 i0 v0 v1 v2 v3 v4, Blk wr X 77 (c.cells g f0 b0 i0 v0 v1 v2 v3 v4)) ∧ Turn (fun j => j = c.X) w wr ∧ (∀ res, WrongImg c.m i (c.m.funcs.drop i) res → WrongImg c.m 0 c.m.funcs res)) (fun _ _ _ _ z _ _ => fn - (intOf z).toNat)
  case atStart => exact ⟨0, rfl, Nat.zero_le _, HH.out, ⟨g0, f0, b0, i0, v0, v1, v2, v3, v4, by rw [← HX.out]; exact HBX.out⟩, Turn.refl _ _, fun res h => h⟩
  case round =>
    obtain ⟨wo, hwo⟩ : ∃ wo, wo = wr := ⟨_, rfl⟩
    subst hwo
    obtain ⟨i, rfl, hi, hrows, ⟨g1, f1, b1, i1, u0, u1', u2', u3', u4', hbx⟩, ht, hpr⟩ := hrel
    have HR := Lib.hid (And.intro hrows (And.intro ht hpr))
    have HBX1 := Lib.hid hbx
    by_cases hlt : i < fn
    · obtain ⟨b3, off3, f, cs, hfa, hbB, hxi, hcl, hPx, hcell⟩ := hrows.img.funcs.here (i := i) (by rw [HFV.out.2]; exact hlt)
      rw [HFV.out.1] at hfa
      obtain ⟨pa, pn, pc, ba, bn, bc, rfl, hpn, hbn, hr64, hs64, hpar, hblk⟩ := hPx
      have d0 : wo.cell? ⟨b3, off3 + i * 4, none⟩ = some (.slice pa pn pc) := by simpa using hcell 0 (by decide)
      have d1 : wo.cell? ⟨b3, off3 + i * 4 + 1, none⟩ = some (.int .i64 f.result) := by simpa using hcell 1 (by decide)
      have d2 : wo.cell? ⟨b3, off3 + i * 4 + 2, none⟩ = some (.int .i64 f.slots) := by simpa using hcell 2 (by decide)
      have d3 : wo.cell? ⟨b3, off3 + i * 4 + 3, none⟩ = some (.slice ba bn bc) := by simpa using hcell 3 (by decide)
      have hbl : b3 < wo.heap.size := World.block_lt_of_cell? _ _ d0
      have hii : (i : Int) < fn := by omega
      have HLT := Lib.hid hlt
      have HX1 : Hid (c.m.funcs[i]? = some f ∧ f ∈ c.m.funcs) := ⟨hxi, List.mem_of_getElem? hxi⟩
      have HPB := Lib.hid (And.intro hpar (And.intro hblk (And.intro hpn hbn)))
      have hbn63 : bn ≤ 9223372036854775807 := by unfold maxLen at hbn; omega
      have S5 : Hid (Still wo (wo.alloc (.cells #[.slice pa pn pc, .int .i64 f.result, .int .i64 f.slots, .slice ba bn bc] 52)) ∧ Blk (wo.alloc (.cells #[.slice pa pn pc, .int .i64 f.result, .int .i64 f.slots, .slice ba bn bc] 52)) wo.heap.size 52 #[.slice pa pn pc, .int .i64 f.result, .int .i64 f.slots, .slice ba bn bc]) := ⟨(Still.refl wo).alloc _, Blk.new wo _ _⟩
      clear hrows ht hpr hbx hcell hcl hxi hpar hblk hpn hbn hr64 hs64
      subst hfa
      go_wp2_with fail
      clear d0 d1 d2 d3
      generalize wo.alloc (.cells #[.slice pa pn pc, .int .i64 f.result, .int .i64 f.slots, .slice ba bn bc] 52) = w5 at S5 ⊢
      obtain ⟨Q, hQ⟩ : ∃ Q, wo.heap.size = Q := ⟨_, rfl⟩
      rw [hQ] at S5 hbl
      rw [hQ]
      have HQ := Lib.hid hQ
      clear hQ
      have B5 := S5.out.1.blk HBX1.out
      have HB5 := Lib.hid B5
      have lX : X < w5.heap.size := B5.lt
      have lQ : Q < w5.heap.size := S5.out.2.lt
      have hQX : Q ≠ X := fun e => by have h1 := HBX1.out.lt; have h2 := HQ.out; omega
      have hXQ : X ≠ Q := hQX.symm
      have y0 := S5.out.2.cell 0
      have y1 := S5.out.2.cell 1
      have y2 := S5.out.2.cell 2
      have y3 := S5.out.2.cell 3
      have z11 := B5.cell 11
      have f11' := B5.frozen 11
      have z12 := B5.cell 12
      have f12' := B5.frozen 12
      have z13 := B5.cell 13
      have f13' := B5.frozen 13
      have z14 := B5.cell 14
      have f14' := B5.frozen 14
      have z15 := B5.cell 15
      have f15' := B5.frozen 15
      clear B5
      go_region
      have hbX : Blk ((((((w5.setCell ⟨X, 15, none⟩ (.int .i64 (i : Int))).setCell ⟨X, 11, none⟩ (.slice pa pn pc)).setCell ⟨X, 12, none⟩ (.int .i64 f.result)).setCell ⟨X, 13, none⟩ (.int .i64 f.slots)).setCell ⟨X, 14, none⟩ (.slice ba bn bc))).drew X 77 (c.cells ⟨pa, pn, pc, f.result, f.slots, ba, bn, bc⟩ i b1 i1 u0 u1' u2' u3' u4') := Blk.keep (by simpa using (((((HB5.out.set 15 (.int .i64 (i : Int))).set 11 (.slice pa pn pc)).set 12 (.int .i64 f.result)).set 13 (.int .i64 f.slots)).set 14 (.slice ba bn bc))) (Still.refl _).drew (fun e => e)
      have hTX : Turn (fun j => j = X) w5 ((((((w5.setCell ⟨X, 15, none⟩ (.int .i64 (i : Int))).setCell ⟨X, 11, none⟩ (.slice pa pn pc)).setCell ⟨X, 12, none⟩ (.int .i64 f.result)).setCell ⟨X, 13, none⟩ (.int .i64 f.slots)).setCell ⟨X, 14, none⟩ (.slice ba bn bc))).drew := ((((((Turn.refl (fun j => j = X) w5).setCell (p := ⟨X, 15, none⟩) (fun _ => rfl) _).setCell (p := ⟨X, 11, none⟩) (fun _ => rfl) _).setCell (p := ⟨X, 12, none⟩) (fun _ => rfl) _).setCell (p := ⟨X, 13, none⟩) (fun _ => rfl) _).setCell (p := ⟨X, 14, none⟩) (fun _ => rfl) _).drew
      clear y0 y1 y2 y3 z11 z12 z13 z14 z15 f11' f12' f13' f14' f15' lX lQ
      have HQ6 := Lib.hid (S5.out.2.keep hTX hQX)
      have W6 : Hid (WkF c ((((((w5.setCell ⟨X, 15, none⟩ (.int .i64 (i : Int))).setCell ⟨X, 11, none⟩ (.slice pa pn pc)).setCell ⟨X, 12, none⟩ (.int .i64 f.result)).setCell ⟨X, 13, none⟩ (.int .i64 f.slots)).setCell ⟨X, 14, none⟩ (.slice ba bn bc))).drew f ⟨pa, pn, pc, f.result, f.slots, ba, bn, bc⟩ i b1 i1 ∧ Turn (fun j => j = c.X) w ((((((w5.setCell ⟨X, 15, none⟩ (.int .i64 (i : Int))).setCell ⟨X, 11, none⟩ (.slice pa pn pc)).setCell ⟨X, 12, none⟩ (.int .i64 f.result)).setCell ⟨X, 13, none⟩ (.int .i64 f.slots)).setCell ⟨X, 14, none⟩ (.slice ba bn bc))).drew) := by
        have t5 : Turn (fun j => j = c.X) wo ((((((w5.setCell ⟨X, 15, none⟩ (.int .i64 (i : Int))).setCell ⟨X, 11, none⟩ (.slice pa pn pc)).setCell ⟨X, 12, none⟩ (.int .i64 f.result)).setCell ⟨X, 13, none⟩ (.int .i64 f.slots)).setCell ⟨X, 14, none⟩ (.slice ba bn bc))).drew := by rw [HX.out]; exact S5.out.1.turn.trans hTX
        have hB : c.B ≤ wo.heap.size := by have := HR.out.1.le; omega
        have hbl5 : Below c.B wo ((((((w5.setCell ⟨X, 15, none⟩ (.int .i64 (i : Int))).setCell ⟨X, 11, none⟩ (.slice pa pn pc)).setCell ⟨X, 12, none⟩ (.int .i64 f.result)).setCell ⟨X, 13, none⟩ (.int .i64 f.slots)).setCell ⟨X, 14, none⟩ (.slice ba bn bc))).drew := t5.below hB fun j e => by have := HR.out.1.le; have e2 : j = c.X := e; omega
        refine ⟨RowsAt.at (HR.out.1.keep t5 (fun j e => .inl e)) ⟨_, _, _, _, _, by rw [HX.out]; exact hbX⟩ ⟨rfl, rfl, HPB.out.2.2.1, HPB.out.2.2.2⟩ (HPB.out.1.keep hbl5 hB) (Lies.keep HPB.out.2.1 hbl5 hB fun cs x _ h => h.keep hbl5 hB) (HFN.out f HX1.out.2).1, HR.out.2.1.trans t5⟩
      clear hbX hTX
      generalize ((((((w5.setCell ⟨X, 15, none⟩ (.int .i64 (i : Int))).setCell ⟨X, 11, none⟩ (.slice pa pn pc)).setCell ⟨X, 12, none⟩ (.int .i64 f.result)).setCell ⟨X, 13, none⟩ (.int .i64 f.slots)).setCell ⟨X, 14, none⟩ (.slice ba bn bc))).drew = w6 at W6 HQ6 ⊢
      have y3 := HQ6.out.cell 3
      have lQ := HQ6.out.lt
      go_wp2_with fail
      clear y3 lQ
      go_loopw [4, 5, 28] (fun _ _ z wr => ∃ (j : Nat) (bi ii : Int), z = .int .i64 j ∧ j ≤ bn ∧ WkF c wr f ⟨pa, pn, pc, f.result, f.slots, ba, bn, bc⟩ i bi ii ∧ Turn (fun j => j = c.X) w wr ∧ (∀ res, WrongFn c.m f j (f.blocks.drop j) res → WrongFn c.m f 0 f.blocks res)) (fun _ _ z _ => bn - (intOf z).toNat)
      case atStart => exact ⟨0, b1, i1, rfl, Nat.zero_le _, W6.out.1, W6.out.2, fun res h => h⟩
      case round =>
        obtain ⟨j, bi, ii, rfl, hj, hwf, ht2, hpr2⟩ := hrel
        have HW := Lib.hid (And.intro hwf (And.intro ht2 hpr2))
        have HBLEN : Hid (f.blocks.length = bn) := hwf.blk.len
        by_cases hlt2 : j < bn
        · obtain ⟨b4, off4, b, cs, hba, hbB4, hxi, hcl, hPx, hcell⟩ := hwf.blk.here hlt2
          obtain ⟨ia, inn, ic, ca, cn, cc, rfl, hinn, hcn, hin, hcode⟩ := hPx
          have hba : ba = some ⟨b4, off4, none⟩ := hba
          have e0 : wr.cell? ⟨b4, off4 + j * 2, none⟩ = some (.slice ia inn ic) := by simpa using hcell 0 (by decide)
          have e1 : wr.cell? ⟨b4, off4 + j * 2 + 1, none⟩ = some (.slice ca cn cc) := by simpa using hcell 1 (by decide)
          have hbl4 : b4 < wr.heap.size := World.block_lt_of_cell? _ _ e0
          have hji : (j : Int) < bn := by omega
          have HLT2 := Lib.hid hlt2
          have HB1 : Hid (f.blocks[j]? = some b ∧ b ∈ f.blocks) := ⟨hxi, List.mem_of_getElem? hxi⟩
          obtain ⟨w0', w1', w2', w3', w4', hbx2⟩ := hwf.box
          rw [HX.out] at hbx2
          have z16 : wr.cell? ⟨X, 16, none⟩ = some (.int .i64 bi) := hbx2.cell 16
          have f16 : wr.frozen? ⟨X, 16, none⟩ = false := hbx2.frozen 16
          have lX : X < wr.heap.size := hbx2.lt
          have t7 : Turn (fun j => j = X) wr ((wr.setCell ⟨X, 16, none⟩ (.int .i64 (j : Int))).alloc (.cells #[.slice ia inn ic, .slice ca cn cc] 55)) := ((Turn.refl (fun j => j = X) wr).setCell (p := ⟨X, 16, none⟩) (fun _ => rfl) _).alloc _
          have W7 : Hid (WkF c ((wr.setCell ⟨X, 16, none⟩ (.int .i64 (j : Int))).alloc (.cells #[.slice ia inn ic, .slice ca cn cc] 55)) f ⟨pa, pn, pc, f.result, f.slots, ba, bn, bc⟩ i j ii ∧ Turn (fun j => j = c.X) w ((wr.setCell ⟨X, 16, none⟩ (.int .i64 (j : Int))).alloc (.cells #[.slice ia inn ic, .slice ca cn cc] 55)) ∧ Ints c.B ((wr.setCell ⟨X, 16, none⟩ (.int .i64 (j : Int))).alloc (.cells #[.slice ia inn ic, .slice ca cn cc] 55)) ia inn b.inn ∧ Lies c.B ((wr.setCell ⟨X, 16, none⟩ (.int .i64 (j : Int))).alloc (.cells #[.slice ia inn ic, .slice ca cn cc] 55)) 9 (InsIs c.B ((wr.setCell ⟨X, 16, none⟩ (.int .i64 (j : Int))).alloc (.cells #[.slice ia inn ic, .slice ca cn cc] 55))) ca cn b.code) := by
            have hB : c.B ≤ wr.heap.size := by have := hwf.rows.le; omega
            have hbl7 : Below c.B wr ((wr.setCell ⟨X, 16, none⟩ (.int .i64 (j : Int))).alloc (.cells #[.slice ia inn ic, .slice ca cn cc] 55)) := t7.below hB fun j e => by have h1 := hwf.rows.le; have h2 := HX.out; have e2 : j = X := e; omega
            refine ⟨hwf.keep (S := fun j => j = X) t7 (fun j e => .inl (by rw [HX.out]; exact e)) ⟨w0', w1', w2', w3', w4', ?_⟩, ht2.trans (by rw [HX.out]; exact t7), hin.keep hbl7 hB, Lies.keep hcode hbl7 hB fun cs x _ h => h.keep hbl7 hB⟩
            rw [HX.out]
            refine Blk.alloc ?_ _
            have := hbx2.set 16 (.int .i64 (j : Int))
            simpa using this
          have HSMALL : Hid (inn ≤ 1000 ∧ cn ≤ maxLen ∧ ∀ n ∈ b.inn, n = -1 ∨ 0 ≤ n ∧ n < c.m.types.length) := by
            obtain ⟨h1, h2⟩ := HFN.out f HX1.out.2
            unfold fnB at h1
            simp only [Bool.and_eq_true] at h1
            have h3 := (List.all_eq_true.1 h1.2.2.2.1) b HB1.out.2
            unfold bkB at h3
            rw [Bool.and_eq_true] at h3
            have h4 := of_decide_eq_true h3.1
            rw [hin.len] at h4
            refine ⟨by omega, hcn, fun n hn => ?_⟩
            have h5 := (List.all_eq_true.1 h3.2) n hn
            unfold innB at h5
            rw [Bool.or_eq_true, beq_iff_eq, hasB_iff] at h5
            exact h5
          have S7 : Hid (Blk ((wr.setCell ⟨X, 16, none⟩ (.int .i64 (j : Int))).alloc (.cells #[.slice ia inn ic, .slice ca cn cc] 55)) wr.heap.size 55 #[.slice ia inn ic, .slice ca cn cc]) := by
            have := Blk.new (wr.setCell ⟨X, 16, none⟩ (.int .i64 (j : Int))) 55 #[.slice ia inn ic, .slice ca cn cc]
            rwa [show (wr.setCell ⟨X, 16, none⟩ (.int .i64 (j : Int))).heap.size = wr.heap.size by simp] at this
          clear hwf ht2 hpr2 hcell hcl hxi hin hcode hinn hcn hbx2 t7
          subst hba
          go_wp2_with fail
          clear e0 e1 z16 f16 lX hbl4
          generalize ((wr.setCell ⟨X, 16, none⟩ (.int .i64 (j : Int))).alloc (.cells #[.slice ia inn ic, .slice ca cn cc] 55)) = w7 at W7 S7 ⊢
          have HTH := Lib.hid (through_any c b (fun x hx => HOK.out f HX1.out.2 b HB1.out.2 x hx) (ic := ic) (cc := cc) W7.out.1 W7.out.2.2.1 W7.out.2.2.2 HSMALL.out.1 HSMALL.out.2.1 HSMALL.out.2.2)
          rw [HX.out] at HTH
          refine HTH.out.mono ?_; rintro e w8 ⟨res, ii', hwb, hwf8, ht8, ⟨rfl, rfl⟩ | ⟨k, rfl, rfl, rfl⟩⟩
          · have H8 := Lib.hid (And.intro hwb (And.intro hwf8 ht8))
            clear hwb hwf8 ht8
            go_wp2_with fail
            go_roundw
            case rel => exact ⟨j + 1, _, _, by go_num, by have := HLT2.out; omega, H8.out.2.1, W7.out.2.1.trans H8.out.2.2, fun res h => HW.out.2.2 res (wfn_good HB1.out.1 H8.out.1 h)⟩
            case measure => have := HLT2.out; simp [intOf]; omega
          · refine ⟨rfl, some (i, j, k), HR.out.2.2 _ (wimg_bad HX1.out.1 (HW.out.2.2 _ (wfn_bad HB1.out.1 hwb))), hwf8.rows, W7.out.2.1.trans ht8, .inr ⟨i, j, k, rfl, rfl, ?_⟩⟩
            obtain ⟨v0, v1, v2, v3, v4, hb8⟩ := hwf8.box
            exact ⟨_, v0, v1, v2, v3, v4, hb8⟩
        · obtain rfl : bn = j := by omega
          have x6 : decide ((bn : Int) < bn) = false := decide_eq_false (by omega)
          have x6' : decide (bn < bn) = false := decide_eq_false (by omega)
          have HNONE : Hid (WrongFn c.m f 0 f.blocks none) := hpr2 none (by rw [List.drop_of_length_le (by rw [HBLEN.out]; exact Nat.le_refl _)]; exact rfl)
          clear hlt2 hwf ht2 hpr2
          go_wp2_with fail
          go_roundw
          case rel =>
            obtain ⟨v0, v1, v2, v3, v4, hb8⟩ := HW.out.1.box
            rw [HX.out] at hb8
            exact ⟨i + 1, by go_num, by have := HLT.out; omega, HW.out.1.rows, ⟨_, _, _, _, v0, v1, v2, v3, v4, hb8⟩, HW.out.2.1, fun res h => HR.out.2.2 res (wimg_good HX1.out.1 HNONE.out h)⟩
          case measure => have := HLT.out; simp [intOf]; omega
    · obtain rfl : fn = i := by omega
      have x6 : decide ((fn : Int) < fn) = false := decide_eq_false (by omega)
      have x6' : decide (fn < fn) = false := decide_eq_false (by omega)
      clear hlt hrows ht hpr hbx
      go_wp2_with fail
      go_end0
      exact ⟨none, HR.out.2.2 none (by rw [List.drop_of_length_le (by rw [HFL.out]; exact Nat.le_refl _)]; exact rfl), HR.out.1, HR.out.2.1, .inl ⟨rfl, rfl⟩⟩
end Go.Proofs.YtilfmnlbnfhkpaaGreatDoor
/- holds: does a check come to its end? -/
namespace Go.Proofs.YtilfmnlbnfhkpaaGreatDoor
set_option linter.unusedVariables false
set_option linter.unusedSimpArgs false
open Go.ChangeShapes Go.WideShapes Go.ChangeAt Go.RowKit
/-- A check that comes to its end, or throws what need throws. -/
def Checks (R : Bool → World → Prop) (e : Ending) (w' : World) : Prop := (e = .returned (.tuple #[]) ∧ R true w') ∨ (e = .panicked [{ v := wrongV, recovered := false }] ∧ R false w')
def HoldsR (R : Bool → World → Prop) (e : Ending) (w' : World) : Prop := ∃ b, e = .returned (.bool b) ∧ R b w'
set_option maxRecDepth 100000 in
theorem holds_any (fid : FuncId) (first cap : Array Value) (hfid : ∀ args W, (callFunc fid args).run Tryz.prog W = .ok (.enter fid args) W) {w : World} {R : Bool → World → Prop}
    (hc : Calls Tryz.prog fid (first ++ cap) w (Checks R)) : Calls Tryz.prog 31 #[.func (.func fid) first cap] w (HoldsR R) := by
  have HC := Lib.hid hc
  clear hc
  go_enter_defers Tryz.func31, Tryz.ntmps31
  go_wp2_with fail
  refine HC.out.mono ?_; rintro e w1 (⟨rfl, hR⟩ | ⟨rfl, hR⟩)
  · have HR := Lib.hid hR
    clear hR
    go_wp2_with fail
    refine leaves_cons (f := 47) (args := #[]) (by simp) (by simp [go_sem]) ?_
    refine (catch_idle w1).mono ?_
    rintro e u' w'' ⟨rfl, rfl, rfl⟩
    simp [Leaves, settle, results, Tryz.results31, go_sem]
    exact ⟨true, rfl, HR.out⟩
  · have HR := Lib.hid hR
    clear hR
    refine leaves_cons (f := 47) (args := #[]) (by simp) (by simp [go_sem]) ?_
    refine (catch_wrong [] w1).mono ?_
    rintro e u' w'' ⟨rfl, rfl, rfl⟩
    simp [Leaves, settle, results, Tryz.results31, go_sem]
    exact ⟨false, rfl, HR.out⟩
end Go.Proofs.YtilfmnlbnfhkpaaGreatDoor
/- Whole, Fault, Verify. -/
namespace Go.Proofs.YtilfmnlbnfhkpaaGreatDoor
set_option linter.unusedVariables false
set_option linter.unusedSimpArgs false
open Go.ChangeShapes Go.WideShapes Go.ChangeAt Go.RowKit
open Vf (K nth nth_nat tyAt atK isK numT oneT le beginK tsub WrongAt WrongBk WrongFn WrongImg Last)
theorem whole1_any {B : Nat} {w : World} {v : ImgV} {m : M.Img} (hp : ImgIs B w v m) (hB : B ≤ w.heap.size) (hw : M.size m ≤ 1000000000) (hroom : Room w v) {b : Nat} (hb : Blk w b 36 v.cells) :
    Calls Tryz.prog 34 #[.pointer (some ⟨b, 0, none⟩)] w (AskR (wholeB m = true) w) := by
  have HN := Lib.hid (needWhole_any hp hB hw hroom)
  obtain ⟨ta, tn, tc, sa, sn, sc, xa, xn, xc, na, nn, nc, fa, fn, fc, mi, ei⟩ := v
  dsimp only at HN
  have m0 := hb.cell 0
  have m1 := hb.cell 1
  have m2 := hb.cell 2
  have m3 := hb.cell 3
  have m4 := hb.cell 4
  have m5 := hb.cell 5
  have m6 := hb.cell 6
  have lb := hb.lt
  clear hp hB hw hroom hb
  go_enter Tryz.func34, Tryz.ntmps34
  go_wp2_with fail
  clear m0 m1 m2 m3 m4 m5 m6 lb
  refine HN.out.mono ?_; rintro e w5 ⟨t5, ⟨hP, rfl⟩ | ⟨hP, rfl⟩⟩
  · have H := Lib.hid (And.intro t5 hP)
    clear t5 hP
    go_wp2_with fail
    go_end0
    exact ⟨H.out.1, .inl ⟨H.out.2, rfl⟩⟩
  · exact ⟨rfl, t5, .inr ⟨hP, rfl⟩⟩
theorem BkRoom.later {w W : World} {ba : Option Addr} {bn : Nat} {B : Nat} {P : List Value → M.Bk → Prop} {l : List M.Bk} (h : BkRoom w ba bn) (t : Still w W) (hB : B ≤ w.heap.size) (hl : Lies B w 2 P ba bn l) : BkRoom W ba bn := fun b off hba h0 ia inn ic hc => by
  obtain ⟨b', off', e, hb, _⟩ := hl.at_ h0
  rw [hba] at e
  simp only [Option.some.injEq, Addr.mk.injEq, and_true] at e
  obtain ⟨rfl, rfl⟩ := e
  exact h b off hba h0 ia inn ic ((t.cell (p := ⟨b, off, none⟩) (Nat.lt_of_lt_of_le hb hB)).symm.trans hc)
theorem Room.still {B : Nat} {w W : World} {v : ImgV} {m : M.Img} (h : Room w v) (hp : ImgIs B w v m) (hB : B ≤ w.heap.size) (t : Still w W) : Room W v := fun b off i hv hi ba bn bc hc => by
  obtain ⟨b', off', f, cs, ha, hbB, hxi, hcl, hPx, hcell⟩ := hp.funcs.here hi
  rw [hv] at ha
  simp only [Option.some.injEq, Addr.mk.injEq, and_true] at ha
  obtain ⟨rfl, rfl⟩ := ha
  have hc' : w.cell? ⟨b, off + i * 4 + 3, none⟩ = some (.slice ba bn bc) := (t.cell (p := ⟨b, off + i * 4 + 3, none⟩) (Nat.lt_of_lt_of_le hbB hB)).symm.trans hc
  obtain ⟨pa, pn, pc, ba', bn', bc', rfl, hpn, hbn, hr64, hs64, hpar, hblk⟩ := hPx
  have h3 := hcell 3 (by decide)
  rw [hc'] at h3
  simp at h3
  obtain ⟨rfl, rfl, rfl⟩ := h3
  exact (h b off i hv hi _ _ _ hc').later t hB hblk
set_option maxHeartbeats 2000000 in
theorem whole_any {B : Nat} {w : World} {v : ImgV} {m : M.Img} (hp : ImgIs B w v m) (hB : B ≤ w.heap.size) (hw : M.size m ≤ 1000000000) (hroom : Room w v) :
    Calls Tryz.prog 21 #[.agg #[.slice v.ta v.tn v.tc, .slice v.sa v.sn v.sc, .slice v.xa v.xn v.xc, .slice v.na v.nn v.nc, .slice v.fa v.fn v.fc, .int .i64 v.main, .int .i64 v.exn]] w fun e w' => e = .returned (.bool (wholeB m)) ∧ Still w w' := by
  have S1 : Hid (Still w (w.alloc (.cells v.cells 36)) ∧ Blk (w.alloc (.cells v.cells 36)) w.heap.size 36 v.cells) := ⟨(Still.refl w).alloc _, Blk.new w _ _⟩
  have henter : ∀ (args : Array Value) (W : World), (callFunc 34 args).run Tryz.prog W = .ok (.enter 34 args) W := enters_of Tryz.func34 (by kernel_rfl) rfl
  have HC := Lib.hid (holds_any 34 #[] #[.pointer (some ⟨w.heap.size, 0, none⟩)] henter (w := w.alloc (.cells v.cells 36)) (R := fun b w' => b = wholeB m ∧ Still (w.alloc (.cells v.cells 36)) w')
    ((whole1_any (hp.keep ((Still.below S1.out.1).mono hB) hB) (Nat.le_trans hB S1.out.1.size) hw (hroom.still hp hB S1.out.1) S1.out.2).mono fun e w' h => by
      obtain ⟨t, ⟨h1, h2⟩ | ⟨h1, h2⟩⟩ := h
      · exact .inl ⟨h2, h1.symm, t⟩
      · exact .inr ⟨h2, by simpa using h1, t⟩))
  obtain ⟨ta, tn, tc, sa, sn, sc, xa, xn, xc, na, nn, nc, fa, fn, fc, mi, ei⟩ := v
  dsimp only at HC S1 ⊢
  clear hp hB hw hroom henter
  go_enter Tryz.func21, Tryz.ntmps21
  go_wp2_with fail
  refine HC.out.mono ?_; rintro e w5 ⟨q, rfl, hq, t5⟩
  have H := Lib.hid (And.intro hq (S1.out.1.trans t5))
  clear hq t5
  go_wp2_with fail
  go_ret
  exact ⟨by rw [← H.out.1]; rfl, H.out.2⟩
/-- What a whole image is. -/
theorem whole_facts {m : M.Img} (h : wholeB m = true) : (m.types[0]? = some numT ∧ 0 < m.types.length ∧ 0 < m.shapes.length) ∧ (m.types.length ≤ 1024 ∧ m.shapes.length ≤ 512) ∧ (∀ t ∈ m.types, Fit8 t) ∧ (∀ f ∈ m.funcs, fnB m.types.length f = true ∧ f.slots ≤ 200) := by
  unfold wholeB at h
  simp only [Bool.and_eq_true, decide_eq_true_eq] at h
  obtain ⟨h0, h1, h2, h3, h4, h5, h6, h7⟩ := h
  have hbig : M.big m = false := by
    unfold M.check at h0
    split at h0
    · simp at h0
    · rename_i hb
      simpa using hb
  unfold M.big at hbig
  simp only [Bool.or_eq_false_iff, decide_eq_false_iff_not, Nat.not_lt] at hbig
  refine ⟨⟨?_, ?_, ?_⟩, ⟨by omega, by omega⟩, fun t ht s hs => ?_, fun f hf => ⟨List.all_eq_true.1 h7 f hf, ?_⟩⟩
  · unfold zeroT at h1
    cases hm : m.types with
    | nil => rw [hm] at h1; cases h1
    | cons t l =>
      rw [hm] at h1
      simp only [Bool.and_eq_true, decide_eq_true_eq] at h1
      obtain ⟨im, sh⟩ := t
      obtain ⟨e1, e2⟩ := h1
      have e1 : im = true := e1
      have e3 : sh = [] := List.eq_nil_of_length_eq_zero e2
      subst e1
      subst e3
      rfl
  · unfold zeroT at h1
    cases hm : m.types with
    | nil => rw [hm] at h1; cases h1
    | cons t l => simp
  · unfold zeroS at h2
    cases hm : m.shapes with
    | nil => rw [hm] at h2; cases h2
    | cons t l => simp
  · have h8 := List.all_eq_true.1 h3 t ht
    unfold tyB at h8
    rw [Bool.and_eq_true] at h8
    have := (inAll_iff _ _).1 h8.2 s hs
    omega
  · have hb := hbig.1.1.2
    have := List.any_eq_false.1 hb f hf
    unfold M.bigFn at this
    simp only [Bool.or_eq_true, decide_eq_true_eq, not_or, Int.not_lt, Nat.not_lt] at this
    omega
end Go.Proofs.YtilfmnlbnfhkpaaGreatDoor
/- Fault, Verify. -/
namespace Go.Proofs.YtilfmnlbnfhkpaaGreatDoor
set_option linter.unusedVariables false
set_option linter.unusedSimpArgs false
open Go.ChangeShapes Go.WideShapes Go.ChangeAt Go.RowKit
open Vf (K nth nth_nat tyAt atK isK numT oneT le beginK tsub WrongAt WrongBk WrongFn WrongImg Last)
/-- A new walk, as it is gone through. -/
theorem rows_new {B : Nat} {w w' : World} {v : ImgV} {m : M.Img} (hp : ImgIs B w v m) (hB : B ≤ w.heap.size) (hf : wholeB m = true) {e : Ending} (h : NewR v m w e w') :
    ∃ c : WkC, c.m = m ∧ e = .returned (.pointer (some ⟨c.X, 0, none⟩)) ∧ RowsAt c w' ∧ Blk w' c.X 77 (c.cells ⟨none, 0, 0, 0, 0, none, 0, 0⟩ 0 0 0 .nilFunc .nilFunc .nilFunc .nilFunc .nilFunc) ∧ w.heap.size < c.X ∧ Still w w' := by
  obtain ⟨X, ra, rc, aa, ac, bs, cs, b0, c0, base1, base2, ⟨hx1, hx2⟩, rfl, hX, hbox, hbt, hba, hb0, hc0, hst⟩ := h
  obtain ⟨⟨z0, zt, zs⟩, ⟨ft, fs⟩, hfit, _⟩ := whole_facts hf
  have htl := hp.types.len
  have hsl := hp.shapes.len
  obtain ⟨g1, rfl, hg1, hg1l, _, hc1⟩ := hbt.head (by omega)
  obtain ⟨g2, rfl, hg2, hg2l, _, hc2⟩ := hba.head (by omega)
  have lX := hbox.lt
  have hw1 : ∀ (j b : Nat), bs[j]? = some b → ∃ t, TyW w' b t := fun j b hb => by
    have hj : j < m.types.length := by
      have := (List.getElem?_eq_some_iff.1 hb).1
      rw [hbt.len] at this
      omega
    exact ⟨_, hbt.each j b _ hb (List.getElem?_eq_getElem hj)⟩
  have hw2 : ∀ (j b : Nat), cs[j]? = some b → TyW w' b (oneT j) := fun j b hb => by
    have hj : j < v.sn := by
      have := (List.getElem?_eq_some_iff.1 hb).1
      rw [hba.len] at this
      exact this
    refine hba.each j b _ hb ?_
    unfold alones
    rw [List.getElem?_map, List.getElem?_range hj]
    rfl
  refine ⟨⟨v, m, X, g1, rc, g2, ac, bs, cs, b0, c0, B, w'.heap.size⟩, rfl, rfl, ⟨hc1, hc2, fun k b t h1 h2 => hbt.each k b t h1 h2, hw2, by show bs.length = m.types.length; rw [hbt.len]; omega, by show cs.length = m.shapes.length; rw [hba.len]; omega, hp.keep ((Still.below hst).mono hB) hB, ⟨by show B ≤ X; omega, lX, Nat.le_refl _⟩, ⟨hg1l, by show g1 ≠ X; omega, hg2l, by show g2 ≠ X; omega⟩, fun b hb => ?_, fun b hb => ?_, hb0, hc0, hfit, ⟨ft, fs⟩, z0⟩, ?_, hX, hst⟩
  · obtain ⟨j, hj⟩ := List.getElem?_of_mem hb
    obtain ⟨t, ht⟩ := hw1 j b hj
    exact ⟨ht.blk.lt, words_ne ht hbox (by decide)⟩
  · obtain ⟨j, hj⟩ := List.getElem?_of_mem hb
    have ht := hw2 j b hj
    exact ⟨ht.blk.lt, words_ne ht hbox (by decide)⟩
  · exact hbox
theorem results_tmp4 {fn : Func} {t u v x : Tmp} (h : fn.results = #[.tmp t, .tmp u, .tmp v, .tmp x]) (tmps : Array Value) (P : Program) (w : World) :
    (results fn tmps).run P w = .ok (.tuple #[tmps.getD t undef, tmps.getD u undef, tmps.getD v undef, tmps.getD x undef]) w := by
  simp [results, h]
/-- What Fault answers. -/
def FaultR (m : M.Img) (w : World) (e : Ending) (w' : World) : Prop :=
  Still w w' ∧ ((wholeB m = false ∧ e = .returned (.tuple #[.int .i64 (-1), .int .i64 (-1), .int .i64 (-1), .bool false])) ∨ (wholeB m = true ∧ ∃ res, WrongImg m 0 m.funcs res ∧ ((res = none ∧ e = .returned (.tuple #[.int .i64 0, .int .i64 0, .int .i64 0, .bool true])) ∨ (∃ i j k : Nat, res = some (i, j, k) ∧ e = .returned (.tuple #[.int .i64 i, .int .i64 j, .int .i64 k, .bool false])))))
set_option maxRecDepth 100000 in
set_option maxHeartbeats 4000000 in
theorem fault_any {B : Nat} {w : World} {v : ImgV} {m : M.Img} (hp : ImgIs B w v m) (hB : B ≤ w.heap.size) (hw : M.size m ≤ 1000000000) (hroom : Room w v) (hok : wholeB m = true → ∀ c : WkC, c.m = m → ∀ f ∈ m.funcs, ∀ b ∈ f.blocks, ∀ x ∈ b.code, StepOk c x) :
    Calls Tryz.prog 18 #[.agg #[.slice v.ta v.tn v.tc, .slice v.sa v.sn v.sc, .slice v.xa v.xn v.xc, .slice v.na v.nn v.nc, .slice v.fa v.fn v.fc, .int .i64 v.main, .int .i64 v.exn]] w (FaultR m w) := by
  have S1 : Hid (Still w (w.alloc (.cells v.cells 36)) ∧ Blk (w.alloc (.cells v.cells 36)) w.heap.size 36 v.cells) := ⟨(Still.refl w).alloc _, Blk.new w _ _⟩
  have HOK := Lib.hid hok
  have HK : Hid (∀ {W : World}, Still w W → B ≤ W.heap.size ∧ ImgIs B W v m) := fun {W} hW => ⟨Nat.le_trans hB hW.size, hp.keep ((Still.below hW).mono hB) hB⟩
  have HWH := Lib.hid (whole_any (HK.out S1.out.1).2 (HK.out S1.out.1).1 hw (hroom.still hp hB S1.out.1))
  have HNW : Hid (wholeB m = true → ∀ {W : World}, Still w W → Calls Tryz.prog 30 #[.agg #[.slice v.ta v.tn v.tc, .slice v.sa v.sn v.sc, .slice v.xa v.xn v.xc, .slice v.na v.nn v.nc, .slice v.fa v.fn v.fc, .int .i64 v.main, .int .i64 v.exn]] W (NewR v m W)) := fun hf {W} hW => by
    obtain ⟨⟨z0, zt, zs⟩, ⟨ft, fs⟩, hfit, _⟩ := whole_facts hf
    have htl := hp.types.len
    have hsl := hp.shapes.len
    exact newWalk_any (HK.out hW).2 (HK.out hW).1 hfit (by omega) (by omega) (by omega) (by omega)
  have HRN : Hid (wholeB m = true → ∀ {W W' : World} {e : Ending}, Still w W → NewR v m W e W' → ∃ c : WkC, c.m = m ∧ e = .returned (.pointer (some ⟨c.X, 0, none⟩)) ∧ RowsAt c W' ∧ Blk W' c.X 77 (c.cells ⟨none, 0, 0, 0, 0, none, 0, 0⟩ 0 0 0 .nilFunc .nilFunc .nilFunc .nilFunc .nilFunc) ∧ W.heap.size < c.X ∧ Still W W') := fun hf {W W' e} hW h => rows_new (HK.out hW).2 (HK.out hW).1 hf h
  obtain ⟨ta, tn, tc, sa, sn, sc, xa, xn, xc, na, nn, nc, fa, fn, fc, mi, ei⟩ := v
  dsimp only at HWH HNW HRN S1 ⊢
  clear hp hB hw hroom hok HK
  go_enter Tryz.func18, Tryz.ntmps18
  go_wp2_with fail
  generalize w.alloc (.cells (ImgV.cells ⟨ta, tn, tc, sa, sn, sc, xa, xn, xc, na, nn, nc, fa, fn, fc, mi, ei⟩) 36) = w1 at S1 HWH ⊢
  obtain ⟨K0, hK0⟩ : ∃ K0, w.heap.size = K0 := ⟨_, rfl⟩
  rw [hK0] at S1
  rw [hK0]
  have HK0 := Lib.hid hK0
  clear hK0
  refine HWH.out.mono ?_; rintro e w2 ⟨rfl, t2⟩
  have S2 : Hid (Still w w2 ∧ Blk w2 K0 36 (ImgV.cells ⟨ta, tn, tc, sa, sn, sc, xa, xn, xc, na, nn, nc, fa, fn, fc, mi, ei⟩)) := ⟨S1.out.1.trans t2, t2.blk S1.out.2⟩
  clear t2
  cases hwb : wholeB m with
  | false =>
    have HWB := Lib.hid hwb
    go_wp2_with fail
    try simp only [Exit.inBlock, Exit.then]
    refine bodyPost_ret (results_tmp4 rfl _ _ _) rfl ?_
    exact ⟨S2.out.1, .inl ⟨HWB.out, rfl⟩⟩
  | true =>
    have HWB := Lib.hid hwb
    have m0 := S2.out.2.cell 0
    have m1 := S2.out.2.cell 1
    have m2 := S2.out.2.cell 2
    have m3 := S2.out.2.cell 3
    have m4 := S2.out.2.cell 4
    have m5 := S2.out.2.cell 5
    have m6 := S2.out.2.cell 6
    have lM := S2.out.2.lt
    go_wp2_with fail
    clear m0 m1 m2 m3 m4 m5 m6 lM hwb
    refine (HNW.out HWB.out S2.out.1).mono ?_; rintro e w3 hnr
    obtain ⟨c, hcm, rfl, hrows, hbox, hXl, t3⟩ := HRN.out HWB.out S2.out.1 hnr
    have S3 : Hid (Still w w3) := S2.out.1.trans t3
    have henter : ∀ (args : Array Value) (W : World), (callFunc 32 args).run Tryz.prog W = .ok (.enter 32 args) W := enters_of Tryz.func32 (by kernel_rfl) rfl
    have hmf : ∀ (fn : Fn) (first cap : Array Value) (w : World), (Instr.makeFunc fn first cap).run Tryz.prog w = .ok (.func fn first cap) w := fun _ _ _ _ => rfl
    have HXW : Hid (w.heap.size < c.X) := Nat.lt_of_le_of_lt S2.out.1.size hXl
    have HBX3 := Lib.hid hbox
    have HC := Lib.hid (holds_any 32 #[.pointer (some ⟨c.X, 0, none⟩)] #[] henter (w := w3) (R := fun b w' => ∃ res, WrongImg c.m 0 c.m.funcs res ∧ Turn (fun j => j = c.X) w3 w' ∧ ((res = none ∧ b = true) ∨ (∃ (i j k : Nat), res = some (i, j, k) ∧ b = false ∧ ∃ g v0 v1 v2 v3 v4, Blk w' c.X 77 (c.cells g i j k v0 v1 v2 v3 v4))))
      ((image_any c (fun f hf b hb x hx => HOK.out HWB.out c hcm f (hcm ▸ hf) b hb x hx) (by rw [hcm]; exact (whole_facts HWB.out).2.2.2) hrows hbox).mono fun e w' h => by
        obtain ⟨res, h1, h2, h3, ⟨h4, h5⟩ | ⟨i, j, k, h4, h5, h6⟩⟩ := h
        · exact .inl ⟨h5, res, h1, h3, .inl ⟨h4, rfl⟩⟩
        · exact .inr ⟨h5, res, h1, h3, .inr ⟨i, j, k, h4, rfl, h6⟩⟩))
    have HCM := Lib.hid hcm
    clear hnr hrows hbox t3 henter hcm hXl
    obtain ⟨X, hX⟩ : ∃ X, c.X = X := ⟨_, rfl⟩
    have HX := Lib.hid hX
    rw [hX] at HC ⊢
    clear hX
    go_wp2_with fail
    refine HC.out.mono ?_; rintro e w5 ⟨q, rfl, res, hwi, t5, ⟨rfl, rfl⟩ | ⟨i, j, k, rfl, rfl, g, v0, v1, v2, v3, v4, hb5⟩⟩
    · have H5 : Hid (WrongImg m 0 m.funcs none ∧ Still w w5) := ⟨by rw [← HCM.out]; exact hwi, (S3.out.turn.trans t5).mono fun j hj e => by have := HXW.out; have h2 := HX.out; omega⟩
      clear hwi t5
      go_wp2_with fail
      try simp only [Exit.inBlock, Exit.then]
      refine bodyPost_ret (results_tmp4 rfl _ _ _) rfl ?_
      exact ⟨H5.out.2, .inr ⟨HWB.out, none, H5.out.1, .inl ⟨rfl, rfl⟩⟩⟩
    · have H5 : Hid (WrongImg m 0 m.funcs (some (i, j, k)) ∧ Still w w5) := ⟨by rw [← HCM.out]; exact hwi, (S3.out.turn.trans t5).mono fun j hj e => by have := HXW.out; have h2 := HX.out; omega⟩
      have x15 : w5.cell? ⟨X, 15, none⟩ = some (.int .i64 i) := hb5.cell 15
      have x16 : w5.cell? ⟨X, 16, none⟩ = some (.int .i64 j) := hb5.cell 16
      have x17 : w5.cell? ⟨X, 17, none⟩ = some (.int .i64 k) := hb5.cell 17
      have y15 : w5.drew.cell? ⟨X, 15, none⟩ = some (.int .i64 i) := x15
      have y16 : w5.drew.cell? ⟨X, 16, none⟩ = some (.int .i64 j) := x16
      have y17 : w5.drew.cell? ⟨X, 17, none⟩ = some (.int .i64 k) := x17
      have lX := hb5.lt
      clear hwi t5 hb5
      go_wp2_with fail
      go_region
      go_wp2_with fail
      try simp only [Exit.inBlock, Exit.then]
      refine bodyPost_ret (results_tmp4 rfl _ _ _) rfl ?_
      exact ⟨H5.out.2.drew, .inr ⟨HWB.out, some (i, j, k), H5.out.1, .inr ⟨i, j, k, rfl, rfl⟩⟩⟩
end Go.Proofs.YtilfmnlbnfhkpaaGreatDoor
/- Verify; where an image is wrong first is one place. -/
namespace Go.Proofs.YtilfmnlbnfhkpaaGreatDoor
set_option linter.unusedVariables false
set_option linter.unusedSimpArgs false
open Go.ChangeShapes Go.WideShapes Go.ChangeAt Go.RowKit
open Vf (K nth nth_nat tyAt atK isK numT oneT le beginK tsub WrongAt WrongBk WrongFn WrongImg Last)
theorem wat_one {m : M.Img} {f : M.Fn} {n : Nat} : ∀ (l : List M.Ins) (i : Nat) (k : K) (r r' : Option Nat), WrongAt m f n i k l r → WrongAt m f n i k l r' → r = r'
  | [], i, k, r, r', h, h' => Eq.trans h (Eq.symm h')
  | x :: l, i, k, r, r', h, h' => by
    rcases h with ⟨hg, h⟩ | ⟨hb, h⟩ <;> rcases h' with ⟨hg', h'⟩ | ⟨hb', h'⟩
    · rcases h with ⟨e1, e2, e3⟩ | ⟨e1, e2, e3⟩ | ⟨e1, e2⟩ <;> rcases h' with ⟨f1, f2, f3⟩ | ⟨f1, f2, f3⟩ | ⟨f1, f2⟩
      · rw [e3, f3]
      · exact absurd e2 f2
      · exact absurd e1 f1
      · exact absurd f2 e2
      · rw [e3, f3]
      · exact absurd e1 f1
      · exact absurd f1 e1
      · exact absurd f1 e1
      · exact wat_one l _ _ _ _ e2 f2
    · exact absurd hg hb'
    · exact absurd hg' hb
    · rw [h, h']
theorem wfn_one {m : M.Img} {f : M.Fn} : ∀ (l : List M.Bk) (j : Nat) (r r' : Option (Nat × Nat)), WrongFn m f j l r → WrongFn m f j l r' → r = r'
  | [], j, r, r', h, h' => Eq.trans h (Eq.symm h')
  | b :: l, j, r, r', h, h' => by
    rcases h with ⟨n, h1, h2⟩ | ⟨h1, h2⟩ <;> rcases h' with ⟨n', h1', h2'⟩ | ⟨h1', h2'⟩
    · have := wat_one _ _ _ _ _ h1 h1'
      rw [h2, h2', Option.some.inj this]
    · exact absurd (wat_one _ _ _ _ _ h1 h1') (by simp)
    · exact absurd (wat_one _ _ _ _ _ h1 h1') (by simp)
    · exact wfn_one l _ _ _ h2 h2'
theorem wimg_one {m : M.Img} : ∀ (l : List M.Fn) (i : Nat) (r r' : Option (Nat × Nat × Nat)), WrongImg m i l r → WrongImg m i l r' → r = r'
  | [], i, r, r', h, h' => Eq.trans h (Eq.symm h')
  | f :: l, i, r, r', h, h' => by
    rcases h with ⟨j, n, h1, h2⟩ | ⟨h1, h2⟩ <;> rcases h' with ⟨j', n', h1', h2'⟩ | ⟨h1', h2'⟩
    · have := Option.some.inj (wfn_one _ _ _ _ h1 h1')
      rw [h2, h2']
      rw [Prod.mk.injEq] at this
      rw [this.1, this.2]
    · exact absurd (wfn_one _ _ _ _ h1 h1') (by simp)
    · exact absurd (wfn_one _ _ _ _ h1 h1') (by simp)
    · exact wimg_one l _ _ _ h2 h2'
def VerifyR (m : M.Img) (w : World) (e : Ending) (w' : World) : Prop :=
  Still w w' ∧ ((e = .returned (.int .i64 0) ∧ wholeB m = true ∧ WrongImg m 0 m.funcs none) ∨ (e = .returned (.int .i64 21) ∧ ¬ (wholeB m = true ∧ WrongImg m 0 m.funcs none)))
set_option maxRecDepth 100000 in
set_option maxHeartbeats 4000000 in
theorem verify_any {B : Nat} {w : World} {v : ImgV} {m : M.Img} (hp : ImgIs B w v m) (hB : B ≤ w.heap.size) (hw : M.size m ≤ 1000000000) (hroom : Room w v) (hok : wholeB m = true → ∀ c : WkC, c.m = m → ∀ f ∈ m.funcs, ∀ b ∈ f.blocks, ∀ x ∈ b.code, StepOk c x) :
    Calls Tryz.prog 20 #[.agg #[.slice v.ta v.tn v.tc, .slice v.sa v.sn v.sc, .slice v.xa v.xn v.xc, .slice v.na v.nn v.nc, .slice v.fa v.fn v.fc, .int .i64 v.main, .int .i64 v.exn]] w (VerifyR m w) := by
  have S1 : Hid (Still w (w.alloc (.cells v.cells 36))) := (Still.refl w).alloc _
  have HF := Lib.hid (fault_any (hp.keep ((Still.below S1.out).mono hB) hB) (Nat.le_trans hB S1.out.size) hw (hroom.still hp hB S1.out) hok)
  obtain ⟨ta, tn, tc, sa, sn, sc, xa, xn, xc, na, nn, nc, fa, fn, fc, mi, ei⟩ := v
  dsimp only at HF S1 ⊢
  clear hp hB hw hroom hok
  go_enter Tryz.func20, Tryz.ntmps20
  go_wp2_with fail
  refine HF.out.mono ?_; rintro e w5 ⟨t5, ⟨h1, rfl⟩ | ⟨h1, res, h2, ⟨rfl, rfl⟩ | ⟨i, j, k, rfl, rfl⟩⟩⟩
  · have H := Lib.hid (And.intro (S1.out.trans t5) h1)
    clear t5 h1
    go_wp2_with fail
    go_ret
    exact ⟨H.out.1, .inr ⟨rfl, fun e => by rw [H.out.2] at e; exact absurd e.1 (by decide)⟩⟩
  · have H := Lib.hid (And.intro (S1.out.trans t5) (And.intro h1 h2))
    clear t5 h1 h2
    go_wp2_with fail
    go_ret
    exact ⟨H.out.1, .inl ⟨rfl, H.out.2⟩⟩
  · have H := Lib.hid (And.intro (S1.out.trans t5) (And.intro h1 h2))
    clear t5 h1 h2
    go_wp2_with fail
    go_ret
    exact ⟨H.out.1, .inr ⟨rfl, fun e => absurd (wimg_one _ _ _ _ H.out.2.2 e.2) (by simp)⟩⟩
end Go.Proofs.YtilfmnlbnfhkpaaGreatDoor
/- What an instruction needs, and does: an answer's. -/
namespace Go.Proofs.YtilfmnlbnfhkpaaGreatDoor
set_option linter.unusedVariables false
set_option linter.unusedSimpArgs false
open Go.ChangeShapes Go.WideShapes Go.ChangeAt Go.RowKit
open Vf (K nth nth_nat tyAt atK isK numT oneT le beginK tsub)
set_option maxRecDepth 100000 in
set_option maxHeartbeats 8000000 in
theorem leave_ret (c : WkC) (x : M.Ins) (hop : x.op = 22) (w : World) (f : M.Fn) (g : FV) (fi bi ii : Int) (N r T Y : Nat) (l : List (Option Nat)) (k : K) (la : Option Addr) (ln lc : Nat) (ma : Option Addr) (mn mc : Nat) (va : Option Addr) (vn vc : Nat) (h : WkAt c w f g fi bi ii N r T Y l k) :
    Calls Tryz.prog 112 #[.pointer (some ⟨c.X, 0, none⟩), .agg #[.int .i64 22, .int .i64 x.d, .int .i64 x.a, .int .i64 x.b, .int .i64 x.c, .int .i64 x.n, .slice la ln lc, .slice ma mn mc, .slice va vn vc]] w (StepR c f N r k x w) := by
  have HH := Lib.hid h
  have HNE : Hid (Vf.Needs c.m f k x = isK k x.a (tyAt c.m f.result)) := by show _ = _; unfold Vf.Needs; rw [hop]; rfl
  have HNX : Hid (Vf.next c.m k x = k) := by show _ = _; unfold Vf.next; rw [hop]; rfl
  have S1 : Hid (Still w (w.alloc (.cells #[.int .i64 22, .int .i64 x.d, .int .i64 x.a, .int .i64 x.b, .int .i64 x.c, .int .i64 x.n, .slice la ln lc, .slice ma mn mc, .slice va vn vc] 43)) ∧ Blk (w.alloc (.cells #[.int .i64 22, .int .i64 x.d, .int .i64 x.a, .int .i64 x.b, .int .i64 x.c, .int .i64 x.n, .slice la ln lc, .slice ma mn mc, .slice va vn vc] 43)) w.heap.size 43 #[.int .i64 22, .int .i64 x.d, .int .i64 x.a, .int .i64 x.b, .int .i64 x.c, .int .i64 x.n, .slice la ln lc, .slice ma mn mc, .slice va vn vc]) := ⟨(Still.refl w).alloc _, Blk.new w _ _⟩
  obtain ⟨X, hX⟩ : ∃ X, c.X = X := ⟨_, rfl⟩
  have HX := Lib.hid hX
  rw [hX]
  generalize x.a = a at *
  obtain ⟨kf, hkf, hkl⟩ : ∃ kf : Nat, f.result = kf ∧ kf < c.m.types.length := by
    have h1 := h.ok
    unfold fnB at h1
    simp only [Bool.and_eq_true] at h1
    obtain ⟨e1, e2⟩ := (hasB_iff _ _).1 h1.1.2
    obtain ⟨kf, hkf⟩ := Int.eq_ofNat_of_zero_le e1
    exact ⟨kf, hkf, by omega⟩
  obtain ⟨tb, htb⟩ : ∃ tb, c.bs[kf]? = some tb := ⟨_, List.getElem?_eq_getElem (by rw [h.rows.lb]; exact hkl)⟩
  obtain ⟨tt, htt⟩ : ∃ tt, c.m.types[kf]? = some tt := ⟨_, List.getElem?_eq_getElem hkl⟩
  have HTB : Hid (c.bs[kf]? = some tb ∧ c.m.types[kf]? = some tt ∧ tyAt c.m f.result = tt) := ⟨htb, htt, by unfold tyAt; rw [hkf, nth_nat, htt]; rfl⟩
  obtain ⟨r1, hr1⟩ : ∃ r1, c.r1 = r1 := ⟨_, rfl⟩
  have HR1 := Lib.hid hr1
  obtain ⟨tn, htn⟩ : ∃ tn, c.v.tn = tn := ⟨_, rfl⟩
  have HTN := Lib.hid htn
  have hktn : kf < tn := by have := h.rows.img.types.len; omega
  have HKF := Lib.hid hkf
  clear h hop hX hkf htb htt hr1 htn hkl
  go_enter Tryz.func112, Tryz.ntmps112
  go_wp2_with fail
  generalize w.alloc (.cells #[.int .i64 22, .int .i64 x.d, .int .i64 a, .int .i64 x.b, .int .i64 x.c, .int .i64 x.n, .slice la ln lc, .slice ma mn mc, .slice va vn vc] 43) = w1 at S1 ⊢
  obtain ⟨K0, hK0⟩ : ∃ K0, w.heap.size = K0 := ⟨_, rfl⟩
  rw [hK0] at S1
  rw [hK0]
  have HK0 := Lib.hid hK0
  clear hK0
  have H1 := Lib.hid (HH.out.still S1.out.1)
  have x7 : w1.cell? ⟨X, 7, none⟩ = some (.slice (some ⟨r1, 0, none⟩) tn c.rc) := by rw [← HX.out, ← HR1.out, ← HTN.out]; exact H1.out.box.cell 7
  have x12 : w1.cell? ⟨X, 12, none⟩ = some (.int .i64 kf) := by rw [← HX.out, ← HKF.out, ← HH.out.fn.1]; exact H1.out.box.cell 12
  have xr : w1.cell? ⟨r1, kf, none⟩ = some (.pointer (some ⟨tb, 0, none⟩)) := by rw [← HR1.out]; exact H1.out.rows.rt kf tb HTB.out.1
  have y7 : w1.drew.cell? ⟨X, 7, none⟩ = some (.slice (some ⟨r1, 0, none⟩) tn c.rc) := x7
  have y12 : w1.drew.cell? ⟨X, 12, none⟩ = some (.int .i64 kf) := x12
  have yr : w1.drew.cell? ⟨r1, kf, none⟩ = some (.pointer (some ⟨tb, 0, none⟩)) := xr
  have lX : X < w1.heap.size := by rw [← HX.out]; exact H1.out.box.lt
  have lr : r1 < w1.heap.size := World.block_lt_of_cell? _ _ xr
  have hki : (kf : Int) < tn := by omega
  go_region
  have c0 : w1.drew.cell? ⟨K0, 0, none⟩ = some (.int .i64 22) := S1.out.2.cell 0
  have c0' : w1.cell? ⟨K0, 0, none⟩ = some (.int .i64 22) := S1.out.2.cell 0
  clear x7 x12 xr y7 y12 yr
  have SD1 : Hid (Still w1 w1.drew) := (Still.refl w1).drew
  go_wp2_with fail
  generalize w1.drew = w2 at SD1 c0 ⊢
  clear c0 c0'
  obtain ⟨wD, hwD⟩ : ∃ wD, w2.drew = wD := ⟨_, rfl⟩
  have SD : Hid (Still w1 wD) := by rw [← hwD]; exact SD1.out.drew
  have H2 := Lib.hid (H1.out.still SD.out)
  have x18 : wD.cell? ⟨X, 18, none⟩ = some (.func (.func 101) #[] #[.pointer (some ⟨N, 0, none⟩)]) := by rw [← HX.out]; exact H2.out.box.cell 18
  have k2 : wD.cell? ⟨K0, 2, none⟩ = some (.int .i64 a) := (SD.out.blk S1.out.2).cell 2
  have lK : K0 < wD.heap.size := (SD.out.blk S1.out.2).lt
  have lXD : X < wD.heap.size := by rw [← HX.out]; exact H2.out.box.lt
  have henter : ∀ (args : Array Value) (W : World), (callFunc 101 args).run Tryz.prog W = .ok (.enter 101 args) W := enters_of Tryz.func101 (by kernel_rfl) rfl
  have HTY := Lib.hid (typed_any H2.out.now a)
  clear lX lr
  refine wp_region_held_drew (S := fun W => W.cell? ⟨X, 18, none⟩ = some (.func (.func 101) #[] #[.pointer (some ⟨N, 0, none⟩)]) ∧ W.cell? ⟨K0, 2, none⟩ = some (.int .i64 a)) (by kernel_rfl) (by rw [hwD]; exact ⟨x18, k2⟩) (fun hHeld => ?_)
  try simp only [Act.put, List.getElem_toArray, List.getElem_cons_succ, List.getElem_cons_zero, List.setIfInBounds_toArray, List.set_cons_zero, List.set_cons_succ]
  rw [hwD] at hHeld ⊢
  clear hwD
  refine wpAnyH_take (i := 0) (v := ?_) rfl (by kernel_rfl) (by kernel_rfl) (by kernel_rfl) (fun _ _ _ h => h) (Or.inl ⟨by rfl, ?_⟩) (by assumption) ?_
  rotate_left
  · intro w hSw; (try dsimp only at hSw); go_simp; try with_reducible rfl
  try simp only [Act.put, List.getElem_toArray, List.getElem_cons_succ, List.getElem_cons_zero, List.setIfInBounds_toArray, List.set_cons_zero, List.set_cons_succ]
  refine wpAnyH_take (i := 1) (v := ?_) rfl (by kernel_rfl) (by kernel_rfl) (by kernel_rfl) (fun _ _ _ h => h) (Or.inl ⟨by rfl, ?_⟩) (by assumption) ?_
  rotate_left
  · intro w hSw; (try dsimp only at hSw); go_simp; try with_reducible rfl
  try simp only [Act.put, List.getElem_toArray, List.getElem_cons_succ, List.getElem_cons_zero, List.setIfInBounds_toArray, List.set_cons_zero, List.set_cons_succ]
  refine wpAnyH_take (i := 2) (v := ?_) rfl (by kernel_rfl) (by kernel_rfl) (by kernel_rfl) (fun _ _ _ h => h) (Or.inl ⟨by rfl, ?_⟩) (by assumption) ?_
  rotate_left
  · intro w hSw; (try dsimp only at hSw); go_simp; try with_reducible rfl
  try simp only [Act.put, List.getElem_toArray, List.getElem_cons_succ, List.getElem_cons_zero, List.setIfInBounds_toArray, List.set_cons_zero, List.set_cons_succ]
  refine wpAnyH_take (i := 3) (v := ?_) rfl (by kernel_rfl) (by kernel_rfl) (by kernel_rfl) (fun _ _ _ h => h) (Or.inl ⟨by rfl, ?_⟩) (by assumption) ?_
  rotate_left
  · intro w hSw; (try dsimp only at hSw); go_simp; try with_reducible rfl
  try simp only [Act.put, List.getElem_toArray, List.getElem_cons_succ, List.getElem_cons_zero, List.setIfInBounds_toArray, List.set_cons_zero, List.set_cons_succ]
  refine wpAnyH_take (i := 4) (v := ?_) rfl (by kernel_rfl) (by kernel_rfl) (by kernel_rfl) (fun _ _ _ h => h) (Or.inl ⟨by rfl, ?_⟩) (by assumption) ?_
  rotate_left
  · intro w hSw; (try dsimp only at hSw); go_simp; try with_reducible rfl
  try simp only [Act.put, List.getElem_toArray, List.getElem_cons_succ, List.getElem_cons_zero, List.setIfInBounds_toArray, List.set_cons_zero, List.set_cons_succ]
  refine wpAnyH_take (i := 5) (v := ?_) rfl (by kernel_rfl) (by kernel_rfl) (by kernel_rfl) (fun _ _ _ h => h) (Or.inl ⟨by rfl, ?_⟩) (by assumption) ?_
  rotate_left
  · intro w hSw; (try dsimp only at hSw); go_simp; try with_reducible rfl
  try simp only [Act.put, List.getElem_toArray, List.getElem_cons_succ, List.getElem_cons_zero, List.setIfInBounds_toArray, List.set_cons_zero, List.set_cons_succ]
  refine wpAnyH_take (i := 6) (v := ?_) rfl (by kernel_rfl) (by kernel_rfl) (by kernel_rfl) (fun _ _ _ h => h) (Or.inl ⟨by rfl, ?_⟩) (by assumption) ?_
  rotate_left
  · intro w hSw; (try dsimp only at hSw); go_simp; try with_reducible rfl
  try simp only [Act.put, List.getElem_toArray, List.getElem_cons_succ, List.getElem_cons_zero, List.setIfInBounds_toArray, List.set_cons_zero, List.set_cons_succ]
  refine wpAnyH_take (i := 8) (v := ?_) rfl (by kernel_rfl) (by kernel_rfl) (by kernel_rfl) (fun _ _ _ h => h) (Or.inl ⟨by rfl, ?_⟩) (by assumption) ?_
  rotate_left
  · intro w hSw; (try dsimp only at hSw); go_simp; try with_reducible rfl
  try simp only [Act.put, List.getElem_toArray, List.getElem_cons_succ, List.getElem_cons_zero, List.setIfInBounds_toArray, List.set_cons_zero, List.set_cons_succ]
  refine wpAnyH_ready (rs := [7]) (by kernel_rfl) (by simp) ?_
  refine AllReadyH.cons rfl (fun K hK => ?_) AllReadyH.nil
  go_simp
  refine HTY.out.mono ?_; rintro e w5 ⟨⟨b, hb5, rfl⟩ | ⟨h5, rfl⟩, rfl⟩
  rotate_left
  · refine ⟨rfl, .inr ⟨fun e => ?_, rfl, (S1.out.1.trans SD.out).turn⟩⟩
    rw [HNE.out] at e
    obtain ⟨y, e1, _⟩ := e
    rcases HH.out.kn.slot a with ⟨_, e2⟩ | ⟨b, t, e2, _, _⟩
    · rw [e1] at e2; cases e2
    · rw [h5] at e2; cases e2
  obtain ⟨ty, hty, htk⟩ : ∃ ty, atK k a = some ty ∧ TyK w5 b ty := by
    rcases H2.out.kn.slot a with ⟨e1, _⟩ | ⟨b', t, e1, e2, e3⟩
    · rw [hb5] at e1; cases e1
    · rw [hb5] at e1
      obtain rfl := Option.some.inj e1
      exact ⟨t, e2, e3⟩
  have HTYK := Lib.hid (And.intro hty htk)
  have HW := Lib.hid (within_any htk.1 (H2.out.rows.wt kf tb tt HTB.out.1 HTB.out.2.1))
  have HLE : Hid (WSub ty.imm (ofL ty.shapes) tt.imm (ofL tt.shapes) ↔ le ty tt = true) := wsub_iff htk.2 (H2.out.rows.ok tt (List.mem_of_getElem? HTB.out.2.1))
  clear hb5 hty htk
  refine hK.out _ _ hHeld (fun hHeld => ?_)
  clear hK K
  refine wpAnyH_ready (rs := [9]) (by kernel_rfl) (by simp) ?_
  refine AllReadyH.cons rfl (fun K hK => ?_) AllReadyH.nil
  go_simp
  refine HW.out.mono ?_; rintro e w6 ⟨rb, rfl, hrb, t6⟩
  have HRB := Lib.hid hrb
  have T6 := Lib.hid t6
  have hH6 : w6.cell? ⟨X, 18, none⟩ = some (.func (.func 101) #[] #[.pointer (some ⟨N, 0, none⟩)]) ∧ w6.cell? ⟨K0, 2, none⟩ = some (.int .i64 a) := ⟨(t6.cell (p := ⟨X, 18, none⟩) lXD).trans hHeld.1, (t6.cell (p := ⟨K0, 2, none⟩) lK).trans hHeld.2⟩
  clear hrb t6 hHeld
  refine hK.out _ _ hH6 (fun hHeld => ?_)
  clear hK K
  refine wpAnyH_ready (rs := [10]) (by kernel_rfl) (by simp) ?_
  refine AllReadyH.cons rfl (fun K hK => ?_) AllReadyH.nil
  go_simp
  have TT : Hid (Still w w6) := (S1.out.1.trans SD.out).trans T6.out
  cases rb with
  | false =>
    refine (need_no _).mono ?_; rintro e w7 ⟨rfl, rfl⟩
    refine ⟨rfl, .inr ⟨fun e => ?_, rfl, TT.out.turn⟩⟩
    rw [HNE.out, HTB.out.2.2] at e
    obtain ⟨y, e1, e2⟩ := e
    rw [HTYK.out.1] at e1
    obtain rfl := Option.some.inj e1
    exact absurd (HRB.out.2 (HLE.out.2 e2)) (by decide)
  | true =>
    refine (need_yes _).mono ?_; rintro e w7 ⟨rfl, rfl⟩
    refine hK.out _ _ hHeld (fun hHeld => ?_)
    clear hK K
    refine wpAnyH_done (by kernel_rfl) ?_ _
    clear hHeld hH6
    go_wp2_with fail
    go_end0
    have H7 := HH.out.still TT.out
    refine .inl ⟨?_, rfl, ⟨r, l, H7.now, by rw [HNX.out]; exact H7.kn, .inl rfl⟩, TT.out.turn⟩
    rw [HNE.out, HTB.out.2.2]
    exact ⟨ty, HTYK.out.1, HLE.out.1 (HRB.out.1 (by first | rfl | trivial))⟩
set_option maxRecDepth 100000 in
set_option maxHeartbeats 8000000 in
theorem step_ret (c : WkC) (x : M.Ins) (hop : x.op = 22) : StepOk c x := by
  intro w f g fi bi ii N r T Y l k la ln lc ma mn mc va vn vc h hx
  have S1 : Hid (Still w (w.alloc (.cells #[.int .i64 22, .int .i64 x.d, .int .i64 x.a, .int .i64 x.b, .int .i64 x.c, .int .i64 x.n, .slice la ln lc, .slice ma mn mc, .slice va vn vc] 43)) ∧ Blk (w.alloc (.cells #[.int .i64 22, .int .i64 x.d, .int .i64 x.a, .int .i64 x.b, .int .i64 x.c, .int .i64 x.n, .slice la ln lc, .slice ma mn mc, .slice va vn vc] 43)) w.heap.size 43 #[.int .i64 22, .int .i64 x.d, .int .i64 x.a, .int .i64 x.b, .int .i64 x.c, .int .i64 x.n, .slice la ln lc, .slice ma mn mc, .slice va vn vc]) := ⟨(Still.refl w).alloc _, Blk.new w _ _⟩
  have HL := Lib.hid (leave_ret c x hop _ f g fi bi ii N r T Y l k la ln lc ma mn mc va vn vc (h.still S1.out.1))
  rw [hop]
  have c0 := S1.out.2.cell 0
  have c1 := S1.out.2.cell 1
  have c2 := S1.out.2.cell 2
  have c3 := S1.out.2.cell 3
  have c4 := S1.out.2.cell 4
  have c5 := S1.out.2.cell 5
  have c6 := S1.out.2.cell 6
  have c7 := S1.out.2.cell 7
  have c8 := S1.out.2.cell 8
  have HSR : Hid (∀ e W, StepR c f N r k x (w.alloc (.cells #[.int .i64 22, .int .i64 x.d, .int .i64 x.a, .int .i64 x.b, .int .i64 x.c, .int .i64 x.n, .slice la ln lc, .slice ma mn mc, .slice va vn vc] 43)) e W → StepR c f N r k x w e W) := fun e W hs => by
    rcases hs with ⟨h1, h2, ⟨r', l', h3, h4, h5⟩, h6⟩ | ⟨h1, h2, h3⟩
    · exact .inl ⟨h1, h2, ⟨r', l', h3, h4, h5.elim .inl fun e => .inr (Nat.le_trans S1.out.1.size e)⟩, S1.out.1.turn.trans h6⟩
    · exact .inr ⟨h1, h2, S1.out.1.turn.trans h3⟩
  clear h hx hop
  go_enter Tryz.func71, Tryz.ntmps71
  go_wp2_with fail
  clear c0 c1 c2 c3 c4 c5 c6 c7 c8
  refine HL.out.mono ?_; rintro e w5 hs
  have hs2 := HSR.out _ _ hs
  clear hs
  rcases hs2 with ⟨h1, rfl, h3, h4⟩ | ⟨h1, rfl, h3⟩
  · have HS := Lib.hid (And.intro h1 (And.intro h3 h4))
    clear h1 h3 h4
    go_wp2_with fail
    go_end0
    exact .inl ⟨HS.out.1, rfl, HS.out.2.1, HS.out.2.2⟩
  · exact ⟨rfl, .inr ⟨h1, rfl, h3⟩⟩
end Go.Proofs.YtilfmnlbnfhkpaaGreatDoor
/- The least image that may run, and one that may not. -/
namespace Go.Proofs.YtilfmnlbnfhkpaaGreatDoor
set_option linter.unusedVariables false
set_option linter.unusedSimpArgs false
open Go.ChangeShapes Go.WideShapes Go.ChangeAt Go.RowKit
open Vf (K nth nth_nat tyAt atK isK numT oneT le beginK tsub WrongAt WrongBk WrongFn WrongImg Last Needs)
def insC : M.Ins := ⟨1, 0, 0, 0, 0, 5, [], [], []⟩
def insR : M.Ins := ⟨22, 0, 0, 0, 0, 0, [], [], []⟩
def leastF (cl : List M.Ins) : M.Fn := ⟨[], 0, 1, [⟨[-1], cl⟩]⟩
def leastC (cl : List M.Ins) : M.Img := ⟨[⟨true, []⟩, ⟨false, [0]⟩], [⟨3, [], ⟨#[]⟩⟩], [], [], [leastF cl], 0, 0⟩
theorem whole_two : wholeB (leastC [insC, insR]) = true := by decide +kernel
theorem whole_one : wholeB (leastC [insR]) = true := by decide +kernel
theorem needs_c (m : M.Img) (f : M.Fn) : Needs m f [none] insC := by
  unfold Needs
  rw [if_pos (show insC.op = 1 from rfl)]
  exact ⟨by unfold Vf.Is63 insC; exact ⟨by decide, by decide⟩, by unfold Vf.hasK insC; exact ⟨by decide, by decide⟩⟩
theorem next_c (m : M.Img) : Vf.next m [none] insC = [some numT] := by
  unfold Vf.next
  rw [if_pos (show insC.op = 1 ∨ insC.op = 4 ∨ insC.op = 11 ∨ insC.op = 12 ∨ insC.op = 14 ∨ insC.op = 15 from .inl rfl)]
  rfl
theorem needs_r (cl : List M.Ins) : Needs (leastC cl) (leastF cl) [some numT] insR := ⟨numT, rfl, show le numT ⟨true, []⟩ = true from rfl⟩
theorem needs_r_not (cl : List M.Ins) : ¬ Needs (leastC cl) (leastF cl) [none] insR := fun ⟨x, h, _⟩ => by
  have h2 : (none : Option M.Ty) = some x := h
  cases h2
theorem begin_l (cl : List M.Ins) : beginK (leastC cl) [-1] = [none] := rfl
theorem wrong_two : WrongImg (leastC [insC, insR]) 0 (leastC [insC, insR]).funcs none := by
  refine .inr ⟨.inr ⟨?_, rfl⟩, rfl⟩
  show WrongAt (leastC [insC, insR]) (leastF [insC, insR]) 2 0 [none] [insC, insR] none
  refine .inl ⟨⟨.inr (by unfold Last insC; decide), needs_c _ _⟩, .inr (.inr ⟨by decide, ?_⟩)⟩
  rw [next_c]
  exact .inl ⟨⟨.inl rfl, needs_r _⟩, .inl ⟨rfl, by unfold Last insR; decide, rfl⟩⟩
theorem wrong_one : WrongImg (leastC [insR]) 0 (leastC [insR]).funcs (some (0, 0, 0)) := by
  refine .inl ⟨0, 0, .inl ⟨0, ?_, rfl⟩, rfl⟩
  show WrongAt (leastC [insR]) (leastF [insR]) 1 0 [none] [insR] (some 0)
  exact .inr ⟨fun e => needs_r_not _ e.2, rfl⟩
theorem steps_least {cl : List M.Ins} (h : ∀ x ∈ cl, x = insC ∨ x = insR) (c : WkC) : ∀ f ∈ (leastC cl).funcs, ∀ b ∈ f.blocks, ∀ x ∈ b.code, StepOk c x := fun f hf b hb x hx => by
  have hf : f = leastF cl := List.mem_singleton.1 hf
  subst hf
  have hb : b = ⟨[-1], cl⟩ := List.mem_singleton.1 hb
  subst hb
  rcases h x hx with rfl | rfl
  · exact step_const c _ rfl
  · exact step_ret c _ rfl
theorem in0 : In64 0 := by unfold In64; decide
theorem in1 : In64 1 := by unfold In64; decide
theorem le0 : 0 ≤ maxLen := by decide
theorem le1 : 1 ≤ maxLen := by decide
theorem le2 : 2 ≤ maxLen := by decide
/-- Where it lies. -/
structure LeastP where
  p1 : Nat
  p2 : Nat
  p3 : Nat
  p4 : Nat
  p5 : Nat
  p6 : Nat
  p7 : Nat
abbrev LeastP.v (p : LeastP) : ImgV := ⟨some ⟨p.p2, 0, none⟩, 2, 2, some ⟨p.p3, 0, none⟩, 1, 1, none, 0, 0, none, 0, 0, some ⟨p.p7, 0, none⟩, 1, 1, 0, 0⟩
def insCells (op n : Int) : List Value := [.int .i64 op, .int .i64 0, .int .i64 0, .int .i64 0, .int .i64 0, .int .i64 n, .slice none 0 0, .slice none 0 0, .slice none 0 0]
structure LeastAt (w : World) (p : LeastP) (co cn : Nat) : Prop where
  a1 : Blk w p.p1 3 #[.int .i64 0]
  a2 : Blk w p.p2 24 #[.bool true, .slice none 0 0, .bool false, .slice (some ⟨p.p1, 0, none⟩) 1 1]
  a3 : Blk w p.p3 49 #[.int .i64 3, .slice none 0 0, .string ⟨#[]⟩]
  a4 : Blk w p.p4 3 #[.int .i64 (-1)]
  a5 : Blk w p.p5 43 (insCells 1 5 ++ insCells 22 0).toArray
  a6 : Blk w p.p6 55 #[.slice (some ⟨p.p4, 0, none⟩) 1 1, .slice (some ⟨p.p5, co, none⟩) cn cn]
  a7 : Blk w p.p7 52 #[.slice none 0 0, .int .i64 0, .int .i64 1, .slice (some ⟨p.p6, 0, none⟩) 1 1]
theorem LeastAt.still {w w' : World} {p : LeastP} {co cn : Nat} (h : LeastAt w p co cn) (t : Still w w') : LeastAt w' p co cn := ⟨t.blk h.a1, t.blk h.a2, t.blk h.a3, t.blk h.a4, t.blk h.a5, t.blk h.a6, t.blk h.a7⟩
theorem nil_lies {α : Type} {B k : Nat} {w : World} {P : List Value → α → Prop} : Lies B w k P none 0 [] := ⟨rfl, fun h => absurd h (Nat.lt_irrefl _)⟩
theorem one_int {w : World} {g : Nat} {z : Int} (h : Blk w g 3 #[.int .i64 z]) (hz : In64 z) : Ints w.heap.size w (some ⟨g, 0, none⟩) 1 [z] := ⟨rfl, fun _ => ⟨g, 0, rfl, h.lt, fun i x hi => by
  have h0 : i = 0 := by have := (List.getElem?_eq_some_iff.1 hi).1; simpa using this
  subst h0
  simp at hi
  subst hi
  exact ⟨[.int .i64 z], rfl, ⟨rfl, hz⟩, fun j hj => by
    have : j = 0 := by omega
    subst this
    exact h.cell 0⟩⟩⟩
theorem ins_is {w : World} (B : Nat) (op n : Int) (h1 : In64 op) (h2 : In64 n) : InsIs B w (insCells op n) ⟨op, 0, 0, 0, 0, n, [], [], []⟩ := ⟨none, 0, 0, none, 0, 0, none, 0, 0, rfl, by decide, by decide, by decide, ⟨h1, in0, in0, in0, in0, h2⟩, nil_lies, nil_lies, nil_lies⟩
/-- The code, whole or without its first instruction. -/
def leastCode (co : Nat) : List M.Ins := if co = 0 then [insC, insR] else [insR]
theorem least_code {w : World} {p : LeastP} {co cn : Nat} (h : LeastAt w p co cn) (hc : (co = 0 ∧ cn = 2) ∨ (co = 9 ∧ cn = 1)) : Lies w.heap.size w 9 (InsIs w.heap.size w) (some ⟨p.p5, co, none⟩) cn (leastCode co) := by
  rcases hc with ⟨rfl, rfl⟩ | ⟨rfl, rfl⟩
  · refine ⟨rfl, fun _ => ⟨p.p5, 0, rfl, h.a5.lt, fun i x hi => ?_⟩⟩
    have hi2 : i < 2 := (List.getElem?_eq_some_iff.1 hi).1
    rcases (show i = 0 ∨ i = 1 by omega) with rfl | rfl
    · obtain rfl : insC = x := Option.some.inj hi
      exact ⟨insCells 1 5, rfl, ins_is _ 1 5 (by unfold In64; decide) (by unfold In64; decide), fun j hj => by
        rw [h.a5.cell]
        rcases (show j = 0 ∨ j = 1 ∨ j = 2 ∨ j = 3 ∨ j = 4 ∨ j = 5 ∨ j = 6 ∨ j = 7 ∨ j = 8 by omega) with rfl | rfl | rfl | rfl | rfl | rfl | rfl | rfl | rfl <;> rfl⟩
    · obtain rfl : insR = x := Option.some.inj hi
      exact ⟨insCells 22 0, rfl, ins_is _ 22 0 (by unfold In64; decide) (by unfold In64; decide), fun j hj => by
        rw [h.a5.cell]
        rcases (show j = 0 ∨ j = 1 ∨ j = 2 ∨ j = 3 ∨ j = 4 ∨ j = 5 ∨ j = 6 ∨ j = 7 ∨ j = 8 by omega) with rfl | rfl | rfl | rfl | rfl | rfl | rfl | rfl | rfl <;> rfl⟩
  · refine ⟨rfl, fun _ => ⟨p.p5, 9, rfl, h.a5.lt, fun i x hi => ?_⟩⟩
    have hi2 : i < 1 := (List.getElem?_eq_some_iff.1 hi).1
    obtain rfl : i = 0 := by omega
    obtain rfl : insR = x := Option.some.inj hi
    exact ⟨insCells 22 0, rfl, ins_is _ 22 0 (by unfold In64; decide) (by unfold In64; decide), fun j hj => by
        rw [h.a5.cell]
        rcases (show j = 0 ∨ j = 1 ∨ j = 2 ∨ j = 3 ∨ j = 4 ∨ j = 5 ∨ j = 6 ∨ j = 7 ∨ j = 8 by omega) with rfl | rfl | rfl | rfl | rfl | rfl | rfl | rfl | rfl <;> rfl⟩
theorem least_img {w : World} {p : LeastP} {co cn : Nat} (h : LeastAt w p co cn) (hc : (co = 0 ∧ cn = 2) ∨ (co = 9 ∧ cn = 1)) : ImgIs w.heap.size w p.v (leastC (leastCode co)) := by
  have hcode := least_code h hc
  have hcn : cn ≤ maxLen := by unfold maxLen; omega
  refine ⟨rfl, rfl, in0, in0, ⟨le2, le1, le0, le0, le1⟩, ?_, ?_, nil_lies, nil_lies, ?_⟩
  · refine ⟨rfl, fun _ => ⟨p.p2, 0, rfl, h.a2.lt, fun i x hi => ?_⟩⟩
    have hi2 : i < 2 := (List.getElem?_eq_some_iff.1 hi).1
    rcases (show i = 0 ∨ i = 1 by omega) with rfl | rfl
    · obtain rfl : (⟨true, []⟩ : M.Ty) = x := Option.some.inj hi
      exact ⟨[.bool true, .slice none 0 0], rfl, ⟨none, 0, 0, rfl, by decide, nil_lies⟩, fun j hj => by
        rw [h.a2.cell]
        rcases (show j = 0 ∨ j = 1 by omega) with rfl | rfl <;> rfl⟩
    · obtain rfl : (⟨false, [0]⟩ : M.Ty) = x := Option.some.inj hi
      exact ⟨[.bool false, .slice (some ⟨p.p1, 0, none⟩) 1 1], rfl, ⟨_, 1, 1, rfl, by decide, one_int h.a1 (by unfold In64; decide)⟩, fun j hj => by
        rw [h.a2.cell]
        rcases (show j = 0 ∨ j = 1 by omega) with rfl | rfl <;> rfl⟩
  · refine ⟨rfl, fun _ => ⟨p.p3, 0, rfl, h.a3.lt, fun i x hi => ?_⟩⟩
    have hi2 : i < 1 := (List.getElem?_eq_some_iff.1 hi).1
    obtain rfl : i = 0 := by omega
    obtain rfl : (⟨3, [], ⟨#[]⟩⟩ : M.Sh) = x := Option.some.inj hi
    exact ⟨[.int .i64 3, .slice none 0 0, .string ⟨#[]⟩], rfl, ⟨none, 0, 0, rfl, by decide, by unfold In64; decide, by decide, nil_lies⟩, fun j hj => by
      rw [h.a3.cell]
      rcases (show j = 0 ∨ j = 1 ∨ j = 2 by omega) with rfl | rfl | rfl <;> rfl⟩
  · refine ⟨rfl, fun _ => ⟨p.p7, 0, rfl, h.a7.lt, fun i x hi => ?_⟩⟩
    have hi2 : i < 1 := (List.getElem?_eq_some_iff.1 hi).1
    obtain rfl : i = 0 := by omega
    obtain rfl : leastF (leastCode co) = x := Option.some.inj hi
    refine ⟨[.slice none 0 0, .int .i64 0, .int .i64 1, .slice (some ⟨p.p6, 0, none⟩) 1 1], rfl, ⟨none, 0, 0, _, 1, 1, rfl, le0, le1, in0, in1, nil_lies, ?_⟩, fun j hj => ?_⟩
    · refine ⟨rfl, fun _ => ⟨p.p6, 0, rfl, h.a6.lt, fun i x hi => ?_⟩⟩
      have hi2 : i < 1 := (List.getElem?_eq_some_iff.1 hi).1
      obtain rfl : i = 0 := by omega
      obtain rfl : (⟨[-1], leastCode co⟩ : M.Bk) = x := Option.some.inj hi
      exact ⟨[.slice (some ⟨p.p4, 0, none⟩) 1 1, .slice (some ⟨p.p5, co, none⟩) cn cn], rfl, ⟨_, 1, 1, _, cn, cn, rfl, by decide, hcn, one_int h.a4 (by unfold In64; decide), hcode⟩, fun j hj => by
        rw [h.a6.cell]
        rcases (show j = 0 ∨ j = 1 by omega) with rfl | rfl <;> rfl⟩
    · rw [h.a7.cell]
      rcases (show j = 0 ∨ j = 1 ∨ j = 2 ∨ j = 3 by omega) with rfl | rfl | rfl | rfl <;> rfl
theorem least_room {w : World} {p : LeastP} {co cn : Nat} (h : LeastAt w p co cn) : Room w p.v := fun b off i hv hi ba bn bc hc b' off' hb' h0 ia inn ic hi2 => by
  have hi' : i < 1 := hi
  obtain rfl : i = 0 := by omega
  have hv' : (some ⟨p.p7, 0, none⟩ : Option Addr) = some ⟨b, off, none⟩ := hv
  simp only [Option.some.injEq, Addr.mk.injEq, and_true] at hv'
  obtain ⟨rfl, rfl⟩ := hv'
  rw [h.a7.cell] at hc
  simp at hc
  obtain ⟨rfl, rfl, rfl⟩ := hc
  simp only [Option.some.injEq, Addr.mk.injEq, and_true] at hb'
  obtain ⟨rfl, rfl⟩ := hb'
  rw [h.a6.cell] at hi2
  simp at hi2
  omega
end Go.Proofs.YtilfmnlbnfhkpaaGreatDoor
