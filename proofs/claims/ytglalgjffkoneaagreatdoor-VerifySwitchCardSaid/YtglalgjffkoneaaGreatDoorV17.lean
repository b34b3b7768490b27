/- Lemmas, put together: Vea Vob Vcr Vcn Vca Vcc Vs1. -/
import Derived.Test.YtglalgjffkoneaaGreatDoorV9
import Derived.Test.YtglalgjffkoneaaGreatDoorV16
import Derived.Test.YtglalgjffkoneaaGreatDoorV10
/- The lowest bit; each shape of a type, one after another. -/
namespace Go.Proofs.YtglalgjffkoneaaGreatDoor
set_option linter.unusedVariables false
set_option linter.unusedSimpArgs false
open Go.ChangeShapes Go.WideShapes Go.ChangeAt Go.RowKit
theorem tz_key (x a : Nat) (hx : x < 18446744073709551616) (hx0 : x ≠ 0) (hlow : x &&& (18446744073709551616 - x) = a) :
    IntKind.u64.wrap (bits BinOp.and IntKind.u64 (x : Int) (IntKind.u64.wrap (-(x : Int))) * 285870213051353865) / 288230376151711744 = ((a * 285870213051353865 % 18446744073709551616 / 288230376151711744 : Nat) : Int) := by
  have e1 : IntKind.u64.wrap (-(x : Int)) = ((18446744073709551616 - x : Nat) : Int) := by rw [IntKind.wrap_u64]; omega
  rw [e1, Vf.and64 x _ hx (by omega), hlow, IntKind.wrap_u64]
  omega
set_option maxHeartbeats 2000000 in
theorem tz_core (x k idx : Nat) (w : World) (hx0 : ((x : Int) == 0) = false)
    (key : IntKind.u64.wrap (bits BinOp.and IntKind.u64 (x : Int) (IntKind.u64.wrap (-(x : Int))) * 285870213051353865) / 288230376151711744 = (idx : Int))
    (hi : idx < 64) (hk : k < 64) (hcell : w.cell? ⟨1, idx, none⟩ = some (.int .u8 k)) :
    Calls Tryz.prog 173 #[.int .u64 x] w fun e w' => e = .returned (.int .i64 k) ∧ w' = w := by
  go_enter Tryz.func173, Tryz.ntmps173
  go_wp2_with (simp only [key])
  go_ret
  exact ⟨rfl, rfl⟩
theorem tz_any (x : Nat) (hx : x < 18446744073709551616) (h0 : x ≠ 0) (w : World) (hT : Tz w) :
    Calls Tryz.prog 173 #[.int .u64 x] w fun e w' => e = .returned (.int .i64 (Lib.ctz 64 x : Nat)) ∧ w' = w := by
  obtain ⟨hlow, hk⟩ := Lib.lowest_bit 64 x h0 hx
  obtain ⟨hi, htab⟩ := Lib.deBruijn64_at _ hk
  have hcell := hT _ hi
  rw [htab] at hcell
  exact tz_core x _ _ w (by simp; omega) (tz_key x _ hx h0 hlow) hi hk hcell
/-- What a closure does with a shape. -/
def DoR (S : Nat → Prop) (Q : Prop) (J : World → Prop) (W : World) (e : Ending) (w' : World) : Prop := Turn S W w' ∧ ((Q ∧ e = .returned (.tuple #[]) ∧ J w') ∨ (¬ Q ∧ e = .panicked [{ v := wrongV, recovered := false }]))
def EachR (S : Nat → Prop) (R : Nat → Nat) (Q : Nat → Prop) (J : List Nat → World → Prop) (w : World) (e : Ending) (w' : World) : Prop := Turn S w w' ∧
  ((∃ p, (∀ x, x < 512 → (Vf.has R x = true ↔ x ∈ p)) ∧ Vf.In8 p ∧ (∀ x ∈ p, Q x) ∧ e = .returned (.bool (!p.isEmpty)) ∧ J p w') ∨ ((∃ x, x < 512 ∧ Vf.has R x = true ∧ ¬ Q x) ∧ e = .panicked [{ v := wrongV, recovered := false }]))
set_option maxRecDepth 100000 in
set_option maxHeartbeats 4000000 in
theorem each_any {w : World} {b : Nat} {im : Bool} {R : Nat → Nat} (h : WordsAt w b im R) (S : Nat → Prop) (Q : Nat → Prop) (J : List Nat → World → Prop) (fid : FuncId) (first cap : Array Value) (hfid : ∀ args W, (callFunc fid args).run Tryz.prog W = .ok (.enter fid args) W)
    (hT : Tz w) (hS : ¬ S 1)
    (hdo : ∀ (p : List Nat) (s : Nat) (W : World), s < 512 → Vf.has R s = true → Turn S w W → J p W → Calls Tryz.prog fid (first.push (.int .i64 (s : Int)) ++ cap) W (DoR S (Q s) (J (p ++ [s])) W))
    (h0 : J [] w) :
    Calls Tryz.prog 166 #[.pointer (some ⟨b, 0, none⟩), .func (.func fid) first cap] w (EachR S R Q J w) := by
  have HYI : Hid (∀ i : Nat, i < 8 → ∀ W : World, (Instr.index 104 (.agg #[.int .u64 (R 0), .int .u64 (R 1), .int .u64 (R 2), .int .u64 (R 3), .int .u64 (R 4), .int .u64 (R 5), .int .u64 (R 6), .int .u64 (R 7)]) (.int .i64 (i : Int))).run Tryz.prog W = .ok (.int .u64 (R i)) W) := fun i hi W => run_index_rows _ i hi _ (by
    have : i = 0 ∨ i = 1 ∨ i = 2 ∨ i = 3 ∨ i = 4 ∨ i = 5 ∨ i = 6 ∨ i = 7 := by omega
    rcases this with rfl | rfl | rfl | rfl | rfl | rfl | rfl | rfl <;> rfl) W
  have HOK : Hid (∀ i, R i < 18446744073709551616) := h.ok
  have HDO := Lib.hid hdo
  have HT : Hid (∀ W, Turn S w W → Tz W) := fun W t => hT.keep t hS
  have HFID := Lib.hid hfid
  have H0 := Lib.hid h0
  have e1 : w.cell? ⟨b, 1, none⟩ = some (.int .u64 (R 0)) := h.at 0 (by decide)
  have e2 : w.cell? ⟨b, 2, none⟩ = some (.int .u64 (R 1)) := h.at 1 (by decide)
  have e3 : w.cell? ⟨b, 3, none⟩ = some (.int .u64 (R 2)) := h.at 2 (by decide)
  have e4 : w.cell? ⟨b, 4, none⟩ = some (.int .u64 (R 3)) := h.at 3 (by decide)
  have e5 : w.cell? ⟨b, 5, none⟩ = some (.int .u64 (R 4)) := h.at 4 (by decide)
  have e6 : w.cell? ⟨b, 6, none⟩ = some (.int .u64 (R 5)) := h.at 5 (by decide)
  have e7 : w.cell? ⟨b, 7, none⟩ = some (.int .u64 (R 6)) := h.at 6 (by decide)
  have e8 : w.cell? ⟨b, 8, none⟩ = some (.int .u64 (R 7)) := h.at 7 (by decide)
  have lb := h.blk.lt
  clear h hdo hT hS hfid h0
  go_enter Tryz.func166, Tryz.ntmps166
  go_wp2_with fail
  clear e1 e2 e3 e4 e5 e6 e7 e8 lb
  go_loopw [5, 6, 7, 12] (fun z5 _ _ z wr => ∃ (i : Nat) (p : List Nat), z = .int .i64 i ∧ i ≤ 8 ∧ z5 = .bool (!p.isEmpty) ∧ Vf.Left R i (R i) p ∧ Vf.In8 p ∧ (∀ x ∈ p, Q x) ∧ J p wr ∧ Turn S w wr) (fun _ _ _ z _ => 8 - (intOf z).toNat)
  case atStart => exact ⟨0, [], rfl, by omega, rfl, Vf.left_start R, (fun x hx => by cases hx), (fun x hx => by cases hx), H0.out, Turn.refl _ _⟩
  case round =>
    obtain ⟨i, p, rfl, hi, rfl, hl, hp8, hpq, hj, ht⟩ := hrel
    have HP := Lib.hid (And.intro hl (And.intro hp8 (And.intro hpq (And.intro hj ht))))
    clear hl hp8 hpq hj ht
    by_cases hlt : i < 8
    · have hyi := HYI.out i hlt
      have HLT := Lib.hid hlt
      have hii : (i : Int) < 8 := by omega
      have x0 : decide ((i : Int) < 8) = true := decide_eq_true hii
      obtain ⟨q0, hq0⟩ : ∃ q0, (!p.isEmpty) = q0 := ⟨_, rfl⟩
      have HQ0 := Lib.hid hq0
      rw [hq0]
      clear hlt hq0
      go_wp2_with fail
      rw [← HQ0.out]
      clear HQ0 x0 hii hyi
      go_loopw [5, 7] (fun z5 z wr => ∃ (r : Nat) (p : List Nat), z = .int .u64 r ∧ r < 18446744073709551616 ∧ z5 = .bool (!p.isEmpty) ∧ Vf.Left R i r p ∧ Vf.In8 p ∧ (∀ x ∈ p, Q x) ∧ J p wr ∧ Turn S w wr) (fun _ z _ => (intOf z).toNat)
      case atStart => exact ⟨R i, p, rfl, HOK.out i, rfl, HP.out.1, HP.out.2.1, HP.out.2.2.1, HP.out.2.2.2⟩
      case round =>
        clear HP
        obtain ⟨r, p, rfl, hr, rfl, hl, hp8, hpq, hj, ht⟩ := hrel
        have HP := Lib.hid (And.intro hl (And.intro hp8 (And.intro hpq (And.intro hj ht))))
        clear hl hp8 hpq hj ht
        obtain ⟨q0, hq0⟩ : ∃ q0, (!p.isEmpty) = q0 := ⟨_, rfl⟩
        have HQ0 := Lib.hid hq0
        rw [hq0]
        clear hq0
        by_cases h0 : r = 0
        · subst h0
          go_wp2_with fail
          go_roundw
          case rel => exact ⟨i + 1, p, by go_num, by have := HLT.out; omega, by rw [← HQ0.out], Vf.left_next HP.out.1, HP.out.2.1, HP.out.2.2.1, HP.out.2.2.2⟩
          case measure => have := HLT.out; simp [intOf]; omega
        · have x0 : ((r : Int) == 0) = false := beq_eq_false_iff_ne.2 (by omega)
          have x1 : ((r : Int) != 0) = true := by rw [bne, x0]; rfl
          obtain ⟨lk, ls, lt⟩ := Vf.left_step HP.out.1 HLT.out h0 hr
          obtain ⟨k, hk⟩ : ∃ k, Lib.ctz 64 r = k := ⟨_, rfl⟩
          have hlow := (Vf.low_bit h0 hr).2.2.2
          have TZ := Lib.hid (tz_any r hr h0 _ (HT.out _ HP.out.2.2.2.2))
          rw [hk] at lk ls lt TZ
          have HL := Lib.hid (And.intro lk (And.intro ls (And.intro lt hlow)))
          obtain ⟨r2, hr2⟩ : ∃ r2, r &&& (r - 1) = r2 := ⟨_, rfl⟩
          obtain ⟨s, hs⟩ : ∃ s, i * 64 + k = s := ⟨_, rfl⟩
          have hb : bits .and .u64 (r : Int) ((r - 1 : Nat) : Int) = (r2 : Int) := by rw [Vf.and64 _ _ hr (by omega), hr2]
          have hw1 : IntKind.u64.wrap ((r : Int) - 1) = ((r - 1 : Nat) : Int) := by rw [IntKind.wrap_u64]; omega
          have hw2 : IntKind.i64.wrap ((i : Int) * 64) = ((i * 64 : Nat) : Int) := by rw [IntKind.wrap_i64]; have := HLT.out; omega
          have hw3 : IntKind.i64.wrap (((i * 64 : Nat) : Int) + (k : Int)) = (s : Int) := by rw [IntKind.wrap_i64]; omega
          rw [hr2, hs] at HL
          rw [hs] at lk
          clear ls lt hlow hk hr2 h0
          have hfid := HFID.out
          go_wp2_with fail
          refine TZ.out.mono ?_; rintro e w2 ⟨rfl, hw2⟩; subst w2
          go_wp2_with fail
          have hse : (i : Int) * 64 + (k : Int) = (s : Int) := by omega
          rw [hse]
          refine (HDO.out p s wr lk HL.out.2.1 HP.out.2.2.2.2 HP.out.2.2.2.1).mono ?_; rintro e w3 ⟨ht3, ⟨hq, rfl, hj⟩ | ⟨hq, rfl⟩⟩
          · have HJ := Lib.hid (And.intro hq (And.intro hj (HP.out.2.2.2.2.trans ht3)))
            clear hq hj ht3 hfid hse
            go_wp2_with fail
            go_roundw
            case rel =>
              refine ⟨r2, p ++ [s], by go_num, by have := HL.out.2.2.2; omega, by cases p <;> rfl, HL.out.2.2.1, fun x hx => ?_, fun x hx => ?_, HJ.out.2⟩
              · rcases List.mem_append.1 hx with e | e
                · exact HP.out.2.1 x e
                · rw [List.mem_singleton.1 e]; exact HL.out.1
              · rcases List.mem_append.1 hx with e | e
                · exact HP.out.2.2.1 x e
                · rw [List.mem_singleton.1 e]; exact HJ.out.1
            case measure => have := HL.out.2.2.2; simp [intOf]; omega
          · exact ⟨rfl, HP.out.2.2.2.2.trans ht3, .inr ⟨⟨s, lk, HL.out.2.1, hq⟩, rfl⟩⟩
    · obtain rfl : i = 8 := by omega
      have x0 : decide (((8 : Nat) : Int) < 8) = false := by decide
      obtain ⟨q0, hq0⟩ : ∃ q0, (!p.isEmpty) = q0 := ⟨_, rfl⟩
      have HQ0 := Lib.hid hq0
      rw [hq0]
      clear hlt hq0
      go_wp2_with fail
      go_ret
      exact ⟨HP.out.2.2.2.2, .inl ⟨p, Vf.left_end HP.out.1 (Nat.le_refl 8), HP.out.2.1, HP.out.2.2.1, by rw [HQ0.out]; rfl, HP.out.2.2.2.1⟩⟩
end Go.Proofs.YtglalgjffkoneaaGreatDoor
/- object: a slot that is an object, and of each shape that it may have. -/
namespace Go.Proofs.YtglalgjffkoneaaGreatDoor
set_option linter.unusedVariables false
set_option linter.unusedSimpArgs false
open Go.ChangeShapes Go.WideShapes Go.ChangeAt Go.RowKit
open Vf (K nth nth_nat tyAt atK isK numT oneT le beginK tsub RowK FitsK ObjK)
/-- A shape's cells. -/
abbrev shV (sh : M.Sh) (fa : Option Addr) (fn fc : Nat) : Value := .agg #[.int .i64 sh.kind, .slice fa fn fc, .string sh.name]
set_option maxRecDepth 100000 in
set_option maxHeartbeats 8000000 in
theorem obj1_any (c : WkC) {W : World} (hr : RowsAt c W) (hx1 : W.cell? ⟨c.X, 1, none⟩ = some (.slice c.v.sa c.v.sn c.v.sc)) {Ka Kw : Nat} {fid : FuncId} {first cap : Array Value} (ha : Blk W Ka 165 #[.func (.func fid) first cap]) (hw : Blk W Kw 55 #[.pointer (some ⟨c.X, 0, none⟩)])
    (hfid : ∀ args W, (callFunc fid args).run Tryz.prog W = .ok (.enter fid args) W) {S : Nat → Prop} {Q : Prop} {J : World → Prop} {s : Nat} {sh : M.Sh} (hs : c.m.shapes[s]? = some sh) (hSf : ∀ j, S j → c.L ≤ j ∧ j ≠ Ka ∧ j ≠ Kw)
    (hask : ∀ W', Still W W' → ∀ fa fn fc, Ints c.B W' fa fn sh.fields → fn ≤ maxLen → Calls Tryz.prog fid (first.push (shV sh fa fn fc) ++ cap) W' (DoR S Q J W')) :
    Calls Tryz.prog 167 #[.int .i64 (s : Int), .pointer (some ⟨Ka, 0, none⟩), .pointer (some ⟨Kw, 0, none⟩)] W (DoR S Q J W) := by
  have HSF := Lib.hid hSf
  have HASK := Lib.hid hask
  have HFID := Lib.hid hfid
  have HBL := Lib.hid hr.le
  have hsl : s < c.m.shapes.length := (List.getElem?_eq_some_iff.1 hs).1
  have hsn : s < c.v.sn := by have := hr.img.shapes.len; omega
  obtain ⟨bb, ob, hba, hbB, hbx⟩ := hr.img.shapes.at_ (by omega)
  obtain ⟨cs, q1, q2, q3⟩ := hbx s sh hs
  obtain ⟨fa, fn, fc, rfl, hfn, hk64, hnm, hfi⟩ := q2
  obtain ⟨sk, hsk⟩ : ∃ sk, sh.kind = sk := ⟨_, rfl⟩
  obtain ⟨nm, hnme⟩ : ∃ nm, sh.name = nm := ⟨_, rfl⟩
  have k0 : W.cell? ⟨bb, ob + s * 3, none⟩ = some (.int .i64 sh.kind) := q3 0 (by decide)
  have k1 : W.cell? ⟨bb, ob + s * 3 + 1, none⟩ = some (.slice fa fn fc) := q3 1 (by decide)
  have k2 : W.cell? ⟨bb, ob + s * 3 + 2, none⟩ = some (.string sh.name) := q3 2 (by decide)
  have HSH : Hid (shV sh fa fn fc = .agg #[.int .i64 sk, .slice fa fn fc, .string nm]) := by show _ = _; rw [← hsk, ← hnme]
  rw [hsk] at k0
  rw [hnme] at k2
  obtain ⟨X, hX⟩ : ∃ X, c.X = X := ⟨_, rfl⟩
  have HX := Lib.hid hX
  obtain ⟨sa, hsa⟩ : ∃ sa, c.v.sa = sa := ⟨_, rfl⟩
  obtain ⟨sn, hsne⟩ : ∃ sn, c.v.sn = sn := ⟨_, rfl⟩
  obtain ⟨sc, hsce⟩ : ∃ sc, c.v.sc = sc := ⟨_, rfl⟩
  rw [hX, hsa, hsne, hsce] at hx1
  rw [hsa] at hba
  rw [hsne] at hsn
  subst hba
  rw [hX] at hw
  have HIN : Hid (Ints c.B W fa fn sh.fields ∧ fn ≤ maxLen ∧ bb < c.B) := ⟨hfi, hfn, hbB⟩
  have HC : Hid (W.cell? ⟨Kw, 0, none⟩ = some (.pointer (some ⟨X, 0, none⟩)) ∧ W.cell? ⟨Ka, 0, none⟩ = some (.func (.func fid) first cap) ∧ W.cell? ⟨X, 1, none⟩ = some (.slice (some ⟨bb, ob, none⟩) sn sc) ∧ W.cell? ⟨bb, ob + s * 3, none⟩ = some (.int .i64 sk) ∧ W.cell? ⟨bb, ob + s * 3 + 1, none⟩ = some (.slice fa fn fc) ∧ W.cell? ⟨bb, ob + s * 3 + 2, none⟩ = some (.string nm)) := ⟨hw.cell 0, ha.cell 0, hx1, k0, k1, k2⟩
  have HLT : Hid (Kw < W.heap.size ∧ Ka < W.heap.size) := ⟨hw.lt, ha.lt⟩
  have hsi : (s : Int) < (sn : Int) := by omega
  clear hSf hask hr hbx q1 q3 hfi hfn hk64 hnm hsk hnme hX hsa hsne hsce hx1 ha hw hs hsl k0 k1 k2 hbB
  go_enter Tryz.func167, Tryz.ntmps167
  obtain ⟨wD, hwD⟩ : ∃ wD, W.drew = wD := ⟨_, rfl⟩
  have SD : Hid (Still W wD) := by rw [← hwD]; exact (Still.refl W).drew
  have hS0 : wD.cell? ⟨Kw, 0, none⟩ = some (.pointer (some ⟨X, 0, none⟩)) ∧ wD.cell? ⟨Ka, 0, none⟩ = some (.func (.func fid) first cap) ∧ wD.cell? ⟨X, 1, none⟩ = some (.slice (some ⟨bb, ob, none⟩) sn sc) ∧ wD.cell? ⟨bb, ob + s * 3, none⟩ = some (.int .i64 sk) ∧ wD.cell? ⟨bb, ob + s * 3 + 1, none⟩ = some (.slice fa fn fc) ∧ wD.cell? ⟨bb, ob + s * 3 + 2, none⟩ = some (.string nm) := by rw [← hwD]; exact HC.out
  go_wp2_with fail
  refine wp_region_held_drew (S := fun W => W.cell? ⟨Kw, 0, none⟩ = some (.pointer (some ⟨X, 0, none⟩)) ∧ W.cell? ⟨Ka, 0, none⟩ = some (.func (.func fid) first cap) ∧ W.cell? ⟨X, 1, none⟩ = some (.slice (some ⟨bb, ob, none⟩) sn sc) ∧ W.cell? ⟨bb, ob + s * 3, none⟩ = some (.int .i64 sk) ∧ W.cell? ⟨bb, ob + s * 3 + 1, none⟩ = some (.slice fa fn fc) ∧ W.cell? ⟨bb, ob + s * 3 + 2, none⟩ = some (.string nm)) (by kernel_rfl) (by rw [hwD]; exact hS0) (fun hHeld => ?_)
  try simp only [Act.put, List.getElem_toArray, List.getElem_cons_succ, List.getElem_cons_zero, List.setIfInBounds_toArray, List.set_cons_zero, List.set_cons_succ]
  rw [hwD] at hHeld ⊢
  clear hwD hS0
  refine wpAnyH_take (i := 0) (v := ?_) rfl (by kernel_rfl) (by kernel_rfl) (by kernel_rfl) (fun _ _ _ h => h) (Or.inl ⟨by rfl, ?_⟩) (by assumption) ?_
  rotate_left
  · intro w hSw; (try dsimp only at hSw); go_simp; try with_reducible rfl
  try simp only [Act.put, List.getElem_toArray, List.getElem_cons_succ, List.getElem_cons_zero, List.setIfInBounds_toArray, List.set_cons_zero, List.set_cons_succ]
  refine wpAnyH_take (i := 1) (v := ?_) rfl (by kernel_rfl) (by kernel_rfl) (by kernel_rfl) (fun _ _ _ h => h) (Or.inl ⟨by rfl, ?_⟩) (by assumption) ?_
  rotate_left
  · intro w hSw; (try dsimp only at hSw); go_simp; try with_reducible rfl
  try simp only [Act.put, List.getElem_toArray, List.getElem_cons_succ, List.getElem_cons_zero, List.setIfInBounds_toArray, List.set_cons_zero, List.set_cons_succ]
  refine wpAnyH_take (i := 2) (v := ?_) rfl (by kernel_rfl) (by kernel_rfl) (by kernel_rfl) (fun _ _ _ h => h) (Or.inl ⟨by rfl, ?_⟩) (by assumption) ?_
  rotate_left
  · intro w hSw; (try dsimp only at hSw); go_simp; try with_reducible rfl
  try simp only [Act.put, List.getElem_toArray, List.getElem_cons_succ, List.getElem_cons_zero, List.setIfInBounds_toArray, List.set_cons_zero, List.set_cons_succ]
  refine wpAnyH_take (i := 3) (v := ?_) rfl (by kernel_rfl) (by kernel_rfl) (by kernel_rfl) (fun _ _ _ h => h) (Or.inl ⟨by rfl, ?_⟩) (by assumption) ?_
  rotate_left
  · intro w hSw; (try dsimp only at hSw); go_simp; try with_reducible rfl
  try simp only [Act.put, List.getElem_toArray, List.getElem_cons_succ, List.getElem_cons_zero, List.setIfInBounds_toArray, List.set_cons_zero, List.set_cons_succ]
  refine wpAnyH_take (i := 4) (v := ?_) rfl (by kernel_rfl) (by kernel_rfl) (by kernel_rfl) (fun _ _ _ h => h) (Or.inl ⟨by rfl, ?_⟩) (by assumption) ?_
  rotate_left
  · intro w hSw; (try dsimp only at hSw); go_simp; try with_reducible rfl
  try simp only [Act.put, List.getElem_toArray, List.getElem_cons_succ, List.getElem_cons_zero, List.setIfInBounds_toArray, List.set_cons_zero, List.set_cons_succ]
  refine wpAnyH_take (i := 5) (v := ?_) rfl (by kernel_rfl) (by kernel_rfl) (by kernel_rfl) (fun _ _ _ h => h) (Or.inl ⟨by rfl, ?_⟩) (by assumption) ?_
  rotate_left
  · intro w hSw; (try dsimp only at hSw); go_simp; try with_reducible rfl
  try simp only [Act.put, List.getElem_toArray, List.getElem_cons_succ, List.getElem_cons_zero, List.setIfInBounds_toArray, List.set_cons_zero, List.set_cons_succ]
  refine wpAnyH_take (i := 6) (v := ?_) rfl (by kernel_rfl) (by kernel_rfl) (by kernel_rfl) (fun _ _ _ h => h) (Or.inl ⟨by rfl, ?_⟩) (by assumption) ?_
  rotate_left
  · intro w hSw; (try dsimp only at hSw); go_simp; try with_reducible rfl
  try simp only [Act.put, List.getElem_toArray, List.getElem_cons_succ, List.getElem_cons_zero, List.setIfInBounds_toArray, List.set_cons_zero, List.set_cons_succ]
  refine wpAnyH_take (i := 7) (v := ?_) rfl (by kernel_rfl) (by kernel_rfl) (by kernel_rfl) (fun _ _ _ h => h) (Or.inl ⟨by rfl, ?_⟩) (by assumption) ?_
  rotate_left
  · intro w hSw; (try dsimp only at hSw); go_simp; try with_reducible rfl
  try simp only [Act.put, List.getElem_toArray, List.getElem_cons_succ, List.getElem_cons_zero, List.setIfInBounds_toArray, List.set_cons_zero, List.set_cons_succ]
  refine wpAnyH_take (i := 8) (v := ?_) rfl (by kernel_rfl) (by kernel_rfl) (by kernel_rfl) (fun _ _ _ h => h) (Or.inl ⟨by rfl, ?_⟩) (by assumption) ?_
  rotate_left
  · intro w hSw; (try dsimp only at hSw); go_simp; try with_reducible rfl
  try simp only [Act.put, List.getElem_toArray, List.getElem_cons_succ, List.getElem_cons_zero, List.setIfInBounds_toArray, List.set_cons_zero, List.set_cons_succ]
  refine wpAnyH_ready (rs := [9]) (by kernel_rfl) (by simp) ?_
  refine AllReadyH.cons rfl (fun K hK => ?_) AllReadyH.nil
  go_simp
  have HCALL := HASK.out wD SD.out fa fn fc (HIN.out.1.keep ((Still.below SD.out).mono (by have := HBL.out; omega)) (by have := HBL.out; omega)) HIN.out.2.1
  rw [HSH.out] at HCALL
  refine HCALL.mono ?_; rintro e w5 ⟨t5, ⟨hq, rfl, hj⟩ | ⟨hq, rfl⟩⟩
  · have hle := HBL.out
    have hl := HLT.out
    have hsz := SD.out.size
    have hf := HSF.out
    have hX := HX.out
    have hB := HIN.out.2.2
    have hH5 : w5.cell? ⟨Kw, 0, none⟩ = some (.pointer (some ⟨X, 0, none⟩)) ∧ w5.cell? ⟨Ka, 0, none⟩ = some (.func (.func fid) first cap) ∧ w5.cell? ⟨X, 1, none⟩ = some (.slice (some ⟨bb, ob, none⟩) sn sc) ∧ w5.cell? ⟨bb, ob + s * 3, none⟩ = some (.int .i64 sk) ∧ w5.cell? ⟨bb, ob + s * 3 + 1, none⟩ = some (.slice fa fn fc) ∧ w5.cell? ⟨bb, ob + s * 3 + 2, none⟩ = some (.string nm) := ⟨(t5.cell (p := ⟨Kw, 0, none⟩) (by show Kw < _; omega) (fun e => (hf _ e).2.2 rfl)).trans hHeld.1, (t5.cell (p := ⟨Ka, 0, none⟩) (by show Ka < _; omega) (fun e => (hf _ e).2.1 rfl)).trans hHeld.2.1, (t5.cell (p := ⟨X, 1, none⟩) (by show X < _; omega) (fun e => by have := (hf _ e).1; simp only at this; omega)).trans hHeld.2.2.1, (t5.cell (p := ⟨bb, ob + s * 3, none⟩) (by show bb < _; omega) (fun e => by have := (hf _ e).1; simp only at this; omega)).trans hHeld.2.2.2.1, (t5.cell (p := ⟨bb, ob + s * 3 + 1, none⟩) (by show bb < _; omega) (fun e => by have := (hf _ e).1; simp only at this; omega)).trans hHeld.2.2.2.2.1, (t5.cell (p := ⟨bb, ob + s * 3 + 2, none⟩) (by show bb < _; omega) (fun e => by have := (hf _ e).1; simp only at this; omega)).trans hHeld.2.2.2.2.2⟩
    have HJ := Lib.hid (And.intro hq (And.intro hj t5))
    clear hq hj t5 hHeld hle hl hsz hf hX hB
    refine hK.out _ _ hH5 (fun hHeld => ?_)
    clear hK K hH5
    refine wpAnyH_done (by kernel_rfl) ?_ _
    clear hHeld
    go_wp2_with fail
    go_end0
    exact ⟨SD.out.turn.trans HJ.out.2.2, .inl ⟨HJ.out.1, rfl, HJ.out.2.1⟩⟩
  · exact ⟨rfl, SD.out.turn.trans t5, .inr ⟨hq, rfl⟩⟩
def ObjR (S : Nat → Prop) (k : K) (slot : Int) (Q : Nat → Prop) (J : List Nat → World → Prop) (w : World) (e : Ending) (w' : World) : Prop := Turn S w w' ∧
  ((∃ t p, atK k slot = some t ∧ t.imm = false ∧ t.shapes ≠ [] ∧ (∀ x : Nat, x ∈ p ↔ (x : Int) ∈ t.shapes) ∧ (∀ s ∈ t.shapes, Q s.toNat) ∧ e = .returned (.tuple #[]) ∧ J p w') ∨ (¬ ObjK k slot (fun s => Q s.toNat) ∧ e = .panicked [{ v := wrongV, recovered := false }]))
set_option maxRecDepth 100000 in
set_option maxHeartbeats 8000000 in
theorem object_any (c : WkC) {w : World} {f : M.Fn} {g : FV} {fi bi ii : Int} {N r T Y : Nat} {l : List (Option Nat)} {k : K} (h : WkAt c w f g fi bi ii N r T Y l k) (slot : Int) (fid : FuncId) (first cap : Array Value) (hfid : ∀ args W, (callFunc fid args).run Tryz.prog W = .ok (.enter fid args) W) (S : Nat → Prop) (Q : Nat → Prop) (J : List Nat → World → Prop)
    (hS : ∀ j, S j → c.L ≤ j ∧ j < w.heap.size ∧ (∀ i, slotAt l i ≠ some j))
    (hJ : ∀ p W W', J p W → Still W W' → J p W') (h0 : J [] w)
    (hask : ∀ (p : List Nat) (s : Nat) (sh : M.Sh) (W : World), c.m.shapes[s]? = some sh → Turn S w W → J p W → ∀ fa fn fc, Ints c.B W fa fn sh.fields → fn ≤ maxLen → Calls Tryz.prog fid (first.push (shV sh fa fn fc) ++ cap) W (DoR S (Q s) (J (p ++ [s])) W)) :
    Calls Tryz.prog 139 #[.pointer (some ⟨c.X, 0, none⟩), .int .i64 slot, .func (.func fid) first cap] w (ObjR S k slot Q J w) := by
  have HH := Lib.hid h
  have HS := Lib.hid hS
  have HJ := Lib.hid hJ
  have H0 := Lib.hid h0
  have HASK := Lib.hid hask
  have HFID := Lib.hid hfid
  obtain ⟨X, hX⟩ : ∃ X, c.X = X := ⟨_, rfl⟩
  have HX := Lib.hid hX
  have P1 : Hid (Still w ((w.alloc (.cells #[.pointer (some ⟨c.X, 0, none⟩)] 55)).alloc (.cells #[.func (.func fid) first cap] 165)) ∧ Blk ((w.alloc (.cells #[.pointer (some ⟨c.X, 0, none⟩)] 55)).alloc (.cells #[.func (.func fid) first cap] 165)) w.heap.size 55 #[.pointer (some ⟨c.X, 0, none⟩)] ∧ Blk ((w.alloc (.cells #[.pointer (some ⟨c.X, 0, none⟩)] 55)).alloc (.cells #[.func (.func fid) first cap] 165)) (w.heap.size + 1) 165 #[.func (.func fid) first cap]) := by
    refine ⟨((Still.refl w).alloc _).alloc _, (Blk.new w _ _).alloc _, ?_⟩
    have h1 := Blk.new (w.alloc (.cells #[.pointer (some ⟨c.X, 0, none⟩)] 55)) 165 #[.func (.func fid) first cap]
    rwa [show (w.alloc (.cells #[.pointer (some ⟨c.X, 0, none⟩)] 55)).heap.size = w.heap.size + 1 by simp] at h1
  rw [hX] at P1 ⊢
  have henter : ∀ (args : Array Value) (W : World), (callFunc 84 args).run Tryz.prog W = .ok (.enter 84 args) W := enters_of Tryz.func84 (by kernel_rfl) rfl
  have hent1 : Hid (∀ (args : Array Value) (W : World), (callFunc 167 args).run Tryz.prog W = .ok (.enter 167 args) W) := enters_of Tryz.func167 (by kernel_rfl) rfl
  have hmf : ∀ (fn : Fn) (first cap : Array Value) (w : World), (Instr.makeFunc fn first cap).run Tryz.prog w = .ok (.func fn first cap) w := fun _ _ _ _ => rfl
  have x18 : w.cell? ⟨X, 18, none⟩ = some (.func (.func 84) #[] #[.pointer (some ⟨N, 0, none⟩)]) := by rw [← hX]; exact h.box.cell 18
  have lX : X < w.heap.size := by rw [← hX]; exact h.box.lt
  clear h hS hJ h0 hask hfid hX
  go_enter Tryz.func139, Tryz.ntmps139
  go_wp2_with fail
  clear x18 lX
  generalize (w.alloc (.cells #[.pointer (some ⟨X, 0, none⟩)] 55)).alloc (.cells #[.func (.func fid) first cap] 165) = w1 at P1 ⊢
  obtain ⟨Kw, hKw⟩ : ∃ Kw, w.heap.size = Kw := ⟨_, rfl⟩
  obtain ⟨Ka, hKa⟩ : ∃ Ka, w.heap.size + 1 = Ka := ⟨_, rfl⟩
  have HK : Hid (w.heap.size = Kw ∧ Ka = Kw + 1) := ⟨hKw, by omega⟩
  rw [hKa, hKw] at P1
  rw [hKa, hKw]
  clear hKa hKw
  have H1 := Lib.hid (HH.out.still P1.out.1)
  refine (typed_any H1.out.now slot).mono ?_; rintro e w2 ⟨⟨b, hb, rfl⟩ | ⟨hb, rfl⟩, hw2⟩ <;> subst w2
  rotate_left
  · refine ⟨rfl, P1.out.1.turn, .inr ⟨fun e => ?_, rfl⟩⟩
    obtain ⟨t, e1, _⟩ := e
    rcases HH.out.kn.slot slot with ⟨_, e2⟩ | ⟨b, t, e2, _⟩
    · rw [e2] at e1; cases e1
    · rw [hb] at e2; cases e2
  obtain ⟨t, hat, htk⟩ : ∃ t, atK k slot = some t ∧ TyK w1 b t := by
    rcases H1.out.kn.slot slot with ⟨e1, _⟩ | ⟨b', t, e1, e2, e3⟩
    · rw [hb] at e1; cases e1
    · rw [hb] at e1
      obtain rfl := Option.some.inj e1
      exact ⟨t, e2, e3⟩
  have HT : Hid (atK k slot = some t ∧ TyK w1 b t ∧ InT c.m t ∧ slotAt l slot = some b) := ⟨hat, htk, HH.out.inK.at hat, hb⟩
  have HSL : Hid (∀ j, S j → c.L ≤ j ∧ j ≠ Ka ∧ j ≠ Kw) := fun j e => by
    have := HS.out j e
    have := HK.out
    exact ⟨by omega, by omega, by omega⟩
  have HEA := Lib.hid (each_any htk.1 S Q J 167 #[] #[.pointer (some ⟨Ka, 0, none⟩), .pointer (some ⟨Kw, 0, none⟩)] hent1.out H1.out.rows.tab (fun e => by have h1 := (HSL.out _ e).1; have h2 := H1.out.rows.le; have h3 := H1.out.rows.tabB; omega)
    (fun p s W h512 hs t hj => by
      have hmem : (s : Int) ∈ _ := (ofL_mem (fun y hy => (HT.out.2.1.2 y hy).1) s).1 hs
      have hlt := (HT.out.2.2.1 _ hmem).2
      obtain ⟨sh, hsh⟩ : ∃ sh, c.m.shapes[s]? = some sh := ⟨_, List.getElem?_eq_getElem (by omega)⟩
      have hXS : ¬ S c.X := fun e => by have h1 := (HSL.out _ e).1; have h2 := H1.out.rows.le; omega
      exact obj1_any c (H1.out.rows.keep t (fun j e => .inr (HSL.out j e).1)) ((t.cell (p := ⟨c.X, 1, none⟩) H1.out.box.lt hXS).trans (H1.out.box.cell 1)) (P1.out.2.2.keep t (fun e => (HSL.out _ e).2.1 rfl)) (by rw [HX.out]; exact P1.out.2.1.keep t (fun e => (HSL.out _ e).2.2 rfl)) HFID.out hsh HSL.out
        (fun W' st fa fn fc h1 h2 => HASK.out p s sh W' hsh ((P1.out.1.turn.trans t).trans st.turn) (HJ.out _ _ _ hj st) fa fn fc h1 h2))
    (HJ.out _ _ _ H0.out P1.out.1))
  clear hat htk hb
  go_wp2_with fail
  refine HEA.out.mono ?_; rintro e w3 ⟨t3, ⟨p, hp1, hp2, hp3, rfl, hj⟩ | ⟨hbad, rfl⟩⟩
  rotate_left
  · obtain ⟨s, h1, h2, h3⟩ := hbad
    refine ⟨rfl, P1.out.1.turn.trans t3, .inr ⟨fun e => ?_, rfl⟩⟩
    obtain ⟨t', e1, _, _, e2⟩ := e
    obtain rfl := Option.some.inj (HT.out.1.symm.trans e1)
    have hmem := (ofL_mem (fun y hy => (HT.out.2.1.2 y hy).1) s).1 h2
    exact h3 (by simpa using e2 _ hmem)
  have HP : Hid ((∀ x : Nat, x ∈ p ↔ (x : Int) ∈ t.shapes) ∧ (∀ x ∈ p, Q x) ∧ J p w3 ∧ Turn S w w3) := by
    refine ⟨fun x => ?_, hp3, hj, P1.out.1.turn.trans t3⟩
    have hm := ofL_mem (fun y hy => (HT.out.2.1.2 y hy).1) x
    constructor
    · intro e
      exact hm.1 ((hp1 x (hp2 x e)).2 e)
    · intro e
      have := (HT.out.2.1.2 _ e).2
      exact (hp1 x (by omega)).1 (hm.2 e)
  have W3 := HT.out.2.1.1.keep t3 (fun e => (HS.out _ e).2.2 slot HT.out.2.2.2)
  obtain ⟨im, him⟩ : ∃ im, t.imm = im := ⟨_, rfl⟩
  have HIM := Lib.hid him
  have b0 : w3.cell? ⟨b, 0, none⟩ = some (.bool im) := by rw [← him]; exact W3.imm
  have lb := W3.blk.lt
  have hne : Hid (t.shapes ≠ [] ↔ p ≠ []) := by
    refine ⟨fun h e => h ?_, fun h e => h ?_⟩
    · cases hsh : t.shapes with
      | nil => rfl
      | cons y l' =>
        have h1 := HT.out.2.1.2 y (by rw [hsh]; simp)
        obtain ⟨j, rfl⟩ := Int.eq_ofNat_of_zero_le h1.1
        have := (HP.out.1 j).2 (by rw [hsh]; simp)
        rw [e] at this; cases this
    · cases p with
      | nil => rfl
      | cons y p' => have := (HP.out.1 y).1 (by simp); rw [e] at this; cases this
  have HQ : Hid (∀ s ∈ t.shapes, Q s.toNat) := fun s hs => by
    have h1 := HT.out.2.1.2 s hs
    obtain ⟨j, rfl⟩ := Int.eq_ofNat_of_zero_le h1.1
    exact HP.out.2.1 j ((HP.out.1 j).2 hs)
  clear hp1 hp2 hp3 hj him W3
  cases p with
  | nil =>
    go_wp2_with fail
    refine (need_no _).mono ?_; rintro e w4 ⟨rfl, hw4⟩; subst w4
    refine ⟨rfl, HP.out.2.2.2, .inr ⟨fun e => ?_, rfl⟩⟩
    obtain ⟨t', e1, _, e2, _⟩ := e
    obtain rfl := Option.some.inj (HT.out.1.symm.trans e1)
    exact hne.out.1 e2 rfl
  | cons y p =>
    cases im with
    | true =>
      go_wp2_with fail
      refine (need_no _).mono ?_; rintro e w4 ⟨rfl, hw4⟩; subst w4
      refine ⟨rfl, HP.out.2.2.2, .inr ⟨fun e => ?_, rfl⟩⟩
      obtain ⟨t', e1, e2, _⟩ := e
      obtain rfl := Option.some.inj (HT.out.1.symm.trans e1)
      rw [HIM.out] at e2; cases e2
    | false =>
      go_wp2_with fail
      refine (need_yes _).mono ?_; rintro e w4 ⟨rfl, hw4⟩; subst w4
      clear b0 lb
      go_wp2_with fail
      go_end0
      exact ⟨HP.out.2.2.2, .inl ⟨t, y :: p, HT.out.1, HIM.out, hne.out.2 (by simp), HP.out.1, HQ.out, rfl, HP.out.2.2.1⟩⟩
end Go.Proofs.YtglalgjffkoneaaGreatDoor
/- create: what makes an object. -/
namespace Go.Proofs.YtglalgjffkoneaaGreatDoor
set_option linter.unusedVariables false
set_option linter.unusedSimpArgs false
open Go.ChangeShapes Go.WideShapes Go.ChangeAt Go.RowKit
open Vf (K nth nth_nat tyAt atK isK numT oneT le beginK tsub RowK FitsK CalledK resT ObjK keepK KeepsK setK hasK)
theorem InsIs.rows3 {B : Nat} {w : World} {o d a b c n : Int} {la : Option Addr} {ln lc : Nat} {ma : Option Addr} {mn mc : Nat} {va : Option Addr} {vn vc : Nat} {x : M.Ins} (h : InsIs B w [.int .i64 o, .int .i64 d, .int .i64 a, .int .i64 b, .int .i64 c, .int .i64 n, .slice la ln lc, .slice ma mn mc, .slice va vn vc] x) : (Ints B w la ln x.l ∧ ln ≤ maxLen) ∧ (Ints B w ma mn x.m ∧ mn ≤ maxLen) ∧ (Ints B w va vn x.v ∧ vn ≤ maxLen) := by
  obtain ⟨la', ln', lc', ma', mn', mc', va', vn', vc', he, h1, h2, h3, h4, h5, h6, h7⟩ := h
  simp only [List.cons.injEq, Value.slice.injEq, and_true, true_and] at he
  obtain ⟨_, _, _, _, _, _, ⟨rfl, rfl, rfl⟩, ⟨rfl, rfl, rfl⟩, ⟨rfl, rfl, rfl⟩⟩ := he
  exact ⟨⟨h5, h1⟩, ⟨h6, h2⟩, ⟨h7, h3⟩⟩
theorem Kn.none {w : World} {l : List (Option Nat)} {k : K} (h : Kn w l k) {i : Nat} : Kn w (l.set i none) (k.set i none) := by
  refine ⟨by rw [List.length_set, List.length_set]; exact h.1, fun j hj => ?_⟩
  rw [List.length_set] at hj
  by_cases e : i = j
  · subst e
    rw [List.getElem?_set_self hj, List.getElem?_set_self (by have := h.1; omega)]
    exact .inl ⟨rfl, rfl⟩
  · rw [List.getElem?_set_ne e, List.getElem?_set_ne e]
    exact h.2 j hj
/-- What is kept is known as it was. -/
theorem Kn.keepL {w : World} {l : List (Option Nat)} {k : K} (h : Kn w l k) (live : List Int) : Kn w (keepL l live) (keepK k live) := by
  unfold Go.Proofs.YtglalgjffkoneaaGreatDoor.keepL Vf.keepK
  have gen : ∀ (live : List Int) (l' : List (Option Nat)) (k' : K), Kn w l' k' → Kn w (live.foldl (fun acc s => acc.set s.toNat (slotAt l s)) l') (live.foldl (fun acc s => acc.set s.toNat (atK k s)) k') := fun live => by
    induction live with
    | nil => exact fun _ _ h => h
    | cons s live ih =>
      intro l' k' h'
      refine ih _ _ ?_
      dsimp only
      rcases h.slot s with ⟨e1, e2⟩ | ⟨b, t, e1, e2, e3⟩
      · rw [e1, e2]; exact h'.none
      · rw [e1, e2]; exact h'.set e3
  refine gen live _ _ ⟨by rw [List.length_replicate, List.length_replicate]; exact h.1, fun i hi => ?_⟩
  rw [List.length_replicate] at hi
  rw [List.getElem?_replicate, List.getElem?_replicate, if_pos hi, if_pos (by have := h.1; omega)]
  exact .inl ⟨rfl, rfl⟩
theorem keeps_iff {w : World} {l : List (Option Nat)} {k : K} (h : Kn w l k) (live : List Int) : Keeps l live ↔ KeepsK k live := by
  unfold Keeps Vf.KeepsK
  refine and_congr Iff.rfl (forall_congr' fun s => forall_congr' fun hs => ?_)
  rcases h.slot s with ⟨e1, e2⟩ | ⟨b, t, e1, e2, e3⟩
  · rw [e1, e2]; exact Iff.rfl
  · rw [e1, e2]; exact Iff.rfl
theorem keepK_len (k : K) (live : List Int) : (keepK k live).length = k.length := by
  unfold Vf.keepK
  have gen : ∀ (live : List Int) (acc : K), (live.foldl (fun acc s => acc.set s.toNat (atK k s)) acc).length = acc.length := fun live => by
    induction live with
    | nil => intro acc; rfl
    | cons s live ih => intro acc; rw [List.foldl_cons, ih, List.length_set]
  rw [gen, List.length_replicate]
theorem has_keep {k : K} {live : List Int} {d : Int} : hasK (keepK k live) d ↔ hasK k d := by
  unfold Vf.hasK
  rw [keepK_len]
theorem whole_fields {m : M.Img} (h : wholeB m = true) : ∀ s ∈ m.shapes, ∀ x ∈ s.fields, 0 ≤ x ∧ x < m.types.length := fun s hs => by
  unfold wholeB at h
  simp only [Bool.and_eq_true, decide_eq_true_eq] at h
  obtain ⟨h0, h1, h2, h3, h4, h5, h6, h7⟩ := h
  have h8 := List.all_eq_true.1 h4 s hs
  unfold shB at h8
  rw [Bool.and_eq_true] at h8
  exact (inAll_iff _ _).1 h8.2
theorem whole_exn {m : M.Img} (h : wholeB m = true) : 0 ≤ m.exn ∧ m.exn < m.types.length := by
  unfold wholeB at h
  simp only [Bool.and_eq_true, decide_eq_true_eq] at h
  obtain ⟨h0, h1, h2, h3, h4, h5, h6, h7⟩ := h
  unfold exnB at h5
  rw [Bool.and_eq_true] at h5
  exact (hasB_iff _ _).1 h5.1
/-- The words of a shape alone. -/
theorem RowsAt.one {c : WkC} {w : World} (h : RowsAt c w) {k b : Nat} (e : c.cs[k]? = some b) : TyK w b (oneT k) := ⟨h.wa k b e, fun s hs => by
  obtain rfl : s = (k : Int) := by simpa [oneT] using hs
  have h1 := (List.getElem?_eq_some_iff.1 e).1
  have h2 := h.lc
  have h3 := h.few.2
  omega⟩
theorem RowsAt.text {c : WkC} {w : World} (h : RowsAt c w) : TyK w c.c0 (oneT 0) := h.one (k := 0) h.z2
set_option maxRecDepth 100000 in
set_option maxHeartbeats 8000000 in
theorem create_text (c : WkC) (hW : wholeB c.m = true) (x : M.Ins) (hop : x.op = 2) (w : World) (f : M.Fn) (g : FV) (fi bi ii : Int) (N r T Y : Nat) (l : List (Option Nat)) (k : K) (la : Option Addr) (ln lc : Nat) (ma : Option Addr) (mn mc : Nat) (va : Option Addr) (vn vc : Nat) (h : WkAt c w f g fi bi ii N r T Y l k) (hx : InsIs c.B w [.int .i64 2, .int .i64 x.d, .int .i64 x.a, .int .i64 x.b, .int .i64 x.c, .int .i64 x.n, .slice la ln lc, .slice ma mn mc, .slice va vn vc] x) :
    Calls Tryz.prog 93 #[.pointer (some ⟨c.X, 0, none⟩), .agg #[.int .i64 2, .int .i64 x.d, .int .i64 x.a, .int .i64 x.b, .int .i64 x.c, .int .i64 x.n, .slice la ln lc, .slice ma mn mc, .slice va vn vc]] w (StepR c f N r k x w) := by
  obtain ⟨op, d, a, b, cc, xn, L, Mw, V⟩ := x
  dsimp only at hop hx ⊢
  subst hop
  have HH := Lib.hid h
  have HWB := Lib.hid hW
  have HQ : Hid ((ln ≤ maxLen ∧ vn ≤ maxLen) ∧ (In64 a ∧ In64 b ∧ In64 cc) ∧ Ints c.B w la ln L ∧ Ints c.B w va vn V) := ⟨⟨hx.rows3.1.2, hx.rows3.2.2.2⟩, hx.a64, hx.rows3.1.1, hx.rows3.2.2.1⟩
  have HNE : Hid (Vf.Needs c.m f k ⟨2, d, a, b, cc, xn, L, Mw, V⟩ = ((0 ≤ a ∧ a < c.m.strings.length) ∧ KeepsK k V ∧ hasK k d)) := by show _ = _; rfl
  have HNX : Hid (Vf.next c.m k ⟨2, d, a, b, cc, xn, L, Mw, V⟩ = setK (keepK k V) d (oneT 0)) := by show _ = _; rfl
  have S1 : Hid (Still w (w.alloc (.cells #[.int .i64 2, .int .i64 d, .int .i64 a, .int .i64 b, .int .i64 cc, .int .i64 xn, .slice la ln lc, .slice ma mn mc, .slice va vn vc] 36)) ∧ Blk (w.alloc (.cells #[.int .i64 2, .int .i64 d, .int .i64 a, .int .i64 b, .int .i64 cc, .int .i64 xn, .slice la ln lc, .slice ma mn mc, .slice va vn vc] 36)) w.heap.size 36 #[.int .i64 2, .int .i64 d, .int .i64 a, .int .i64 b, .int .i64 cc, .int .i64 xn, .slice la ln lc, .slice ma mn mc, .slice va vn vc]) := ⟨(Still.refl w).alloc _, Blk.new w _ _⟩
  obtain ⟨X, hX⟩ : ∃ X, c.X = X := ⟨_, rfl⟩
  have HX := Lib.hid hX
  obtain ⟨c0, hc0⟩ : ∃ c0, c.c0 = c0 := ⟨_, rfl⟩
  have HC0 := Lib.hid hc0
  have x10 : w.cell? ⟨X, 10, none⟩ = some (.pointer (some ⟨c0, 0, none⟩)) := by rw [← hX, ← hc0]; exact h.box.cell 10
  have lX : X < w.heap.size := by rw [← hX]; exact h.box.lt
  obtain ⟨xa, hxa⟩ : ∃ xa, c.v.xa = xa := ⟨_, rfl⟩
  obtain ⟨xs, hxs⟩ : ∃ xs, c.v.xn = xs := ⟨_, rfl⟩
  obtain ⟨xc, hxc⟩ : ∃ xc, c.v.xc = xc := ⟨_, rfl⟩
  have HXA : Hid (c.v.xa = xa ∧ c.v.xn = xs ∧ c.v.xc = xc) := ⟨hxa, hxs, hxc⟩
  have HLEN : Hid (c.m.strings.length = xs) := by show _ = _; rw [← hxs]; exact h.rows.img.strings.len
  clear hxa hxs hxc
  rw [hX]
  clear h hx hX hc0 hW
  go_enter Tryz.func93, Tryz.ntmps93
  go_wp2_with fail
  generalize w.alloc (.cells #[.int .i64 2, .int .i64 d, .int .i64 a, .int .i64 b, .int .i64 cc, .int .i64 xn, .slice la ln lc, .slice ma mn mc, .slice va vn vc] 36) = w1 at S1 ⊢
  obtain ⟨K0, hK0⟩ : ∃ K0, w.heap.size = K0 := ⟨_, rfl⟩
  rw [hK0] at S1
  rw [hK0]
  have HK0 := Lib.hid hK0
  clear hK0
  have H1 := Lib.hid (HH.out.still S1.out.1)
  clear x10 lX
  obtain ⟨wA, hwA⟩ : ∃ wA, w1.drew = wA := ⟨_, rfl⟩
  have SA : Hid (Still w1 wA) := by rw [← hwA]; exact (Still.refl w1).drew
  have S2 : Hid (Still w wA ∧ Blk wA K0 36 #[.int .i64 2, .int .i64 d, .int .i64 a, .int .i64 b, .int .i64 cc, .int .i64 xn, .slice la ln lc, .slice ma mn mc, .slice va vn vc]) := ⟨S1.out.1.trans SA.out, SA.out.blk S1.out.2⟩
  have H2 := Lib.hid (H1.out.still SA.out)
  have hS : wA.cell? ⟨X, 2, none⟩ = some (.slice xa xs xc) ∧ wA.cell? ⟨K0, 2, none⟩ = some (.int .i64 a) := ⟨by rw [← HX.out, ← HXA.out.1, ← HXA.out.2.1, ← HXA.out.2.2]; exact H2.out.box.cell 2, S2.out.2.cell 2⟩
  refine wp_region_held_drew (S := fun W => W.cell? ⟨X, 2, none⟩ = some (.slice xa xs xc) ∧ W.cell? ⟨K0, 2, none⟩ = some (.int .i64 a)) (by kernel_rfl) (by rw [hwA]; exact hS) (fun hHeld => ?_)
  try simp only [Act.put, List.getElem_toArray, List.getElem_cons_succ, List.getElem_cons_zero, List.setIfInBounds_toArray, List.set_cons_zero, List.set_cons_succ]
  rw [hwA] at hHeld ⊢
  clear hwA hS
  refine wpAnyH_take (i := 0) (v := ?_) rfl (by kernel_rfl) (by kernel_rfl) (by kernel_rfl) (fun _ _ _ h => h) (Or.inl ⟨by rfl, ?_⟩) (by assumption) ?_
  rotate_left
  · intro w hSw; (try dsimp only at hSw); go_simp; try with_reducible rfl
  try simp only [Act.put, List.getElem_toArray, List.getElem_cons_succ, List.getElem_cons_zero, List.setIfInBounds_toArray, List.set_cons_zero, List.set_cons_succ]
  refine wpAnyH_take (i := 1) (v := ?_) rfl (by kernel_rfl) (by kernel_rfl) (by kernel_rfl) (fun _ _ _ h => h) (Or.inl ⟨by rfl, ?_⟩) (by assumption) ?_
  rotate_left
  · intro w hSw; (try dsimp only at hSw); go_simp; try with_reducible rfl
  try simp only [Act.put, List.getElem_toArray, List.getElem_cons_succ, List.getElem_cons_zero, List.setIfInBounds_toArray, List.set_cons_zero, List.set_cons_succ]
  refine wpAnyH_take (i := 2) (v := ?_) rfl (by kernel_rfl) (by kernel_rfl) (by kernel_rfl) (fun _ _ _ h => h) (Or.inl ⟨by rfl, ?_⟩) (by assumption) ?_
  rotate_left
  · intro w hSw; (try dsimp only at hSw); go_simp; try with_reducible rfl
  try simp only [Act.put, List.getElem_toArray, List.getElem_cons_succ, List.getElem_cons_zero, List.setIfInBounds_toArray, List.set_cons_zero, List.set_cons_succ]
  refine wpAnyH_take (i := 3) (v := ?_) rfl (by kernel_rfl) (by kernel_rfl) (by kernel_rfl) (fun _ _ _ h => h) (Or.inl ⟨by rfl, ?_⟩) (by assumption) ?_
  rotate_left
  · intro w hSw; (try dsimp only at hSw); go_simp; try with_reducible rfl
  try simp only [Act.put, List.getElem_toArray, List.getElem_cons_succ, List.getElem_cons_zero, List.setIfInBounds_toArray, List.set_cons_zero, List.set_cons_succ]
  refine wpAnyH_take (i := 4) (v := ?_) rfl (by kernel_rfl) (by kernel_rfl) (by kernel_rfl) (fun _ _ _ h => h) (Or.inl ⟨by rfl, ?_⟩) (by assumption) ?_
  rotate_left
  · intro w hSw; (try dsimp only at hSw); go_simp; try with_reducible rfl
  try simp only [Act.put, List.getElem_toArray, List.getElem_cons_succ, List.getElem_cons_zero, List.setIfInBounds_toArray, List.set_cons_zero, List.set_cons_succ]
  refine wpAnyH_take (i := 5) (v := ?_) rfl (by kernel_rfl) (by kernel_rfl) (by kernel_rfl) (fun _ _ _ h => h) (Or.inl ⟨by rfl, ?_⟩) (by assumption) ?_
  rotate_left
  · intro w hSw; (try dsimp only at hSw); go_simp; try with_reducible rfl
  try simp only [Act.put, List.getElem_toArray, List.getElem_cons_succ, List.getElem_cons_zero, List.setIfInBounds_toArray, List.set_cons_zero, List.set_cons_succ]
  refine wpAnyH_take (i := 6) (v := ?_) rfl (by kernel_rfl) (by kernel_rfl) (by kernel_rfl) (fun _ _ _ h => h) (Or.inl ⟨by rfl, ?_⟩) (by assumption) ?_
  rotate_left
  · intro w hSw; (try dsimp only at hSw); go_simp; try with_reducible rfl
  try simp only [Act.put, List.getElem_toArray, List.getElem_cons_succ, List.getElem_cons_zero, List.setIfInBounds_toArray, List.set_cons_zero, List.set_cons_succ]
  refine wpAnyH_ready (rs := [7]) (by kernel_rfl) (by simp) ?_
  refine AllReadyH.cons rfl (fun K hK => ?_) AllReadyH.nil
  go_simp
  refine (hasTx_any _ _ _ _ _).mono ?_; rintro e w2 ⟨rfl, hw2⟩; subst w2
  refine hK.out _ _ hHeld (fun hHeld => ?_)
  clear hK K
  refine wpAnyH_ready (rs := [8]) (by kernel_rfl) (by simp) ?_
  refine AllReadyH.cons rfl (fun K hK => ?_) AllReadyH.nil
  go_simp
  cases hb : hasB a xs with
  | false =>
    refine (need_no _).mono ?_; rintro e w2 ⟨rfl, hw2⟩; subst w2
    refine ⟨rfl, .inr ⟨fun e => ?_, rfl, S2.out.1.turn⟩⟩
    rw [HNE.out, HLEN.out] at e
    rw [(hasB_iff _ _).2 e.1] at hb
    cases hb
  | true =>
    have HA : Hid (0 ≤ a ∧ a < c.m.strings.length) := by
      show _ ∧ _
      rw [HLEN.out]
      exact (hasB_iff _ _).1 hb
    clear hb
    refine (need_yes _).mono ?_; rintro e w2 ⟨rfl, hw2⟩; subst w2
    refine hK.out _ _ hHeld (fun hHeld => ?_)
    clear hK K
    refine wpAnyH_done (by kernel_rfl) ?_ _
    clear hHeld
    obtain ⟨w3, hw3⟩ : ∃ w3, wA = w3 := ⟨_, rfl⟩
    rw [hw3]
    have S3 : Hid (Still w w3 ∧ Blk w3 K0 36 #[.int .i64 2, .int .i64 d, .int .i64 a, .int .i64 b, .int .i64 cc, .int .i64 xn, .slice la ln lc, .slice ma mn mc, .slice va vn vc]) := by rw [← hw3]; exact S2.out
    have H3 := Lib.hid (HH.out.still S3.out.1)
    obtain ⟨tm, htm⟩ : ∃ tm, oneT 0 = tm := ⟨_, rfl⟩
    obtain ⟨mb, hmb⟩ : ∃ mb, c0 = mb := ⟨_, rfl⟩
    have MB : Hid (TyK w3 mb tm) := by rw [← htm, ← hmb, ← HC0.out]; exact H3.out.rows.text
    rw [hmb]
    rw [htm] at HNX
    clear hw3 hmb htm H1 H2 S1 S2 SA
    obtain ⟨wD, hwD⟩ : ∃ wD, w3.drew = wD := ⟨_, rfl⟩
    have SD : Hid (Still w3 wD) := by rw [← hwD]; exact (Still.refl w3).drew
    have H4 := Lib.hid (H3.out.still SD.out)
    have S4 : Hid (Still w wD ∧ Blk wD K0 36 #[.int .i64 2, .int .i64 d, .int .i64 a, .int .i64 b, .int .i64 cc, .int .i64 xn, .slice la ln lc, .slice ma mn mc, .slice va vn vc]) := ⟨S3.out.1.trans SD.out, SD.out.blk S3.out.2⟩
    have hS0 : wD.cell? ⟨X, 21, none⟩ = some (.func (.func 88) #[] #[.pointer (some ⟨N, 0, none⟩), .pointer (some ⟨T, 0, none⟩)]) ∧ wD.cell? ⟨K0, 8, none⟩ = some (.slice va vn vc) := ⟨by rw [← HX.out]; exact H4.out.box.cell 21, S4.out.2.cell 8⟩
    have henter4 : ∀ (args : Array Value) (W : World), (callFunc 88 args).run Tryz.prog W = .ok (.enter 88 args) W := enters_of Tryz.func88 (by kernel_rfl) rfl
    have HKP := Lib.hid (keep_any (B := c.B) (c := vc) (n := vn) (live := V) H4.out.now H4.out.typed (HQ.out.2.2.2.keep ((Still.below S4.out.1).mono (by have := HH.out.rows.le; omega)) (by have := HH.out.rows.le; omega)) HQ.out.1.2 (by have h1 := H4.out.far; have h2 := H4.out.rows.le; omega) H4.out.ne.1 H4.out.ne.2.1)
    go_wp2_with fail
    refine wp_region_held_drew (S := fun W => W.cell? ⟨X, 21, none⟩ = some (.func (.func 88) #[] #[.pointer (some ⟨N, 0, none⟩), .pointer (some ⟨T, 0, none⟩)]) ∧ W.cell? ⟨K0, 8, none⟩ = some (.slice va vn vc)) (by kernel_rfl) (by rw [hwD]; exact hS0) (fun hHeld => ?_)
    try simp only [Act.put, List.getElem_toArray, List.getElem_cons_succ, List.getElem_cons_zero, List.setIfInBounds_toArray, List.set_cons_zero, List.set_cons_succ]
    rw [hwD] at hHeld ⊢
    clear hwD hS0
    refine wpAnyH_take (i := 0) (v := ?_) rfl (by kernel_rfl) (by kernel_rfl) (by kernel_rfl) (fun _ _ _ h => h) (Or.inl ⟨by rfl, ?_⟩) (by assumption) ?_
    rotate_left
    · intro w hSw; (try dsimp only at hSw); go_simp; try with_reducible rfl
    try simp only [Act.put, List.getElem_toArray, List.getElem_cons_succ, List.getElem_cons_zero, List.setIfInBounds_toArray, List.set_cons_zero, List.set_cons_succ]
    refine wpAnyH_take (i := 1) (v := ?_) rfl (by kernel_rfl) (by kernel_rfl) (by kernel_rfl) (fun _ _ _ h => h) (Or.inl ⟨by rfl, ?_⟩) (by assumption) ?_
    rotate_left
    · intro w hSw; (try dsimp only at hSw); go_simp; try with_reducible rfl
    try simp only [Act.put, List.getElem_toArray, List.getElem_cons_succ, List.getElem_cons_zero, List.setIfInBounds_toArray, List.set_cons_zero, List.set_cons_succ]
    refine wpAnyH_take (i := 2) (v := ?_) rfl (by kernel_rfl) (by kernel_rfl) (by kernel_rfl) (fun _ _ _ h => h) (Or.inl ⟨by rfl, ?_⟩) (by assumption) ?_
    rotate_left
    · intro w hSw; (try dsimp only at hSw); go_simp; try with_reducible rfl
    try simp only [Act.put, List.getElem_toArray, List.getElem_cons_succ, List.getElem_cons_zero, List.setIfInBounds_toArray, List.set_cons_zero, List.set_cons_succ]
    refine wpAnyH_take (i := 3) (v := ?_) rfl (by kernel_rfl) (by kernel_rfl) (by kernel_rfl) (fun _ _ _ h => h) (Or.inl ⟨by rfl, ?_⟩) (by assumption) ?_
    rotate_left
    · intro w hSw; (try dsimp only at hSw); go_simp; try with_reducible rfl
    try simp only [Act.put, List.getElem_toArray, List.getElem_cons_succ, List.getElem_cons_zero, List.setIfInBounds_toArray, List.set_cons_zero, List.set_cons_succ]
    refine wpAnyH_take (i := 4) (v := ?_) rfl (by kernel_rfl) (by kernel_rfl) (by kernel_rfl) (fun _ _ _ h => h) (Or.inl ⟨by rfl, ?_⟩) (by assumption) ?_
    rotate_left
    · intro w hSw; (try dsimp only at hSw); go_simp; try with_reducible rfl
    try simp only [Act.put, List.getElem_toArray, List.getElem_cons_succ, List.getElem_cons_zero, List.setIfInBounds_toArray, List.set_cons_zero, List.set_cons_succ]
    refine wpAnyH_take (i := 5) (v := ?_) rfl (by kernel_rfl) (by kernel_rfl) (by kernel_rfl) (fun _ _ _ h => h) (Or.inl ⟨by rfl, ?_⟩) (by assumption) ?_
    rotate_left
    · intro w hSw; (try dsimp only at hSw); go_simp; try with_reducible rfl
    try simp only [Act.put, List.getElem_toArray, List.getElem_cons_succ, List.getElem_cons_zero, List.setIfInBounds_toArray, List.set_cons_zero, List.set_cons_succ]
    refine wpAnyH_take (i := 6) (v := ?_) rfl (by kernel_rfl) (by kernel_rfl) (by kernel_rfl) (fun _ _ _ h => h) (Or.inl ⟨by rfl, ?_⟩) (by assumption) ?_
    rotate_left
    · intro w hSw; (try dsimp only at hSw); go_simp; try with_reducible rfl
    try simp only [Act.put, List.getElem_toArray, List.getElem_cons_succ, List.getElem_cons_zero, List.setIfInBounds_toArray, List.set_cons_zero, List.set_cons_succ]
    refine wpAnyH_ready (rs := [7]) (by kernel_rfl) (by simp) ?_
    refine AllReadyH.cons rfl (fun K hK => ?_) AllReadyH.nil
    go_simp
    refine HKP.out.mono ?_; rintro e w5 (⟨hk, rfl, ⟨r5, hn5, hr5⟩, t5⟩ | ⟨hk, rfl, t5⟩)
    rotate_left
    · refine ⟨rfl, .inr ⟨fun e => hk ?_, rfl, (S4.out.1.trans t5).turn⟩⟩
      rw [HNE.out] at e
      exact (keeps_iff H4.out.kn V).2 e.2.1
    have HK5 : Hid (KeepsK k V ∧ NowAt w5 N r5 (keepL l V) ∧ w.heap.size ≤ r5 ∧ Turn (fun j => j = N) wD w5) := ⟨(keeps_iff H4.out.kn V).1 hk, hn5, Nat.le_trans S4.out.1.size hr5, t5⟩
    have HR5D := Lib.hid hr5
    have hle := H4.out.rows.le
    have hfar := H4.out.far
    have hX := HX.out
    have hKw := HK0.out
    have lK := S4.out.2.lt
    have lX := H4.out.box.lt
    have hNlt := H4.out.now.box.lt
    have hNw := HH.out.now.box.lt
    have hKN : K0 ≠ N := by omega
    have hXN : X ≠ N := by omega
    have lX : X < wD.heap.size := by omega
    have hH5 : w5.cell? ⟨X, 21, none⟩ = some (.func (.func 88) #[] #[.pointer (some ⟨N, 0, none⟩), .pointer (some ⟨T, 0, none⟩)]) ∧ w5.cell? ⟨K0, 8, none⟩ = some (.slice va vn vc) := ⟨(t5.cell (p := ⟨X, 21, none⟩) lX hXN).trans hHeld.1, (t5.cell (p := ⟨K0, 8, none⟩) lK hKN).trans hHeld.2⟩
    have BX5 : w5.cell? ⟨X, 19, none⟩ = some (.func (.func 86) #[] #[.pointer (some ⟨N, 0, none⟩)]) := (t5.cell (p := ⟨X, 19, none⟩) lX hXN).trans (by rw [← hX]; exact H4.out.box.cell 19)
    have BK5 : w5.cell? ⟨K0, 1, none⟩ = some (.int .i64 d) := (t5.cell (p := ⟨K0, 1, none⟩) lK hKN).trans (S4.out.2.cell 1)
    have HC5 : Hid (w5.cell? ⟨X, 19, none⟩ = some (.func (.func 86) #[] #[.pointer (some ⟨N, 0, none⟩)]) ∧ w5.cell? ⟨K0, 1, none⟩ = some (.int .i64 d)) := ⟨BX5, BK5⟩
    have HL5 : Hid (X < wD.heap.size ∧ K0 < wD.heap.size) := ⟨lX, lK⟩
    clear hk hn5 hr5 t5 hHeld hle hfar hX hKw lK lX hNlt hNw hKN hXN BX5 BK5
    refine hK.out _ _ hH5 (fun hHeld => ?_)
    clear hK K hH5
    refine wpAnyH_done (by kernel_rfl) ?_ _
    clear hHeld
    obtain ⟨wE, hwE⟩ : ∃ wE, w5.drew = wE := ⟨_, rfl⟩
    have SE : Hid (Still w5 wE) := by rw [← hwE]; exact (Still.refl w5).drew
    have hS2 : wE.cell? ⟨X, 19, none⟩ = some (.func (.func 86) #[] #[.pointer (some ⟨N, 0, none⟩)]) ∧ wE.cell? ⟨K0, 1, none⟩ = some (.int .i64 d) := by rw [← hwE]; exact HC5.out
    have henter2 : ∀ (args : Array Value) (W : World), (callFunc 86 args).run Tryz.prog W = .ok (.enter 86 args) W := enters_of Tryz.func86 (by kernel_rfl) rfl
    have hNr5 : N ≠ r5 := by have h1 := HH.out.now.box.lt; have h2 := HK5.out.2.2.1; omega
    have HGV := Lib.hid (give_any (HK5.out.2.1.keep SE.out (fun e => e) (fun e => e)) hNr5 d (some mb))
    have HKN : Hid (Kn wE (keepL l V) (keepK k V) ∧ TyK wE mb tm) := by
      have hk4 := (H4.out.kn.keepL V).keep HK5.out.2.2.2 (fun b im R hb e => H4.out.now.words b im R hb (.inl e))
      have hm4 := ((MB.out.keep SD.out (fun e => e)).keep HK5.out.2.2.2 (fun e => H4.out.now.words _ _ _ (MB.out.keep SD.out (fun e => e)).1 (.inl e)))
      exact ⟨hk4.keep SE.out (fun _ _ _ _ e => e), hm4.keep SE.out (fun e => e)⟩
    clear hNr5
    go_wp2_with fail
    refine wp_region_held_drew (S := fun W => W.cell? ⟨X, 19, none⟩ = some (.func (.func 86) #[] #[.pointer (some ⟨N, 0, none⟩)]) ∧ W.cell? ⟨K0, 1, none⟩ = some (.int .i64 d)) (by kernel_rfl) (by rw [hwE]; exact hS2) (fun hHeld => ?_)
    try simp only [Act.put, List.getElem_toArray, List.getElem_cons_succ, List.getElem_cons_zero, List.setIfInBounds_toArray, List.set_cons_zero, List.set_cons_succ]
    rw [hwE] at hHeld ⊢
    clear hwE hS2
    refine wpAnyH_take (i := 0) (v := ?_) rfl (by kernel_rfl) (by kernel_rfl) (by kernel_rfl) (fun _ _ _ h => h) (Or.inl ⟨by rfl, ?_⟩) (by assumption) ?_
    rotate_left
    · intro w hSw; (try dsimp only at hSw); go_simp; try with_reducible rfl
    try simp only [Act.put, List.getElem_toArray, List.getElem_cons_succ, List.getElem_cons_zero, List.setIfInBounds_toArray, List.set_cons_zero, List.set_cons_succ]
    refine wpAnyH_take (i := 1) (v := ?_) rfl (by kernel_rfl) (by kernel_rfl) (by kernel_rfl) (fun _ _ _ h => h) (Or.inl ⟨by rfl, ?_⟩) (by assumption) ?_
    rotate_left
    · intro w hSw; (try dsimp only at hSw); go_simp; try with_reducible rfl
    try simp only [Act.put, List.getElem_toArray, List.getElem_cons_succ, List.getElem_cons_zero, List.setIfInBounds_toArray, List.set_cons_zero, List.set_cons_succ]
    refine wpAnyH_take (i := 2) (v := ?_) rfl (by kernel_rfl) (by kernel_rfl) (by kernel_rfl) (fun _ _ _ h => h) (Or.inl ⟨by rfl, ?_⟩) (by assumption) ?_
    rotate_left
    · intro w hSw; (try dsimp only at hSw); go_simp; try with_reducible rfl
    try simp only [Act.put, List.getElem_toArray, List.getElem_cons_succ, List.getElem_cons_zero, List.setIfInBounds_toArray, List.set_cons_zero, List.set_cons_succ]
    refine wpAnyH_take (i := 3) (v := ?_) rfl (by kernel_rfl) (by kernel_rfl) (by kernel_rfl) (fun _ _ _ h => h) (Or.inl ⟨by rfl, ?_⟩) (by assumption) ?_
    rotate_left
    · intro w hSw; (try dsimp only at hSw); go_simp; try with_reducible rfl
    try simp only [Act.put, List.getElem_toArray, List.getElem_cons_succ, List.getElem_cons_zero, List.setIfInBounds_toArray, List.set_cons_zero, List.set_cons_succ]
    refine wpAnyH_take (i := 4) (v := ?_) rfl (by kernel_rfl) (by kernel_rfl) (by kernel_rfl) (fun _ _ _ h => h) (Or.inl ⟨by rfl, ?_⟩) (by assumption) ?_
    rotate_left
    · intro w hSw; (try dsimp only at hSw); go_simp; try with_reducible rfl
    try simp only [Act.put, List.getElem_toArray, List.getElem_cons_succ, List.getElem_cons_zero, List.setIfInBounds_toArray, List.set_cons_zero, List.set_cons_succ]
    refine wpAnyH_take (i := 5) (v := ?_) rfl (by kernel_rfl) (by kernel_rfl) (by kernel_rfl) (fun _ _ _ h => h) (Or.inl ⟨by rfl, ?_⟩) (by assumption) ?_
    rotate_left
    · intro w hSw; (try dsimp only at hSw); go_simp; try with_reducible rfl
    try simp only [Act.put, List.getElem_toArray, List.getElem_cons_succ, List.getElem_cons_zero, List.setIfInBounds_toArray, List.set_cons_zero, List.set_cons_succ]
    refine wpAnyH_take (i := 6) (v := ?_) rfl (by kernel_rfl) (by kernel_rfl) (by kernel_rfl) (fun _ _ _ h => h) (Or.inl ⟨by rfl, ?_⟩) (by assumption) ?_
    rotate_left
    · intro w hSw; (try dsimp only at hSw); go_simp; try with_reducible rfl
    try simp only [Act.put, List.getElem_toArray, List.getElem_cons_succ, List.getElem_cons_zero, List.setIfInBounds_toArray, List.set_cons_zero, List.set_cons_succ]
    refine wpAnyH_take (i := 7) (v := ?_) rfl (by kernel_rfl) (by kernel_rfl) (by kernel_rfl) (fun _ _ _ h => h) (Or.inl ⟨by rfl, ?_⟩) (by assumption) ?_
    rotate_left
    · intro w hSw; (try dsimp only at hSw); go_simp; try with_reducible rfl
    try simp only [Act.put, List.getElem_toArray, List.getElem_cons_succ, List.getElem_cons_zero, List.setIfInBounds_toArray, List.set_cons_zero, List.set_cons_succ]
    refine wpAnyH_ready (rs := [8]) (by kernel_rfl) (by simp) ?_
    refine AllReadyH.cons rfl (fun K hK => ?_) AllReadyH.nil
    go_simp
    refine HGV.out.mono ?_; rintro e w6 (⟨hb, rfl, hn6, t6⟩ | ⟨hb, rfl, rfl⟩)
    rotate_left
    · refine ⟨rfl, .inr ⟨fun e => ?_, rfl, ((S4.out.1.turn.trans (HK5.out.2.2.2.mono fun _ _ e => .inl e)).trans SE.out.turn)⟩⟩
      rw [HNE.out] at e
      rw [keepL_len, (hasK_iff HH.out.kn d).2 e.2.2] at hb
      cases hb
    have H6 := Lib.hid (And.intro hb (And.intro hn6 t6))
    have hr5w := HK5.out.2.2.1
    have hXw := HH.out.box.lt
    have hX := HX.out
    have hsz := SE.out.size
    have hsz5 := HK5.out.2.2.2.size
    have hl5 := HL5.out
    have hsz4 := S4.out.1.size
    have hr5d := HR5D.out
    have hKr : K0 ≠ r5 := by omega
    have hXr : X ≠ r5 := by omega
    have hH6 : w6.cell? ⟨X, 19, none⟩ = some (.func (.func 86) #[] #[.pointer (some ⟨N, 0, none⟩)]) ∧ w6.cell? ⟨K0, 1, none⟩ = some (.int .i64 d) := ⟨(t6.cell (p := ⟨X, 19, none⟩) (by show X < _; omega) hXr).trans hHeld.1, (t6.cell (p := ⟨K0, 1, none⟩) (by show K0 < _; omega) hKr).trans hHeld.2⟩
    clear hb hn6 t6 hHeld hr5w hXw hX hsz hsz5 hl5 hsz4 hr5d hKr hXr
    refine hK.out _ _ hH6 (fun hHeld => ?_)
    clear hK K hH6
    refine wpAnyH_done (by kernel_rfl) ?_ _
    clear hHeld
    go_wp2_with fail
    go_end0
    have tW : Turn (fun j => j = N ∨ j = r) w w6 := by
      have t1 : Turn (fun j => j = N ∨ w.heap.size ≤ j) w w6 := ((S4.out.1.turn.trans (HK5.out.2.2.2.mono fun _ _ e => .inl e)).trans SE.out.turn).trans (H6.out.2.2.mono fun j _ e => .inr (by have := HK5.out.2.2.1; have e2 : j = r5 := e; omega))
      exact t1.mono fun j hj e => e.elim .inl fun e => by omega
    refine .inl ⟨?_, rfl, ⟨r5, _, H6.out.2.1, ?_, .inr HK5.out.2.2.1⟩, tW⟩
    · rw [HNE.out]
      have hd := (hasK_iff HH.out.kn d).1 (by rw [← keepL_len l V]; exact H6.out.1)
      exact ⟨HA.out, HK5.out.1, hd⟩
    · rw [HNX.out]
      have hnw := (HK5.out.2.1.keep SE.out (fun e => e) (fun e => e)).words
      have hk6 := HKN.out.1.keep H6.out.2.2 (fun b im R hb e => hnw b im R hb (.inr e))
      exact hk6.set (HKN.out.2.keep H6.out.2.2 (fun e => hnw _ _ _ HKN.out.2.1 (.inr e)))
end Go.Proofs.YtglalgjffkoneaaGreatDoor
/- create: a record. -/
namespace Go.Proofs.YtglalgjffkoneaaGreatDoor
set_option linter.unusedVariables false
set_option linter.unusedSimpArgs false
open Go.ChangeShapes Go.WideShapes Go.ChangeAt Go.RowKit
open Vf (K nth nth_nat tyAt atK isK numT oneT le beginK tsub RowK FitsK CalledK resT ObjK keepK KeepsK setK hasK)
set_option maxRecDepth 100000 in
set_option maxHeartbeats 8000000 in
theorem create_new (c : WkC) (hW : wholeB c.m = true) (x : M.Ins) (hop : x.op = 5) (w : World) (f : M.Fn) (g : FV) (fi bi ii : Int) (N r T Y : Nat) (l : List (Option Nat)) (k : K) (la : Option Addr) (ln lc : Nat) (ma : Option Addr) (mn mc : Nat) (va : Option Addr) (vn vc : Nat) (h : WkAt c w f g fi bi ii N r T Y l k) (hx : InsIs c.B w [.int .i64 5, .int .i64 x.d, .int .i64 x.a, .int .i64 x.b, .int .i64 x.c, .int .i64 x.n, .slice la ln lc, .slice ma mn mc, .slice va vn vc] x) :
    Calls Tryz.prog 93 #[.pointer (some ⟨c.X, 0, none⟩), .agg #[.int .i64 5, .int .i64 x.d, .int .i64 x.a, .int .i64 x.b, .int .i64 x.c, .int .i64 x.n, .slice la ln lc, .slice ma mn mc, .slice va vn vc]] w (StepR c f N r k x w) := by
  obtain ⟨op, d, a, b, cc, xn, L, Mw, V⟩ := x
  dsimp only at hop hx ⊢
  subst hop
  have HH := Lib.hid h
  have HWB := Lib.hid hW
  have HQ : Hid ((ln ≤ maxLen ∧ vn ≤ maxLen) ∧ (In64 a ∧ In64 b ∧ In64 cc) ∧ Ints c.B w la ln L ∧ Ints c.B w va vn V) := ⟨⟨hx.rows3.1.2, hx.rows3.2.2.2⟩, hx.a64, hx.rows3.1.1, hx.rows3.2.2.1⟩
  have HNE : Hid (Vf.Needs c.m f k ⟨5, d, a, b, cc, xn, L, Mw, V⟩ = ((∃ s, nth c.m.shapes a = some s ∧ s.kind = 1 ∧ RowK c.m k L s.fields) ∧ KeepsK k V ∧ hasK k d)) := by show _ = _; rfl
  have HNX : Hid (Vf.next c.m k ⟨5, d, a, b, cc, xn, L, Mw, V⟩ = setK (keepK k V) d (oneT a)) := by show _ = _; rfl
  have S1 : Hid (Still w (w.alloc (.cells #[.int .i64 5, .int .i64 d, .int .i64 a, .int .i64 b, .int .i64 cc, .int .i64 xn, .slice la ln lc, .slice ma mn mc, .slice va vn vc] 36)) ∧ Blk (w.alloc (.cells #[.int .i64 5, .int .i64 d, .int .i64 a, .int .i64 b, .int .i64 cc, .int .i64 xn, .slice la ln lc, .slice ma mn mc, .slice va vn vc] 36)) w.heap.size 36 #[.int .i64 5, .int .i64 d, .int .i64 a, .int .i64 b, .int .i64 cc, .int .i64 xn, .slice la ln lc, .slice ma mn mc, .slice va vn vc]) := ⟨(Still.refl w).alloc _, Blk.new w _ _⟩
  obtain ⟨X, hX⟩ : ∃ X, c.X = X := ⟨_, rfl⟩
  have HX := Lib.hid hX
  obtain ⟨c0, hc0⟩ : ∃ c0, c.c0 = c0 := ⟨_, rfl⟩
  have HC0 := Lib.hid hc0
  have x10 : w.cell? ⟨X, 10, none⟩ = some (.pointer (some ⟨c0, 0, none⟩)) := by rw [← hX, ← hc0]; exact h.box.cell 10
  have lX : X < w.heap.size := by rw [← hX]; exact h.box.lt
  rw [hX]
  clear h hx hX hc0 hW
  go_enter Tryz.func93, Tryz.ntmps93
  go_wp2_with fail
  generalize w.alloc (.cells #[.int .i64 5, .int .i64 d, .int .i64 a, .int .i64 b, .int .i64 cc, .int .i64 xn, .slice la ln lc, .slice ma mn mc, .slice va vn vc] 36) = w1 at S1 ⊢
  obtain ⟨K0, hK0⟩ : ∃ K0, w.heap.size = K0 := ⟨_, rfl⟩
  rw [hK0] at S1
  rw [hK0]
  have HK0 := Lib.hid hK0
  clear hK0
  have H1 := Lib.hid (HH.out.still S1.out.1)
  clear x10 lX
  obtain ⟨wA, hwA⟩ : ∃ wA, w1.drew = wA := ⟨_, rfl⟩
  have SA : Hid (Still w1 wA) := by rw [← hwA]; exact (Still.refl w1).drew
  have S2A : Hid (Still w wA ∧ Blk wA K0 36 #[.int .i64 5, .int .i64 d, .int .i64 a, .int .i64 b, .int .i64 cc, .int .i64 xn, .slice la ln lc, .slice ma mn mc, .slice va vn vc]) := ⟨S1.out.1.trans SA.out, SA.out.blk S1.out.2⟩
  have H2 := Lib.hid (H1.out.still SA.out)
  have hS : wA.cell? ⟨K0, 6, none⟩ = some (.slice la ln lc) ∧ wA.cell? ⟨K0, 2, none⟩ = some (.int .i64 a) := ⟨S2A.out.2.cell 6, S2A.out.2.cell 2⟩
  have HFD := Lib.hid (fields_any c H2.out a 1)
  rw [HX.out] at HFD
  refine wp_region_held_drew (S := fun W => W.cell? ⟨K0, 6, none⟩ = some (.slice la ln lc) ∧ W.cell? ⟨K0, 2, none⟩ = some (.int .i64 a)) (by kernel_rfl) (by rw [hwA]; exact hS) (fun hHeld => ?_)
  try simp only [Act.put, List.getElem_toArray, List.getElem_cons_succ, List.getElem_cons_zero, List.setIfInBounds_toArray, List.set_cons_zero, List.set_cons_succ]
  rw [hwA] at hHeld ⊢
  clear hwA hS
  refine wpAnyH_take (i := 0) (v := ?_) rfl (by kernel_rfl) (by kernel_rfl) (by kernel_rfl) (fun _ _ _ h => h) (Or.inl ⟨by rfl, ?_⟩) (by assumption) ?_
  rotate_left
  · intro w hSw; (try dsimp only at hSw); go_simp; try with_reducible rfl
  try simp only [Act.put, List.getElem_toArray, List.getElem_cons_succ, List.getElem_cons_zero, List.setIfInBounds_toArray, List.set_cons_zero, List.set_cons_succ]
  refine wpAnyH_take (i := 1) (v := ?_) rfl (by kernel_rfl) (by kernel_rfl) (by kernel_rfl) (fun _ _ _ h => h) (Or.inl ⟨by rfl, ?_⟩) (by assumption) ?_
  rotate_left
  · intro w hSw; (try dsimp only at hSw); go_simp; try with_reducible rfl
  try simp only [Act.put, List.getElem_toArray, List.getElem_cons_succ, List.getElem_cons_zero, List.setIfInBounds_toArray, List.set_cons_zero, List.set_cons_succ]
  refine wpAnyH_take (i := 2) (v := ?_) rfl (by kernel_rfl) (by kernel_rfl) (by kernel_rfl) (fun _ _ _ h => h) (Or.inl ⟨by rfl, ?_⟩) (by assumption) ?_
  rotate_left
  · intro w hSw; (try dsimp only at hSw); go_simp; try with_reducible rfl
  try simp only [Act.put, List.getElem_toArray, List.getElem_cons_succ, List.getElem_cons_zero, List.setIfInBounds_toArray, List.set_cons_zero, List.set_cons_succ]
  refine wpAnyH_take (i := 3) (v := ?_) rfl (by kernel_rfl) (by kernel_rfl) (by kernel_rfl) (fun _ _ _ h => h) (Or.inl ⟨by rfl, ?_⟩) (by assumption) ?_
  rotate_left
  · intro w hSw; (try dsimp only at hSw); go_simp; try with_reducible rfl
  try simp only [Act.put, List.getElem_toArray, List.getElem_cons_succ, List.getElem_cons_zero, List.setIfInBounds_toArray, List.set_cons_zero, List.set_cons_succ]
  refine wpAnyH_take (i := 4) (v := ?_) rfl (by kernel_rfl) (by kernel_rfl) (by kernel_rfl) (fun _ _ _ h => h) (Or.inl ⟨by rfl, ?_⟩) (by assumption) ?_
  rotate_left
  · intro w hSw; (try dsimp only at hSw); go_simp; try with_reducible rfl
  try simp only [Act.put, List.getElem_toArray, List.getElem_cons_succ, List.getElem_cons_zero, List.setIfInBounds_toArray, List.set_cons_zero, List.set_cons_succ]
  refine wpAnyH_take (i := 5) (v := ?_) rfl (by kernel_rfl) (by kernel_rfl) (by kernel_rfl) (fun _ _ _ h => h) (Or.inl ⟨by rfl, ?_⟩) (by assumption) ?_
  rotate_left
  · intro w hSw; (try dsimp only at hSw); go_simp; try with_reducible rfl
  try simp only [Act.put, List.getElem_toArray, List.getElem_cons_succ, List.getElem_cons_zero, List.setIfInBounds_toArray, List.set_cons_zero, List.set_cons_succ]
  refine wpAnyH_ready (rs := [6]) (by kernel_rfl) (by simp) ?_
  refine AllReadyH.cons rfl (fun K hK => ?_) AllReadyH.nil
  go_simp
  refine HFD.out.mono ?_; rintro e w2 ⟨hw2, ⟨s, fa, fk, fc, hsh, hkind, rfl, hfi, hfk⟩ | ⟨hno, rfl⟩⟩ <;> subst w2
  rotate_left
  · refine ⟨rfl, .inr ⟨fun e => ?_, rfl, S2A.out.1.turn⟩⟩
    rw [HNE.out] at e
    obtain ⟨⟨s, e1, e2, _⟩, _⟩ := e
    exact hno s e1 e2
  have HSA : Hid (nth c.m.shapes a = some s) := hsh
  have HKI := Lib.hid hkind
  have HRW := Lib.hid (row_any c H2.out (cc := lc) (cc2 := fc) (HQ.out.2.2.1.keep ((Still.below S2A.out.1).mono (by have := HH.out.rows.le; omega)) (by have := HH.out.rows.le; omega)) hfi (by have := H2.out.rows.le; omega) HQ.out.1.1 (whole_fields HWB.out s (by obtain ⟨j, _, hj⟩ := Vf.nth_some hsh; exact List.mem_of_getElem? hj)))
  rw [HX.out] at HRW
  clear hsh hkind hfi hfk
  refine hK.out _ _ hHeld (fun hHeld => ?_)
  clear hK K
  refine wpAnyH_ready (rs := [7]) (by kernel_rfl) (by simp) ?_
  refine AllReadyH.cons rfl (fun K hK => ?_) AllReadyH.nil
  go_simp
  refine HRW.out.mono ?_; rintro e w5 ⟨t5, ⟨hp, rfl⟩ | ⟨hp, rfl⟩⟩
  rotate_left
  · refine ⟨rfl, .inr ⟨fun e => ?_, rfl, (S2A.out.1.trans t5).turn⟩⟩
    rw [HNE.out] at e
    obtain ⟨⟨s', e1, _, e2⟩, _⟩ := e
    obtain rfl := Option.some.inj (HSA.out.symm.trans e1)
    exact hp e2
  have HP := Lib.hid hp
  have S2 : Hid (Still w w5 ∧ Blk w5 K0 36 #[.int .i64 5, .int .i64 d, .int .i64 a, .int .i64 b, .int .i64 cc, .int .i64 xn, .slice la ln lc, .slice ma mn mc, .slice va vn vc]) := ⟨S2A.out.1.trans t5, t5.blk S2A.out.2⟩
  clear hp t5 hHeld
  have hS5 : w5.cell? ⟨K0, 6, none⟩ = some (.slice la ln lc) ∧ w5.cell? ⟨K0, 2, none⟩ = some (.int .i64 a) := ⟨S2.out.2.cell 6, S2.out.2.cell 2⟩
  refine hK.out _ _ hS5 (fun hHeld => ?_)
  clear hK K
  refine wpAnyH_done (by kernel_rfl) ?_ _
  clear hHeld hS5
  obtain ⟨w2, hw2⟩ : ∃ w2, w5 = w2 := ⟨_, rfl⟩
  rw [hw2] at S2 ⊢
  clear hw2 H1 H2 SA S2A HFD HRW
  obtain ⟨q, hqa, hsq⟩ := Vf.nth_some HSA.out
  subst hqa
  have hql : q < c.m.shapes.length := (List.getElem?_eq_some_iff.1 hsq).1
  obtain ⟨mb, hmb⟩ : ∃ b, c.cs[q]? = some b := ⟨_, List.getElem?_eq_getElem (by have := HH.out.rows.lc; omega)⟩
  obtain ⟨r2, hr2⟩ : ∃ r2, c.r2 = r2 := ⟨_, rfl⟩
  obtain ⟨sn, hsn⟩ : ∃ sn, c.v.sn = sn := ⟨_, rfl⟩
  obtain ⟨ac, hac⟩ : ∃ ac, c.ac = ac := ⟨_, rfl⟩
  have hqi : (q : Int) < (sn : Int) := by have h1 := HH.out.rows.img.shapes.len; omega
  have HMB : Hid (c.cs[q]? = some mb) := hmb
  obtain ⟨wB, hwB⟩ : ∃ wB, w2.drew = wB := ⟨_, rfl⟩
  have SB : Hid (Still w2 wB) := by rw [← hwB]; exact (Still.refl w2).drew
  have S3 : Hid (Still w wB ∧ Blk wB K0 36 #[.int .i64 5, .int .i64 d, .int .i64 (q : Int), .int .i64 b, .int .i64 cc, .int .i64 xn, .slice la ln lc, .slice ma mn mc, .slice va vn vc]) := ⟨S2.out.1.trans SB.out, SB.out.blk S2.out.2⟩
  have H3 := Lib.hid (HH.out.still S3.out.1)
  have hS3 : wB.cell? ⟨X, 8, none⟩ = some (.slice (some ⟨r2, 0, none⟩) sn ac) ∧ wB.cell? ⟨K0, 2, none⟩ = some (.int .i64 (q : Int)) ∧ wB.cell? ⟨r2, q, none⟩ = some (.pointer (some ⟨mb, 0, none⟩)) := ⟨by rw [← HX.out, ← hr2, ← hsn, ← hac]; exact H3.out.box.cell 8, S3.out.2.cell 2, by rw [← hr2]; exact H3.out.rows.ra q mb hmb⟩
  clear hsq hql hmb hr2 hsn hac
  go_wp2_with fail
  refine wp_region_held_drew (S := fun W => W.cell? ⟨X, 8, none⟩ = some (.slice (some ⟨r2, 0, none⟩) sn ac) ∧ W.cell? ⟨K0, 2, none⟩ = some (.int .i64 (q : Int)) ∧ W.cell? ⟨r2, q, none⟩ = some (.pointer (some ⟨mb, 0, none⟩))) (by kernel_rfl) (by rw [hwB]; exact hS3) (fun hHeld => ?_)
  try simp only [Act.put, List.getElem_toArray, List.getElem_cons_succ, List.getElem_cons_zero, List.setIfInBounds_toArray, List.set_cons_zero, List.set_cons_succ]
  rw [hwB] at hHeld ⊢
  clear hwB hS3
  refine wpAnyH_take (i := 0) (v := ?_) rfl (by kernel_rfl) (by kernel_rfl) (by kernel_rfl) (fun _ _ _ h => h) (Or.inl ⟨by rfl, ?_⟩) (by assumption) ?_
  rotate_left
  · intro w hSw; (try dsimp only at hSw); go_simp; try with_reducible rfl
  try simp only [Act.put, List.getElem_toArray, List.getElem_cons_succ, List.getElem_cons_zero, List.setIfInBounds_toArray, List.set_cons_zero, List.set_cons_succ]
  refine wpAnyH_take (i := 1) (v := ?_) rfl (by kernel_rfl) (by kernel_rfl) (by kernel_rfl) (fun _ _ _ h => h) (Or.inl ⟨by rfl, ?_⟩) (by assumption) ?_
  rotate_left
  · intro w hSw; (try dsimp only at hSw); go_simp; try with_reducible rfl
  try simp only [Act.put, List.getElem_toArray, List.getElem_cons_succ, List.getElem_cons_zero, List.setIfInBounds_toArray, List.set_cons_zero, List.set_cons_succ]
  refine wpAnyH_take (i := 2) (v := ?_) rfl (by kernel_rfl) (by kernel_rfl) (by kernel_rfl) (fun _ _ _ h => h) (Or.inl ⟨by rfl, ?_⟩) (by assumption) ?_
  rotate_left
  · intro w hSw; (try dsimp only at hSw); go_simp; try with_reducible rfl
  try simp only [Act.put, List.getElem_toArray, List.getElem_cons_succ, List.getElem_cons_zero, List.setIfInBounds_toArray, List.set_cons_zero, List.set_cons_succ]
  refine wpAnyH_take (i := 3) (v := ?_) rfl (by kernel_rfl) (by kernel_rfl) (by kernel_rfl) (fun _ _ _ h => h) (Or.inl ⟨by rfl, ?_⟩) (by assumption) ?_
  rotate_left
  · intro w hSw; (try dsimp only at hSw); go_simp; try with_reducible rfl
  try simp only [Act.put, List.getElem_toArray, List.getElem_cons_succ, List.getElem_cons_zero, List.setIfInBounds_toArray, List.set_cons_zero, List.set_cons_succ]
  refine wpAnyH_take (i := 4) (v := ?_) rfl (by kernel_rfl) (by kernel_rfl) (by kernel_rfl) (fun _ _ _ h => h) (Or.inl ⟨by rfl, ?_⟩) (by assumption) ?_
  rotate_left
  · intro w hSw; (try dsimp only at hSw); go_simp; try with_reducible rfl
  try simp only [Act.put, List.getElem_toArray, List.getElem_cons_succ, List.getElem_cons_zero, List.setIfInBounds_toArray, List.set_cons_zero, List.set_cons_succ]
  refine wpAnyH_take (i := 5) (v := ?_) rfl (by kernel_rfl) (by kernel_rfl) (by kernel_rfl) (fun _ _ _ h => h) (Or.inl ⟨by rfl, ?_⟩) (by assumption) ?_
  rotate_left
  · intro w hSw; (try dsimp only at hSw); go_simp; try with_reducible rfl
  try simp only [Act.put, List.getElem_toArray, List.getElem_cons_succ, List.getElem_cons_zero, List.setIfInBounds_toArray, List.set_cons_zero, List.set_cons_succ]
  refine wpAnyH_take (i := 6) (v := ?_) rfl (by kernel_rfl) (by kernel_rfl) (by kernel_rfl) (fun _ _ _ h => h) (Or.inl ⟨by rfl, ?_⟩) (by assumption) ?_
  rotate_left
  · intro w hSw; (try dsimp only at hSw); go_simp; try with_reducible rfl
  try simp only [Act.put, List.getElem_toArray, List.getElem_cons_succ, List.getElem_cons_zero, List.setIfInBounds_toArray, List.set_cons_zero, List.set_cons_succ]
  refine wpAnyH_take (i := 7) (v := ?_) rfl (by kernel_rfl) (by kernel_rfl) (by kernel_rfl) (fun _ _ _ h => h) (Or.inl ⟨by rfl, ?_⟩) (by assumption) ?_
  rotate_left
  · intro w hSw; (try dsimp only at hSw); go_simp; try with_reducible rfl
  try simp only [Act.put, List.getElem_toArray, List.getElem_cons_succ, List.getElem_cons_zero, List.setIfInBounds_toArray, List.set_cons_zero, List.set_cons_succ]
  refine wpAnyH_take (i := 8) (v := ?_) rfl (by kernel_rfl) (by kernel_rfl) (by kernel_rfl) (fun _ _ _ h => h) (Or.inl ⟨by rfl, ?_⟩) (by assumption) ?_
  rotate_left
  · intro w hSw; (try dsimp only at hSw); go_simp; try with_reducible rfl
  try simp only [Act.put, List.getElem_toArray, List.getElem_cons_succ, List.getElem_cons_zero, List.setIfInBounds_toArray, List.set_cons_zero, List.set_cons_succ]
  refine wpAnyH_done (by kernel_rfl) ?_ _
  clear hHeld
  obtain ⟨w3, hw3⟩ : ∃ w3, wB = w3 := ⟨_, rfl⟩
  rw [hw3] at H3 S3 ⊢
  obtain ⟨tm, htm⟩ : ∃ tm, oneT (q : Int) = tm := ⟨_, rfl⟩
  have MB : Hid (TyK w3 mb tm) := by rw [← htm]; exact H3.out.rows.one HMB.out
  rw [htm] at HNX
  clear hw3 htm S1 S2 SB hqi
  obtain ⟨wD, hwD⟩ : ∃ wD, w3.drew = wD := ⟨_, rfl⟩
  have SD : Hid (Still w3 wD) := by rw [← hwD]; exact (Still.refl w3).drew
  have H4 := Lib.hid (H3.out.still SD.out)
  have S4 : Hid (Still w wD ∧ Blk wD K0 36 #[.int .i64 5, .int .i64 d, .int .i64 (q : Int), .int .i64 b, .int .i64 cc, .int .i64 xn, .slice la ln lc, .slice ma mn mc, .slice va vn vc]) := ⟨S3.out.1.trans SD.out, SD.out.blk S3.out.2⟩
  have hS0 : wD.cell? ⟨X, 21, none⟩ = some (.func (.func 88) #[] #[.pointer (some ⟨N, 0, none⟩), .pointer (some ⟨T, 0, none⟩)]) ∧ wD.cell? ⟨K0, 8, none⟩ = some (.slice va vn vc) := ⟨by rw [← HX.out]; exact H4.out.box.cell 21, S4.out.2.cell 8⟩
  have henter4 : ∀ (args : Array Value) (W : World), (callFunc 88 args).run Tryz.prog W = .ok (.enter 88 args) W := enters_of Tryz.func88 (by kernel_rfl) rfl
  have HKP := Lib.hid (keep_any (B := c.B) (c := vc) (n := vn) (live := V) H4.out.now H4.out.typed (HQ.out.2.2.2.keep ((Still.below S4.out.1).mono (by have := HH.out.rows.le; omega)) (by have := HH.out.rows.le; omega)) HQ.out.1.2 (by have h1 := H4.out.far; have h2 := H4.out.rows.le; omega) H4.out.ne.1 H4.out.ne.2.1)
  go_wp2_with fail
  refine wp_region_held_drew (S := fun W => W.cell? ⟨X, 21, none⟩ = some (.func (.func 88) #[] #[.pointer (some ⟨N, 0, none⟩), .pointer (some ⟨T, 0, none⟩)]) ∧ W.cell? ⟨K0, 8, none⟩ = some (.slice va vn vc)) (by kernel_rfl) (by rw [hwD]; exact hS0) (fun hHeld => ?_)
  try simp only [Act.put, List.getElem_toArray, List.getElem_cons_succ, List.getElem_cons_zero, List.setIfInBounds_toArray, List.set_cons_zero, List.set_cons_succ]
  rw [hwD] at hHeld ⊢
  clear hwD hS0
  refine wpAnyH_take (i := 0) (v := ?_) rfl (by kernel_rfl) (by kernel_rfl) (by kernel_rfl) (fun _ _ _ h => h) (Or.inl ⟨by rfl, ?_⟩) (by assumption) ?_
  rotate_left
  · intro w hSw; (try dsimp only at hSw); go_simp; try with_reducible rfl
  try simp only [Act.put, List.getElem_toArray, List.getElem_cons_succ, List.getElem_cons_zero, List.setIfInBounds_toArray, List.set_cons_zero, List.set_cons_succ]
  refine wpAnyH_take (i := 1) (v := ?_) rfl (by kernel_rfl) (by kernel_rfl) (by kernel_rfl) (fun _ _ _ h => h) (Or.inl ⟨by rfl, ?_⟩) (by assumption) ?_
  rotate_left
  · intro w hSw; (try dsimp only at hSw); go_simp; try with_reducible rfl
  try simp only [Act.put, List.getElem_toArray, List.getElem_cons_succ, List.getElem_cons_zero, List.setIfInBounds_toArray, List.set_cons_zero, List.set_cons_succ]
  refine wpAnyH_take (i := 2) (v := ?_) rfl (by kernel_rfl) (by kernel_rfl) (by kernel_rfl) (fun _ _ _ h => h) (Or.inl ⟨by rfl, ?_⟩) (by assumption) ?_
  rotate_left
  · intro w hSw; (try dsimp only at hSw); go_simp; try with_reducible rfl
  try simp only [Act.put, List.getElem_toArray, List.getElem_cons_succ, List.getElem_cons_zero, List.setIfInBounds_toArray, List.set_cons_zero, List.set_cons_succ]
  refine wpAnyH_take (i := 3) (v := ?_) rfl (by kernel_rfl) (by kernel_rfl) (by kernel_rfl) (fun _ _ _ h => h) (Or.inl ⟨by rfl, ?_⟩) (by assumption) ?_
  rotate_left
  · intro w hSw; (try dsimp only at hSw); go_simp; try with_reducible rfl
  try simp only [Act.put, List.getElem_toArray, List.getElem_cons_succ, List.getElem_cons_zero, List.setIfInBounds_toArray, List.set_cons_zero, List.set_cons_succ]
  refine wpAnyH_take (i := 4) (v := ?_) rfl (by kernel_rfl) (by kernel_rfl) (by kernel_rfl) (fun _ _ _ h => h) (Or.inl ⟨by rfl, ?_⟩) (by assumption) ?_
  rotate_left
  · intro w hSw; (try dsimp only at hSw); go_simp; try with_reducible rfl
  try simp only [Act.put, List.getElem_toArray, List.getElem_cons_succ, List.getElem_cons_zero, List.setIfInBounds_toArray, List.set_cons_zero, List.set_cons_succ]
  refine wpAnyH_take (i := 5) (v := ?_) rfl (by kernel_rfl) (by kernel_rfl) (by kernel_rfl) (fun _ _ _ h => h) (Or.inl ⟨by rfl, ?_⟩) (by assumption) ?_
  rotate_left
  · intro w hSw; (try dsimp only at hSw); go_simp; try with_reducible rfl
  try simp only [Act.put, List.getElem_toArray, List.getElem_cons_succ, List.getElem_cons_zero, List.setIfInBounds_toArray, List.set_cons_zero, List.set_cons_succ]
  refine wpAnyH_take (i := 6) (v := ?_) rfl (by kernel_rfl) (by kernel_rfl) (by kernel_rfl) (fun _ _ _ h => h) (Or.inl ⟨by rfl, ?_⟩) (by assumption) ?_
  rotate_left
  · intro w hSw; (try dsimp only at hSw); go_simp; try with_reducible rfl
  try simp only [Act.put, List.getElem_toArray, List.getElem_cons_succ, List.getElem_cons_zero, List.setIfInBounds_toArray, List.set_cons_zero, List.set_cons_succ]
  refine wpAnyH_ready (rs := [7]) (by kernel_rfl) (by simp) ?_
  refine AllReadyH.cons rfl (fun K hK => ?_) AllReadyH.nil
  go_simp
  refine HKP.out.mono ?_; rintro e w5 (⟨hk, rfl, ⟨r5, hn5, hr5⟩, t5⟩ | ⟨hk, rfl, t5⟩)
  rotate_left
  · refine ⟨rfl, .inr ⟨fun e => hk ?_, rfl, (S4.out.1.trans t5).turn⟩⟩
    rw [HNE.out] at e
    exact (keeps_iff H4.out.kn V).2 e.2.1
  have HK5 : Hid (KeepsK k V ∧ NowAt w5 N r5 (keepL l V) ∧ w.heap.size ≤ r5 ∧ Turn (fun j => j = N) wD w5) := ⟨(keeps_iff H4.out.kn V).1 hk, hn5, Nat.le_trans S4.out.1.size hr5, t5⟩
  have HR5D := Lib.hid hr5
  have hle := H4.out.rows.le
  have hfar := H4.out.far
  have hX := HX.out
  have hKw := HK0.out
  have lK := S4.out.2.lt
  have lX := H4.out.box.lt
  have hNlt := H4.out.now.box.lt
  have hNw := HH.out.now.box.lt
  have hKN : K0 ≠ N := by omega
  have hXN : X ≠ N := by omega
  have lX : X < wD.heap.size := by omega
  have hH5 : w5.cell? ⟨X, 21, none⟩ = some (.func (.func 88) #[] #[.pointer (some ⟨N, 0, none⟩), .pointer (some ⟨T, 0, none⟩)]) ∧ w5.cell? ⟨K0, 8, none⟩ = some (.slice va vn vc) := ⟨(t5.cell (p := ⟨X, 21, none⟩) lX hXN).trans hHeld.1, (t5.cell (p := ⟨K0, 8, none⟩) lK hKN).trans hHeld.2⟩
  have BX5 : w5.cell? ⟨X, 19, none⟩ = some (.func (.func 86) #[] #[.pointer (some ⟨N, 0, none⟩)]) := (t5.cell (p := ⟨X, 19, none⟩) lX hXN).trans (by rw [← hX]; exact H4.out.box.cell 19)
  have BK5 : w5.cell? ⟨K0, 1, none⟩ = some (.int .i64 d) := (t5.cell (p := ⟨K0, 1, none⟩) lK hKN).trans (S4.out.2.cell 1)
  have HC5 : Hid (w5.cell? ⟨X, 19, none⟩ = some (.func (.func 86) #[] #[.pointer (some ⟨N, 0, none⟩)]) ∧ w5.cell? ⟨K0, 1, none⟩ = some (.int .i64 d)) := ⟨BX5, BK5⟩
  have HL5 : Hid (X < wD.heap.size ∧ K0 < wD.heap.size) := ⟨lX, lK⟩
  clear hk hn5 hr5 t5 hHeld hle hfar hX hKw lK lX hNlt hNw hKN hXN BX5 BK5
  refine hK.out _ _ hH5 (fun hHeld => ?_)
  clear hK K hH5
  refine wpAnyH_done (by kernel_rfl) ?_ _
  clear hHeld
  obtain ⟨wE, hwE⟩ : ∃ wE, w5.drew = wE := ⟨_, rfl⟩
  have SE : Hid (Still w5 wE) := by rw [← hwE]; exact (Still.refl w5).drew
  have hS2 : wE.cell? ⟨X, 19, none⟩ = some (.func (.func 86) #[] #[.pointer (some ⟨N, 0, none⟩)]) ∧ wE.cell? ⟨K0, 1, none⟩ = some (.int .i64 d) := by rw [← hwE]; exact HC5.out
  have henter2 : ∀ (args : Array Value) (W : World), (callFunc 86 args).run Tryz.prog W = .ok (.enter 86 args) W := enters_of Tryz.func86 (by kernel_rfl) rfl
  have hNr5 : N ≠ r5 := by have h1 := HH.out.now.box.lt; have h2 := HK5.out.2.2.1; omega
  have HGV := Lib.hid (give_any (HK5.out.2.1.keep SE.out (fun e => e) (fun e => e)) hNr5 d (some mb))
  have HKN : Hid (Kn wE (keepL l V) (keepK k V) ∧ TyK wE mb tm) := by
    have hk4 := (H4.out.kn.keepL V).keep HK5.out.2.2.2 (fun b im R hb e => H4.out.now.words b im R hb (.inl e))
    have hm4 := ((MB.out.keep SD.out (fun e => e)).keep HK5.out.2.2.2 (fun e => H4.out.now.words _ _ _ (MB.out.keep SD.out (fun e => e)).1 (.inl e)))
    exact ⟨hk4.keep SE.out (fun _ _ _ _ e => e), hm4.keep SE.out (fun e => e)⟩
  clear hNr5
  go_wp2_with fail
  refine wp_region_held_drew (S := fun W => W.cell? ⟨X, 19, none⟩ = some (.func (.func 86) #[] #[.pointer (some ⟨N, 0, none⟩)]) ∧ W.cell? ⟨K0, 1, none⟩ = some (.int .i64 d)) (by kernel_rfl) (by rw [hwE]; exact hS2) (fun hHeld => ?_)
  try simp only [Act.put, List.getElem_toArray, List.getElem_cons_succ, List.getElem_cons_zero, List.setIfInBounds_toArray, List.set_cons_zero, List.set_cons_succ]
  rw [hwE] at hHeld ⊢
  clear hwE hS2
  refine wpAnyH_take (i := 0) (v := ?_) rfl (by kernel_rfl) (by kernel_rfl) (by kernel_rfl) (fun _ _ _ h => h) (Or.inl ⟨by rfl, ?_⟩) (by assumption) ?_
  rotate_left
  · intro w hSw; (try dsimp only at hSw); go_simp; try with_reducible rfl
  try simp only [Act.put, List.getElem_toArray, List.getElem_cons_succ, List.getElem_cons_zero, List.setIfInBounds_toArray, List.set_cons_zero, List.set_cons_succ]
  refine wpAnyH_take (i := 1) (v := ?_) rfl (by kernel_rfl) (by kernel_rfl) (by kernel_rfl) (fun _ _ _ h => h) (Or.inl ⟨by rfl, ?_⟩) (by assumption) ?_
  rotate_left
  · intro w hSw; (try dsimp only at hSw); go_simp; try with_reducible rfl
  try simp only [Act.put, List.getElem_toArray, List.getElem_cons_succ, List.getElem_cons_zero, List.setIfInBounds_toArray, List.set_cons_zero, List.set_cons_succ]
  refine wpAnyH_take (i := 2) (v := ?_) rfl (by kernel_rfl) (by kernel_rfl) (by kernel_rfl) (fun _ _ _ h => h) (Or.inl ⟨by rfl, ?_⟩) (by assumption) ?_
  rotate_left
  · intro w hSw; (try dsimp only at hSw); go_simp; try with_reducible rfl
  try simp only [Act.put, List.getElem_toArray, List.getElem_cons_succ, List.getElem_cons_zero, List.setIfInBounds_toArray, List.set_cons_zero, List.set_cons_succ]
  refine wpAnyH_take (i := 3) (v := ?_) rfl (by kernel_rfl) (by kernel_rfl) (by kernel_rfl) (fun _ _ _ h => h) (Or.inl ⟨by rfl, ?_⟩) (by assumption) ?_
  rotate_left
  · intro w hSw; (try dsimp only at hSw); go_simp; try with_reducible rfl
  try simp only [Act.put, List.getElem_toArray, List.getElem_cons_succ, List.getElem_cons_zero, List.setIfInBounds_toArray, List.set_cons_zero, List.set_cons_succ]
  refine wpAnyH_take (i := 4) (v := ?_) rfl (by kernel_rfl) (by kernel_rfl) (by kernel_rfl) (fun _ _ _ h => h) (Or.inl ⟨by rfl, ?_⟩) (by assumption) ?_
  rotate_left
  · intro w hSw; (try dsimp only at hSw); go_simp; try with_reducible rfl
  try simp only [Act.put, List.getElem_toArray, List.getElem_cons_succ, List.getElem_cons_zero, List.setIfInBounds_toArray, List.set_cons_zero, List.set_cons_succ]
  refine wpAnyH_take (i := 5) (v := ?_) rfl (by kernel_rfl) (by kernel_rfl) (by kernel_rfl) (fun _ _ _ h => h) (Or.inl ⟨by rfl, ?_⟩) (by assumption) ?_
  rotate_left
  · intro w hSw; (try dsimp only at hSw); go_simp; try with_reducible rfl
  try simp only [Act.put, List.getElem_toArray, List.getElem_cons_succ, List.getElem_cons_zero, List.setIfInBounds_toArray, List.set_cons_zero, List.set_cons_succ]
  refine wpAnyH_take (i := 6) (v := ?_) rfl (by kernel_rfl) (by kernel_rfl) (by kernel_rfl) (fun _ _ _ h => h) (Or.inl ⟨by rfl, ?_⟩) (by assumption) ?_
  rotate_left
  · intro w hSw; (try dsimp only at hSw); go_simp; try with_reducible rfl
  try simp only [Act.put, List.getElem_toArray, List.getElem_cons_succ, List.getElem_cons_zero, List.setIfInBounds_toArray, List.set_cons_zero, List.set_cons_succ]
  refine wpAnyH_take (i := 7) (v := ?_) rfl (by kernel_rfl) (by kernel_rfl) (by kernel_rfl) (fun _ _ _ h => h) (Or.inl ⟨by rfl, ?_⟩) (by assumption) ?_
  rotate_left
  · intro w hSw; (try dsimp only at hSw); go_simp; try with_reducible rfl
  try simp only [Act.put, List.getElem_toArray, List.getElem_cons_succ, List.getElem_cons_zero, List.setIfInBounds_toArray, List.set_cons_zero, List.set_cons_succ]
  refine wpAnyH_ready (rs := [8]) (by kernel_rfl) (by simp) ?_
  refine AllReadyH.cons rfl (fun K hK => ?_) AllReadyH.nil
  go_simp
  refine HGV.out.mono ?_; rintro e w6 (⟨hb, rfl, hn6, t6⟩ | ⟨hb, rfl, rfl⟩)
  rotate_left
  · refine ⟨rfl, .inr ⟨fun e => ?_, rfl, ((S4.out.1.turn.trans (HK5.out.2.2.2.mono fun _ _ e => .inl e)).trans SE.out.turn)⟩⟩
    rw [HNE.out] at e
    rw [keepL_len, (hasK_iff HH.out.kn d).2 e.2.2] at hb
    cases hb
  have H6 := Lib.hid (And.intro hb (And.intro hn6 t6))
  have hr5w := HK5.out.2.2.1
  have hXw := HH.out.box.lt
  have hX := HX.out
  have hsz := SE.out.size
  have hsz5 := HK5.out.2.2.2.size
  have hl5 := HL5.out
  have hsz4 := S4.out.1.size
  have hr5d := HR5D.out
  have hKr : K0 ≠ r5 := by omega
  have hXr : X ≠ r5 := by omega
  have hH6 : w6.cell? ⟨X, 19, none⟩ = some (.func (.func 86) #[] #[.pointer (some ⟨N, 0, none⟩)]) ∧ w6.cell? ⟨K0, 1, none⟩ = some (.int .i64 d) := ⟨(t6.cell (p := ⟨X, 19, none⟩) (by show X < _; omega) hXr).trans hHeld.1, (t6.cell (p := ⟨K0, 1, none⟩) (by show K0 < _; omega) hKr).trans hHeld.2⟩
  clear hb hn6 t6 hHeld hr5w hXw hX hsz hsz5 hl5 hsz4 hr5d hKr hXr
  refine hK.out _ _ hH6 (fun hHeld => ?_)
  clear hK K hH6
  refine wpAnyH_done (by kernel_rfl) ?_ _
  clear hHeld
  go_wp2_with fail
  go_end0
  have tW : Turn (fun j => j = N ∨ j = r) w w6 := by
    have t1 : Turn (fun j => j = N ∨ w.heap.size ≤ j) w w6 := ((S4.out.1.turn.trans (HK5.out.2.2.2.mono fun _ _ e => .inl e)).trans SE.out.turn).trans (H6.out.2.2.mono fun j _ e => .inr (by have := HK5.out.2.2.1; have e2 : j = r5 := e; omega))
    exact t1.mono fun j hj e => e.elim .inl fun e => by omega
  refine .inl ⟨?_, rfl, ⟨r5, _, H6.out.2.1, ?_, .inr HK5.out.2.2.1⟩, tW⟩
  · rw [HNE.out]
    have hd := (hasK_iff HH.out.kn d).1 (by rw [← keepL_len l V]; exact H6.out.1)
    exact ⟨⟨s, HSA.out, HKI.out, HP.out⟩, HK5.out.1, hd⟩
  · rw [HNX.out]
    have hnw := (HK5.out.2.1.keep SE.out (fun e => e) (fun e => e)).words
    have hk6 := HKN.out.1.keep H6.out.2.2 (fun b im R hb e => hnw b im R hb (.inr e))
    exact hk6.set (HKN.out.2.keep H6.out.2.2 (fun e => hnw _ _ _ HKN.out.2.1 (.inr e)))
end Go.Proofs.YtglalgjffkoneaaGreatDoor
/- create: an array. -/
namespace Go.Proofs.YtglalgjffkoneaaGreatDoor
set_option linter.unusedVariables false
set_option linter.unusedSimpArgs false
open Go.ChangeShapes Go.WideShapes Go.ChangeAt Go.RowKit
open Vf (K nth nth_nat tyAt atK isK numT oneT le beginK tsub RowK FitsK CalledK resT ObjK keepK KeepsK setK hasK)
set_option maxRecDepth 100000 in
set_option maxHeartbeats 8000000 in
theorem create_array (c : WkC) (hW : wholeB c.m = true) (x : M.Ins) (hop : x.op = 8) (w : World) (f : M.Fn) (g : FV) (fi bi ii : Int) (N r T Y : Nat) (l : List (Option Nat)) (k : K) (la : Option Addr) (ln lc : Nat) (ma : Option Addr) (mn mc : Nat) (va : Option Addr) (vn vc : Nat) (h : WkAt c w f g fi bi ii N r T Y l k) (hx : InsIs c.B w [.int .i64 8, .int .i64 x.d, .int .i64 x.a, .int .i64 x.b, .int .i64 x.c, .int .i64 x.n, .slice la ln lc, .slice ma mn mc, .slice va vn vc] x) :
    Calls Tryz.prog 93 #[.pointer (some ⟨c.X, 0, none⟩), .agg #[.int .i64 8, .int .i64 x.d, .int .i64 x.a, .int .i64 x.b, .int .i64 x.c, .int .i64 x.n, .slice la ln lc, .slice ma mn mc, .slice va vn vc]] w (StepR c f N r k x w) := by
  obtain ⟨op, d, a, b, cc, xn, L, Mw, V⟩ := x
  dsimp only at hop hx ⊢
  subst hop
  have HH := Lib.hid h
  have HWB := Lib.hid hW
  have HQ : Hid ((ln ≤ maxLen ∧ vn ≤ maxLen) ∧ (In64 a ∧ In64 b ∧ In64 cc) ∧ Ints c.B w la ln L ∧ Ints c.B w va vn V) := ⟨⟨hx.rows3.1.2, hx.rows3.2.2.2⟩, hx.a64, hx.rows3.1.1, hx.rows3.2.2.1⟩
  have HNE : Hid (Vf.Needs c.m f k ⟨8, d, a, b, cc, xn, L, Mw, V⟩ = (isK k b numT ∧ (∃ s, nth c.m.shapes a = some s ∧ s.kind = 2 ∧ RowK c.m k [cc] s.fields) ∧ KeepsK k V ∧ hasK k d)) := by show _ = _; rfl
  have HNX : Hid (Vf.next c.m k ⟨8, d, a, b, cc, xn, L, Mw, V⟩ = setK (keepK k V) d (oneT a)) := by show _ = _; rfl
  have S1 : Hid (Still w (w.alloc (.cells #[.int .i64 8, .int .i64 d, .int .i64 a, .int .i64 b, .int .i64 cc, .int .i64 xn, .slice la ln lc, .slice ma mn mc, .slice va vn vc] 36)) ∧ Blk (w.alloc (.cells #[.int .i64 8, .int .i64 d, .int .i64 a, .int .i64 b, .int .i64 cc, .int .i64 xn, .slice la ln lc, .slice ma mn mc, .slice va vn vc] 36)) w.heap.size 36 #[.int .i64 8, .int .i64 d, .int .i64 a, .int .i64 b, .int .i64 cc, .int .i64 xn, .slice la ln lc, .slice ma mn mc, .slice va vn vc]) := ⟨(Still.refl w).alloc _, Blk.new w _ _⟩
  obtain ⟨X, hX⟩ : ∃ X, c.X = X := ⟨_, rfl⟩
  have HX := Lib.hid hX
  obtain ⟨c0, hc0⟩ : ∃ c0, c.c0 = c0 := ⟨_, rfl⟩
  have HC0 := Lib.hid hc0
  have x10 : w.cell? ⟨X, 10, none⟩ = some (.pointer (some ⟨c0, 0, none⟩)) := by rw [← hX, ← hc0]; exact h.box.cell 10
  have lX : X < w.heap.size := by rw [← hX]; exact h.box.lt
  rw [hX]
  clear h hx hX hc0 hW
  go_enter Tryz.func93, Tryz.ntmps93
  go_wp2_with fail
  clear x10 lX
  have BW : Blk ((w.alloc (.cells #[.int .i64 8, .int .i64 d, .int .i64 a, .int .i64 b, .int .i64 cc, .int .i64 xn, .slice la ln lc, .slice ma mn mc, .slice va vn vc] 36)).alloc (.cells #[.int .i64 b] 3)) (w.heap.size + 1) 3 #[.int .i64 b] := by
    have h1 := Blk.new (w.alloc (.cells #[.int .i64 8, .int .i64 d, .int .i64 a, .int .i64 b, .int .i64 cc, .int .i64 xn, .slice la ln lc, .slice ma mn mc, .slice va vn vc] 36)) 3 #[.int .i64 b]
    rwa [show (w.alloc (.cells #[.int .i64 8, .int .i64 d, .int .i64 a, .int .i64 b, .int .i64 cc, .int .i64 xn, .slice la ln lc, .slice ma mn mc, .slice va vn vc] 36)).heap.size = w.heap.size + 1 by simp] at h1
  have S2 : Hid (Still w ((w.alloc (.cells #[.int .i64 8, .int .i64 d, .int .i64 a, .int .i64 b, .int .i64 cc, .int .i64 xn, .slice la ln lc, .slice ma mn mc, .slice va vn vc] 36)).alloc (.cells #[.int .i64 b] 3)) ∧ Blk ((w.alloc (.cells #[.int .i64 8, .int .i64 d, .int .i64 a, .int .i64 b, .int .i64 cc, .int .i64 xn, .slice la ln lc, .slice ma mn mc, .slice va vn vc] 36)).alloc (.cells #[.int .i64 b] 3)) w.heap.size 36 #[.int .i64 8, .int .i64 d, .int .i64 a, .int .i64 b, .int .i64 cc, .int .i64 xn, .slice la ln lc, .slice ma mn mc, .slice va vn vc]) := ⟨S1.out.1.alloc _, S1.out.2.alloc _⟩
  generalize (w.alloc (.cells #[.int .i64 8, .int .i64 d, .int .i64 a, .int .i64 b, .int .i64 cc, .int .i64 xn, .slice la ln lc, .slice ma mn mc, .slice va vn vc] 36)).alloc (.cells #[.int .i64 b] 3) = w1 at BW S2 ⊢
  clear S1
  obtain ⟨J, hJ⟩ : ∃ J, w.heap.size + 1 = J := ⟨_, rfl⟩
  rw [hJ] at BW
  rw [hJ]
  obtain ⟨K0, hK0⟩ : ∃ K0, w.heap.size = K0 := ⟨_, rfl⟩
  rw [hK0] at S2
  rw [hK0]
  have HK0 := Lib.hid hK0
  clear hK0 hJ
  have HNU := Lib.hid (numbers_any c (HH.out.still S2.out.1) (cc := 1) (ints_one BW HQ.out.2.1.2.1) (Nat.le_refl _) (by decide))
  rw [HX.out] at HNU
  clear BW
  refine HNU.out.mono ?_; rintro e w3 ⟨t3, ⟨hp, rfl⟩ | ⟨hp, rfl⟩⟩
  rotate_left
  · exact ⟨rfl, .inr ⟨fun e => hp (by
      rw [HNE.out] at e
      intro s hs
      rw [List.mem_singleton.1 hs]; exact e.1), rfl, (S2.out.1.trans t3).turn⟩⟩
  have HB : Hid (isK k b numT) := hp _ (by simp)
  have S1 : Hid (Still w w3 ∧ Blk w3 K0 36 #[.int .i64 8, .int .i64 d, .int .i64 a, .int .i64 b, .int .i64 cc, .int .i64 xn, .slice la ln lc, .slice ma mn mc, .slice va vn vc]) := ⟨S2.out.1.trans t3, t3.blk S2.out.2⟩
  clear hp t3 S2 HNU
  obtain ⟨wA, hwA⟩ : ∃ wA, w3.drew = wA := ⟨_, rfl⟩
  have SA : Hid (Still w3 wA) := by rw [← hwA]; exact (Still.refl w3).drew
  have S2A : Hid (Still w wA ∧ Blk wA K0 36 #[.int .i64 8, .int .i64 d, .int .i64 a, .int .i64 b, .int .i64 cc, .int .i64 xn, .slice la ln lc, .slice ma mn mc, .slice va vn vc]) := ⟨S1.out.1.trans SA.out, SA.out.blk S1.out.2⟩
  have hS : wA.cell? ⟨K0, 4, none⟩ = some (.int .i64 cc) ∧ wA.cell? ⟨K0, 2, none⟩ = some (.int .i64 a) := ⟨S2A.out.2.cell 4, S2A.out.2.cell 2⟩
  have HFD : Hid (∀ W, Still w W → Calls Tryz.prog 131 #[.pointer (some ⟨X, 0, none⟩), .int .i64 a, .int .i64 2] W (FieldsR c (fun s => s.kind = 2) a W)) := fun W t => by
    have := fields_any c (HH.out.still t) a 2
    rwa [HX.out] at this
  have HRW : Hid (∀ (W0 W : World) (s : M.Sh) (fa : Option Addr) (fk fc : Nat), Still w W0 → W0.alloc (.cells #[.int .i64 cc] 3) = W → nth c.m.shapes a = some s → Ints c.B W fa fk s.fields → Calls Tryz.prog 130 #[.pointer (some ⟨X, 0, none⟩), .slice (some ⟨W0.heap.size, 0, none⟩) 1 1, .slice fa fk fc] W (AskR (RowK c.m k [cc] s.fields) W)) := fun W0 W s fa fk fc t e hsh hfi => by
    subst e
    have tW := t.alloc (.cells #[.int .i64 cc] 3)
    have := row_any c (HH.out.still tW) (cc := 1) (cc2 := fc) (ints_one (Blk.new W0 3 #[.int .i64 cc]) HQ.out.2.1.2.2) (hfi.up (by have h1 := (HH.out.still tW).rows.le; omega)) (Nat.le_refl _) (by decide) (whole_fields HWB.out s (by obtain ⟨j, _, hj⟩ := Vf.nth_some hsh; exact List.mem_of_getElem? hj))
    rwa [HX.out] at this
  go_wp2_with fail
  refine wp_region_held_drew (S := fun W => W.cell? ⟨K0, 4, none⟩ = some (.int .i64 cc) ∧ W.cell? ⟨K0, 2, none⟩ = some (.int .i64 a)) (by kernel_rfl) (by rw [hwA]; exact hS) (fun hHeld => ?_)
  try simp only [Act.put, List.getElem_toArray, List.getElem_cons_succ, List.getElem_cons_zero, List.setIfInBounds_toArray, List.set_cons_zero, List.set_cons_succ]
  rw [hwA] at hHeld ⊢
  clear hwA hS
  refine wpAnyH_take (i := 0) (v := ?_) rfl (by kernel_rfl) (by kernel_rfl) (by kernel_rfl) (fun _ _ _ h => h) (Or.inl ⟨by rfl, ?_⟩) (by assumption) ?_
  rotate_left
  · intro w hSw; (try dsimp only at hSw); go_simp; try with_reducible rfl
  try simp only [Act.put, List.getElem_toArray, List.getElem_cons_succ, List.getElem_cons_zero, List.setIfInBounds_toArray, List.set_cons_zero, List.set_cons_succ]
  refine wpAnyH_take (i := 1) (v := ?_) rfl (by kernel_rfl) (by kernel_rfl) (by kernel_rfl) (fun _ _ _ h => h) (Or.inl ⟨by rfl, ?_⟩) (by assumption) ?_
  rotate_left
  · intro w hSw; (try dsimp only at hSw); go_simp; try with_reducible rfl
  try simp only [Act.put, List.getElem_toArray, List.getElem_cons_succ, List.getElem_cons_zero, List.setIfInBounds_toArray, List.set_cons_zero, List.set_cons_succ]
  refine wpAnyH_take (i := 2) (v := ?_) rfl (by kernel_rfl) (by kernel_rfl) (by kernel_rfl) (fun _ _ _ h => h) (Or.inl ⟨by rfl, ?_⟩) (by assumption) ?_
  rotate_left
  · intro w hSw; (try dsimp only at hSw); go_simp; try with_reducible rfl
  try simp only [Act.put, List.getElem_toArray, List.getElem_cons_succ, List.getElem_cons_zero, List.setIfInBounds_toArray, List.set_cons_zero, List.set_cons_succ]
  refine wpAnyH_take (i := 4) (v := ?_) rfl (by kernel_rfl) (by kernel_rfl) (by kernel_rfl) (fun _ _ _ h => h) (Or.inl ⟨by rfl, ?_⟩) (by assumption) ?_
  rotate_left
  · intro w hSw; (try dsimp only at hSw); go_simp; try with_reducible rfl
  try simp only [Act.put, List.getElem_toArray, List.getElem_cons_succ, List.getElem_cons_zero, List.setIfInBounds_toArray, List.set_cons_zero, List.set_cons_succ]
  refine wpAnyH_take (i := 5) (v := ?_) rfl (by kernel_rfl) (by kernel_rfl) (by kernel_rfl) (fun _ _ _ h => h) (Or.inl ⟨by rfl, ?_⟩) (by assumption) ?_
  rotate_left
  · intro w hSw; (try dsimp only at hSw); go_simp; try with_reducible rfl
  try simp only [Act.put, List.getElem_toArray, List.getElem_cons_succ, List.getElem_cons_zero, List.setIfInBounds_toArray, List.set_cons_zero, List.set_cons_succ]
  refine wpAnyH_take (i := 6) (v := ?_) rfl (by kernel_rfl) (by kernel_rfl) (by kernel_rfl) (fun _ _ _ h => h) (Or.inl ⟨by rfl, ?_⟩) (by assumption) ?_
  rotate_left
  · intro w hSw; (try dsimp only at hSw); go_simp; try with_reducible rfl
  try simp only [Act.put, List.getElem_toArray, List.getElem_cons_succ, List.getElem_cons_zero, List.setIfInBounds_toArray, List.set_cons_zero, List.set_cons_succ]
  refine wpAnyH_ready (rs := [3, 7]) (by kernel_rfl) (by simp) ?_
  refine AllReadyH.cons rfl (fun K hK => ?_) (AllReadyH.cons rfl (fun K hK => ?_) AllReadyH.nil)
  · go_simp
    have hSA : (wA.alloc (.cells #[.int .i64 cc] 3)).cell? ⟨K0, 4, none⟩ = some (.int .i64 cc) ∧ (wA.alloc (.cells #[.int .i64 cc] 3)).cell? ⟨K0, 2, none⟩ = some (.int .i64 a) := ⟨(((Still.refl wA).alloc _).cell (p := ⟨K0, 4, none⟩) S2A.out.2.lt).trans hHeld.1, (((Still.refl wA).alloc _).cell (p := ⟨K0, 2, none⟩) S2A.out.2.lt).trans hHeld.2⟩
    refine hK.out _ _ hSA (fun hHeld => ?_)
    clear hK K hSA
    refine wpAnyH_ready (rs := [7]) (by kernel_rfl) (by simp) ?_
    refine AllReadyH.cons rfl (fun K hK => ?_) AllReadyH.nil
    go_simp
    refine (HFD.out _ (S2A.out.1.alloc _)).mono ?_; rintro e w2 ⟨hw2, ⟨s, fa, fk, fc, hsh, hkind, rfl, hfi, hfk⟩ | ⟨hno, rfl⟩⟩ <;> subst w2
    rotate_left
    · refine ⟨rfl, .inr ⟨fun e => ?_, rfl, (S2A.out.1.alloc _).turn⟩⟩
      rw [HNE.out] at e
      obtain ⟨_, ⟨s, e1, e2, _⟩, _⟩ := e
      exact hno s e1 e2
    have HFI : Hid (Ints c.B (wA.alloc (.cells #[.int .i64 cc] 3)) fa fk s.fields) := hfi
    clear hfi hfk
    refine hK.out _ _ hHeld (fun hHeld => ?_)
    clear hK K
    have HSA : Hid (nth c.m.shapes a = some s) := hsh
    have HKI := Lib.hid hkind
    have HRW2 := HRW.out wA _ s fa fk fc S2A.out.1 rfl hsh HFI.out
    clear hsh hkind
    refine wpAnyH_ready (rs := [8]) (by kernel_rfl) (by simp) ?_
    refine AllReadyH.cons rfl (fun K hK => ?_) AllReadyH.nil
    go_simp
    refine HRW2.mono ?_; rintro e w5 ⟨t5, ⟨hp, rfl⟩ | ⟨hp, rfl⟩⟩
    rotate_left
    · refine ⟨rfl, .inr ⟨fun e => ?_, rfl, ((S2A.out.1.alloc _).trans t5).turn⟩⟩
      rw [HNE.out] at e
      obtain ⟨_, ⟨s', e1, _, e2⟩, _⟩ := e
      obtain rfl := Option.some.inj (HSA.out.symm.trans e1)
      exact hp e2
    have HP := Lib.hid hp
    have S2 : Hid (Still w w5 ∧ Blk w5 K0 36 #[.int .i64 8, .int .i64 d, .int .i64 a, .int .i64 b, .int .i64 cc, .int .i64 xn, .slice la ln lc, .slice ma mn mc, .slice va vn vc]) := ⟨(S2A.out.1.alloc _).trans t5, t5.blk (S2A.out.2.alloc _)⟩
    clear hp t5 hHeld
    have hS5 : w5.cell? ⟨K0, 4, none⟩ = some (.int .i64 cc) ∧ w5.cell? ⟨K0, 2, none⟩ = some (.int .i64 a) := ⟨S2.out.2.cell 4, S2.out.2.cell 2⟩
    refine hK.out _ _ hS5 (fun hHeld => ?_)
    clear hK K
    refine wpAnyH_done (by kernel_rfl) ?_ _
    clear hHeld hS5 HRW2
    obtain ⟨w2, hw2⟩ : ∃ w2, w5 = w2 := ⟨_, rfl⟩
    rw [hw2] at S2 ⊢
    clear hw2 SA S2A HFD HRW HFI
    obtain ⟨q, hqa, hsq⟩ := Vf.nth_some HSA.out
    subst hqa
    have hql : q < c.m.shapes.length := (List.getElem?_eq_some_iff.1 hsq).1
    obtain ⟨mb, hmb⟩ : ∃ b, c.cs[q]? = some b := ⟨_, List.getElem?_eq_getElem (by have := HH.out.rows.lc; omega)⟩
    obtain ⟨r2, hr2⟩ : ∃ r2, c.r2 = r2 := ⟨_, rfl⟩
    obtain ⟨sn, hsn⟩ : ∃ sn, c.v.sn = sn := ⟨_, rfl⟩
    obtain ⟨ac, hac⟩ : ∃ ac, c.ac = ac := ⟨_, rfl⟩
    have hqi : (q : Int) < (sn : Int) := by have h1 := HH.out.rows.img.shapes.len; omega
    have HMB : Hid (c.cs[q]? = some mb) := hmb
    obtain ⟨wB, hwB⟩ : ∃ wB, w2.drew = wB := ⟨_, rfl⟩
    have SB : Hid (Still w2 wB) := by rw [← hwB]; exact (Still.refl w2).drew
    have S3 : Hid (Still w wB ∧ Blk wB K0 36 #[.int .i64 8, .int .i64 d, .int .i64 (q : Int), .int .i64 b, .int .i64 cc, .int .i64 xn, .slice la ln lc, .slice ma mn mc, .slice va vn vc]) := ⟨S2.out.1.trans SB.out, SB.out.blk S2.out.2⟩
    have H3 := Lib.hid (HH.out.still S3.out.1)
    have hS3 : wB.cell? ⟨X, 8, none⟩ = some (.slice (some ⟨r2, 0, none⟩) sn ac) ∧ wB.cell? ⟨K0, 2, none⟩ = some (.int .i64 (q : Int)) ∧ wB.cell? ⟨r2, q, none⟩ = some (.pointer (some ⟨mb, 0, none⟩)) := ⟨by rw [← HX.out, ← hr2, ← hsn, ← hac]; exact H3.out.box.cell 8, S3.out.2.cell 2, by rw [← hr2]; exact H3.out.rows.ra q mb hmb⟩
    clear hsq hql hmb hr2 hsn hac
    go_wp2_with fail
    refine wp_region_held_drew (S := fun W => W.cell? ⟨X, 8, none⟩ = some (.slice (some ⟨r2, 0, none⟩) sn ac) ∧ W.cell? ⟨K0, 2, none⟩ = some (.int .i64 (q : Int)) ∧ W.cell? ⟨r2, q, none⟩ = some (.pointer (some ⟨mb, 0, none⟩))) (by kernel_rfl) (by rw [hwB]; exact hS3) (fun hHeld => ?_)
    try simp only [Act.put, List.getElem_toArray, List.getElem_cons_succ, List.getElem_cons_zero, List.setIfInBounds_toArray, List.set_cons_zero, List.set_cons_succ]
    rw [hwB] at hHeld ⊢
    clear hwB hS3
    refine wpAnyH_take (i := 0) (v := ?_) rfl (by kernel_rfl) (by kernel_rfl) (by kernel_rfl) (fun _ _ _ h => h) (Or.inl ⟨by rfl, ?_⟩) (by assumption) ?_
    rotate_left
    · intro w hSw; (try dsimp only at hSw); go_simp; try with_reducible rfl
    try simp only [Act.put, List.getElem_toArray, List.getElem_cons_succ, List.getElem_cons_zero, List.setIfInBounds_toArray, List.set_cons_zero, List.set_cons_succ]
    refine wpAnyH_take (i := 1) (v := ?_) rfl (by kernel_rfl) (by kernel_rfl) (by kernel_rfl) (fun _ _ _ h => h) (Or.inl ⟨by rfl, ?_⟩) (by assumption) ?_
    rotate_left
    · intro w hSw; (try dsimp only at hSw); go_simp; try with_reducible rfl
    try simp only [Act.put, List.getElem_toArray, List.getElem_cons_succ, List.getElem_cons_zero, List.setIfInBounds_toArray, List.set_cons_zero, List.set_cons_succ]
    refine wpAnyH_take (i := 2) (v := ?_) rfl (by kernel_rfl) (by kernel_rfl) (by kernel_rfl) (fun _ _ _ h => h) (Or.inl ⟨by rfl, ?_⟩) (by assumption) ?_
    rotate_left
    · intro w hSw; (try dsimp only at hSw); go_simp; try with_reducible rfl
    try simp only [Act.put, List.getElem_toArray, List.getElem_cons_succ, List.getElem_cons_zero, List.setIfInBounds_toArray, List.set_cons_zero, List.set_cons_succ]
    refine wpAnyH_take (i := 3) (v := ?_) rfl (by kernel_rfl) (by kernel_rfl) (by kernel_rfl) (fun _ _ _ h => h) (Or.inl ⟨by rfl, ?_⟩) (by assumption) ?_
    rotate_left
    · intro w hSw; (try dsimp only at hSw); go_simp; try with_reducible rfl
    try simp only [Act.put, List.getElem_toArray, List.getElem_cons_succ, List.getElem_cons_zero, List.setIfInBounds_toArray, List.set_cons_zero, List.set_cons_succ]
    refine wpAnyH_take (i := 4) (v := ?_) rfl (by kernel_rfl) (by kernel_rfl) (by kernel_rfl) (fun _ _ _ h => h) (Or.inl ⟨by rfl, ?_⟩) (by assumption) ?_
    rotate_left
    · intro w hSw; (try dsimp only at hSw); go_simp; try with_reducible rfl
    try simp only [Act.put, List.getElem_toArray, List.getElem_cons_succ, List.getElem_cons_zero, List.setIfInBounds_toArray, List.set_cons_zero, List.set_cons_succ]
    refine wpAnyH_take (i := 5) (v := ?_) rfl (by kernel_rfl) (by kernel_rfl) (by kernel_rfl) (fun _ _ _ h => h) (Or.inl ⟨by rfl, ?_⟩) (by assumption) ?_
    rotate_left
    · intro w hSw; (try dsimp only at hSw); go_simp; try with_reducible rfl
    try simp only [Act.put, List.getElem_toArray, List.getElem_cons_succ, List.getElem_cons_zero, List.setIfInBounds_toArray, List.set_cons_zero, List.set_cons_succ]
    refine wpAnyH_take (i := 6) (v := ?_) rfl (by kernel_rfl) (by kernel_rfl) (by kernel_rfl) (fun _ _ _ h => h) (Or.inl ⟨by rfl, ?_⟩) (by assumption) ?_
    rotate_left
    · intro w hSw; (try dsimp only at hSw); go_simp; try with_reducible rfl
    try simp only [Act.put, List.getElem_toArray, List.getElem_cons_succ, List.getElem_cons_zero, List.setIfInBounds_toArray, List.set_cons_zero, List.set_cons_succ]
    refine wpAnyH_take (i := 7) (v := ?_) rfl (by kernel_rfl) (by kernel_rfl) (by kernel_rfl) (fun _ _ _ h => h) (Or.inl ⟨by rfl, ?_⟩) (by assumption) ?_
    rotate_left
    · intro w hSw; (try dsimp only at hSw); go_simp; try with_reducible rfl
    try simp only [Act.put, List.getElem_toArray, List.getElem_cons_succ, List.getElem_cons_zero, List.setIfInBounds_toArray, List.set_cons_zero, List.set_cons_succ]
    refine wpAnyH_take (i := 8) (v := ?_) rfl (by kernel_rfl) (by kernel_rfl) (by kernel_rfl) (fun _ _ _ h => h) (Or.inl ⟨by rfl, ?_⟩) (by assumption) ?_
    rotate_left
    · intro w hSw; (try dsimp only at hSw); go_simp; try with_reducible rfl
    try simp only [Act.put, List.getElem_toArray, List.getElem_cons_succ, List.getElem_cons_zero, List.setIfInBounds_toArray, List.set_cons_zero, List.set_cons_succ]
    refine wpAnyH_done (by kernel_rfl) ?_ _
    clear hHeld
    obtain ⟨w3, hw3⟩ : ∃ w3, wB = w3 := ⟨_, rfl⟩
    rw [hw3] at H3 S3 ⊢
    obtain ⟨tm, htm⟩ : ∃ tm, oneT (q : Int) = tm := ⟨_, rfl⟩
    have MB : Hid (TyK w3 mb tm) := by rw [← htm]; exact H3.out.rows.one HMB.out
    rw [htm] at HNX
    clear hw3 htm S1 S2 SB hqi
    obtain ⟨wD, hwD⟩ : ∃ wD, w3.drew = wD := ⟨_, rfl⟩
    have SD : Hid (Still w3 wD) := by rw [← hwD]; exact (Still.refl w3).drew
    have H4 := Lib.hid (H3.out.still SD.out)
    have S4 : Hid (Still w wD ∧ Blk wD K0 36 #[.int .i64 8, .int .i64 d, .int .i64 (q : Int), .int .i64 b, .int .i64 cc, .int .i64 xn, .slice la ln lc, .slice ma mn mc, .slice va vn vc]) := ⟨S3.out.1.trans SD.out, SD.out.blk S3.out.2⟩
    have hS0 : wD.cell? ⟨X, 21, none⟩ = some (.func (.func 88) #[] #[.pointer (some ⟨N, 0, none⟩), .pointer (some ⟨T, 0, none⟩)]) ∧ wD.cell? ⟨K0, 8, none⟩ = some (.slice va vn vc) := ⟨by rw [← HX.out]; exact H4.out.box.cell 21, S4.out.2.cell 8⟩
    have henter4 : ∀ (args : Array Value) (W : World), (callFunc 88 args).run Tryz.prog W = .ok (.enter 88 args) W := enters_of Tryz.func88 (by kernel_rfl) rfl
    have HKP := Lib.hid (keep_any (B := c.B) (c := vc) (n := vn) (live := V) H4.out.now H4.out.typed (HQ.out.2.2.2.keep ((Still.below S4.out.1).mono (by have := HH.out.rows.le; omega)) (by have := HH.out.rows.le; omega)) HQ.out.1.2 (by have h1 := H4.out.far; have h2 := H4.out.rows.le; omega) H4.out.ne.1 H4.out.ne.2.1)
    go_wp2_with fail
    refine wp_region_held_drew (S := fun W => W.cell? ⟨X, 21, none⟩ = some (.func (.func 88) #[] #[.pointer (some ⟨N, 0, none⟩), .pointer (some ⟨T, 0, none⟩)]) ∧ W.cell? ⟨K0, 8, none⟩ = some (.slice va vn vc)) (by kernel_rfl) (by rw [hwD]; exact hS0) (fun hHeld => ?_)
    try simp only [Act.put, List.getElem_toArray, List.getElem_cons_succ, List.getElem_cons_zero, List.setIfInBounds_toArray, List.set_cons_zero, List.set_cons_succ]
    rw [hwD] at hHeld ⊢
    clear hwD hS0
    refine wpAnyH_take (i := 0) (v := ?_) rfl (by kernel_rfl) (by kernel_rfl) (by kernel_rfl) (fun _ _ _ h => h) (Or.inl ⟨by rfl, ?_⟩) (by assumption) ?_
    rotate_left
    · intro w hSw; (try dsimp only at hSw); go_simp; try with_reducible rfl
    try simp only [Act.put, List.getElem_toArray, List.getElem_cons_succ, List.getElem_cons_zero, List.setIfInBounds_toArray, List.set_cons_zero, List.set_cons_succ]
    refine wpAnyH_take (i := 1) (v := ?_) rfl (by kernel_rfl) (by kernel_rfl) (by kernel_rfl) (fun _ _ _ h => h) (Or.inl ⟨by rfl, ?_⟩) (by assumption) ?_
    rotate_left
    · intro w hSw; (try dsimp only at hSw); go_simp; try with_reducible rfl
    try simp only [Act.put, List.getElem_toArray, List.getElem_cons_succ, List.getElem_cons_zero, List.setIfInBounds_toArray, List.set_cons_zero, List.set_cons_succ]
    refine wpAnyH_take (i := 2) (v := ?_) rfl (by kernel_rfl) (by kernel_rfl) (by kernel_rfl) (fun _ _ _ h => h) (Or.inl ⟨by rfl, ?_⟩) (by assumption) ?_
    rotate_left
    · intro w hSw; (try dsimp only at hSw); go_simp; try with_reducible rfl
    try simp only [Act.put, List.getElem_toArray, List.getElem_cons_succ, List.getElem_cons_zero, List.setIfInBounds_toArray, List.set_cons_zero, List.set_cons_succ]
    refine wpAnyH_take (i := 3) (v := ?_) rfl (by kernel_rfl) (by kernel_rfl) (by kernel_rfl) (fun _ _ _ h => h) (Or.inl ⟨by rfl, ?_⟩) (by assumption) ?_
    rotate_left
    · intro w hSw; (try dsimp only at hSw); go_simp; try with_reducible rfl
    try simp only [Act.put, List.getElem_toArray, List.getElem_cons_succ, List.getElem_cons_zero, List.setIfInBounds_toArray, List.set_cons_zero, List.set_cons_succ]
    refine wpAnyH_take (i := 4) (v := ?_) rfl (by kernel_rfl) (by kernel_rfl) (by kernel_rfl) (fun _ _ _ h => h) (Or.inl ⟨by rfl, ?_⟩) (by assumption) ?_
    rotate_left
    · intro w hSw; (try dsimp only at hSw); go_simp; try with_reducible rfl
    try simp only [Act.put, List.getElem_toArray, List.getElem_cons_succ, List.getElem_cons_zero, List.setIfInBounds_toArray, List.set_cons_zero, List.set_cons_succ]
    refine wpAnyH_take (i := 5) (v := ?_) rfl (by kernel_rfl) (by kernel_rfl) (by kernel_rfl) (fun _ _ _ h => h) (Or.inl ⟨by rfl, ?_⟩) (by assumption) ?_
    rotate_left
    · intro w hSw; (try dsimp only at hSw); go_simp; try with_reducible rfl
    try simp only [Act.put, List.getElem_toArray, List.getElem_cons_succ, List.getElem_cons_zero, List.setIfInBounds_toArray, List.set_cons_zero, List.set_cons_succ]
    refine wpAnyH_take (i := 6) (v := ?_) rfl (by kernel_rfl) (by kernel_rfl) (by kernel_rfl) (fun _ _ _ h => h) (Or.inl ⟨by rfl, ?_⟩) (by assumption) ?_
    rotate_left
    · intro w hSw; (try dsimp only at hSw); go_simp; try with_reducible rfl
    try simp only [Act.put, List.getElem_toArray, List.getElem_cons_succ, List.getElem_cons_zero, List.setIfInBounds_toArray, List.set_cons_zero, List.set_cons_succ]
    refine wpAnyH_ready (rs := [7]) (by kernel_rfl) (by simp) ?_
    refine AllReadyH.cons rfl (fun K hK => ?_) AllReadyH.nil
    go_simp
    refine HKP.out.mono ?_; rintro e w5 (⟨hk, rfl, ⟨r5, hn5, hr5⟩, t5⟩ | ⟨hk, rfl, t5⟩)
    rotate_left
    · refine ⟨rfl, .inr ⟨fun e => hk ?_, rfl, (S4.out.1.trans t5).turn⟩⟩
      rw [HNE.out] at e
      exact (keeps_iff H4.out.kn V).2 e.2.2.1
    have HK5 : Hid (KeepsK k V ∧ NowAt w5 N r5 (keepL l V) ∧ w.heap.size ≤ r5 ∧ Turn (fun j => j = N) wD w5) := ⟨(keeps_iff H4.out.kn V).1 hk, hn5, Nat.le_trans S4.out.1.size hr5, t5⟩
    have HR5D := Lib.hid hr5
    have hle := H4.out.rows.le
    have hfar := H4.out.far
    have hX := HX.out
    have hKw := HK0.out
    have lK := S4.out.2.lt
    have lX := H4.out.box.lt
    have hNlt := H4.out.now.box.lt
    have hNw := HH.out.now.box.lt
    have hKN : K0 ≠ N := by omega
    have hXN : X ≠ N := by omega
    have lX : X < wD.heap.size := by omega
    have hH5 : w5.cell? ⟨X, 21, none⟩ = some (.func (.func 88) #[] #[.pointer (some ⟨N, 0, none⟩), .pointer (some ⟨T, 0, none⟩)]) ∧ w5.cell? ⟨K0, 8, none⟩ = some (.slice va vn vc) := ⟨(t5.cell (p := ⟨X, 21, none⟩) lX hXN).trans hHeld.1, (t5.cell (p := ⟨K0, 8, none⟩) lK hKN).trans hHeld.2⟩
    have BX5 : w5.cell? ⟨X, 19, none⟩ = some (.func (.func 86) #[] #[.pointer (some ⟨N, 0, none⟩)]) := (t5.cell (p := ⟨X, 19, none⟩) lX hXN).trans (by rw [← hX]; exact H4.out.box.cell 19)
    have BK5 : w5.cell? ⟨K0, 1, none⟩ = some (.int .i64 d) := (t5.cell (p := ⟨K0, 1, none⟩) lK hKN).trans (S4.out.2.cell 1)
    have HC5 : Hid (w5.cell? ⟨X, 19, none⟩ = some (.func (.func 86) #[] #[.pointer (some ⟨N, 0, none⟩)]) ∧ w5.cell? ⟨K0, 1, none⟩ = some (.int .i64 d)) := ⟨BX5, BK5⟩
    have HL5 : Hid (X < wD.heap.size ∧ K0 < wD.heap.size) := ⟨lX, lK⟩
    clear hk hn5 hr5 t5 hHeld hle hfar hX hKw lK lX hNlt hNw hKN hXN BX5 BK5
    refine hK.out _ _ hH5 (fun hHeld => ?_)
    clear hK K hH5
    refine wpAnyH_done (by kernel_rfl) ?_ _
    clear hHeld
    obtain ⟨wE, hwE⟩ : ∃ wE, w5.drew = wE := ⟨_, rfl⟩
    have SE : Hid (Still w5 wE) := by rw [← hwE]; exact (Still.refl w5).drew
    have hS2 : wE.cell? ⟨X, 19, none⟩ = some (.func (.func 86) #[] #[.pointer (some ⟨N, 0, none⟩)]) ∧ wE.cell? ⟨K0, 1, none⟩ = some (.int .i64 d) := by rw [← hwE]; exact HC5.out
    have henter2 : ∀ (args : Array Value) (W : World), (callFunc 86 args).run Tryz.prog W = .ok (.enter 86 args) W := enters_of Tryz.func86 (by kernel_rfl) rfl
    have hNr5 : N ≠ r5 := by have h1 := HH.out.now.box.lt; have h2 := HK5.out.2.2.1; omega
    have HGV := Lib.hid (give_any (HK5.out.2.1.keep SE.out (fun e => e) (fun e => e)) hNr5 d (some mb))
    have HKN : Hid (Kn wE (keepL l V) (keepK k V) ∧ TyK wE mb tm) := by
      have hk4 := (H4.out.kn.keepL V).keep HK5.out.2.2.2 (fun b im R hb e => H4.out.now.words b im R hb (.inl e))
      have hm4 := ((MB.out.keep SD.out (fun e => e)).keep HK5.out.2.2.2 (fun e => H4.out.now.words _ _ _ (MB.out.keep SD.out (fun e => e)).1 (.inl e)))
      exact ⟨hk4.keep SE.out (fun _ _ _ _ e => e), hm4.keep SE.out (fun e => e)⟩
    clear hNr5
    go_wp2_with fail
    refine wp_region_held_drew (S := fun W => W.cell? ⟨X, 19, none⟩ = some (.func (.func 86) #[] #[.pointer (some ⟨N, 0, none⟩)]) ∧ W.cell? ⟨K0, 1, none⟩ = some (.int .i64 d)) (by kernel_rfl) (by rw [hwE]; exact hS2) (fun hHeld => ?_)
    try simp only [Act.put, List.getElem_toArray, List.getElem_cons_succ, List.getElem_cons_zero, List.setIfInBounds_toArray, List.set_cons_zero, List.set_cons_succ]
    rw [hwE] at hHeld ⊢
    clear hwE hS2
    refine wpAnyH_take (i := 0) (v := ?_) rfl (by kernel_rfl) (by kernel_rfl) (by kernel_rfl) (fun _ _ _ h => h) (Or.inl ⟨by rfl, ?_⟩) (by assumption) ?_
    rotate_left
    · intro w hSw; (try dsimp only at hSw); go_simp; try with_reducible rfl
    try simp only [Act.put, List.getElem_toArray, List.getElem_cons_succ, List.getElem_cons_zero, List.setIfInBounds_toArray, List.set_cons_zero, List.set_cons_succ]
    refine wpAnyH_take (i := 1) (v := ?_) rfl (by kernel_rfl) (by kernel_rfl) (by kernel_rfl) (fun _ _ _ h => h) (Or.inl ⟨by rfl, ?_⟩) (by assumption) ?_
    rotate_left
    · intro w hSw; (try dsimp only at hSw); go_simp; try with_reducible rfl
    try simp only [Act.put, List.getElem_toArray, List.getElem_cons_succ, List.getElem_cons_zero, List.setIfInBounds_toArray, List.set_cons_zero, List.set_cons_succ]
    refine wpAnyH_take (i := 2) (v := ?_) rfl (by kernel_rfl) (by kernel_rfl) (by kernel_rfl) (fun _ _ _ h => h) (Or.inl ⟨by rfl, ?_⟩) (by assumption) ?_
    rotate_left
    · intro w hSw; (try dsimp only at hSw); go_simp; try with_reducible rfl
    try simp only [Act.put, List.getElem_toArray, List.getElem_cons_succ, List.getElem_cons_zero, List.setIfInBounds_toArray, List.set_cons_zero, List.set_cons_succ]
    refine wpAnyH_take (i := 3) (v := ?_) rfl (by kernel_rfl) (by kernel_rfl) (by kernel_rfl) (fun _ _ _ h => h) (Or.inl ⟨by rfl, ?_⟩) (by assumption) ?_
    rotate_left
    · intro w hSw; (try dsimp only at hSw); go_simp; try with_reducible rfl
    try simp only [Act.put, List.getElem_toArray, List.getElem_cons_succ, List.getElem_cons_zero, List.setIfInBounds_toArray, List.set_cons_zero, List.set_cons_succ]
    refine wpAnyH_take (i := 4) (v := ?_) rfl (by kernel_rfl) (by kernel_rfl) (by kernel_rfl) (fun _ _ _ h => h) (Or.inl ⟨by rfl, ?_⟩) (by assumption) ?_
    rotate_left
    · intro w hSw; (try dsimp only at hSw); go_simp; try with_reducible rfl
    try simp only [Act.put, List.getElem_toArray, List.getElem_cons_succ, List.getElem_cons_zero, List.setIfInBounds_toArray, List.set_cons_zero, List.set_cons_succ]
    refine wpAnyH_take (i := 5) (v := ?_) rfl (by kernel_rfl) (by kernel_rfl) (by kernel_rfl) (fun _ _ _ h => h) (Or.inl ⟨by rfl, ?_⟩) (by assumption) ?_
    rotate_left
    · intro w hSw; (try dsimp only at hSw); go_simp; try with_reducible rfl
    try simp only [Act.put, List.getElem_toArray, List.getElem_cons_succ, List.getElem_cons_zero, List.setIfInBounds_toArray, List.set_cons_zero, List.set_cons_succ]
    refine wpAnyH_take (i := 6) (v := ?_) rfl (by kernel_rfl) (by kernel_rfl) (by kernel_rfl) (fun _ _ _ h => h) (Or.inl ⟨by rfl, ?_⟩) (by assumption) ?_
    rotate_left
    · intro w hSw; (try dsimp only at hSw); go_simp; try with_reducible rfl
    try simp only [Act.put, List.getElem_toArray, List.getElem_cons_succ, List.getElem_cons_zero, List.setIfInBounds_toArray, List.set_cons_zero, List.set_cons_succ]
    refine wpAnyH_take (i := 7) (v := ?_) rfl (by kernel_rfl) (by kernel_rfl) (by kernel_rfl) (fun _ _ _ h => h) (Or.inl ⟨by rfl, ?_⟩) (by assumption) ?_
    rotate_left
    · intro w hSw; (try dsimp only at hSw); go_simp; try with_reducible rfl
    try simp only [Act.put, List.getElem_toArray, List.getElem_cons_succ, List.getElem_cons_zero, List.setIfInBounds_toArray, List.set_cons_zero, List.set_cons_succ]
    refine wpAnyH_ready (rs := [8]) (by kernel_rfl) (by simp) ?_
    refine AllReadyH.cons rfl (fun K hK => ?_) AllReadyH.nil
    go_simp
    refine HGV.out.mono ?_; rintro e w6 (⟨hb, rfl, hn6, t6⟩ | ⟨hb, rfl, rfl⟩)
    rotate_left
    · refine ⟨rfl, .inr ⟨fun e => ?_, rfl, ((S4.out.1.turn.trans (HK5.out.2.2.2.mono fun _ _ e => .inl e)).trans SE.out.turn)⟩⟩
      rw [HNE.out] at e
      rw [keepL_len, (hasK_iff HH.out.kn d).2 e.2.2.2] at hb
      cases hb
    have H6 := Lib.hid (And.intro hb (And.intro hn6 t6))
    have hr5w := HK5.out.2.2.1
    have hXw := HH.out.box.lt
    have hX := HX.out
    have hsz := SE.out.size
    have hsz5 := HK5.out.2.2.2.size
    have hl5 := HL5.out
    have hsz4 := S4.out.1.size
    have hr5d := HR5D.out
    have hKr : K0 ≠ r5 := by omega
    have hXr : X ≠ r5 := by omega
    have hH6 : w6.cell? ⟨X, 19, none⟩ = some (.func (.func 86) #[] #[.pointer (some ⟨N, 0, none⟩)]) ∧ w6.cell? ⟨K0, 1, none⟩ = some (.int .i64 d) := ⟨(t6.cell (p := ⟨X, 19, none⟩) (by show X < _; omega) hXr).trans hHeld.1, (t6.cell (p := ⟨K0, 1, none⟩) (by show K0 < _; omega) hKr).trans hHeld.2⟩
    clear hb hn6 t6 hHeld hr5w hXw hX hsz hsz5 hl5 hsz4 hr5d hKr hXr
    refine hK.out _ _ hH6 (fun hHeld => ?_)
    clear hK K hH6
    refine wpAnyH_done (by kernel_rfl) ?_ _
    clear hHeld
    go_wp2_with fail
    go_end0
    have tW : Turn (fun j => j = N ∨ j = r) w w6 := by
      have t1 : Turn (fun j => j = N ∨ w.heap.size ≤ j) w w6 := ((S4.out.1.turn.trans (HK5.out.2.2.2.mono fun _ _ e => .inl e)).trans SE.out.turn).trans (H6.out.2.2.mono fun j _ e => .inr (by have := HK5.out.2.2.1; have e2 : j = r5 := e; omega))
      exact t1.mono fun j hj e => e.elim .inl fun e => by omega
    refine .inl ⟨?_, rfl, ⟨r5, _, H6.out.2.1, ?_, .inr HK5.out.2.2.1⟩, tW⟩
    · rw [HNE.out]
      have hd := (hasK_iff HH.out.kn d).1 (by rw [← keepL_len l V]; exact H6.out.1)
      exact ⟨HB.out, ⟨s, HSA.out, HKI.out, HP.out⟩, HK5.out.1, hd⟩
    · rw [HNX.out]
      have hnw := (HK5.out.2.1.keep SE.out (fun e => e) (fun e => e)).words
      have hk6 := HKN.out.1.keep H6.out.2.2 (fun b im R hb e => hnw b im R hb (.inr e))
      exact hk6.set (HKN.out.2.keep H6.out.2.2 (fun e => hnw _ _ _ HKN.out.2.1 (.inr e)))
  · go_simp
    refine (HFD.out _ S2A.out.1).mono ?_; rintro e w2 ⟨hw2, ⟨s, fa, fk, fc, hsh, hkind, rfl, hfi, hfk⟩ | ⟨hno, rfl⟩⟩ <;> subst w2
    rotate_left
    · refine ⟨rfl, .inr ⟨fun e => ?_, rfl, S2A.out.1.turn⟩⟩
      rw [HNE.out] at e
      obtain ⟨_, ⟨s, e1, e2, _⟩, _⟩ := e
      exact hno s e1 e2
    have HFI : Hid (Ints c.B (wA.alloc (.cells #[.int .i64 cc] 3)) fa fk s.fields) := hfi.keep ((Still.below ((Still.refl _).alloc _)).mono (by have h1 := (HH.out.still S2A.out.1).rows.le; omega)) (by have h1 := (HH.out.still S2A.out.1).rows.le; omega)
    clear hfi hfk
    refine hK.out _ _ hHeld (fun hHeld => ?_)
    clear hK K
    refine wpAnyH_ready (rs := [3]) (by kernel_rfl) (by simp) ?_
    refine AllReadyH.cons rfl (fun K hK => ?_) AllReadyH.nil
    go_simp
    have hSA : (wA.alloc (.cells #[.int .i64 cc] 3)).cell? ⟨K0, 4, none⟩ = some (.int .i64 cc) ∧ (wA.alloc (.cells #[.int .i64 cc] 3)).cell? ⟨K0, 2, none⟩ = some (.int .i64 a) := ⟨(((Still.refl wA).alloc _).cell (p := ⟨K0, 4, none⟩) S2A.out.2.lt).trans hHeld.1, (((Still.refl wA).alloc _).cell (p := ⟨K0, 2, none⟩) S2A.out.2.lt).trans hHeld.2⟩
    refine hK.out _ _ hSA (fun hHeld => ?_)
    clear hK K hSA
    have HSA : Hid (nth c.m.shapes a = some s) := hsh
    have HKI := Lib.hid hkind
    have HRW2 := HRW.out wA _ s fa fk fc S2A.out.1 rfl hsh HFI.out
    clear hsh hkind
    refine wpAnyH_ready (rs := [8]) (by kernel_rfl) (by simp) ?_
    refine AllReadyH.cons rfl (fun K hK => ?_) AllReadyH.nil
    go_simp
    refine HRW2.mono ?_; rintro e w5 ⟨t5, ⟨hp, rfl⟩ | ⟨hp, rfl⟩⟩
    rotate_left
    · refine ⟨rfl, .inr ⟨fun e => ?_, rfl, ((S2A.out.1.alloc _).trans t5).turn⟩⟩
      rw [HNE.out] at e
      obtain ⟨_, ⟨s', e1, _, e2⟩, _⟩ := e
      obtain rfl := Option.some.inj (HSA.out.symm.trans e1)
      exact hp e2
    have HP := Lib.hid hp
    have S2 : Hid (Still w w5 ∧ Blk w5 K0 36 #[.int .i64 8, .int .i64 d, .int .i64 a, .int .i64 b, .int .i64 cc, .int .i64 xn, .slice la ln lc, .slice ma mn mc, .slice va vn vc]) := ⟨(S2A.out.1.alloc _).trans t5, t5.blk (S2A.out.2.alloc _)⟩
    clear hp t5 hHeld
    have hS5 : w5.cell? ⟨K0, 4, none⟩ = some (.int .i64 cc) ∧ w5.cell? ⟨K0, 2, none⟩ = some (.int .i64 a) := ⟨S2.out.2.cell 4, S2.out.2.cell 2⟩
    refine hK.out _ _ hS5 (fun hHeld => ?_)
    clear hK K
    refine wpAnyH_done (by kernel_rfl) ?_ _
    clear hHeld hS5 HRW2
    obtain ⟨w2, hw2⟩ : ∃ w2, w5 = w2 := ⟨_, rfl⟩
    rw [hw2] at S2 ⊢
    clear hw2 SA S2A HFD HRW HFI
    obtain ⟨q, hqa, hsq⟩ := Vf.nth_some HSA.out
    subst hqa
    have hql : q < c.m.shapes.length := (List.getElem?_eq_some_iff.1 hsq).1
    obtain ⟨mb, hmb⟩ : ∃ b, c.cs[q]? = some b := ⟨_, List.getElem?_eq_getElem (by have := HH.out.rows.lc; omega)⟩
    obtain ⟨r2, hr2⟩ : ∃ r2, c.r2 = r2 := ⟨_, rfl⟩
    obtain ⟨sn, hsn⟩ : ∃ sn, c.v.sn = sn := ⟨_, rfl⟩
    obtain ⟨ac, hac⟩ : ∃ ac, c.ac = ac := ⟨_, rfl⟩
    have hqi : (q : Int) < (sn : Int) := by have h1 := HH.out.rows.img.shapes.len; omega
    have HMB : Hid (c.cs[q]? = some mb) := hmb
    obtain ⟨wB, hwB⟩ : ∃ wB, w2.drew = wB := ⟨_, rfl⟩
    have SB : Hid (Still w2 wB) := by rw [← hwB]; exact (Still.refl w2).drew
    have S3 : Hid (Still w wB ∧ Blk wB K0 36 #[.int .i64 8, .int .i64 d, .int .i64 (q : Int), .int .i64 b, .int .i64 cc, .int .i64 xn, .slice la ln lc, .slice ma mn mc, .slice va vn vc]) := ⟨S2.out.1.trans SB.out, SB.out.blk S2.out.2⟩
    have H3 := Lib.hid (HH.out.still S3.out.1)
    have hS3 : wB.cell? ⟨X, 8, none⟩ = some (.slice (some ⟨r2, 0, none⟩) sn ac) ∧ wB.cell? ⟨K0, 2, none⟩ = some (.int .i64 (q : Int)) ∧ wB.cell? ⟨r2, q, none⟩ = some (.pointer (some ⟨mb, 0, none⟩)) := ⟨by rw [← HX.out, ← hr2, ← hsn, ← hac]; exact H3.out.box.cell 8, S3.out.2.cell 2, by rw [← hr2]; exact H3.out.rows.ra q mb hmb⟩
    clear hsq hql hmb hr2 hsn hac
    go_wp2_with fail
    refine wp_region_held_drew (S := fun W => W.cell? ⟨X, 8, none⟩ = some (.slice (some ⟨r2, 0, none⟩) sn ac) ∧ W.cell? ⟨K0, 2, none⟩ = some (.int .i64 (q : Int)) ∧ W.cell? ⟨r2, q, none⟩ = some (.pointer (some ⟨mb, 0, none⟩))) (by kernel_rfl) (by rw [hwB]; exact hS3) (fun hHeld => ?_)
    try simp only [Act.put, List.getElem_toArray, List.getElem_cons_succ, List.getElem_cons_zero, List.setIfInBounds_toArray, List.set_cons_zero, List.set_cons_succ]
    rw [hwB] at hHeld ⊢
    clear hwB hS3
    refine wpAnyH_take (i := 0) (v := ?_) rfl (by kernel_rfl) (by kernel_rfl) (by kernel_rfl) (fun _ _ _ h => h) (Or.inl ⟨by rfl, ?_⟩) (by assumption) ?_
    rotate_left
    · intro w hSw; (try dsimp only at hSw); go_simp; try with_reducible rfl
    try simp only [Act.put, List.getElem_toArray, List.getElem_cons_succ, List.getElem_cons_zero, List.setIfInBounds_toArray, List.set_cons_zero, List.set_cons_succ]
    refine wpAnyH_take (i := 1) (v := ?_) rfl (by kernel_rfl) (by kernel_rfl) (by kernel_rfl) (fun _ _ _ h => h) (Or.inl ⟨by rfl, ?_⟩) (by assumption) ?_
    rotate_left
    · intro w hSw; (try dsimp only at hSw); go_simp; try with_reducible rfl
    try simp only [Act.put, List.getElem_toArray, List.getElem_cons_succ, List.getElem_cons_zero, List.setIfInBounds_toArray, List.set_cons_zero, List.set_cons_succ]
    refine wpAnyH_take (i := 2) (v := ?_) rfl (by kernel_rfl) (by kernel_rfl) (by kernel_rfl) (fun _ _ _ h => h) (Or.inl ⟨by rfl, ?_⟩) (by assumption) ?_
    rotate_left
    · intro w hSw; (try dsimp only at hSw); go_simp; try with_reducible rfl
    try simp only [Act.put, List.getElem_toArray, List.getElem_cons_succ, List.getElem_cons_zero, List.setIfInBounds_toArray, List.set_cons_zero, List.set_cons_succ]
    refine wpAnyH_take (i := 3) (v := ?_) rfl (by kernel_rfl) (by kernel_rfl) (by kernel_rfl) (fun _ _ _ h => h) (Or.inl ⟨by rfl, ?_⟩) (by assumption) ?_
    rotate_left
    · intro w hSw; (try dsimp only at hSw); go_simp; try with_reducible rfl
    try simp only [Act.put, List.getElem_toArray, List.getElem_cons_succ, List.getElem_cons_zero, List.setIfInBounds_toArray, List.set_cons_zero, List.set_cons_succ]
    refine wpAnyH_take (i := 4) (v := ?_) rfl (by kernel_rfl) (by kernel_rfl) (by kernel_rfl) (fun _ _ _ h => h) (Or.inl ⟨by rfl, ?_⟩) (by assumption) ?_
    rotate_left
    · intro w hSw; (try dsimp only at hSw); go_simp; try with_reducible rfl
    try simp only [Act.put, List.getElem_toArray, List.getElem_cons_succ, List.getElem_cons_zero, List.setIfInBounds_toArray, List.set_cons_zero, List.set_cons_succ]
    refine wpAnyH_take (i := 5) (v := ?_) rfl (by kernel_rfl) (by kernel_rfl) (by kernel_rfl) (fun _ _ _ h => h) (Or.inl ⟨by rfl, ?_⟩) (by assumption) ?_
    rotate_left
    · intro w hSw; (try dsimp only at hSw); go_simp; try with_reducible rfl
    try simp only [Act.put, List.getElem_toArray, List.getElem_cons_succ, List.getElem_cons_zero, List.setIfInBounds_toArray, List.set_cons_zero, List.set_cons_succ]
    refine wpAnyH_take (i := 6) (v := ?_) rfl (by kernel_rfl) (by kernel_rfl) (by kernel_rfl) (fun _ _ _ h => h) (Or.inl ⟨by rfl, ?_⟩) (by assumption) ?_
    rotate_left
    · intro w hSw; (try dsimp only at hSw); go_simp; try with_reducible rfl
    try simp only [Act.put, List.getElem_toArray, List.getElem_cons_succ, List.getElem_cons_zero, List.setIfInBounds_toArray, List.set_cons_zero, List.set_cons_succ]
    refine wpAnyH_take (i := 7) (v := ?_) rfl (by kernel_rfl) (by kernel_rfl) (by kernel_rfl) (fun _ _ _ h => h) (Or.inl ⟨by rfl, ?_⟩) (by assumption) ?_
    rotate_left
    · intro w hSw; (try dsimp only at hSw); go_simp; try with_reducible rfl
    try simp only [Act.put, List.getElem_toArray, List.getElem_cons_succ, List.getElem_cons_zero, List.setIfInBounds_toArray, List.set_cons_zero, List.set_cons_succ]
    refine wpAnyH_take (i := 8) (v := ?_) rfl (by kernel_rfl) (by kernel_rfl) (by kernel_rfl) (fun _ _ _ h => h) (Or.inl ⟨by rfl, ?_⟩) (by assumption) ?_
    rotate_left
    · intro w hSw; (try dsimp only at hSw); go_simp; try with_reducible rfl
    try simp only [Act.put, List.getElem_toArray, List.getElem_cons_succ, List.getElem_cons_zero, List.setIfInBounds_toArray, List.set_cons_zero, List.set_cons_succ]
    refine wpAnyH_done (by kernel_rfl) ?_ _
    clear hHeld
    obtain ⟨w3, hw3⟩ : ∃ w3, wB = w3 := ⟨_, rfl⟩
    rw [hw3] at H3 S3 ⊢
    obtain ⟨tm, htm⟩ : ∃ tm, oneT (q : Int) = tm := ⟨_, rfl⟩
    have MB : Hid (TyK w3 mb tm) := by rw [← htm]; exact H3.out.rows.one HMB.out
    rw [htm] at HNX
    clear hw3 htm S1 S2 SB hqi
    obtain ⟨wD, hwD⟩ : ∃ wD, w3.drew = wD := ⟨_, rfl⟩
    have SD : Hid (Still w3 wD) := by rw [← hwD]; exact (Still.refl w3).drew
    have H4 := Lib.hid (H3.out.still SD.out)
    have S4 : Hid (Still w wD ∧ Blk wD K0 36 #[.int .i64 8, .int .i64 d, .int .i64 (q : Int), .int .i64 b, .int .i64 cc, .int .i64 xn, .slice la ln lc, .slice ma mn mc, .slice va vn vc]) := ⟨S3.out.1.trans SD.out, SD.out.blk S3.out.2⟩
    have hS0 : wD.cell? ⟨X, 21, none⟩ = some (.func (.func 88) #[] #[.pointer (some ⟨N, 0, none⟩), .pointer (some ⟨T, 0, none⟩)]) ∧ wD.cell? ⟨K0, 8, none⟩ = some (.slice va vn vc) := ⟨by rw [← HX.out]; exact H4.out.box.cell 21, S4.out.2.cell 8⟩
    have henter4 : ∀ (args : Array Value) (W : World), (callFunc 88 args).run Tryz.prog W = .ok (.enter 88 args) W := enters_of Tryz.func88 (by kernel_rfl) rfl
    have HKP := Lib.hid (keep_any (B := c.B) (c := vc) (n := vn) (live := V) H4.out.now H4.out.typed (HQ.out.2.2.2.keep ((Still.below S4.out.1).mono (by have := HH.out.rows.le; omega)) (by have := HH.out.rows.le; omega)) HQ.out.1.2 (by have h1 := H4.out.far; have h2 := H4.out.rows.le; omega) H4.out.ne.1 H4.out.ne.2.1)
    go_wp2_with fail
    refine wp_region_held_drew (S := fun W => W.cell? ⟨X, 21, none⟩ = some (.func (.func 88) #[] #[.pointer (some ⟨N, 0, none⟩), .pointer (some ⟨T, 0, none⟩)]) ∧ W.cell? ⟨K0, 8, none⟩ = some (.slice va vn vc)) (by kernel_rfl) (by rw [hwD]; exact hS0) (fun hHeld => ?_)
    try simp only [Act.put, List.getElem_toArray, List.getElem_cons_succ, List.getElem_cons_zero, List.setIfInBounds_toArray, List.set_cons_zero, List.set_cons_succ]
    rw [hwD] at hHeld ⊢
    clear hwD hS0
    refine wpAnyH_take (i := 0) (v := ?_) rfl (by kernel_rfl) (by kernel_rfl) (by kernel_rfl) (fun _ _ _ h => h) (Or.inl ⟨by rfl, ?_⟩) (by assumption) ?_
    rotate_left
    · intro w hSw; (try dsimp only at hSw); go_simp; try with_reducible rfl
    try simp only [Act.put, List.getElem_toArray, List.getElem_cons_succ, List.getElem_cons_zero, List.setIfInBounds_toArray, List.set_cons_zero, List.set_cons_succ]
    refine wpAnyH_take (i := 1) (v := ?_) rfl (by kernel_rfl) (by kernel_rfl) (by kernel_rfl) (fun _ _ _ h => h) (Or.inl ⟨by rfl, ?_⟩) (by assumption) ?_
    rotate_left
    · intro w hSw; (try dsimp only at hSw); go_simp; try with_reducible rfl
    try simp only [Act.put, List.getElem_toArray, List.getElem_cons_succ, List.getElem_cons_zero, List.setIfInBounds_toArray, List.set_cons_zero, List.set_cons_succ]
    refine wpAnyH_take (i := 2) (v := ?_) rfl (by kernel_rfl) (by kernel_rfl) (by kernel_rfl) (fun _ _ _ h => h) (Or.inl ⟨by rfl, ?_⟩) (by assumption) ?_
    rotate_left
    · intro w hSw; (try dsimp only at hSw); go_simp; try with_reducible rfl
    try simp only [Act.put, List.getElem_toArray, List.getElem_cons_succ, List.getElem_cons_zero, List.setIfInBounds_toArray, List.set_cons_zero, List.set_cons_succ]
    refine wpAnyH_take (i := 3) (v := ?_) rfl (by kernel_rfl) (by kernel_rfl) (by kernel_rfl) (fun _ _ _ h => h) (Or.inl ⟨by rfl, ?_⟩) (by assumption) ?_
    rotate_left
    · intro w hSw; (try dsimp only at hSw); go_simp; try with_reducible rfl
    try simp only [Act.put, List.getElem_toArray, List.getElem_cons_succ, List.getElem_cons_zero, List.setIfInBounds_toArray, List.set_cons_zero, List.set_cons_succ]
    refine wpAnyH_take (i := 4) (v := ?_) rfl (by kernel_rfl) (by kernel_rfl) (by kernel_rfl) (fun _ _ _ h => h) (Or.inl ⟨by rfl, ?_⟩) (by assumption) ?_
    rotate_left
    · intro w hSw; (try dsimp only at hSw); go_simp; try with_reducible rfl
    try simp only [Act.put, List.getElem_toArray, List.getElem_cons_succ, List.getElem_cons_zero, List.setIfInBounds_toArray, List.set_cons_zero, List.set_cons_succ]
    refine wpAnyH_take (i := 5) (v := ?_) rfl (by kernel_rfl) (by kernel_rfl) (by kernel_rfl) (fun _ _ _ h => h) (Or.inl ⟨by rfl, ?_⟩) (by assumption) ?_
    rotate_left
    · intro w hSw; (try dsimp only at hSw); go_simp; try with_reducible rfl
    try simp only [Act.put, List.getElem_toArray, List.getElem_cons_succ, List.getElem_cons_zero, List.setIfInBounds_toArray, List.set_cons_zero, List.set_cons_succ]
    refine wpAnyH_take (i := 6) (v := ?_) rfl (by kernel_rfl) (by kernel_rfl) (by kernel_rfl) (fun _ _ _ h => h) (Or.inl ⟨by rfl, ?_⟩) (by assumption) ?_
    rotate_left
    · intro w hSw; (try dsimp only at hSw); go_simp; try with_reducible rfl
    try simp only [Act.put, List.getElem_toArray, List.getElem_cons_succ, List.getElem_cons_zero, List.setIfInBounds_toArray, List.set_cons_zero, List.set_cons_succ]
    refine wpAnyH_ready (rs := [7]) (by kernel_rfl) (by simp) ?_
    refine AllReadyH.cons rfl (fun K hK => ?_) AllReadyH.nil
    go_simp
    refine HKP.out.mono ?_; rintro e w5 (⟨hk, rfl, ⟨r5, hn5, hr5⟩, t5⟩ | ⟨hk, rfl, t5⟩)
    rotate_left
    · refine ⟨rfl, .inr ⟨fun e => hk ?_, rfl, (S4.out.1.trans t5).turn⟩⟩
      rw [HNE.out] at e
      exact (keeps_iff H4.out.kn V).2 e.2.2.1
    have HK5 : Hid (KeepsK k V ∧ NowAt w5 N r5 (keepL l V) ∧ w.heap.size ≤ r5 ∧ Turn (fun j => j = N) wD w5) := ⟨(keeps_iff H4.out.kn V).1 hk, hn5, Nat.le_trans S4.out.1.size hr5, t5⟩
    have HR5D := Lib.hid hr5
    have hle := H4.out.rows.le
    have hfar := H4.out.far
    have hX := HX.out
    have hKw := HK0.out
    have lK := S4.out.2.lt
    have lX := H4.out.box.lt
    have hNlt := H4.out.now.box.lt
    have hNw := HH.out.now.box.lt
    have hKN : K0 ≠ N := by omega
    have hXN : X ≠ N := by omega
    have lX : X < wD.heap.size := by omega
    have hH5 : w5.cell? ⟨X, 21, none⟩ = some (.func (.func 88) #[] #[.pointer (some ⟨N, 0, none⟩), .pointer (some ⟨T, 0, none⟩)]) ∧ w5.cell? ⟨K0, 8, none⟩ = some (.slice va vn vc) := ⟨(t5.cell (p := ⟨X, 21, none⟩) lX hXN).trans hHeld.1, (t5.cell (p := ⟨K0, 8, none⟩) lK hKN).trans hHeld.2⟩
    have BX5 : w5.cell? ⟨X, 19, none⟩ = some (.func (.func 86) #[] #[.pointer (some ⟨N, 0, none⟩)]) := (t5.cell (p := ⟨X, 19, none⟩) lX hXN).trans (by rw [← hX]; exact H4.out.box.cell 19)
    have BK5 : w5.cell? ⟨K0, 1, none⟩ = some (.int .i64 d) := (t5.cell (p := ⟨K0, 1, none⟩) lK hKN).trans (S4.out.2.cell 1)
    have HC5 : Hid (w5.cell? ⟨X, 19, none⟩ = some (.func (.func 86) #[] #[.pointer (some ⟨N, 0, none⟩)]) ∧ w5.cell? ⟨K0, 1, none⟩ = some (.int .i64 d)) := ⟨BX5, BK5⟩
    have HL5 : Hid (X < wD.heap.size ∧ K0 < wD.heap.size) := ⟨lX, lK⟩
    clear hk hn5 hr5 t5 hHeld hle hfar hX hKw lK lX hNlt hNw hKN hXN BX5 BK5
    refine hK.out _ _ hH5 (fun hHeld => ?_)
    clear hK K hH5
    refine wpAnyH_done (by kernel_rfl) ?_ _
    clear hHeld
    obtain ⟨wE, hwE⟩ : ∃ wE, w5.drew = wE := ⟨_, rfl⟩
    have SE : Hid (Still w5 wE) := by rw [← hwE]; exact (Still.refl w5).drew
    have hS2 : wE.cell? ⟨X, 19, none⟩ = some (.func (.func 86) #[] #[.pointer (some ⟨N, 0, none⟩)]) ∧ wE.cell? ⟨K0, 1, none⟩ = some (.int .i64 d) := by rw [← hwE]; exact HC5.out
    have henter2 : ∀ (args : Array Value) (W : World), (callFunc 86 args).run Tryz.prog W = .ok (.enter 86 args) W := enters_of Tryz.func86 (by kernel_rfl) rfl
    have hNr5 : N ≠ r5 := by have h1 := HH.out.now.box.lt; have h2 := HK5.out.2.2.1; omega
    have HGV := Lib.hid (give_any (HK5.out.2.1.keep SE.out (fun e => e) (fun e => e)) hNr5 d (some mb))
    have HKN : Hid (Kn wE (keepL l V) (keepK k V) ∧ TyK wE mb tm) := by
      have hk4 := (H4.out.kn.keepL V).keep HK5.out.2.2.2 (fun b im R hb e => H4.out.now.words b im R hb (.inl e))
      have hm4 := ((MB.out.keep SD.out (fun e => e)).keep HK5.out.2.2.2 (fun e => H4.out.now.words _ _ _ (MB.out.keep SD.out (fun e => e)).1 (.inl e)))
      exact ⟨hk4.keep SE.out (fun _ _ _ _ e => e), hm4.keep SE.out (fun e => e)⟩
    clear hNr5
    go_wp2_with fail
    refine wp_region_held_drew (S := fun W => W.cell? ⟨X, 19, none⟩ = some (.func (.func 86) #[] #[.pointer (some ⟨N, 0, none⟩)]) ∧ W.cell? ⟨K0, 1, none⟩ = some (.int .i64 d)) (by kernel_rfl) (by rw [hwE]; exact hS2) (fun hHeld => ?_)
    try simp only [Act.put, List.getElem_toArray, List.getElem_cons_succ, List.getElem_cons_zero, List.setIfInBounds_toArray, List.set_cons_zero, List.set_cons_succ]
    rw [hwE] at hHeld ⊢
    clear hwE hS2
    refine wpAnyH_take (i := 0) (v := ?_) rfl (by kernel_rfl) (by kernel_rfl) (by kernel_rfl) (fun _ _ _ h => h) (Or.inl ⟨by rfl, ?_⟩) (by assumption) ?_
    rotate_left
    · intro w hSw; (try dsimp only at hSw); go_simp; try with_reducible rfl
    try simp only [Act.put, List.getElem_toArray, List.getElem_cons_succ, List.getElem_cons_zero, List.setIfInBounds_toArray, List.set_cons_zero, List.set_cons_succ]
    refine wpAnyH_take (i := 1) (v := ?_) rfl (by kernel_rfl) (by kernel_rfl) (by kernel_rfl) (fun _ _ _ h => h) (Or.inl ⟨by rfl, ?_⟩) (by assumption) ?_
    rotate_left
    · intro w hSw; (try dsimp only at hSw); go_simp; try with_reducible rfl
    try simp only [Act.put, List.getElem_toArray, List.getElem_cons_succ, List.getElem_cons_zero, List.setIfInBounds_toArray, List.set_cons_zero, List.set_cons_succ]
    refine wpAnyH_take (i := 2) (v := ?_) rfl (by kernel_rfl) (by kernel_rfl) (by kernel_rfl) (fun _ _ _ h => h) (Or.inl ⟨by rfl, ?_⟩) (by assumption) ?_
    rotate_left
    · intro w hSw; (try dsimp only at hSw); go_simp; try with_reducible rfl
    try simp only [Act.put, List.getElem_toArray, List.getElem_cons_succ, List.getElem_cons_zero, List.setIfInBounds_toArray, List.set_cons_zero, List.set_cons_succ]
    refine wpAnyH_take (i := 3) (v := ?_) rfl (by kernel_rfl) (by kernel_rfl) (by kernel_rfl) (fun _ _ _ h => h) (Or.inl ⟨by rfl, ?_⟩) (by assumption) ?_
    rotate_left
    · intro w hSw; (try dsimp only at hSw); go_simp; try with_reducible rfl
    try simp only [Act.put, List.getElem_toArray, List.getElem_cons_succ, List.getElem_cons_zero, List.setIfInBounds_toArray, List.set_cons_zero, List.set_cons_succ]
    refine wpAnyH_take (i := 4) (v := ?_) rfl (by kernel_rfl) (by kernel_rfl) (by kernel_rfl) (fun _ _ _ h => h) (Or.inl ⟨by rfl, ?_⟩) (by assumption) ?_
    rotate_left
    · intro w hSw; (try dsimp only at hSw); go_simp; try with_reducible rfl
    try simp only [Act.put, List.getElem_toArray, List.getElem_cons_succ, List.getElem_cons_zero, List.setIfInBounds_toArray, List.set_cons_zero, List.set_cons_succ]
    refine wpAnyH_take (i := 5) (v := ?_) rfl (by kernel_rfl) (by kernel_rfl) (by kernel_rfl) (fun _ _ _ h => h) (Or.inl ⟨by rfl, ?_⟩) (by assumption) ?_
    rotate_left
    · intro w hSw; (try dsimp only at hSw); go_simp; try with_reducible rfl
    try simp only [Act.put, List.getElem_toArray, List.getElem_cons_succ, List.getElem_cons_zero, List.setIfInBounds_toArray, List.set_cons_zero, List.set_cons_succ]
    refine wpAnyH_take (i := 6) (v := ?_) rfl (by kernel_rfl) (by kernel_rfl) (by kernel_rfl) (fun _ _ _ h => h) (Or.inl ⟨by rfl, ?_⟩) (by assumption) ?_
    rotate_left
    · intro w hSw; (try dsimp only at hSw); go_simp; try with_reducible rfl
    try simp only [Act.put, List.getElem_toArray, List.getElem_cons_succ, List.getElem_cons_zero, List.setIfInBounds_toArray, List.set_cons_zero, List.set_cons_succ]
    refine wpAnyH_take (i := 7) (v := ?_) rfl (by kernel_rfl) (by kernel_rfl) (by kernel_rfl) (fun _ _ _ h => h) (Or.inl ⟨by rfl, ?_⟩) (by assumption) ?_
    rotate_left
    · intro w hSw; (try dsimp only at hSw); go_simp; try with_reducible rfl
    try simp only [Act.put, List.getElem_toArray, List.getElem_cons_succ, List.getElem_cons_zero, List.setIfInBounds_toArray, List.set_cons_zero, List.set_cons_succ]
    refine wpAnyH_ready (rs := [8]) (by kernel_rfl) (by simp) ?_
    refine AllReadyH.cons rfl (fun K hK => ?_) AllReadyH.nil
    go_simp
    refine HGV.out.mono ?_; rintro e w6 (⟨hb, rfl, hn6, t6⟩ | ⟨hb, rfl, rfl⟩)
    rotate_left
    · refine ⟨rfl, .inr ⟨fun e => ?_, rfl, ((S4.out.1.turn.trans (HK5.out.2.2.2.mono fun _ _ e => .inl e)).trans SE.out.turn)⟩⟩
      rw [HNE.out] at e
      rw [keepL_len, (hasK_iff HH.out.kn d).2 e.2.2.2] at hb
      cases hb
    have H6 := Lib.hid (And.intro hb (And.intro hn6 t6))
    have hr5w := HK5.out.2.2.1
    have hXw := HH.out.box.lt
    have hX := HX.out
    have hsz := SE.out.size
    have hsz5 := HK5.out.2.2.2.size
    have hl5 := HL5.out
    have hsz4 := S4.out.1.size
    have hr5d := HR5D.out
    have hKr : K0 ≠ r5 := by omega
    have hXr : X ≠ r5 := by omega
    have hH6 : w6.cell? ⟨X, 19, none⟩ = some (.func (.func 86) #[] #[.pointer (some ⟨N, 0, none⟩)]) ∧ w6.cell? ⟨K0, 1, none⟩ = some (.int .i64 d) := ⟨(t6.cell (p := ⟨X, 19, none⟩) (by show X < _; omega) hXr).trans hHeld.1, (t6.cell (p := ⟨K0, 1, none⟩) (by show K0 < _; omega) hKr).trans hHeld.2⟩
    clear hb hn6 t6 hHeld hr5w hXw hX hsz hsz5 hl5 hsz4 hr5d hKr hXr
    refine hK.out _ _ hH6 (fun hHeld => ?_)
    clear hK K hH6
    refine wpAnyH_done (by kernel_rfl) ?_ _
    clear hHeld
    go_wp2_with fail
    go_end0
    have tW : Turn (fun j => j = N ∨ j = r) w w6 := by
      have t1 : Turn (fun j => j = N ∨ w.heap.size ≤ j) w w6 := ((S4.out.1.turn.trans (HK5.out.2.2.2.mono fun _ _ e => .inl e)).trans SE.out.turn).trans (H6.out.2.2.mono fun j _ e => .inr (by have := HK5.out.2.2.1; have e2 : j = r5 := e; omega))
      exact t1.mono fun j hj e => e.elim .inl fun e => by omega
    refine .inl ⟨?_, rfl, ⟨r5, _, H6.out.2.1, ?_, .inr HK5.out.2.2.1⟩, tW⟩
    · rw [HNE.out]
      have hd := (hasK_iff HH.out.kn d).1 (by rw [← keepL_len l V]; exact H6.out.1)
      exact ⟨HB.out, ⟨s, HSA.out, HKI.out, HP.out⟩, HK5.out.1, hd⟩
    · rw [HNX.out]
      have hnw := (HK5.out.2.1.keep SE.out (fun e => e) (fun e => e)).words
      have hk6 := HKN.out.1.keep H6.out.2.2 (fun b im R hb e => hnw b im R hb (.inr e))
      exact hk6.set (HKN.out.2.keep H6.out.2.2 (fun e => hnw _ _ _ HKN.out.2.1 (.inr e)))
end Go.Proofs.YtglalgjffkoneaaGreatDoor
/- call: what a call needs. -/
namespace Go.Proofs.YtglalgjffkoneaaGreatDoor
set_option linter.unusedVariables false
set_option linter.unusedSimpArgs false
open Go.ChangeShapes Go.WideShapes Go.ChangeAt Go.RowKit
open Vf (K nth nth_nat tyAt atK isK numT oneT le beginK tsub RowK FitsK CalledK resT ObjK keepK KeepsK setK hasK)
set_option maxRecDepth 100000 in
set_option maxHeartbeats 8000000 in
theorem call1_any (c : WkC) {w : World} {f : M.Fn} {g : FV} {fi bi ii : Int} {N r T Y : Nat} {l : List (Option Nat)} {k : K} (h : WkAt c w f g fi bi ii N r T Y l k) {Kw K0 : Nat} {la : Option Addr} {ln lc : Nat} {ma : Option Addr} {mn mc : Nat} {va : Option Addr} {vn vc : Nat} {d a b cc xn : Int} (hw : Blk w Kw 55 #[.pointer (some ⟨c.X, 0, none⟩)]) (hi : Blk w K0 36 #[.int .i64 17, .int .i64 d, .int .i64 a, .int .i64 b, .int .i64 cc, .int .i64 xn, .slice la ln lc, .slice ma mn mc, .slice va vn vc]) :
    Calls Tryz.prog 134 #[.pointer (some ⟨Kw, 0, none⟩), .pointer (some ⟨K0, 0, none⟩)] w (AskR (FitsK c.m f k b) w) := by
  have HT := Lib.hid (to_any c h b)
  have q0 := hw.cell 0
  have q3 := hi.cell 3
  have l0 := hw.lt
  have l3 := hi.lt
  clear h hw hi
  go_enter Tryz.func134, Tryz.ntmps134
  go_wp2_with fail
  refine HT.out.mono ?_; rintro e w5 ⟨t5, ⟨hp, rfl⟩ | ⟨hp, rfl⟩⟩
  · have T5 := Lib.hid (And.intro t5 hp)
    clear t5 hp q0 q3 l0 l3
    go_wp2_with fail
    go_end0
    exact ⟨T5.out.1, .inl ⟨T5.out.2, rfl⟩⟩
  · exact ⟨rfl, t5, .inr ⟨hp, rfl⟩⟩
set_option maxRecDepth 100000 in
set_option maxHeartbeats 8000000 in
theorem call_any (c : WkC) (hW : wholeB c.m = true) (x : M.Ins) (hop : x.op = 17) (w : World) (f : M.Fn) (g : FV) (fi bi ii : Int) (N r T Y : Nat) (l : List (Option Nat)) (k : K) (la : Option Addr) (ln lc : Nat) (ma : Option Addr) (mn mc : Nat) (va : Option Addr) (vn vc : Nat) (h : WkAt c w f g fi bi ii N r T Y l k) (hx : InsIs c.B w [.int .i64 17, .int .i64 x.d, .int .i64 x.a, .int .i64 x.b, .int .i64 x.c, .int .i64 x.n, .slice la ln lc, .slice ma mn mc, .slice va vn vc] x) :
    Calls Tryz.prog 94 #[.pointer (some ⟨c.X, 0, none⟩), .agg #[.int .i64 17, .int .i64 x.d, .int .i64 x.a, .int .i64 x.b, .int .i64 x.c, .int .i64 x.n, .slice la ln lc, .slice ma mn mc, .slice va vn vc]] w (StepR c f N r k x w) := by
  obtain ⟨op, d, a, b, cc, xn, L, Mw, V⟩ := x
  dsimp only at hop hx ⊢
  subst hop
  have HH := Lib.hid h
  have HWB := Lib.hid hW
  have HQ : Hid ((ln ≤ maxLen ∧ vn ≤ maxLen) ∧ (In64 a ∧ In64 b ∧ In64 cc) ∧ Ints c.B w la ln L ∧ Ints c.B w va vn V) := ⟨⟨hx.rows3.1.2, hx.rows3.2.2.2⟩, hx.a64, hx.rows3.1.1, hx.rows3.2.2.1⟩
  have HNE : Hid (Vf.Needs c.m f k ⟨17, d, a, b, cc, xn, L, Mw, V⟩ = (CalledK c.m k a L ∧ KeepsK k V ∧ (if b = -1 then cc = 0 else hasK k cc ∧ FitsK c.m f (setK (keepK k V) cc (tyAt c.m c.m.exn)) b) ∧ hasK k d)) := by show _ = _; rfl
  have HNX : Hid (Vf.next c.m k ⟨17, d, a, b, cc, xn, L, Mw, V⟩ = setK (keepK k V) d (resT c.m a)) := by show _ = _; rfl
  obtain ⟨X, hX⟩ : ∃ X, c.X = X := ⟨_, rfl⟩
  have HX := Lib.hid hX
  have S1 : Hid (Still w ((w.alloc (.cells #[.pointer (some ⟨X, 0, none⟩)] 55)).alloc (.cells #[.int .i64 17, .int .i64 d, .int .i64 a, .int .i64 b, .int .i64 cc, .int .i64 xn, .slice la ln lc, .slice ma mn mc, .slice va vn vc] 36)) ∧ Blk ((w.alloc (.cells #[.pointer (some ⟨X, 0, none⟩)] 55)).alloc (.cells #[.int .i64 17, .int .i64 d, .int .i64 a, .int .i64 b, .int .i64 cc, .int .i64 xn, .slice la ln lc, .slice ma mn mc, .slice va vn vc] 36)) w.heap.size 55 #[.pointer (some ⟨X, 0, none⟩)] ∧ Blk ((w.alloc (.cells #[.pointer (some ⟨X, 0, none⟩)] 55)).alloc (.cells #[.int .i64 17, .int .i64 d, .int .i64 a, .int .i64 b, .int .i64 cc, .int .i64 xn, .slice la ln lc, .slice ma mn mc, .slice va vn vc] 36)) (w.heap.size + 1) 36 #[.int .i64 17, .int .i64 d, .int .i64 a, .int .i64 b, .int .i64 cc, .int .i64 xn, .slice la ln lc, .slice ma mn mc, .slice va vn vc]) := by
    refine ⟨((Still.refl w).alloc _).alloc _, (Blk.new w _ _).alloc _, ?_⟩
    have h1 := Blk.new (w.alloc (.cells #[.pointer (some ⟨X, 0, none⟩)] 55)) 36 #[.int .i64 17, .int .i64 d, .int .i64 a, .int .i64 b, .int .i64 cc, .int .i64 xn, .slice la ln lc, .slice ma mn mc, .slice va vn vc]
    rwa [show (w.alloc (.cells #[.pointer (some ⟨X, 0, none⟩)] 55)).heap.size = w.heap.size + 1 by simp] at h1
  obtain ⟨e0, he0⟩ := Int.eq_ofNat_of_zero_le (whole_exn hW).1
  have hel : e0 < c.m.types.length := by have := (whole_exn hW).2; omega
  have HE : Hid (c.m.exn = (e0 : Int) ∧ e0 < c.m.types.length) := ⟨he0, hel⟩
  rw [hX]
  clear h hx hX hW he0 hel
  go_enter Tryz.func94, Tryz.ntmps94
  go_wp2_with fail
  generalize (w.alloc (.cells #[.pointer (some ⟨X, 0, none⟩)] 55)).alloc (.cells #[.int .i64 17, .int .i64 d, .int .i64 a, .int .i64 b, .int .i64 cc, .int .i64 xn, .slice la ln lc, .slice ma mn mc, .slice va vn vc] 36) = w1 at S1 ⊢
  obtain ⟨Kw, hKw⟩ : ∃ Kw, w.heap.size = Kw := ⟨_, rfl⟩
  obtain ⟨K0, hK0⟩ : ∃ K0, w.heap.size + 1 = K0 := ⟨_, rfl⟩
  have HK : Hid (w.heap.size = Kw ∧ K0 = Kw + 1) := ⟨hKw, by omega⟩
  rw [hK0, hKw] at S1
  rw [hK0, hKw]
  clear hK0 hKw
  have H1 := Lib.hid (HH.out.still S1.out.1)
  have HCL := Lib.hid (called_any c H1.out (fun f hf => ((whole_facts HWB.out).2.2.2 f hf).1) a (cc := lc) (HQ.out.2.2.1.keep ((Still.below S1.out.1).mono (by have := HH.out.rows.le; omega)) (by have := HH.out.rows.le; omega)) (by have := H1.out.rows.le; omega) HQ.out.1.1)
  rw [HX.out] at HCL
  refine HCL.out.mono ?_; rintro e w3 ⟨t3, ⟨rb, hp, rfl, hrb⟩ | ⟨hp, rfl⟩⟩
  rotate_left
  · refine ⟨rfl, .inr ⟨fun e => hp ?_, rfl, (S1.out.1.trans t3).turn⟩⟩
    rw [HNE.out] at e
    exact e.1
  have HP : Hid (CalledK c.m k a L ∧ TyK w3 rb (resT c.m a)) := ⟨hp, hrb⟩
  have S3 : Hid (Still w w3 ∧ Blk w3 Kw 55 #[.pointer (some ⟨X, 0, none⟩)] ∧ Blk w3 K0 36 #[.int .i64 17, .int .i64 d, .int .i64 a, .int .i64 b, .int .i64 cc, .int .i64 xn, .slice la ln lc, .slice ma mn mc, .slice va vn vc]) := ⟨S1.out.1.trans t3, t3.blk S1.out.2.1, t3.blk S1.out.2.2⟩
  clear hp hrb t3 H1 S1 HCL
  have H3 := Lib.hid (HH.out.still S3.out.1)
  obtain ⟨wD, hwD⟩ : ∃ wD, w3.drew = wD := ⟨_, rfl⟩
  have SD : Hid (Still w3 wD) := by rw [← hwD]; exact (Still.refl w3).drew
  have H4 := Lib.hid (H3.out.still SD.out)
  have S4 : Hid (Still w wD ∧ Blk wD Kw 55 #[.pointer (some ⟨X, 0, none⟩)] ∧ Blk wD K0 36 #[.int .i64 17, .int .i64 d, .int .i64 a, .int .i64 b, .int .i64 cc, .int .i64 xn, .slice la ln lc, .slice ma mn mc, .slice va vn vc]) := ⟨S3.out.1.trans SD.out, SD.out.blk S3.out.2.1, SD.out.blk S3.out.2.2⟩
  have hS0 : wD.cell? ⟨Kw, 0, none⟩ = some (.pointer (some ⟨X, 0, none⟩)) ∧ wD.cell? ⟨X, 21, none⟩ = some (.func (.func 88) #[] #[.pointer (some ⟨N, 0, none⟩), .pointer (some ⟨T, 0, none⟩)]) ∧ wD.cell? ⟨K0, 8, none⟩ = some (.slice va vn vc) := ⟨S4.out.2.1.cell 0, by rw [← HX.out]; exact H4.out.box.cell 21, S4.out.2.2.cell 8⟩
  have henter4 : ∀ (args : Array Value) (W : World), (callFunc 88 args).run Tryz.prog W = .ok (.enter 88 args) W := enters_of Tryz.func88 (by kernel_rfl) rfl
  have HKP := Lib.hid (keep_any (B := c.B) (c := vc) (n := vn) (live := V) H4.out.now H4.out.typed (HQ.out.2.2.2.keep ((Still.below S4.out.1).mono (by have := HH.out.rows.le; omega)) (by have := HH.out.rows.le; omega)) HQ.out.1.2 (by have h1 := H4.out.far; have h2 := H4.out.rows.le; omega) H4.out.ne.1 H4.out.ne.2.1)
  go_wp2_with fail
  refine wp_region_held_drew (S := fun W => W.cell? ⟨Kw, 0, none⟩ = some (.pointer (some ⟨X, 0, none⟩)) ∧ W.cell? ⟨X, 21, none⟩ = some (.func (.func 88) #[] #[.pointer (some ⟨N, 0, none⟩), .pointer (some ⟨T, 0, none⟩)]) ∧ W.cell? ⟨K0, 8, none⟩ = some (.slice va vn vc)) (by kernel_rfl) (by rw [hwD]; exact hS0) (fun hHeld => ?_)
  try simp only [Act.put, List.getElem_toArray, List.getElem_cons_succ, List.getElem_cons_zero, List.setIfInBounds_toArray, List.set_cons_zero, List.set_cons_succ]
  rw [hwD] at hHeld ⊢
  clear hwD hS0
  refine wpAnyH_take (i := 0) (v := ?_) rfl (by kernel_rfl) (by kernel_rfl) (by kernel_rfl) (fun _ _ _ h => h) (Or.inl ⟨by rfl, ?_⟩) (by assumption) ?_
  rotate_left
  · intro w hSw; (try dsimp only at hSw); go_simp; try with_reducible rfl
  try simp only [Act.put, List.getElem_toArray, List.getElem_cons_succ, List.getElem_cons_zero, List.setIfInBounds_toArray, List.set_cons_zero, List.set_cons_succ]
  refine wpAnyH_take (i := 1) (v := ?_) rfl (by kernel_rfl) (by kernel_rfl) (by kernel_rfl) (fun _ _ _ h => h) (Or.inl ⟨by rfl, ?_⟩) (by assumption) ?_
  rotate_left
  · intro w hSw; (try dsimp only at hSw); go_simp; try with_reducible rfl
  try simp only [Act.put, List.getElem_toArray, List.getElem_cons_succ, List.getElem_cons_zero, List.setIfInBounds_toArray, List.set_cons_zero, List.set_cons_succ]
  refine wpAnyH_take (i := 2) (v := ?_) rfl (by kernel_rfl) (by kernel_rfl) (by kernel_rfl) (fun _ _ _ h => h) (Or.inl ⟨by rfl, ?_⟩) (by assumption) ?_
  rotate_left
  · intro w hSw; (try dsimp only at hSw); go_simp; try with_reducible rfl
  try simp only [Act.put, List.getElem_toArray, List.getElem_cons_succ, List.getElem_cons_zero, List.setIfInBounds_toArray, List.set_cons_zero, List.set_cons_succ]
  refine wpAnyH_take (i := 3) (v := ?_) rfl (by kernel_rfl) (by kernel_rfl) (by kernel_rfl) (fun _ _ _ h => h) (Or.inl ⟨by rfl, ?_⟩) (by assumption) ?_
  rotate_left
  · intro w hSw; (try dsimp only at hSw); go_simp; try with_reducible rfl
  try simp only [Act.put, List.getElem_toArray, List.getElem_cons_succ, List.getElem_cons_zero, List.setIfInBounds_toArray, List.set_cons_zero, List.set_cons_succ]
  refine wpAnyH_take (i := 4) (v := ?_) rfl (by kernel_rfl) (by kernel_rfl) (by kernel_rfl) (fun _ _ _ h => h) (Or.inl ⟨by rfl, ?_⟩) (by assumption) ?_
  rotate_left
  · intro w hSw; (try dsimp only at hSw); go_simp; try with_reducible rfl
  try simp only [Act.put, List.getElem_toArray, List.getElem_cons_succ, List.getElem_cons_zero, List.setIfInBounds_toArray, List.set_cons_zero, List.set_cons_succ]
  refine wpAnyH_take (i := 5) (v := ?_) rfl (by kernel_rfl) (by kernel_rfl) (by kernel_rfl) (fun _ _ _ h => h) (Or.inl ⟨by rfl, ?_⟩) (by assumption) ?_
  rotate_left
  · intro w hSw; (try dsimp only at hSw); go_simp; try with_reducible rfl
  try simp only [Act.put, List.getElem_toArray, List.getElem_cons_succ, List.getElem_cons_zero, List.setIfInBounds_toArray, List.set_cons_zero, List.set_cons_succ]
  refine wpAnyH_take (i := 6) (v := ?_) rfl (by kernel_rfl) (by kernel_rfl) (by kernel_rfl) (fun _ _ _ h => h) (Or.inl ⟨by rfl, ?_⟩) (by assumption) ?_
  rotate_left
  · intro w hSw; (try dsimp only at hSw); go_simp; try with_reducible rfl
  try simp only [Act.put, List.getElem_toArray, List.getElem_cons_succ, List.getElem_cons_zero, List.setIfInBounds_toArray, List.set_cons_zero, List.set_cons_succ]
  refine wpAnyH_ready (rs := [7]) (by kernel_rfl) (by simp) ?_
  refine AllReadyH.cons rfl (fun K hK => ?_) AllReadyH.nil
  go_simp
  refine HKP.out.mono ?_; rintro e w5 (⟨hk, rfl, ⟨r5, hn5, hr5⟩, t5⟩ | ⟨hk, rfl, t5⟩)
  rotate_left
  · refine ⟨rfl, .inr ⟨fun e => hk ?_, rfl, (S4.out.1.trans t5).turn⟩⟩
    rw [HNE.out] at e
    exact (keeps_iff H4.out.kn V).2 e.2.1
  have hKN : K0 ≠ N ∧ Kw ≠ N := by have h1 := HK.out; have h2 := HH.out.now.box.lt; omega
  have HK5 : Hid (KeepsK k V ∧ WkAt c w5 f g fi bi ii N r5 T Y (keepL l V) (keepK k V) ∧ w.heap.size ≤ r5 ∧ Turn (fun j => j = N ∨ w.heap.size ≤ j) w w5 ∧ TyK w5 rb (resT c.m a) ∧ Blk w5 Kw 55 #[.pointer (some ⟨X, 0, none⟩)] ∧ Blk w5 K0 36 #[.int .i64 17, .int .i64 d, .int .i64 a, .int .i64 b, .int .i64 cc, .int .i64 xn, .slice la ln lc, .slice ma mn mc, .slice va vn vc]) := by
    refine ⟨(keeps_iff H4.out.kn V).1 hk, ?_, Nat.le_trans S4.out.1.size hr5, S4.out.1.turn.trans (t5.mono fun _ _ e => .inl e), ?_, S4.out.2.1.keep t5 hKN.2, S4.out.2.2.keep t5 hKN.1⟩
    · refine H4.out.step hn5 ?_ (HH.out.inK.keep V) (.inr hr5) (t5.mono fun _ _ e => .inl e)
      exact (H4.out.kn.keepL V).keep t5 (fun b im R hb e => H4.out.now.words b im R hb (.inl e))
    · exact (HP.out.2.keep SD.out (fun e => e)).keep t5 (fun e => H4.out.now.words _ _ _ (HP.out.2.keep SD.out (fun e => e)).1 (.inl e))
  have HR5D : Hid (K0 < r5 ∧ Kw < r5) := by have h1 := S4.out.2.1.lt; have h2 := S4.out.2.2.lt; exact ⟨by omega, by omega⟩
  have hH5 : w5.cell? ⟨Kw, 0, none⟩ = some (.pointer (some ⟨X, 0, none⟩)) ∧ w5.cell? ⟨X, 21, none⟩ = some (.func (.func 88) #[] #[.pointer (some ⟨N, 0, none⟩), .pointer (some ⟨T, 0, none⟩)]) ∧ w5.cell? ⟨K0, 8, none⟩ = some (.slice va vn vc) := ⟨HK5.out.2.2.2.2.2.1.cell 0, by rw [← HX.out]; exact HK5.out.2.1.box.cell 21, HK5.out.2.2.2.2.2.2.cell 8⟩
  clear hk hn5 hr5 t5 hHeld hKN
  refine hK.out _ _ hH5 (fun hHeld => ?_)
  clear hK K hH5
  refine wpAnyH_done (by kernel_rfl) ?_ _
  clear hHeld H3 S3 SD H4 S4 HKP
  have d3 := HK5.out.2.2.2.2.2.2.cell 3
  have d4 := HK5.out.2.2.2.2.2.2.cell 4
  have ld := HK5.out.2.2.2.2.2.2.lt
  by_cases hb : b = -1
  · subst hb
    by_cases hc : cc = 0
    · subst hc
      go_wp2_with fail
      refine (need_yes _).mono ?_; rintro e w6 ⟨rfl, hw6⟩; subst w6
      clear d3 d4 ld
      obtain ⟨w6, hw6⟩ : ∃ w6, w5 = w6 := ⟨_, rfl⟩
      rw [hw6]
      have H6 : Hid (WkAt c w6 f g fi bi ii N r5 T Y (keepL l V) (keepK k V)) := by rw [← hw6]; exact HK5.out.2.1
      have B6 : Hid (Blk w6 Kw 55 #[.pointer (some ⟨X, 0, none⟩)] ∧ Blk w6 K0 36 #[.int .i64 17, .int .i64 d, .int .i64 a, .int .i64 (-1), .int .i64 0, .int .i64 xn, .slice la ln lc, .slice ma mn mc, .slice va vn vc] ∧ TyK w6 rb (resT c.m a) ∧ Turn (fun j => j = N ∨ w.heap.size ≤ j) w w6) := by
        rw [← hw6]
        exact ⟨HK5.out.2.2.2.2.2.1, HK5.out.2.2.2.2.2.2, HK5.out.2.2.2.2.1, HK5.out.2.2.2.1⟩
      clear hw6
      obtain ⟨wE, hwE⟩ : ∃ wE, w6.drew = wE := ⟨_, rfl⟩
      have SE : Hid (Still w6 wE) := by rw [← hwE]; exact (Still.refl w6).drew
      have H7 := Lib.hid (H6.out.still SE.out)
      have B7 : Hid (Blk wE Kw 55 #[.pointer (some ⟨X, 0, none⟩)] ∧ Blk wE K0 36 #[.int .i64 17, .int .i64 d, .int .i64 a, .int .i64 (-1), .int .i64 0, .int .i64 xn, .slice la ln lc, .slice ma mn mc, .slice va vn vc] ∧ TyK wE rb (resT c.m a)) := ⟨SE.out.blk B6.out.1, SE.out.blk B6.out.2.1, B6.out.2.2.1.keep SE.out (fun e => e)⟩
      have hS2 : wE.cell? ⟨Kw, 0, none⟩ = some (.pointer (some ⟨X, 0, none⟩)) ∧ wE.cell? ⟨X, 19, none⟩ = some (.func (.func 86) #[] #[.pointer (some ⟨N, 0, none⟩)]) ∧ wE.cell? ⟨K0, 1, none⟩ = some (.int .i64 d) := ⟨B7.out.1.cell 0, by rw [← HX.out]; exact H7.out.box.cell 19, B7.out.2.1.cell 1⟩
      have henter2 : ∀ (args : Array Value) (W : World), (callFunc 86 args).run Tryz.prog W = .ok (.enter 86 args) W := enters_of Tryz.func86 (by kernel_rfl) rfl
      have HGV := Lib.hid (give_any H7.out.now H7.out.ne.2.1 d (some rb))
      go_wp2_with fail
      refine wp_region_held_drew (S := fun W => W.cell? ⟨Kw, 0, none⟩ = some (.pointer (some ⟨X, 0, none⟩)) ∧ W.cell? ⟨X, 19, none⟩ = some (.func (.func 86) #[] #[.pointer (some ⟨N, 0, none⟩)]) ∧ W.cell? ⟨K0, 1, none⟩ = some (.int .i64 d)) (by kernel_rfl) (by rw [hwE]; exact hS2) (fun hHeld => ?_)
      try simp only [Act.put, List.getElem_toArray, List.getElem_cons_succ, List.getElem_cons_zero, List.setIfInBounds_toArray, List.set_cons_zero, List.set_cons_succ]
      rw [hwE] at hHeld ⊢
      clear hwE hS2
      refine wpAnyH_take (i := 0) (v := ?_) rfl (by kernel_rfl) (by kernel_rfl) (by kernel_rfl) (fun _ _ _ h => h) (Or.inl ⟨by rfl, ?_⟩) (by assumption) ?_
      rotate_left
      · intro w hSw; (try dsimp only at hSw); go_simp; try with_reducible rfl
      try simp only [Act.put, List.getElem_toArray, List.getElem_cons_succ, List.getElem_cons_zero, List.setIfInBounds_toArray, List.set_cons_zero, List.set_cons_succ]
      refine wpAnyH_take (i := 1) (v := ?_) rfl (by kernel_rfl) (by kernel_rfl) (by kernel_rfl) (fun _ _ _ h => h) (Or.inl ⟨by rfl, ?_⟩) (by assumption) ?_
      rotate_left
      · intro w hSw; (try dsimp only at hSw); go_simp; try with_reducible rfl
      try simp only [Act.put, List.getElem_toArray, List.getElem_cons_succ, List.getElem_cons_zero, List.setIfInBounds_toArray, List.set_cons_zero, List.set_cons_succ]
      refine wpAnyH_take (i := 2) (v := ?_) rfl (by kernel_rfl) (by kernel_rfl) (by kernel_rfl) (fun _ _ _ h => h) (Or.inl ⟨by rfl, ?_⟩) (by assumption) ?_
      rotate_left
      · intro w hSw; (try dsimp only at hSw); go_simp; try with_reducible rfl
      try simp only [Act.put, List.getElem_toArray, List.getElem_cons_succ, List.getElem_cons_zero, List.setIfInBounds_toArray, List.set_cons_zero, List.set_cons_succ]
      refine wpAnyH_take (i := 3) (v := ?_) rfl (by kernel_rfl) (by kernel_rfl) (by kernel_rfl) (fun _ _ _ h => h) (Or.inl ⟨by rfl, ?_⟩) (by assumption) ?_
      rotate_left
      · intro w hSw; (try dsimp only at hSw); go_simp; try with_reducible rfl
      try simp only [Act.put, List.getElem_toArray, List.getElem_cons_succ, List.getElem_cons_zero, List.setIfInBounds_toArray, List.set_cons_zero, List.set_cons_succ]
      refine wpAnyH_take (i := 4) (v := ?_) rfl (by kernel_rfl) (by kernel_rfl) (by kernel_rfl) (fun _ _ _ h => h) (Or.inl ⟨by rfl, ?_⟩) (by assumption) ?_
      rotate_left
      · intro w hSw; (try dsimp only at hSw); go_simp; try with_reducible rfl
      try simp only [Act.put, List.getElem_toArray, List.getElem_cons_succ, List.getElem_cons_zero, List.setIfInBounds_toArray, List.set_cons_zero, List.set_cons_succ]
      refine wpAnyH_take (i := 5) (v := ?_) rfl (by kernel_rfl) (by kernel_rfl) (by kernel_rfl) (fun _ _ _ h => h) (Or.inl ⟨by rfl, ?_⟩) (by assumption) ?_
      rotate_left
      · intro w hSw; (try dsimp only at hSw); go_simp; try with_reducible rfl
      try simp only [Act.put, List.getElem_toArray, List.getElem_cons_succ, List.getElem_cons_zero, List.setIfInBounds_toArray, List.set_cons_zero, List.set_cons_succ]
      refine wpAnyH_take (i := 6) (v := ?_) rfl (by kernel_rfl) (by kernel_rfl) (by kernel_rfl) (fun _ _ _ h => h) (Or.inl ⟨by rfl, ?_⟩) (by assumption) ?_
      rotate_left
      · intro w hSw; (try dsimp only at hSw); go_simp; try with_reducible rfl
      try simp only [Act.put, List.getElem_toArray, List.getElem_cons_succ, List.getElem_cons_zero, List.setIfInBounds_toArray, List.set_cons_zero, List.set_cons_succ]
      refine wpAnyH_take (i := 7) (v := ?_) rfl (by kernel_rfl) (by kernel_rfl) (by kernel_rfl) (fun _ _ _ h => h) (Or.inl ⟨by rfl, ?_⟩) (by assumption) ?_
      rotate_left
      · intro w hSw; (try dsimp only at hSw); go_simp; try with_reducible rfl
      try simp only [Act.put, List.getElem_toArray, List.getElem_cons_succ, List.getElem_cons_zero, List.setIfInBounds_toArray, List.set_cons_zero, List.set_cons_succ]
      refine wpAnyH_ready (rs := [8]) (by kernel_rfl) (by simp) ?_
      refine AllReadyH.cons rfl (fun K hK => ?_) AllReadyH.nil
      go_simp
      refine HGV.out.mono ?_; rintro e w8 (⟨hb, rfl, hn8, t8⟩ | ⟨hb, rfl, rfl⟩)
      rotate_left
      · refine ⟨rfl, .inr ⟨fun e => ?_, rfl, (B6.out.2.2.2.trans SE.out.turn).mono fun j hj e => e.elim .inl fun e => by omega⟩⟩
        rw [HNE.out] at e
        rw [keepL_len, (hasK_iff HH.out.kn d).2 e.2.2.2] at hb
        cases hb
      have H8 := Lib.hid (And.intro hb (And.intro hn8 t8))
      have hr5 := HR5D.out
      have hX5 : X ≠ r5 := by have h1 := HH.out.box.lt; have h2 := HX.out; have h3 := HK5.out.2.2.1; omega
      have hH8 : w8.cell? ⟨Kw, 0, none⟩ = some (.pointer (some ⟨X, 0, none⟩)) ∧ w8.cell? ⟨X, 19, none⟩ = some (.func (.func 86) #[] #[.pointer (some ⟨N, 0, none⟩)]) ∧ w8.cell? ⟨K0, 1, none⟩ = some (.int .i64 d) := ⟨(t8.cell (p := ⟨Kw, 0, none⟩) B7.out.1.lt (by show ¬ Kw = r5; omega)).trans hHeld.1, (t8.cell (p := ⟨X, 19, none⟩) (by rw [← HX.out]; exact H7.out.box.lt) hX5).trans hHeld.2.1, (t8.cell (p := ⟨K0, 1, none⟩) B7.out.2.1.lt (by show ¬ K0 = r5; omega)).trans hHeld.2.2⟩
      clear hb hn8 t8 hHeld hr5 hX5
      refine hK.out _ _ hH8 (fun hHeld => ?_)
      clear hK K hH8
      refine wpAnyH_done (by kernel_rfl) ?_ _
      clear hHeld
      go_wp2_with fail
      go_end0
      have tW : Turn (fun j => j = N ∨ j = r) w w8 := by
        have t1 : Turn (fun j => j = N ∨ w.heap.size ≤ j) w w8 := (B6.out.2.2.2.trans SE.out.turn).trans (H8.out.2.2.mono fun j _ e => .inr (by have := HK5.out.2.2.1; have e2 : j = r5 := e; omega))
        exact t1.mono fun j hj e => e.elim .inl fun e => by omega
      refine .inl ⟨?_, rfl, ⟨r5, _, H8.out.2.1, ?_, .inr HK5.out.2.2.1⟩, tW⟩
      · rw [HNE.out]
        have hd := (hasK_iff HH.out.kn d).1 (by rw [← keepL_len l V]; exact H8.out.1)
        exact ⟨HP.out.1, HK5.out.1, by simp, hd⟩
      · rw [HNX.out]
        have hk8 := H7.out.kn.keep H8.out.2.2 (fun b im R hb e => H7.out.now.words b im R hb (.inr e))
        exact hk8.set (B7.out.2.2.keep H8.out.2.2 (fun e => H7.out.now.words _ _ _ B7.out.2.2.1 (.inr e)))
    · have hcb : (cc == 0) = false := beq_eq_false_iff_ne.2 hc
      have hcd : decide (cc = 0) = false := decide_eq_false hc
      go_wp2_with fail
      refine (need_no _).mono ?_; rintro e w6 ⟨rfl, hw6⟩; subst w6
      refine ⟨rfl, .inr ⟨fun e => hc ?_, rfl, HK5.out.2.2.2.1.mono fun j hj e => e.elim .inl fun e => by omega⟩⟩
      rw [HNE.out] at e
      simpa using e.2.2.1
  · have hbb : (b == -1) = false := beq_eq_false_iff_ne.2 hb
    have HB := Lib.hid hb
    go_wp2_with fail
    clear d3 d4 ld hbb hb
    obtain ⟨be, hbe⟩ : ∃ be, c.bs[e0]? = some be := ⟨_, List.getElem?_eq_getElem (by have h1 := HH.out.rows.lb; have h2 := HE.out.2; omega)⟩
    obtain ⟨te, hte⟩ : ∃ te, c.m.types[e0]? = some te := ⟨_, List.getElem?_eq_getElem HE.out.2⟩
    have HTE : Hid (tyAt c.m c.m.exn = te) := by show _ = _; rw [HE.out.1]; unfold tyAt; rw [nth_nat, hte]; rfl
    obtain ⟨r1, hr1⟩ : ∃ r1, c.r1 = r1 := ⟨_, rfl⟩
    obtain ⟨tn, htn⟩ : ∃ tn, c.v.tn = tn := ⟨_, rfl⟩
    obtain ⟨rc, hrc⟩ : ∃ rc, c.rc = rc := ⟨_, rfl⟩
    have hei : (e0 : Int) < (tn : Int) := by have h1 := HH.out.rows.img.types.len; have h2 := HE.out.2; omega
    obtain ⟨wF, hwF⟩ : ∃ wF, w5.drew = wF := ⟨_, rfl⟩
    have SF : Hid (Still w5 wF) := by rw [← hwF]; exact (Still.refl w5).drew
    have HF := Lib.hid (HK5.out.2.1.still SF.out)
    have BF : Hid (Blk wF Kw 55 #[.pointer (some ⟨X, 0, none⟩)] ∧ Blk wF K0 36 #[.int .i64 17, .int .i64 d, .int .i64 a, .int .i64 b, .int .i64 cc, .int .i64 xn, .slice la ln lc, .slice ma mn mc, .slice va vn vc] ∧ TyK wF be te ∧ TyK wF rb (resT c.m a)) := ⟨SF.out.blk HK5.out.2.2.2.2.2.1, SF.out.blk HK5.out.2.2.2.2.2.2, ⟨HF.out.rows.wt e0 be te hbe hte, HF.out.rows.ok te (List.mem_of_getElem? hte)⟩, HK5.out.2.2.2.2.1.keep SF.out (fun e => e)⟩
    have hSF : wF.cell? ⟨Kw, 0, none⟩ = some (.pointer (some ⟨X, 0, none⟩)) ∧ wF.cell? ⟨X, 20, none⟩ = some (.func (.func 87) #[] #[.pointer (some ⟨N, 0, none⟩)]) ∧ wF.cell? ⟨K0, 4, none⟩ = some (.int .i64 cc) ∧ wF.cell? ⟨X, 7, none⟩ = some (.slice (some ⟨r1, 0, none⟩) tn rc) ∧ wF.cell? ⟨X, 6, none⟩ = some (.int .i64 (e0 : Int)) ∧ wF.cell? ⟨r1, e0, none⟩ = some (.pointer (some ⟨be, 0, none⟩)) := ⟨BF.out.1.cell 0, by rw [← HX.out]; exact HF.out.box.cell 20, BF.out.2.1.cell 4, by rw [← HX.out, ← hr1, ← htn, ← hrc]; exact HF.out.box.cell 7, by rw [← HX.out, ← HE.out.1, ← HF.out.rows.img.exn]; exact HF.out.box.cell 6, by rw [← hr1]; exact HF.out.rows.rt e0 be hbe⟩
    have henter3 : ∀ (args : Array Value) (W : World), (callFunc 87 args).run Tryz.prog W = .ok (.enter 87 args) W := enters_of Tryz.func87 (by kernel_rfl) rfl
    have hent1 : Hid (∀ (args : Array Value) (W : World), (callFunc 134 args).run Tryz.prog W = .ok (.enter 134 args) W) := enters_of Tryz.func134 (by kernel_rfl) rfl
    have hmf : ∀ (fn : Fn) (first cap : Array Value) (w : World), (Instr.makeFunc fn first cap).run Tryz.prog w = .ok (.func fn first cap) w := fun _ _ _ _ => rfl
    have HWI := Lib.hid (with_any (P := FitsK c.m f (setK (keepK k V) cc te) b) HF.out.now HF.out.ne.2.1 cc (some be) 134 #[] #[.pointer (some ⟨Kw, 0, none⟩), .pointer (some ⟨K0, 0, none⟩)] hent1.out (fun W hn t => by
      have hr5 := HR5D.out
      have hk1 := (HF.out.kn.keep t (fun b im R hb e => HF.out.now.words b im R hb (.inr e))).set (i := cc.toNat) (BF.out.2.2.1.keep t (fun e => HF.out.now.words _ _ _ BF.out.2.2.1.1 (.inr e)))
      have hin1 : InK c.m (setK (keepK k V) cc te) := HF.out.inK.set cc (by rw [← HTE.out]; exact HF.out.rows.inM.at _)
      refine call1_any c (HF.out.step hn hk1 hin1 (.inl rfl) (t.mono fun _ _ e => .inr e)) (Kw := Kw) (K0 := K0) ?_ (BF.out.2.1.keep t (by show ¬ K0 = r5; omega))
      rw [HX.out]
      exact BF.out.1.keep t (by show ¬ Kw = r5; omega)))
    have HR1 := Lib.hid hr1
    clear hbe hte hr1 htn hrc
    refine wp_region_held_drew (S := fun W => W.cell? ⟨Kw, 0, none⟩ = some (.pointer (some ⟨X, 0, none⟩)) ∧ W.cell? ⟨X, 20, none⟩ = some (.func (.func 87) #[] #[.pointer (some ⟨N, 0, none⟩)]) ∧ W.cell? ⟨K0, 4, none⟩ = some (.int .i64 cc) ∧ W.cell? ⟨X, 7, none⟩ = some (.slice (some ⟨r1, 0, none⟩) tn rc) ∧ W.cell? ⟨X, 6, none⟩ = some (.int .i64 (e0 : Int)) ∧ W.cell? ⟨r1, e0, none⟩ = some (.pointer (some ⟨be, 0, none⟩))) (by kernel_rfl) (by rw [hwF]; exact hSF) (fun hHeld => ?_)
    try simp only [Act.put, List.getElem_toArray, List.getElem_cons_succ, List.getElem_cons_zero, List.setIfInBounds_toArray, List.set_cons_zero, List.set_cons_succ]
    rw [hwF] at hHeld ⊢
    clear hwF hSF
    refine wpAnyH_take (i := 0) (v := ?_) rfl (by kernel_rfl) (by kernel_rfl) (by kernel_rfl) (fun _ _ _ h => h) (Or.inl ⟨by rfl, ?_⟩) (by assumption) ?_
    rotate_left
    · intro w hSw; (try dsimp only at hSw); go_simp; try with_reducible rfl
    try simp only [Act.put, List.getElem_toArray, List.getElem_cons_succ, List.getElem_cons_zero, List.setIfInBounds_toArray, List.set_cons_zero, List.set_cons_succ]
    refine wpAnyH_take (i := 1) (v := ?_) rfl (by kernel_rfl) (by kernel_rfl) (by kernel_rfl) (fun _ _ _ h => h) (Or.inl ⟨by rfl, ?_⟩) (by assumption) ?_
    rotate_left
    · intro w hSw; (try dsimp only at hSw); go_simp; try with_reducible rfl
    try simp only [Act.put, List.getElem_toArray, List.getElem_cons_succ, List.getElem_cons_zero, List.setIfInBounds_toArray, List.set_cons_zero, List.set_cons_succ]
    refine wpAnyH_take (i := 2) (v := ?_) rfl (by kernel_rfl) (by kernel_rfl) (by kernel_rfl) (fun _ _ _ h => h) (Or.inl ⟨by rfl, ?_⟩) (by assumption) ?_
    rotate_left
    · intro w hSw; (try dsimp only at hSw); go_simp; try with_reducible rfl
    try simp only [Act.put, List.getElem_toArray, List.getElem_cons_succ, List.getElem_cons_zero, List.setIfInBounds_toArray, List.set_cons_zero, List.set_cons_succ]
    refine wpAnyH_take (i := 3) (v := ?_) rfl (by kernel_rfl) (by kernel_rfl) (by kernel_rfl) (fun _ _ _ h => h) (Or.inl ⟨by rfl, ?_⟩) (by assumption) ?_
    rotate_left
    · intro w hSw; (try dsimp only at hSw); go_simp; try with_reducible rfl
    try simp only [Act.put, List.getElem_toArray, List.getElem_cons_succ, List.getElem_cons_zero, List.setIfInBounds_toArray, List.set_cons_zero, List.set_cons_succ]
    refine wpAnyH_take (i := 4) (v := ?_) rfl (by kernel_rfl) (by kernel_rfl) (by kernel_rfl) (fun _ _ _ h => h) (Or.inl ⟨by rfl, ?_⟩) (by assumption) ?_
    rotate_left
    · intro w hSw; (try dsimp only at hSw); go_simp; try with_reducible rfl
    try simp only [Act.put, List.getElem_toArray, List.getElem_cons_succ, List.getElem_cons_zero, List.setIfInBounds_toArray, List.set_cons_zero, List.set_cons_succ]
    refine wpAnyH_take (i := 5) (v := ?_) rfl (by kernel_rfl) (by kernel_rfl) (by kernel_rfl) (fun _ _ _ h => h) (Or.inl ⟨by rfl, ?_⟩) (by assumption) ?_
    rotate_left
    · intro w hSw; (try dsimp only at hSw); go_simp; try with_reducible rfl
    try simp only [Act.put, List.getElem_toArray, List.getElem_cons_succ, List.getElem_cons_zero, List.setIfInBounds_toArray, List.set_cons_zero, List.set_cons_succ]
    refine wpAnyH_take (i := 6) (v := ?_) rfl (by kernel_rfl) (by kernel_rfl) (by kernel_rfl) (fun _ _ _ h => h) (Or.inl ⟨by rfl, ?_⟩) (by assumption) ?_
    rotate_left
    · intro w hSw; (try dsimp only at hSw); go_simp; try with_reducible rfl
    try simp only [Act.put, List.getElem_toArray, List.getElem_cons_succ, List.getElem_cons_zero, List.setIfInBounds_toArray, List.set_cons_zero, List.set_cons_succ]
    refine wpAnyH_take (i := 7) (v := ?_) rfl (by kernel_rfl) (by kernel_rfl) (by kernel_rfl) (fun _ _ _ h => h) (Or.inl ⟨by rfl, ?_⟩) (by assumption) ?_
    rotate_left
    · intro w hSw; (try dsimp only at hSw); go_simp; try with_reducible rfl
    try simp only [Act.put, List.getElem_toArray, List.getElem_cons_succ, List.getElem_cons_zero, List.setIfInBounds_toArray, List.set_cons_zero, List.set_cons_succ]
    refine wpAnyH_take (i := 8) (v := ?_) rfl (by kernel_rfl) (by kernel_rfl) (by kernel_rfl) (fun _ _ _ h => h) (Or.inl ⟨by rfl, ?_⟩) (by assumption) ?_
    rotate_left
    · intro w hSw; (try dsimp only at hSw); go_simp; try with_reducible rfl
    try simp only [Act.put, List.getElem_toArray, List.getElem_cons_succ, List.getElem_cons_zero, List.setIfInBounds_toArray, List.set_cons_zero, List.set_cons_succ]
    refine wpAnyH_take (i := 9) (v := ?_) rfl (by kernel_rfl) (by kernel_rfl) (by kernel_rfl) (fun _ _ _ h => h) (Or.inl ⟨by rfl, ?_⟩) (by assumption) ?_
    rotate_left
    · intro w hSw; (try dsimp only at hSw); go_simp; try with_reducible rfl
    try simp only [Act.put, List.getElem_toArray, List.getElem_cons_succ, List.getElem_cons_zero, List.setIfInBounds_toArray, List.set_cons_zero, List.set_cons_succ]
    refine wpAnyH_take (i := 10) (v := ?_) rfl (by kernel_rfl) (by kernel_rfl) (by kernel_rfl) (fun _ _ _ h => h) (Or.inl ⟨by rfl, ?_⟩) (by assumption) ?_
    rotate_left
    · intro w hSw; (try dsimp only at hSw); go_simp; try with_reducible rfl
    try simp only [Act.put, List.getElem_toArray, List.getElem_cons_succ, List.getElem_cons_zero, List.setIfInBounds_toArray, List.set_cons_zero, List.set_cons_succ]
    refine wpAnyH_take (i := 11) (v := ?_) rfl (by kernel_rfl) (by kernel_rfl) (by kernel_rfl) (fun _ _ _ h => h) (Or.inl ⟨by rfl, ?_⟩) (by assumption) ?_
    rotate_left
    · intro w hSw; (try dsimp only at hSw); go_simp; try with_reducible rfl
    try simp only [Act.put, List.getElem_toArray, List.getElem_cons_succ, List.getElem_cons_zero, List.setIfInBounds_toArray, List.set_cons_zero, List.set_cons_succ]
    refine wpAnyH_take (i := 12) (v := ?_) rfl (by kernel_rfl) (by kernel_rfl) (by kernel_rfl) (fun _ _ _ h => h) (Or.inl ⟨by rfl, ?_⟩) (by assumption) ?_
    rotate_left
    · intro w hSw; (try dsimp only at hSw); go_simp; try with_reducible rfl
    try simp only [Act.put, List.getElem_toArray, List.getElem_cons_succ, List.getElem_cons_zero, List.setIfInBounds_toArray, List.set_cons_zero, List.set_cons_succ]
    refine wpAnyH_take (i := 13) (v := ?_) rfl (by kernel_rfl) (by kernel_rfl) (by kernel_rfl) (fun _ _ _ h => h) (Or.inl ⟨by rfl, ?_⟩) (by assumption) ?_
    rotate_left
    · intro w hSw; (try dsimp only at hSw); go_simp; try with_reducible rfl
    try simp only [Act.put, List.getElem_toArray, List.getElem_cons_succ, List.getElem_cons_zero, List.setIfInBounds_toArray, List.set_cons_zero, List.set_cons_succ]
    refine wpAnyH_take (i := 14) (v := ?_) rfl (by kernel_rfl) (by kernel_rfl) (by kernel_rfl) (fun _ _ _ h => h) (Or.inl ⟨by rfl, ?_⟩) (by assumption) ?_
    rotate_left
    · intro w hSw; (try dsimp only at hSw); go_simp; try with_reducible rfl
    try simp only [Act.put, List.getElem_toArray, List.getElem_cons_succ, List.getElem_cons_zero, List.setIfInBounds_toArray, List.set_cons_zero, List.set_cons_succ]
    refine wpAnyH_take (i := 15) (v := ?_) rfl (by kernel_rfl) (by kernel_rfl) (by kernel_rfl) (fun _ _ _ h => h) (Or.inl ⟨by rfl, ?_⟩) (by assumption) ?_
    rotate_left
    · intro w hSw; (try dsimp only at hSw); go_simp; try with_reducible rfl
    try simp only [Act.put, List.getElem_toArray, List.getElem_cons_succ, List.getElem_cons_zero, List.setIfInBounds_toArray, List.set_cons_zero, List.set_cons_succ]
    refine wpAnyH_take (i := 16) (v := ?_) rfl (by kernel_rfl) (by kernel_rfl) (by kernel_rfl) (fun _ _ _ h => h) (Or.inl ⟨by rfl, ?_⟩) (by assumption) ?_
    rotate_left
    · intro w hSw; (try dsimp only at hSw); go_simp; try with_reducible rfl
    try simp only [Act.put, List.getElem_toArray, List.getElem_cons_succ, List.getElem_cons_zero, List.setIfInBounds_toArray, List.set_cons_zero, List.set_cons_succ]
    refine wpAnyH_take (i := 17) (v := ?_) rfl (by kernel_rfl) (by kernel_rfl) (by kernel_rfl) (fun _ _ _ h => h) (Or.inl ⟨by rfl, ?_⟩) (by assumption) ?_
    rotate_left
    · intro w hSw; (try dsimp only at hSw); go_simp; try with_reducible rfl
    try simp only [Act.put, List.getElem_toArray, List.getElem_cons_succ, List.getElem_cons_zero, List.setIfInBounds_toArray, List.set_cons_zero, List.set_cons_succ]
    refine wpAnyH_take (i := 18) (v := ?_) rfl (by kernel_rfl) (by kernel_rfl) (by kernel_rfl) (fun _ _ _ h => h) (Or.inl ⟨by rfl, ?_⟩) (by assumption) ?_
    rotate_left
    · intro w hSw; (try dsimp only at hSw); go_simp; try with_reducible rfl
    try simp only [Act.put, List.getElem_toArray, List.getElem_cons_succ, List.getElem_cons_zero, List.setIfInBounds_toArray, List.set_cons_zero, List.set_cons_succ]
    refine wpAnyH_ready (rs := [19]) (by kernel_rfl) (by simp) ?_
    refine AllReadyH.cons rfl (fun K hK => ?_) AllReadyH.nil
    go_simp
    refine HWI.out.mono ?_; rintro e w6 (⟨hb, hfit, rfl, hn6, t6⟩ | ⟨hno, rfl, t6⟩)
    rotate_left
    · refine ⟨rfl, .inr ⟨fun e => hno ?_, rfl, ?_⟩⟩
      · rw [HNE.out, if_neg HB.out, HTE.out] at e
        exact ⟨by rw [keepL_len]; exact (hasK_iff HH.out.kn cc).2 e.2.2.1.1, e.2.2.1.2⟩
      · exact ((HK5.out.2.2.2.1.trans SF.out.turn).trans (t6.mono fun j _ e => .inr (by have := HK5.out.2.2.1; have e2 : j = r5 := e; omega))).mono fun j hj e => e.elim .inl fun e => by omega
    have HFIT : Hid (hasK k cc ∧ FitsK c.m f (setK (keepK k V) cc te) b) := ⟨(hasK_iff HH.out.kn cc).1 (by rw [← keepL_len l V]; exact hb), hfit⟩
    have hr5 := HR5D.out
    have H6 : Hid (WkAt c w6 f g fi bi ii N r5 T Y (keepL l V) (keepK k V)) := HF.out.step hn6 (HF.out.kn.keep t6 (fun b im R hb e => HF.out.now.words b im R hb (.inr e))) HF.out.inK (.inl rfl) (t6.mono fun _ _ e => .inr e)
    have B6 : Hid (Blk w6 Kw 55 #[.pointer (some ⟨X, 0, none⟩)] ∧ Blk w6 K0 36 #[.int .i64 17, .int .i64 d, .int .i64 a, .int .i64 b, .int .i64 cc, .int .i64 xn, .slice la ln lc, .slice ma mn mc, .slice va vn vc] ∧ TyK w6 rb (resT c.m a) ∧ Turn (fun j => j = N ∨ w.heap.size ≤ j) w w6) := ⟨BF.out.1.keep t6 (by show ¬ Kw = r5; omega), BF.out.2.1.keep t6 (by show ¬ K0 = r5; omega), BF.out.2.2.2.keep t6 (fun e => HF.out.now.words _ _ _ BF.out.2.2.2.1 (.inr e)), (HK5.out.2.2.2.1.trans SF.out.turn).trans (t6.mono fun j _ e => .inr (by have := HK5.out.2.2.1; have e2 : j = r5 := e; omega))⟩
    have hX5 : X ≠ r5 ∧ r1 ≠ r5 ∧ Kw ≠ r5 ∧ K0 ≠ r5 := by
      have h1 := HH.out.box.lt; have h2 := HX.out; have h3 := HK5.out.2.2.1
      have h4 := HF.out.far.2.1; have h5 := HF.out.rows.l1.1; have h6 := HR1.out
      exact ⟨by omega, by omega, by omega, by omega⟩
    have hL5 : X < wF.heap.size ∧ r1 < wF.heap.size ∧ Kw < wF.heap.size ∧ K0 < wF.heap.size := by
      have h1 := HF.out.box.lt; have h2 := HX.out
      have h4 := HF.out.rows.l1.1; have h5 := HF.out.rows.le; have h6 := HR1.out
      exact ⟨by omega, by omega, BF.out.1.lt, BF.out.2.1.lt⟩
    have hH6 : w6.cell? ⟨Kw, 0, none⟩ = some (.pointer (some ⟨X, 0, none⟩)) ∧ w6.cell? ⟨X, 20, none⟩ = some (.func (.func 87) #[] #[.pointer (some ⟨N, 0, none⟩)]) ∧ w6.cell? ⟨K0, 4, none⟩ = some (.int .i64 cc) ∧ w6.cell? ⟨X, 7, none⟩ = some (.slice (some ⟨r1, 0, none⟩) tn rc) ∧ w6.cell? ⟨X, 6, none⟩ = some (.int .i64 (e0 : Int)) ∧ w6.cell? ⟨r1, e0, none⟩ = some (.pointer (some ⟨be, 0, none⟩)) := ⟨(t6.cell (p := ⟨Kw, 0, none⟩) hL5.2.2.1 hX5.2.2.1).trans hHeld.1, (t6.cell (p := ⟨X, 20, none⟩) hL5.1 hX5.1).trans hHeld.2.1, (t6.cell (p := ⟨K0, 4, none⟩) hL5.2.2.2 hX5.2.2.2).trans hHeld.2.2.1, (t6.cell (p := ⟨X, 7, none⟩) hL5.1 hX5.1).trans hHeld.2.2.2.1, (t6.cell (p := ⟨X, 6, none⟩) hL5.1 hX5.1).trans hHeld.2.2.2.2.1, (t6.cell (p := ⟨r1, e0, none⟩) hL5.2.1 hX5.2.1).trans hHeld.2.2.2.2.2⟩
    clear hb hfit hn6 t6 hHeld hr5 hX5 hL5
    refine hK.out _ _ hH6 (fun hHeld => ?_)
    clear hK K hH6
    refine wpAnyH_done (by kernel_rfl) ?_ _
    clear hHeld
    obtain ⟨wE, hwE⟩ : ∃ wE, w6.drew = wE := ⟨_, rfl⟩
    have SE : Hid (Still w6 wE) := by rw [← hwE]; exact (Still.refl w6).drew
    have H7 := Lib.hid (H6.out.still SE.out)
    have B7 : Hid (Blk wE Kw 55 #[.pointer (some ⟨X, 0, none⟩)] ∧ Blk wE K0 36 #[.int .i64 17, .int .i64 d, .int .i64 a, .int .i64 b, .int .i64 cc, .int .i64 xn, .slice la ln lc, .slice ma mn mc, .slice va vn vc] ∧ TyK wE rb (resT c.m a)) := ⟨SE.out.blk B6.out.1, SE.out.blk B6.out.2.1, B6.out.2.2.1.keep SE.out (fun e => e)⟩
    have hS2 : wE.cell? ⟨Kw, 0, none⟩ = some (.pointer (some ⟨X, 0, none⟩)) ∧ wE.cell? ⟨X, 19, none⟩ = some (.func (.func 86) #[] #[.pointer (some ⟨N, 0, none⟩)]) ∧ wE.cell? ⟨K0, 1, none⟩ = some (.int .i64 d) := ⟨B7.out.1.cell 0, by rw [← HX.out]; exact H7.out.box.cell 19, B7.out.2.1.cell 1⟩
    have henter2 : ∀ (args : Array Value) (W : World), (callFunc 86 args).run Tryz.prog W = .ok (.enter 86 args) W := enters_of Tryz.func86 (by kernel_rfl) rfl
    have HGV := Lib.hid (give_any H7.out.now H7.out.ne.2.1 d (some rb))
    go_wp2_with fail
    refine wp_region_held_drew (S := fun W => W.cell? ⟨Kw, 0, none⟩ = some (.pointer (some ⟨X, 0, none⟩)) ∧ W.cell? ⟨X, 19, none⟩ = some (.func (.func 86) #[] #[.pointer (some ⟨N, 0, none⟩)]) ∧ W.cell? ⟨K0, 1, none⟩ = some (.int .i64 d)) (by kernel_rfl) (by rw [hwE]; exact hS2) (fun hHeld => ?_)
    try simp only [Act.put, List.getElem_toArray, List.getElem_cons_succ, List.getElem_cons_zero, List.setIfInBounds_toArray, List.set_cons_zero, List.set_cons_succ]
    rw [hwE] at hHeld ⊢
    clear hwE hS2
    refine wpAnyH_take (i := 0) (v := ?_) rfl (by kernel_rfl) (by kernel_rfl) (by kernel_rfl) (fun _ _ _ h => h) (Or.inl ⟨by rfl, ?_⟩) (by assumption) ?_
    rotate_left
    · intro w hSw; (try dsimp only at hSw); go_simp; try with_reducible rfl
    try simp only [Act.put, List.getElem_toArray, List.getElem_cons_succ, List.getElem_cons_zero, List.setIfInBounds_toArray, List.set_cons_zero, List.set_cons_succ]
    refine wpAnyH_take (i := 1) (v := ?_) rfl (by kernel_rfl) (by kernel_rfl) (by kernel_rfl) (fun _ _ _ h => h) (Or.inl ⟨by rfl, ?_⟩) (by assumption) ?_
    rotate_left
    · intro w hSw; (try dsimp only at hSw); go_simp; try with_reducible rfl
    try simp only [Act.put, List.getElem_toArray, List.getElem_cons_succ, List.getElem_cons_zero, List.setIfInBounds_toArray, List.set_cons_zero, List.set_cons_succ]
    refine wpAnyH_take (i := 2) (v := ?_) rfl (by kernel_rfl) (by kernel_rfl) (by kernel_rfl) (fun _ _ _ h => h) (Or.inl ⟨by rfl, ?_⟩) (by assumption) ?_
    rotate_left
    · intro w hSw; (try dsimp only at hSw); go_simp; try with_reducible rfl
    try simp only [Act.put, List.getElem_toArray, List.getElem_cons_succ, List.getElem_cons_zero, List.setIfInBounds_toArray, List.set_cons_zero, List.set_cons_succ]
    refine wpAnyH_take (i := 3) (v := ?_) rfl (by kernel_rfl) (by kernel_rfl) (by kernel_rfl) (fun _ _ _ h => h) (Or.inl ⟨by rfl, ?_⟩) (by assumption) ?_
    rotate_left
    · intro w hSw; (try dsimp only at hSw); go_simp; try with_reducible rfl
    try simp only [Act.put, List.getElem_toArray, List.getElem_cons_succ, List.getElem_cons_zero, List.setIfInBounds_toArray, List.set_cons_zero, List.set_cons_succ]
    refine wpAnyH_take (i := 4) (v := ?_) rfl (by kernel_rfl) (by kernel_rfl) (by kernel_rfl) (fun _ _ _ h => h) (Or.inl ⟨by rfl, ?_⟩) (by assumption) ?_
    rotate_left
    · intro w hSw; (try dsimp only at hSw); go_simp; try with_reducible rfl
    try simp only [Act.put, List.getElem_toArray, List.getElem_cons_succ, List.getElem_cons_zero, List.setIfInBounds_toArray, List.set_cons_zero, List.set_cons_succ]
    refine wpAnyH_take (i := 5) (v := ?_) rfl (by kernel_rfl) (by kernel_rfl) (by kernel_rfl) (fun _ _ _ h => h) (Or.inl ⟨by rfl, ?_⟩) (by assumption) ?_
    rotate_left
    · intro w hSw; (try dsimp only at hSw); go_simp; try with_reducible rfl
    try simp only [Act.put, List.getElem_toArray, List.getElem_cons_succ, List.getElem_cons_zero, List.setIfInBounds_toArray, List.set_cons_zero, List.set_cons_succ]
    refine wpAnyH_take (i := 6) (v := ?_) rfl (by kernel_rfl) (by kernel_rfl) (by kernel_rfl) (fun _ _ _ h => h) (Or.inl ⟨by rfl, ?_⟩) (by assumption) ?_
    rotate_left
    · intro w hSw; (try dsimp only at hSw); go_simp; try with_reducible rfl
    try simp only [Act.put, List.getElem_toArray, List.getElem_cons_succ, List.getElem_cons_zero, List.setIfInBounds_toArray, List.set_cons_zero, List.set_cons_succ]
    refine wpAnyH_take (i := 7) (v := ?_) rfl (by kernel_rfl) (by kernel_rfl) (by kernel_rfl) (fun _ _ _ h => h) (Or.inl ⟨by rfl, ?_⟩) (by assumption) ?_
    rotate_left
    · intro w hSw; (try dsimp only at hSw); go_simp; try with_reducible rfl
    try simp only [Act.put, List.getElem_toArray, List.getElem_cons_succ, List.getElem_cons_zero, List.setIfInBounds_toArray, List.set_cons_zero, List.set_cons_succ]
    refine wpAnyH_ready (rs := [8]) (by kernel_rfl) (by simp) ?_
    refine AllReadyH.cons rfl (fun K hK => ?_) AllReadyH.nil
    go_simp
    refine HGV.out.mono ?_; rintro e w8 (⟨hb, rfl, hn8, t8⟩ | ⟨hb, rfl, rfl⟩)
    rotate_left
    · refine ⟨rfl, .inr ⟨fun e => ?_, rfl, (B6.out.2.2.2.trans SE.out.turn).mono fun j hj e => e.elim .inl fun e => by omega⟩⟩
      rw [HNE.out] at e
      rw [keepL_len, (hasK_iff HH.out.kn d).2 e.2.2.2] at hb
      cases hb
    have H8 := Lib.hid (And.intro hb (And.intro hn8 t8))
    have hr5 := HR5D.out
    have hX5 : X ≠ r5 := by have h1 := HH.out.box.lt; have h2 := HX.out; have h3 := HK5.out.2.2.1; omega
    have hH8 : w8.cell? ⟨Kw, 0, none⟩ = some (.pointer (some ⟨X, 0, none⟩)) ∧ w8.cell? ⟨X, 19, none⟩ = some (.func (.func 86) #[] #[.pointer (some ⟨N, 0, none⟩)]) ∧ w8.cell? ⟨K0, 1, none⟩ = some (.int .i64 d) := ⟨(t8.cell (p := ⟨Kw, 0, none⟩) B7.out.1.lt (by show ¬ Kw = r5; omega)).trans hHeld.1, (t8.cell (p := ⟨X, 19, none⟩) (by rw [← HX.out]; exact H7.out.box.lt) hX5).trans hHeld.2.1, (t8.cell (p := ⟨K0, 1, none⟩) B7.out.2.1.lt (by show ¬ K0 = r5; omega)).trans hHeld.2.2⟩
    clear hb hn8 t8 hHeld hr5 hX5
    refine hK.out _ _ hH8 (fun hHeld => ?_)
    clear hK K hH8
    refine wpAnyH_done (by kernel_rfl) ?_ _
    clear hHeld
    go_wp2_with fail
    go_end0
    have tW : Turn (fun j => j = N ∨ j = r) w w8 := by
      have t1 : Turn (fun j => j = N ∨ w.heap.size ≤ j) w w8 := (B6.out.2.2.2.trans SE.out.turn).trans (H8.out.2.2.mono fun j _ e => .inr (by have := HK5.out.2.2.1; have e2 : j = r5 := e; omega))
      exact t1.mono fun j hj e => e.elim .inl fun e => by omega
    refine .inl ⟨?_, rfl, ⟨r5, _, H8.out.2.1, ?_, .inr HK5.out.2.2.1⟩, tW⟩
    · rw [HNE.out]
      have hd := (hasK_iff HH.out.kn d).1 (by rw [← keepL_len l V]; exact H8.out.1)
      exact ⟨HP.out.1, HK5.out.1, by rw [if_neg HB.out, HTE.out]; exact HFIT.out, hd⟩
    · rw [HNX.out]
      have hk8 := H7.out.kn.keep H8.out.2.2 (fun b im R hb e => H7.out.now.words b im R hb (.inr e))
      exact hk8.set (B7.out.2.2.keep H8.out.2.2 (fun e => H7.out.now.words _ _ _ B7.out.2.2.1 (.inr e)))
end Go.Proofs.YtglalgjffkoneaaGreatDoor
/- Instructions that make an object, or call. -/
namespace Go.Proofs.YtglalgjffkoneaaGreatDoor
set_option linter.unusedVariables false
set_option linter.unusedSimpArgs false
open Go.ChangeShapes Go.WideShapes Go.ChangeAt Go.RowKit
open Vf (K nth nth_nat tyAt atK isK numT oneT le beginK tsub RowK FitsK CalledK resT ObjK keepK KeepsK setK hasK)
set_option maxRecDepth 100000 in
set_option maxHeartbeats 8000000 in
theorem step_text (c : WkC) (hW : wholeB c.m = true) (x : M.Ins) (hop : x.op = 2) : StepOk c x := by
  intro w f g fi bi ii N r T Y l k la ln lc ma mn mc va vn vc h hx
  have S1 : Hid (Still w (w.alloc (.cells #[.int .i64 2, .int .i64 x.d, .int .i64 x.a, .int .i64 x.b, .int .i64 x.c, .int .i64 x.n, .slice la ln lc, .slice ma mn mc, .slice va vn vc] 36)) ∧ Blk (w.alloc (.cells #[.int .i64 2, .int .i64 x.d, .int .i64 x.a, .int .i64 x.b, .int .i64 x.c, .int .i64 x.n, .slice la ln lc, .slice ma mn mc, .slice va vn vc] 36)) w.heap.size 36 #[.int .i64 2, .int .i64 x.d, .int .i64 x.a, .int .i64 x.b, .int .i64 x.c, .int .i64 x.n, .slice la ln lc, .slice ma mn mc, .slice va vn vc]) := ⟨(Still.refl w).alloc _, Blk.new w _ _⟩
  rw [hop] at hx
  have HL := Lib.hid (create_text c hW x hop _ f g fi bi ii N r T Y l k la ln lc ma mn mc va vn vc (h.still S1.out.1) (hx.keep ((Still.below S1.out.1).mono (by have := h.rows.le; omega)) (by have := h.rows.le; omega)))
  rw [hop]
  have c0 := S1.out.2.cell 0
  have c1 := S1.out.2.cell 1
  have c2 := S1.out.2.cell 2
  have c3 := S1.out.2.cell 3
  have c4 := S1.out.2.cell 4
  have c5 := S1.out.2.cell 5
  have c6 := S1.out.2.cell 6
  have c7 := S1.out.2.cell 7
  have c8 := S1.out.2.cell 8
  have HSR : Hid (∀ e W, StepR c f N r k x (w.alloc (.cells #[.int .i64 2, .int .i64 x.d, .int .i64 x.a, .int .i64 x.b, .int .i64 x.c, .int .i64 x.n, .slice la ln lc, .slice ma mn mc, .slice va vn vc] 36)) e W → StepR c f N r k x w e W) := fun e W hs => by
    rcases hs with ⟨h1, h2, ⟨r', l', h3, h4, h5⟩, h6⟩ | ⟨h1, h2, h3⟩
    · exact .inl ⟨h1, h2, ⟨r', l', h3, h4, h5.elim .inl fun e => .inr (Nat.le_trans S1.out.1.size e)⟩, S1.out.1.turn.trans h6⟩
    · exact .inr ⟨h1, h2, S1.out.1.turn.trans h3⟩
  clear h hx hop
  go_enter Tryz.func59, Tryz.ntmps59
  go_wp2_with fail
  clear c0 c1 c2 c3 c4 c5 c6 c7 c8
  refine HL.out.mono ?_; rintro e w5 hs
  have hs2 := HSR.out _ _ hs
  clear hs
  rcases hs2 with ⟨h1, rfl, h3, h4⟩ | ⟨h1, rfl, h3⟩
  · have HS := Lib.hid (And.intro h1 (And.intro h3 h4))
    clear h1 h3 h4
    go_wp2_with fail
    go_end0
    exact .inl ⟨HS.out.1, rfl, HS.out.2.1, HS.out.2.2⟩
  · exact ⟨rfl, .inr ⟨h1, rfl, h3⟩⟩
set_option maxRecDepth 100000 in
set_option maxHeartbeats 8000000 in
theorem step_new (c : WkC) (hW : wholeB c.m = true) (x : M.Ins) (hop : x.op = 5) : StepOk c x := by
  intro w f g fi bi ii N r T Y l k la ln lc ma mn mc va vn vc h hx
  have S1 : Hid (Still w (w.alloc (.cells #[.int .i64 5, .int .i64 x.d, .int .i64 x.a, .int .i64 x.b, .int .i64 x.c, .int .i64 x.n, .slice la ln lc, .slice ma mn mc, .slice va vn vc] 36)) ∧ Blk (w.alloc (.cells #[.int .i64 5, .int .i64 x.d, .int .i64 x.a, .int .i64 x.b, .int .i64 x.c, .int .i64 x.n, .slice la ln lc, .slice ma mn mc, .slice va vn vc] 36)) w.heap.size 36 #[.int .i64 5, .int .i64 x.d, .int .i64 x.a, .int .i64 x.b, .int .i64 x.c, .int .i64 x.n, .slice la ln lc, .slice ma mn mc, .slice va vn vc]) := ⟨(Still.refl w).alloc _, Blk.new w _ _⟩
  rw [hop] at hx
  have HL := Lib.hid (create_new c hW x hop _ f g fi bi ii N r T Y l k la ln lc ma mn mc va vn vc (h.still S1.out.1) (hx.keep ((Still.below S1.out.1).mono (by have := h.rows.le; omega)) (by have := h.rows.le; omega)))
  rw [hop]
  have c0 := S1.out.2.cell 0
  have c1 := S1.out.2.cell 1
  have c2 := S1.out.2.cell 2
  have c3 := S1.out.2.cell 3
  have c4 := S1.out.2.cell 4
  have c5 := S1.out.2.cell 5
  have c6 := S1.out.2.cell 6
  have c7 := S1.out.2.cell 7
  have c8 := S1.out.2.cell 8
  have HSR : Hid (∀ e W, StepR c f N r k x (w.alloc (.cells #[.int .i64 5, .int .i64 x.d, .int .i64 x.a, .int .i64 x.b, .int .i64 x.c, .int .i64 x.n, .slice la ln lc, .slice ma mn mc, .slice va vn vc] 36)) e W → StepR c f N r k x w e W) := fun e W hs => by
    rcases hs with ⟨h1, h2, ⟨r', l', h3, h4, h5⟩, h6⟩ | ⟨h1, h2, h3⟩
    · exact .inl ⟨h1, h2, ⟨r', l', h3, h4, h5.elim .inl fun e => .inr (Nat.le_trans S1.out.1.size e)⟩, S1.out.1.turn.trans h6⟩
    · exact .inr ⟨h1, h2, S1.out.1.turn.trans h3⟩
  clear h hx hop
  go_enter Tryz.func59, Tryz.ntmps59
  go_wp2_with fail
  clear c0 c1 c2 c3 c4 c5 c6 c7 c8
  refine HL.out.mono ?_; rintro e w5 hs
  have hs2 := HSR.out _ _ hs
  clear hs
  rcases hs2 with ⟨h1, rfl, h3, h4⟩ | ⟨h1, rfl, h3⟩
  · have HS := Lib.hid (And.intro h1 (And.intro h3 h4))
    clear h1 h3 h4
    go_wp2_with fail
    go_end0
    exact .inl ⟨HS.out.1, rfl, HS.out.2.1, HS.out.2.2⟩
  · exact ⟨rfl, .inr ⟨h1, rfl, h3⟩⟩
set_option maxRecDepth 100000 in
set_option maxHeartbeats 8000000 in
theorem step_array (c : WkC) (hW : wholeB c.m = true) (x : M.Ins) (hop : x.op = 8) : StepOk c x := by
  intro w f g fi bi ii N r T Y l k la ln lc ma mn mc va vn vc h hx
  have S1 : Hid (Still w (w.alloc (.cells #[.int .i64 8, .int .i64 x.d, .int .i64 x.a, .int .i64 x.b, .int .i64 x.c, .int .i64 x.n, .slice la ln lc, .slice ma mn mc, .slice va vn vc] 36)) ∧ Blk (w.alloc (.cells #[.int .i64 8, .int .i64 x.d, .int .i64 x.a, .int .i64 x.b, .int .i64 x.c, .int .i64 x.n, .slice la ln lc, .slice ma mn mc, .slice va vn vc] 36)) w.heap.size 36 #[.int .i64 8, .int .i64 x.d, .int .i64 x.a, .int .i64 x.b, .int .i64 x.c, .int .i64 x.n, .slice la ln lc, .slice ma mn mc, .slice va vn vc]) := ⟨(Still.refl w).alloc _, Blk.new w _ _⟩
  rw [hop] at hx
  have HL := Lib.hid (create_array c hW x hop _ f g fi bi ii N r T Y l k la ln lc ma mn mc va vn vc (h.still S1.out.1) (hx.keep ((Still.below S1.out.1).mono (by have := h.rows.le; omega)) (by have := h.rows.le; omega)))
  rw [hop]
  have c0 := S1.out.2.cell 0
  have c1 := S1.out.2.cell 1
  have c2 := S1.out.2.cell 2
  have c3 := S1.out.2.cell 3
  have c4 := S1.out.2.cell 4
  have c5 := S1.out.2.cell 5
  have c6 := S1.out.2.cell 6
  have c7 := S1.out.2.cell 7
  have c8 := S1.out.2.cell 8
  have HSR : Hid (∀ e W, StepR c f N r k x (w.alloc (.cells #[.int .i64 8, .int .i64 x.d, .int .i64 x.a, .int .i64 x.b, .int .i64 x.c, .int .i64 x.n, .slice la ln lc, .slice ma mn mc, .slice va vn vc] 36)) e W → StepR c f N r k x w e W) := fun e W hs => by
    rcases hs with ⟨h1, h2, ⟨r', l', h3, h4, h5⟩, h6⟩ | ⟨h1, h2, h3⟩
    · exact .inl ⟨h1, h2, ⟨r', l', h3, h4, h5.elim .inl fun e => .inr (Nat.le_trans S1.out.1.size e)⟩, S1.out.1.turn.trans h6⟩
    · exact .inr ⟨h1, h2, S1.out.1.turn.trans h3⟩
  clear h hx hop
  go_enter Tryz.func59, Tryz.ntmps59
  go_wp2_with fail
  clear c0 c1 c2 c3 c4 c5 c6 c7 c8
  refine HL.out.mono ?_; rintro e w5 hs
  have hs2 := HSR.out _ _ hs
  clear hs
  rcases hs2 with ⟨h1, rfl, h3, h4⟩ | ⟨h1, rfl, h3⟩
  · have HS := Lib.hid (And.intro h1 (And.intro h3 h4))
    clear h1 h3 h4
    go_wp2_with fail
    go_end0
    exact .inl ⟨HS.out.1, rfl, HS.out.2.1, HS.out.2.2⟩
  · exact ⟨rfl, .inr ⟨h1, rfl, h3⟩⟩
set_option maxRecDepth 100000 in
set_option maxHeartbeats 8000000 in
theorem step_call (c : WkC) (hW : wholeB c.m = true) (x : M.Ins) (hop : x.op = 17) : StepOk c x := by
  intro w f g fi bi ii N r T Y l k la ln lc ma mn mc va vn vc h hx
  have S1 : Hid (Still w (w.alloc (.cells #[.int .i64 17, .int .i64 x.d, .int .i64 x.a, .int .i64 x.b, .int .i64 x.c, .int .i64 x.n, .slice la ln lc, .slice ma mn mc, .slice va vn vc] 36)) ∧ Blk (w.alloc (.cells #[.int .i64 17, .int .i64 x.d, .int .i64 x.a, .int .i64 x.b, .int .i64 x.c, .int .i64 x.n, .slice la ln lc, .slice ma mn mc, .slice va vn vc] 36)) w.heap.size 36 #[.int .i64 17, .int .i64 x.d, .int .i64 x.a, .int .i64 x.b, .int .i64 x.c, .int .i64 x.n, .slice la ln lc, .slice ma mn mc, .slice va vn vc]) := ⟨(Still.refl w).alloc _, Blk.new w _ _⟩
  rw [hop] at hx
  have HL := Lib.hid (call_any c hW x hop _ f g fi bi ii N r T Y l k la ln lc ma mn mc va vn vc (h.still S1.out.1) (hx.keep ((Still.below S1.out.1).mono (by have := h.rows.le; omega)) (by have := h.rows.le; omega)))
  rw [hop]
  have c0 := S1.out.2.cell 0
  have c1 := S1.out.2.cell 1
  have c2 := S1.out.2.cell 2
  have c3 := S1.out.2.cell 3
  have c4 := S1.out.2.cell 4
  have c5 := S1.out.2.cell 5
  have c6 := S1.out.2.cell 6
  have c7 := S1.out.2.cell 7
  have c8 := S1.out.2.cell 8
  have HSR : Hid (∀ e W, StepR c f N r k x (w.alloc (.cells #[.int .i64 17, .int .i64 x.d, .int .i64 x.a, .int .i64 x.b, .int .i64 x.c, .int .i64 x.n, .slice la ln lc, .slice ma mn mc, .slice va vn vc] 36)) e W → StepR c f N r k x w e W) := fun e W hs => by
    rcases hs with ⟨h1, h2, ⟨r', l', h3, h4, h5⟩, h6⟩ | ⟨h1, h2, h3⟩
    · exact .inl ⟨h1, h2, ⟨r', l', h3, h4, h5.elim .inl fun e => .inr (Nat.le_trans S1.out.1.size e)⟩, S1.out.1.turn.trans h6⟩
    · exact .inr ⟨h1, h2, S1.out.1.turn.trans h3⟩
  clear h hx hop
  go_enter Tryz.func59, Tryz.ntmps59
  go_wp2_with fail
  clear c0 c1 c2 c3 c4 c5 c6 c7 c8
  refine HL.out.mono ?_; rintro e w5 hs
  have hs2 := HSR.out _ _ hs
  clear hs
  rcases hs2 with ⟨h1, rfl, h3, h4⟩ | ⟨h1, rfl, h3⟩
  · have HS := Lib.hid (And.intro h1 (And.intro h3 h4))
    clear h1 h3 h4
    go_wp2_with fail
    go_end0
    exact .inl ⟨HS.out.1, rfl, HS.out.2.1, HS.out.2.2⟩
  · exact ⟨rfl, .inr ⟨h1, rfl, h3⟩⟩
end Go.Proofs.YtglalgjffkoneaaGreatDoor
