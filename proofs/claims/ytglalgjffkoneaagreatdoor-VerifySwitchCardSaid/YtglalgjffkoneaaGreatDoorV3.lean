/- Lemmas, put together: Vadd Vof Vjn Vmd Vdc Vnew. -/
import Derived.Test.YtglalgjffkoneaaGreatDoorV2
import Derived.Deep.CutBlock
import Derived.Test.YtglalgjffkoneaaGreatDoorV1
/- All of two types' words: add. -/
namespace Go.Proofs.YtglalgjffkoneaaGreatDoor
set_option linter.unusedVariables false
set_option linter.unusedSimpArgs false
open Go.ChangeShapes Go.WideShapes Go.ChangeAt Go.RowKit
/-- The first i rows are those of both. -/
def half (Ra Rb : Nat → Nat) (i : Nat) : Nat → Nat := fun j => if j < i then Vf.both Ra Rb j else Ra j
theorem half_zero (Ra Rb : Nat → Nat) : half Ra Rb 0 = Ra := by funext j; simp [half]
theorem half_at (Ra Rb : Nat → Nat) (i : Nat) : half Ra Rb i i = Ra i := by simp [half]
theorem half_step (Ra Rb : Nat → Nat) (i : Nat) : (fun j => if j = i then Ra i ||| Rb i else half Ra Rb i j) = half Ra Rb (i + 1) := by
  funext j
  unfold half
  by_cases e : j = i
  · subst e; simp [Vf.both]
  · by_cases h : j < i
    · rw [if_neg e, if_pos h, if_pos (by omega)]
    · rw [if_neg e, if_neg h, if_neg (by omega)]
theorem half_last (im : Bool) (Ra Rb : Nat → Nat) : wcells im (half Ra Rb 8) = wcells im (Vf.both Ra Rb) := by simp [wcells, half]
theorem WordsAt.put {w : World} {a : Nat} {im : Bool} {R : Nat → Nat} (h : WordsAt w a im R) (i : Nat) (hi : i < 8) (v : Nat) (hv : v < 2 ^ 64) : WordsAt (w.setCell ⟨a, 1 + i, none⟩ (.int .u64 v)) a im (fun j => if j = i then v else R j) := by
  refine ⟨?_, fun j => by show (if j = i then v else R j) < 2 ^ 64; split; exact hv; exact h.ok j⟩
  have hb := h.blk.set (1 + i) (.int .u64 v)
  have : i = 0 ∨ i = 1 ∨ i = 2 ∨ i = 3 ∨ i = 4 ∨ i = 5 ∨ i = 6 ∨ i = 7 := by omega
  rcases this with rfl | rfl | rfl | rfl | rfl | rfl | rfl | rfl <;> exact hb
theorem WordsAt.putImm {w : World} {a : Nat} {im : Bool} {R : Nat → Nat} (h : WordsAt w a im R) (x : Bool) : WordsAt (w.setCell ⟨a, 0, none⟩ (.bool x)) a x R := ⟨h.blk.set 0 (.bool x), h.ok⟩
def AddR (a : Nat) (ia ib : Bool) (Ra Rb : Nat → Nat) (w : World) (e : Ending) (w' : World) : Prop := e = .returned (.tuple #[]) ∧ WordsAt w' a (ia || ib) (Vf.both Ra Rb) ∧ Turn (fun j => j = a) w w'
set_option maxRecDepth 100000 in
set_option maxHeartbeats 4000000 in
theorem add_any {w : World} {a b : Nat} {ia ib : Bool} {Ra Rb : Nat → Nat} (ha : WordsAt w a ia Ra) (hb : WordsAt w b ib Rb) (hab : a ≠ b) :
    Calls Tryz.prog 162 #[.pointer (some ⟨a, 0, none⟩), .pointer (some ⟨b, 0, none⟩)] w (AddR a ia ib Ra Rb w) := by
  have HA := Lib.hid ha
  have HB := Lib.hid hb
  have hyi : ∀ i : Nat, i < 8 → ∀ W : World, (Instr.index 104 (.agg #[.int .u64 (Rb 0), .int .u64 (Rb 1), .int .u64 (Rb 2), .int .u64 (Rb 3), .int .u64 (Rb 4), .int .u64 (Rb 5), .int .u64 (Rb 6), .int .u64 (Rb 7)]) (.int .i64 (i : Int))).run Tryz.prog W = .ok (.int .u64 (Rb i)) W := fun i hi W => run_index_rows _ i hi _ (by
    have : i = 0 ∨ i = 1 ∨ i = 2 ∨ i = 3 ∨ i = 4 ∨ i = 5 ∨ i = 6 ∨ i = 7 := by omega
    rcases this with rfl | rfl | rfl | rfl | rfl | rfl | rfl | rfl <;> rfl) W
  have HYI := Lib.hid hyi
  have HAB := Lib.hid hab
  have hcase : (ia = true ∧ (ia || ib) = true) ∨ (ia = false ∧ ib = (ia || ib)) := by cases ia <;> simp
  obtain ⟨x, hx⟩ : ∃ x, (ia || ib) = x := ⟨_, rfl⟩
  have HX := Lib.hid hx
  rw [hx] at hcase
  clear hx hyi
  rcases hcase with ⟨rfl, rfl⟩ | ⟨rfl, rfl⟩
  all_goals
    have c0 := ha.imm
    have d0 := hb.imm
    have la := ha.blk.lt
    have lb := hb.blk.lt
    have f0 := ha.blk.frozen 0
    clear ha hb
    go_enter Tryz.func162, Tryz.ntmps162
    go_upto_region 1 with fail
    clear c0 d0 f0
  · have A1 : Hid (WordsAt (w.setCell ⟨a, 0, none⟩ (.bool true)) a true Ra ∧ Turn (fun j => j = a) w (w.setCell ⟨a, 0, none⟩ (.bool true))) := ⟨HA.out.putImm true, (Turn.refl (fun j => j = a) w).setCell (p := ⟨a, 0, none⟩) (fun _ => rfl) _⟩
    generalize w.setCell ⟨a, 0, none⟩ (.bool true) = w1 at A1 ⊢
    have hb1 := HB.out.keep A1.out.2 (fun e => HAB.out e.symm)
    have B1 := Lib.hid hb1
    have e1 : w1.cell? ⟨b, 1, none⟩ = some (.int .u64 (Rb 0)) := hb1.at 0 (by decide)
    have e2 : w1.cell? ⟨b, 2, none⟩ = some (.int .u64 (Rb 1)) := hb1.at 1 (by decide)
    have e3 : w1.cell? ⟨b, 3, none⟩ = some (.int .u64 (Rb 2)) := hb1.at 2 (by decide)
    have e4 : w1.cell? ⟨b, 4, none⟩ = some (.int .u64 (Rb 3)) := hb1.at 3 (by decide)
    have e5 : w1.cell? ⟨b, 5, none⟩ = some (.int .u64 (Rb 4)) := hb1.at 4 (by decide)
    have e6 : w1.cell? ⟨b, 6, none⟩ = some (.int .u64 (Rb 5)) := hb1.at 5 (by decide)
    have e7 : w1.cell? ⟨b, 7, none⟩ = some (.int .u64 (Rb 6)) := hb1.at 6 (by decide)
    have e8 : w1.cell? ⟨b, 8, none⟩ = some (.int .u64 (Rb 7)) := hb1.at 7 (by decide)
    have lb1 := hb1.blk.lt
    clear hb1 hab la lb
    go_wp2_with fail
    go_loopw [23] (fun z wr => ∃ i : Nat, z = .int .i64 i ∧ i ≤ 8 ∧ WordsAt wr a true (half Ra Rb i) ∧ Turn (fun j => j = a) w1 wr) (fun z _ => 8 - (intOf z).toNat)
    case atStart => exact ⟨0, rfl, by omega, by rw [half_zero]; exact A1.out.1, Turn.refl _ _⟩
    case round =>
      obtain ⟨i, rfl, hi, hw, ht⟩ := hrel
      have HW := Lib.hid (And.intro hw ht)
      clear ht
      by_cases hlt : i < 8
      · have hyi := HYI.out i hlt
        have hii : (i : Int) < 8 := by omega
        have HLT := Lib.hid hlt
        have x0 : decide ((i : Int) < 8) = true := decide_eq_true hii
        obtain ⟨wD, hwD⟩ : ∃ wD, wr.drew = wD := ⟨_, rfl⟩
        have SD : Hid (Still wr wD) := by rw [← hwD]; exact (Still.refl wr).drew
        have hwd := hw.still SD.out
        have HWD := Lib.hid hwd
        have ca : wD.cell? ⟨a, 1 + i, none⟩ = some (.int .u64 (Ra i)) := by rw [hwd.at i hlt, half_at]
        have fa : wD.frozen? ⟨a, 1 + i, none⟩ = false := hwd.blk.frozen (1 + i)
        have la1 := hwd.blk.lt
        have hor : bits .or .u64 (Ra i : Int) (Rb i : Int) = ((Ra i ||| Rb i : Nat) : Int) := Vf.or64 _ _ (HA.out.ok i) (HB.out.ok i)
        clear hw hwd hlt
        go_wp2_with fail
        refine wp_region_any (by kernel_rfl) ?_
        change wpAny _ _ _ _ _ _ _ (World.drew _)
        rw [hwD]
        clear hwD
        refine wpAny_take (i := 0) (v := ?_) rfl (by kernel_rfl) (by kernel_rfl) (by kernel_rfl) (fun _ _ _ h => h) (Or.inl ⟨by rfl, ?_⟩) ?_
        rotate_left
        · intro w; go_simp; try with_reducible rfl
        go_simp
        refine wpAny_take (i := 1) (v := ?_) rfl (by kernel_rfl) (by kernel_rfl) (by kernel_rfl) (fun _ _ _ h => h) (Or.inl ⟨by rfl, ?_⟩) ?_
        rotate_left
        · intro w; go_simp; try with_reducible rfl
        go_simp
        refine wpAny_take (i := 2) (v := ?_) rfl (by kernel_rfl) (by kernel_rfl) (by kernel_rfl) (fun _ _ _ h => h) (Or.inl ⟨by rfl, ?_⟩) ?_
        rotate_left
        · intro w; go_simp; try with_reducible rfl
        go_simp
        refine wpAny_take (i := 3) (v := ?_) rfl (by kernel_rfl) (by kernel_rfl) (by kernel_rfl) (fun _ _ _ h => h) (Or.inl ⟨by rfl, ?_⟩) ?_
        rotate_left
        · intro w; go_simp; try with_reducible rfl
        go_simp
        refine wpAny_take (i := 4) (v := ?_) rfl (by kernel_rfl) (by kernel_rfl) (by kernel_rfl) (fun _ _ _ h => h) (Or.inl ⟨by rfl, ?_⟩) ?_
        rotate_left
        · intro w; go_simp; try with_reducible rfl
        go_simp
        refine wpAny_take (i := 6) (v := ?_) rfl (by kernel_rfl) (by kernel_rfl) (by kernel_rfl) (fun _ _ _ h => h) (Or.inl ⟨by rfl, ?_⟩) ?_
        rotate_left
        · intro w; go_simp; try with_reducible rfl
        go_simp
        refine wpAny_take (i := 8) (v := ?_) rfl (by kernel_rfl) (by kernel_rfl) (by kernel_rfl) (fun _ _ _ h => h) (Or.inl ⟨by rfl, ?_⟩) ?_
        rotate_left
        · intro w; go_simp; try with_reducible rfl
        go_simp
        refine wpAny_take (i := 9) (v := ?_) rfl (by kernel_rfl) (by kernel_rfl) (by kernel_rfl) (fun _ _ _ h => h) (Or.inl ⟨by rfl, ?_⟩) ?_
        rotate_left
        · intro w; go_simp; try with_reducible rfl
        go_simp
        refine wpAny_ready (rs := [5]) (by kernel_rfl) (by simp) ?_
        refine AllReady.cons rfl (fun K hK => ?_) AllReady.nil
        go_simp
        refine hK _ _ ?_; clear hK K
        refine wpAny_take (i := 7) (v := ?_) rfl (by kernel_rfl) (by kernel_rfl) (by kernel_rfl) (fun _ _ _ h => h) (Or.inl ⟨by rfl, ?_⟩) ?_
        rotate_left
        · intro w; go_simp; try with_reducible rfl
        go_simp
        refine wpAny_take (i := 10) (v := ?_) rfl (by kernel_rfl) (by kernel_rfl) (by kernel_rfl) (fun _ _ _ h => h) (Or.inl ⟨by rfl, ?_⟩) ?_
        rotate_left
        · intro w; go_simp; try with_reducible rfl
        go_simp
        refine wpAny_ready (rs := [11]) (by kernel_rfl) (by simp) ?_
        refine AllReady.cons rfl (fun K hK => ?_) AllReady.nil
        go_simp
        refine hK _ _ ?_; clear hK K
        refine wpAny_done (by kernel_rfl) ?_ _
        have TR : Turn (fun j => j = a) wD (wD.setCell ⟨a, 1 + i, none⟩ (.int .u64 ((Ra i ||| Rb i : Nat) : Int))) := (Turn.refl (fun j => j = a) wD).setCell (p := ⟨a, 1 + i, none⟩) (fun _ => rfl) _
        go_wp2_with fail
        go_roundw
        case rel =>
          have hp := HWD.out.put i HLT.out (Ra i ||| Rb i) (Nat.or_lt_two_pow (HA.out.ok i) (HB.out.ok i))
          rw [half_step] at hp
          exact ⟨i + 1, by go_num, by have := HLT.out; omega, hp, (HW.out.2.trans SD.out.turn).trans TR⟩
        case measure => simp [intOf]; omega
      · obtain rfl : i = 8 := by omega
        clear hlt hw
        go_wp2_with fail
        go_end0
        refine ⟨rfl, ?_, A1.out.2.trans HW.out.2⟩
        rw [HX.out]
        exact ⟨by rw [← half_last]; exact HW.out.1.blk, Vf.ok_both HA.out.ok HB.out.ok⟩
  · have A1 : Hid (WordsAt (w.setCell ⟨a, 0, none⟩ (.bool ib)) a ib Ra ∧ Turn (fun j => j = a) w (w.setCell ⟨a, 0, none⟩ (.bool ib))) := ⟨HA.out.putImm ib, (Turn.refl (fun j => j = a) w).setCell (p := ⟨a, 0, none⟩) (fun _ => rfl) _⟩
    generalize w.setCell ⟨a, 0, none⟩ (.bool ib) = w1 at A1 ⊢
    have hb1 := HB.out.keep A1.out.2 (fun e => HAB.out e.symm)
    have B1 := Lib.hid hb1
    have e1 : w1.cell? ⟨b, 1, none⟩ = some (.int .u64 (Rb 0)) := hb1.at 0 (by decide)
    have e2 : w1.cell? ⟨b, 2, none⟩ = some (.int .u64 (Rb 1)) := hb1.at 1 (by decide)
    have e3 : w1.cell? ⟨b, 3, none⟩ = some (.int .u64 (Rb 2)) := hb1.at 2 (by decide)
    have e4 : w1.cell? ⟨b, 4, none⟩ = some (.int .u64 (Rb 3)) := hb1.at 3 (by decide)
    have e5 : w1.cell? ⟨b, 5, none⟩ = some (.int .u64 (Rb 4)) := hb1.at 4 (by decide)
    have e6 : w1.cell? ⟨b, 6, none⟩ = some (.int .u64 (Rb 5)) := hb1.at 5 (by decide)
    have e7 : w1.cell? ⟨b, 7, none⟩ = some (.int .u64 (Rb 6)) := hb1.at 6 (by decide)
    have e8 : w1.cell? ⟨b, 8, none⟩ = some (.int .u64 (Rb 7)) := hb1.at 7 (by decide)
    have lb1 := hb1.blk.lt
    clear hb1 hab la lb
    go_wp2_with fail
    go_loopw [23] (fun z wr => ∃ i : Nat, z = .int .i64 i ∧ i ≤ 8 ∧ WordsAt wr a ib (half Ra Rb i) ∧ Turn (fun j => j = a) w1 wr) (fun z _ => 8 - (intOf z).toNat)
    case atStart => exact ⟨0, rfl, by omega, by rw [half_zero]; exact A1.out.1, Turn.refl _ _⟩
    case round =>
      obtain ⟨i, rfl, hi, hw, ht⟩ := hrel
      have HW := Lib.hid (And.intro hw ht)
      clear ht
      by_cases hlt : i < 8
      · have hyi := HYI.out i hlt
        have hii : (i : Int) < 8 := by omega
        have HLT := Lib.hid hlt
        have x0 : decide ((i : Int) < 8) = true := decide_eq_true hii
        obtain ⟨wD, hwD⟩ : ∃ wD, wr.drew = wD := ⟨_, rfl⟩
        have SD : Hid (Still wr wD) := by rw [← hwD]; exact (Still.refl wr).drew
        have hwd := hw.still SD.out
        have HWD := Lib.hid hwd
        have ca : wD.cell? ⟨a, 1 + i, none⟩ = some (.int .u64 (Ra i)) := by rw [hwd.at i hlt, half_at]
        have fa : wD.frozen? ⟨a, 1 + i, none⟩ = false := hwd.blk.frozen (1 + i)
        have la1 := hwd.blk.lt
        have hor : bits .or .u64 (Ra i : Int) (Rb i : Int) = ((Ra i ||| Rb i : Nat) : Int) := Vf.or64 _ _ (HA.out.ok i) (HB.out.ok i)
        clear hw hwd hlt
        go_wp2_with fail
        refine wp_region_any (by kernel_rfl) ?_
        change wpAny _ _ _ _ _ _ _ (World.drew _)
        rw [hwD]
        clear hwD
        refine wpAny_take (i := 0) (v := ?_) rfl (by kernel_rfl) (by kernel_rfl) (by kernel_rfl) (fun _ _ _ h => h) (Or.inl ⟨by rfl, ?_⟩) ?_
        rotate_left
        · intro w; go_simp; try with_reducible rfl
        go_simp
        refine wpAny_take (i := 1) (v := ?_) rfl (by kernel_rfl) (by kernel_rfl) (by kernel_rfl) (fun _ _ _ h => h) (Or.inl ⟨by rfl, ?_⟩) ?_
        rotate_left
        · intro w; go_simp; try with_reducible rfl
        go_simp
        refine wpAny_take (i := 2) (v := ?_) rfl (by kernel_rfl) (by kernel_rfl) (by kernel_rfl) (fun _ _ _ h => h) (Or.inl ⟨by rfl, ?_⟩) ?_
        rotate_left
        · intro w; go_simp; try with_reducible rfl
        go_simp
        refine wpAny_take (i := 3) (v := ?_) rfl (by kernel_rfl) (by kernel_rfl) (by kernel_rfl) (fun _ _ _ h => h) (Or.inl ⟨by rfl, ?_⟩) ?_
        rotate_left
        · intro w; go_simp; try with_reducible rfl
        go_simp
        refine wpAny_take (i := 4) (v := ?_) rfl (by kernel_rfl) (by kernel_rfl) (by kernel_rfl) (fun _ _ _ h => h) (Or.inl ⟨by rfl, ?_⟩) ?_
        rotate_left
        · intro w; go_simp; try with_reducible rfl
        go_simp
        refine wpAny_take (i := 6) (v := ?_) rfl (by kernel_rfl) (by kernel_rfl) (by kernel_rfl) (fun _ _ _ h => h) (Or.inl ⟨by rfl, ?_⟩) ?_
        rotate_left
        · intro w; go_simp; try with_reducible rfl
        go_simp
        refine wpAny_take (i := 8) (v := ?_) rfl (by kernel_rfl) (by kernel_rfl) (by kernel_rfl) (fun _ _ _ h => h) (Or.inl ⟨by rfl, ?_⟩) ?_
        rotate_left
        · intro w; go_simp; try with_reducible rfl
        go_simp
        refine wpAny_take (i := 9) (v := ?_) rfl (by kernel_rfl) (by kernel_rfl) (by kernel_rfl) (fun _ _ _ h => h) (Or.inl ⟨by rfl, ?_⟩) ?_
        rotate_left
        · intro w; go_simp; try with_reducible rfl
        go_simp
        refine wpAny_ready (rs := [5]) (by kernel_rfl) (by simp) ?_
        refine AllReady.cons rfl (fun K hK => ?_) AllReady.nil
        go_simp
        refine hK _ _ ?_; clear hK K
        refine wpAny_take (i := 7) (v := ?_) rfl (by kernel_rfl) (by kernel_rfl) (by kernel_rfl) (fun _ _ _ h => h) (Or.inl ⟨by rfl, ?_⟩) ?_
        rotate_left
        · intro w; go_simp; try with_reducible rfl
        go_simp
        refine wpAny_take (i := 10) (v := ?_) rfl (by kernel_rfl) (by kernel_rfl) (by kernel_rfl) (fun _ _ _ h => h) (Or.inl ⟨by rfl, ?_⟩) ?_
        rotate_left
        · intro w; go_simp; try with_reducible rfl
        go_simp
        refine wpAny_ready (rs := [11]) (by kernel_rfl) (by simp) ?_
        refine AllReady.cons rfl (fun K hK => ?_) AllReady.nil
        go_simp
        refine hK _ _ ?_; clear hK K
        refine wpAny_done (by kernel_rfl) ?_ _
        have TR : Turn (fun j => j = a) wD (wD.setCell ⟨a, 1 + i, none⟩ (.int .u64 ((Ra i ||| Rb i : Nat) : Int))) := (Turn.refl (fun j => j = a) wD).setCell (p := ⟨a, 1 + i, none⟩) (fun _ => rfl) _
        go_wp2_with fail
        go_roundw
        case rel =>
          have hp := HWD.out.put i HLT.out (Ra i ||| Rb i) (Nat.or_lt_two_pow (HA.out.ok i) (HB.out.ok i))
          rw [half_step] at hp
          exact ⟨i + 1, by go_num, by have := HLT.out; omega, hp, (HW.out.2.trans SD.out.turn).trans TR⟩
        case measure => simp [intOf]; omega
      · obtain rfl : i = 8 := by omega
        clear hlt hw
        go_wp2_with fail
        go_end0
        refine ⟨rfl, ?_, A1.out.2.trans HW.out.2⟩
        rw [HX.out]
        exact ⟨by rw [← half_last]; exact HW.out.1.blk, Vf.ok_both HA.out.ok HB.out.ok⟩
end Go.Proofs.YtglalgjffkoneaaGreatDoor
/- The words of a type: wordsOf. -/
namespace Go.Proofs.YtglalgjffkoneaaGreatDoor
set_option linter.unusedVariables false
set_option linter.unusedSimpArgs false
open Go.ChangeShapes Go.WideShapes Go.ChangeAt Go.RowKit
def ofL (xs : List Int) : Nat → Nat := xs.foldl (fun R s => Vf.add1 R s.toNat) Vf.zero
theorem ofL_step {xs : List Int} {j : Nat} {x : Int} (h : xs[j]? = some x) : ofL (xs.take (j + 1)) = Vf.add1 (ofL (xs.take j)) x.toNat := by
  unfold ofL
  rw [List.take_add_one, h, Option.toList_some, List.foldl_append]
  rfl
def OfR (im : Bool) (xs : List Int) (w : World) (e : Ending) (w' : World) : Prop := ∃ b, e = .returned (.pointer (some ⟨b, 0, none⟩)) ∧ WordsAt w' b im (ofL xs) ∧ w.heap.size ≤ b ∧ Still w w'
set_option maxRecDepth 100000 in
set_option maxHeartbeats 4000000 in
theorem wordsOf_any {B : Nat} {w : World} {im : Bool} {a : Option Addr} {n c : Nat} {xs : List Int} (hl : Ints B w a n xs) (hn : n ≤ maxLen) (hB : B ≤ w.heap.size) (hin : ∀ x ∈ xs, 0 ≤ x ∧ x < 512) :
    Calls Tryz.prog 32 #[.agg #[.bool im, .slice a n c]] w (OfR im xs w) := by
  have HL := Lib.hid hl
  have HLEN := Lib.hid hl.len
  have HIN := Lib.hid hin
  clear hl hin
  go_enter Tryz.func32, Tryz.ntmps32
  go_wp2_with fail
  have G : Hid (WordsAt ((w.alloc (.cells #[.bool im, .slice a n c] 51)).alloc (.cells #[.bool im, .int .u64 0, .int .u64 0, .int .u64 0, .int .u64 0, .int .u64 0, .int .u64 0, .int .u64 0, .int .u64 0] 106)) (w.heap.size + 1) im Vf.zero ∧ Still w ((w.alloc (.cells #[.bool im, .slice a n c] 51)).alloc (.cells #[.bool im, .int .u64 0, .int .u64 0, .int .u64 0, .int .u64 0, .int .u64 0, .int .u64 0, .int .u64 0, .int .u64 0] 106))) := by
    refine ⟨⟨?_, fun i => by show 0 < 2 ^ 64; decide⟩, ((Still.refl w).alloc _).alloc _⟩
    have := Blk.new (w.alloc (.cells #[.bool im, .slice a n c] 51)) 106 (wcells im Vf.zero)
    rw [show (w.alloc (.cells #[.bool im, .slice a n c] 51)).heap.size = w.heap.size + 1 by simp] at this
    exact this
  generalize ((w.alloc (.cells #[.bool im, .slice a n c] 51)).alloc (.cells #[.bool im, .int .u64 0, .int .u64 0, .int .u64 0, .int .u64 0, .int .u64 0, .int .u64 0, .int .u64 0, .int .u64 0] 106)) = w2 at G ⊢
  obtain ⟨b, hb⟩ : ∃ b, w.heap.size + 1 = b := ⟨_, rfl⟩
  obtain ⟨tb, htb⟩ : ∃ b, w.heap.size = b := ⟨_, rfl⟩
  have HNUM : Hid (w.heap.size = tb ∧ b = tb + 1) := ⟨htb, by omega⟩
  rw [hb] at G
  rw [hb, htb]
  clear hb htb
  go_loopw [5, 13] (fun _ z wr => ∃ j : Nat, z = .int .i64 j ∧ j ≤ n ∧ WordsAt wr b im (ofL (xs.take j)) ∧ Turn (fun k => k = b) w2 wr) (fun _ z _ => n - (intOf z).toNat)
  case atStart => exact ⟨0, rfl, Nat.zero_le _, G.out.1, Turn.refl _ _⟩
  case round =>
    obtain ⟨j, rfl, hj, hw, ht⟩ := hrel
    have HW := Lib.hid (And.intro hw ht)
    by_cases hlt : j < n
    · have hnm : n ≤ 9223372036854775807 := Nat.le_trans hn (by decide)
      obtain ⟨b0, off, rfl, hb0, hc⟩ := ints_cell HL.out (by omega)
      have hjl : j < xs.length := by have := HLEN.out; omega
      obtain ⟨x, hx⟩ : ∃ x, xs.getD j 0 = x := ⟨_, rfl⟩
      have hxe : xs[j]? = some x := by rw [← hx]; simp [List.getD, List.getElem?_eq_getElem hjl]
      have hs3 := G.out.2.size
      have d0 : wr.cell? ⟨b0, off + j, none⟩ = some (.int .i64 x) := (ht.cell (p := ⟨b0, off + j, none⟩) (by have := HNUM.out; show b0 < w2.heap.size; omega) (by have := HNUM.out; show ¬ b0 = b; omega)).trans ((G.out.2.cell (p := ⟨b0, off + j, none⟩) (by have := HNUM.out; show b0 < w.heap.size; omega)).trans (by rw [← hx]; exact hc j hlt))
      have hbl : b0 < wr.heap.size := by have := ht.size; omega
      have h05 := HIN.out x (List.mem_of_getElem? hxe)
      obtain ⟨s, rfl⟩ := Int.eq_ofNat_of_zero_le h05.1
      have hs : s < 512 := by omega
      have HXE := Lib.hid hxe
      have HLT := Lib.hid hlt
      have hji : (j : Int) < n := by omega
      have x0 : decide ((j : Int) < n) = true := decide_eq_true hji
      obtain ⟨q, hq⟩ : ∃ q, s / 64 = q := ⟨_, rfl⟩
      obtain ⟨r, hr⟩ : ∃ r, s % 64 = r := ⟨_, rfl⟩
      have HQR : Hid (s / 64 = q ∧ s % 64 = r) := ⟨hq, hr⟩
      have hq8 : q < 8 := by omega
      have hr8 : r < 64 := by omega
      have hqi : (q : Int) < 8 := by omega
      have q1 : Int.tdiv (s : Int) 64 = (q : Int) := by rw [Int.tdiv_eq_ediv_of_nonneg (by omega)]; omega
      have r1 : Int.tmod (s : Int) 64 = (r : Int) := by rw [Int.tmod_eq_emod_of_nonneg (by omega)]; omega
      have wq : IntKind.i64.wrap (q : Int) = (q : Int) := by rw [IntKind.wrap_i64]; omega
      have wr1 : IntKind.i64.wrap (r : Int) = (r : Int) := by rw [IntKind.wrap_i64]; omega
      obtain ⟨P, hP⟩ : ∃ P, 2 ^ r = P := ⟨_, rfl⟩
      have hP2 : P < 2 ^ 64 := by rw [← hP]; exact Nat.pow_lt_pow_right (by decide) hr8
      have HP := Lib.hid hP
      have wp : IntKind.u64.wrap ((2 : Int) ^ r) = (P : Int) := by
        have e : (2 : Int) ^ r = ((2 ^ r : Nat) : Int) := by simp
        rw [e, hP, IntKind.wrap_u64]
        omega
      clear hP
      obtain ⟨wD, hwD⟩ : ∃ wD, wr.drew = wD := ⟨_, rfl⟩
      have SD : Hid (Still wr wD) := by rw [← hwD]; exact (Still.refl wr).drew
      have hwd := hw.still SD.out
      have HWD := Lib.hid hwd
      obtain ⟨R, hR⟩ : ∃ R, ofL (xs.take j) = R := ⟨_, rfl⟩
      rw [hR] at hwd
      have HR := Lib.hid hR
      have HOK := Lib.hid hwd.ok
      have ca : wD.cell? ⟨b, 1 + q, none⟩ = some (.int .u64 (R q)) := hwd.at q hq8
      have fa : wD.frozen? ⟨b, 1 + q, none⟩ = false := hwd.blk.frozen (1 + q)
      have la1 := hwd.blk.lt
      have hor : bits .or .u64 (R q : Int) (P : Int) = ((R q ||| P : Nat) : Int) := Vf.or64 _ _ (hwd.ok q) hP2
      clear hw hwd hlt hq hr hR ht hc hx hxe h05
      go_wp2_with fail
      refine wp_region_any (by kernel_rfl) ?_
      change wpAny _ _ _ _ _ _ _ (World.drew _)
      rw [hwD]
      clear hwD
      refine wpAny_take (i := 0) (v := ?_) rfl (by kernel_rfl) (by kernel_rfl) (by kernel_rfl) (fun _ _ _ h => h) (Or.inl ⟨by rfl, ?_⟩) ?_
      rotate_left
      · intro w; go_simp; try with_reducible rfl
      go_simp
      refine wpAny_take (i := 1) (v := ?_) rfl (by kernel_rfl) (by kernel_rfl) (by kernel_rfl) (fun _ _ _ h => h) (Or.inl ⟨by rfl, ?_⟩) ?_
      rotate_left
      · intro w; go_simp; try with_reducible rfl
      go_simp
      refine wpAny_take (i := 2) (v := ?_) rfl (by kernel_rfl) (by kernel_rfl) (by kernel_rfl) (fun _ _ _ h => h) (Or.inl ⟨by rfl, ?_⟩) ?_
      rotate_left
      · intro w; go_simp; try with_reducible rfl
      go_simp
      refine wpAny_take (i := 3) (v := ?_) rfl (by kernel_rfl) (by kernel_rfl) (by kernel_rfl) (fun _ _ _ h => h) (Or.inl ⟨by rfl, ?_⟩) ?_
      rotate_left
      · intro w; go_simp; try with_reducible rfl
      go_simp
      refine wpAny_take (i := 4) (v := ?_) rfl (by kernel_rfl) (by kernel_rfl) (by kernel_rfl) (fun _ _ _ h => h) (Or.inl ⟨by rfl, ?_⟩) ?_
      rotate_left
      · intro w; go_simp; try with_reducible rfl
      go_simp
      refine wpAny_take (i := 5) (v := ?_) rfl (by kernel_rfl) (by kernel_rfl) (by kernel_rfl) (fun _ _ _ h => h) (Or.inl ⟨by rfl, ?_⟩) ?_
      rotate_left
      · intro w; go_simp; try with_reducible rfl
      go_simp
      refine wpAny_take (i := 7) (v := ?_) rfl (by kernel_rfl) (by kernel_rfl) (by kernel_rfl) (fun _ _ _ h => h) (Or.inl ⟨by rfl, ?_⟩) ?_
      rotate_left
      · intro w; go_simp; try with_reducible rfl
      go_simp
      refine wpAny_take (i := 8) (v := ?_) rfl (by kernel_rfl) (by kernel_rfl) (by kernel_rfl) (fun _ _ _ h => h) (Or.inl ⟨by rfl, ?_⟩) ?_
      rotate_left
      · intro w; go_simp; try with_reducible rfl
      go_simp
      refine wpAny_take (i := 9) (v := ?_) rfl (by kernel_rfl) (by kernel_rfl) (by kernel_rfl) (fun _ _ _ h => h) (Or.inl ⟨by rfl, ?_⟩) ?_
      rotate_left
      · intro w; go_simp; try with_reducible rfl
      go_simp
      refine wpAny_take (i := 11) (v := ?_) rfl (by kernel_rfl) (by kernel_rfl) (by kernel_rfl) (fun _ _ _ h => h) (Or.inl ⟨by rfl, ?_⟩) ?_
      rotate_left
      · intro w; go_simp; try with_reducible rfl
      go_simp
      refine wpAny_take (i := 12) (v := ?_) rfl (by kernel_rfl) (by kernel_rfl) (by kernel_rfl) (fun _ _ _ h => h) (Or.inl ⟨by rfl, ?_⟩) ?_
      rotate_left
      · intro w; go_simp; try with_reducible rfl
      go_simp
      refine wpAny_ready (rs := [6]) (by kernel_rfl) (by simp) ?_
      refine AllReady.cons rfl (fun K hK => ?_) AllReady.nil
      go_simp
      refine hK _ _ ?_; clear hK K
      refine wpAny_take (i := 10) (v := ?_) rfl (by kernel_rfl) (by kernel_rfl) (by kernel_rfl) (fun _ _ _ h => h) (Or.inl ⟨by rfl, ?_⟩) ?_
      rotate_left
      · intro w; go_simp; try with_reducible rfl
      go_simp
      refine wpAny_take (i := 13) (v := ?_) rfl (by kernel_rfl) (by kernel_rfl) (by kernel_rfl) (fun _ _ _ h => h) (Or.inl ⟨by rfl, ?_⟩) ?_
      rotate_left
      · intro w; go_simp; try with_reducible rfl
      go_simp
      refine wpAny_ready (rs := [14]) (by kernel_rfl) (by simp) ?_
      refine AllReady.cons rfl (fun K hK => ?_) AllReady.nil
      go_simp
      refine hK _ _ ?_; clear hK K
      refine wpAny_done (by kernel_rfl) ?_ _
      have TR : Turn (fun k => k = b) wD (wD.setCell ⟨b, 1 + q, none⟩ (.int .u64 ((R q ||| P : Nat) : Int))) := (Turn.refl (fun k => k = b) wD).setCell (p := ⟨b, 1 + q, none⟩) (fun _ => rfl) _
      go_wp2_with fail
      go_roundw
      case rel =>
        refine ⟨j + 1, by go_num, by have := HLT.out; omega, ?_, (HW.out.2.trans SD.out.turn).trans TR⟩
        have hp := HWD.out.put q hq8 (R q ||| P) (Nat.or_lt_two_pow (HOK.out q) hP2)
        rw [HR.out] at hp
        rw [ofL_step HXE.out, HR.out, show Vf.add1 R ((s : Int).toNat) = (fun j => if j = q then R q ||| P else R j) by
          funext k
          rw [Int.toNat_natCast]
          unfold Vf.add1
          rw [HQR.out.1, HQR.out.2, HP.out]
          by_cases e : k = q
          · rw [if_pos e, if_pos e, e]
          · rw [if_neg e, if_neg e]]
        exact hp
      case measure => simp [intOf]; omega
    · obtain rfl : j = n := by omega
      have x0 : decide ((j : Int) < j) = false := decide_eq_false (by omega)
      have x1 : decide (j < j) = false := decide_eq_false (by omega)
      clear hlt hw ht
      go_wp2_with fail
      go_ret
      have hnum := HNUM.out
      refine ⟨b, rfl, ?_, by omega, (((G.out.2.turn (S := fun k => k = b)).trans HW.out.2).mono fun k hk e => by omega)⟩
      rw [show xs = xs.take j by rw [List.take_of_length_le (by have := HLEN.out; omega)]]
      exact HW.out.1
end Go.Proofs.YtglalgjffkoneaaGreatDoor
/- Rising lists of numbers: what two together are. No program in sight. -/
namespace Go.Proofs.YtglalgjffkoneaaGreatDoor
set_option linter.unusedVariables false
set_option linter.unusedSimpArgs false
namespace Vf
def Strict (l : List Int) : Prop := l.Pairwise (· < ·)
theorem strict_unique : ∀ {a b : List Int}, Strict a → Strict b → (∀ x, x ∈ a ↔ x ∈ b) → a = b
  | [], b, _, _, h => by
    cases b with
    | nil => rfl
    | cons y b => exact absurd ((h y).2 (by simp)) (by simp)
  | x :: a, [], _, _, h => absurd ((h x).1 (by simp)) (by simp)
  | x :: a, y :: b, ha, hb, h => by
    have ha' := List.pairwise_cons.1 ha
    have hb' := List.pairwise_cons.1 hb
    have hxy : x = y := by
      rcases List.mem_cons.1 ((h x).1 (by simp)) with e | e
      · exact e
      · rcases List.mem_cons.1 ((h y).2 (by simp)) with e2 | e2
        · exact e2.symm
        · have h1 := hb'.1 x e
          have h2 := ha'.1 y e2
          omega
    subst hxy
    rw [strict_unique ha'.2 hb'.2 fun z => ?_]
    constructor
    · intro hz
      rcases List.mem_cons.1 ((h z).1 (by simp [hz])) with e | e
      · subst e; exact absurd (ha'.1 z hz) (by omega)
      · exact e
    · intro hz
      rcases List.mem_cons.1 ((h z).2 (by simp [hz])) with e | e
      · subst e; exact absurd (hb'.1 z hz) (by omega)
      · exact e
/-- One number more in its place. -/
def ins (s : Int) : List Int → List Int
  | [] => [s]
  | x :: l => if s < x then s :: x :: l else x :: ins s l
theorem mem_ins (s y : Int) : ∀ l : List Int, y ∈ ins s l ↔ y = s ∨ y ∈ l
  | [] => by simp [ins]
  | x :: l => by
    unfold ins
    split
    · simp
    · rw [List.mem_cons, mem_ins s y l, List.mem_cons]
      constructor
      · rintro (h | h | h)
        · exact .inr (.inl h)
        · exact .inl h
        · exact .inr (.inr h)
      · rintro (h | h | h)
        · exact .inr (.inl h)
        · exact .inl h
        · exact .inr (.inr h)
theorem strict_ins (s : Int) : ∀ l : List Int, Strict l → s ∉ l → Strict (ins s l)
  | [], _, _ => by unfold ins Strict; simp
  | x :: l, h, hs => by
    have h' := List.pairwise_cons.1 h
    unfold ins
    split
    · rename_i hx
      refine List.pairwise_cons.2 ⟨fun y hy => ?_, h⟩
      rcases List.mem_cons.1 hy with e | e
      · subst e; exact hx
      · have := h'.1 y e; omega
    · rename_i hx
      have hne : s ≠ x := fun e => hs (by rw [e]; simp)
      refine List.pairwise_cons.2 ⟨fun y hy => ?_, strict_ins s l h'.2 fun e => hs (by simp [e])⟩
      rcases (mem_ins s y l).1 hy with e | e
      · subst e; omega
      · exact h'.1 y e
/-- As the loop does it: what is laid, and whether s is. -/
def insStep (s : Int) (p : List Int × Bool) (x : Int) : List Int × Bool := if p.2 = false ∧ s < x then (p.1 ++ [s, x], true) else (p.1 ++ [x], p.2)
theorem ins_done (s : Int) : ∀ (l acc : List Int), (l.foldl (insStep s) (acc, true)) = (acc ++ l, true)
  | [], acc => by simp
  | x :: l, acc => by
    rw [List.foldl_cons]
    show l.foldl (insStep s) (insStep s (acc, true) x) = _
    unfold insStep
    rw [if_neg (by simp)]
    show l.foldl (insStep s) (acc ++ [x], true) = _
    rw [ins_done s l]
    simp
theorem ins_fold (s : Int) : ∀ (l acc : List Int), (let p := l.foldl (insStep s) (acc, false); if p.2 then p.1 else p.1 ++ [s]) = acc ++ ins s l
  | [], acc => by simp [ins]
  | x :: l, acc => by
    rw [List.foldl_cons]
    by_cases h : s < x
    · have e : insStep s (acc, false) x = (acc ++ [s, x], true) := by unfold insStep; rw [if_pos ⟨rfl, h⟩]
      rw [e, ins_done]
      simp [ins, h]
    · have e : insStep s (acc, false) x = (acc ++ [x], false) := by unfold insStep; rw [if_neg (fun e => h e.2)]
      rw [e, ins_fold s l]
      simp [ins, h]
/-- All of a list, each once, rising: as the document joins. -/
def joinL (xs : List Int) : List Int := xs.foldl (fun l s => if s ∈ l then l else ins s l) []
theorem joinL_snoc (xs : List Int) (s : Int) : joinL (xs ++ [s]) = if s ∈ joinL xs then joinL xs else ins s (joinL xs) := by
  unfold joinL
  rw [List.foldl_append]
  rfl
theorem joinL_spec (xs : List Int) : Strict (joinL xs) ∧ ∀ y, y ∈ joinL xs ↔ y ∈ xs := by
  have gen : ∀ (xs l : List Int), Strict l → Strict (xs.foldl (fun l s => if s ∈ l then l else ins s l) l) ∧ ∀ y, y ∈ xs.foldl (fun l s => if s ∈ l then l else ins s l) l ↔ y ∈ l ∨ y ∈ xs := by
    intro xs
    induction xs with
    | nil => intro l h; exact ⟨h, fun y => by simp⟩
    | cons s xs ih =>
      intro l h
      rw [List.foldl_cons]
      by_cases hs : s ∈ l
      · rw [if_pos hs]
        obtain ⟨h1, h2⟩ := ih l h
        refine ⟨h1, fun y => ?_⟩
        rw [h2 y, List.mem_cons]
        constructor
        · rintro (e | e)
          · exact .inl e
          · exact .inr (.inr e)
        · rintro (e | e | e)
          · exact .inl e
          · exact .inl (e ▸ hs)
          · exact .inr e
      · rw [if_neg hs]
        obtain ⟨h1, h2⟩ := ih _ (strict_ins s l h hs)
        refine ⟨h1, fun y => ?_⟩
        rw [h2 y, mem_ins, List.mem_cons]
        constructor
        · rintro ((e | e) | e)
          · exact .inr (.inl e)
          · exact .inl e
          · exact .inr (.inr e)
        · rintro (e | e | e)
          · exact .inl (.inr e)
          · exact .inl (.inl e)
          · exact .inr e
  obtain ⟨h1, h2⟩ := gen xs [] (by unfold Strict; simp)
  exact ⟨h1, fun y => by rw [show joinL xs = xs.foldl (fun l s => if s ∈ l then l else ins s l) [] from rfl, h2 y]; simp⟩
theorem join_is {xs l : List Int} (h : Strict l) (hm : ∀ y, y ∈ l ↔ y ∈ xs) : l = joinL xs := strict_unique h (joinL_spec xs).1 fun y => by rw [hm y, (joinL_spec xs).2 y]
/-- Is each of these among those? -/
def subB (a b : List Int) : Bool := a.all fun s => b.contains s
theorem subB_iff (a b : List Int) : subB a b = true ↔ ∀ s ∈ a, s ∈ b := by unfold subB; simp
/-- Types: numbers, or not; which shapes. -/
def tsub (ia : Bool) (a : List Int) (ib : Bool) (b : List Int) : Bool := (!ia || ib) && subB a b
theorem tsub_refl (i : Bool) (a : List Int) : tsub i a i a = true := by
  unfold tsub
  rw [(subB_iff a a).2 fun _ h => h]
  cases i <;> rfl
theorem tsub_trans {ia ib ic : Bool} {a b c : List Int} (h : tsub ia a ib b = true) (k : tsub ib b ic c = true) : tsub ia a ic c = true := by
  unfold tsub at *
  rw [Bool.and_eq_true] at *
  refine ⟨?_, (subB_iff _ _).2 fun s hs => (subB_iff _ _).1 k.2 s ((subB_iff _ _).1 h.2 s hs)⟩
  have h1 := h.1
  have k1 := k.1
  cases ia <;> cases ib <;> cases ic <;> simp_all
theorem tsub_left (ia ib : Bool) (a b : List Int) : tsub ia a (ia || ib) (joinL (a ++ b)) = true := by
  unfold tsub
  rw [(subB_iff _ _).2 fun s hs => ((joinL_spec (a ++ b)).2 s).2 (List.mem_append.2 (.inl hs))]
  cases ia <;> rfl
theorem tsub_right (ia ib : Bool) (a b : List Int) : tsub ib b (ia || ib) (joinL (a ++ b)) = true := by
  unfold tsub
  rw [(subB_iff _ _).2 fun s hs => ((joinL_spec (a ++ b)).2 s).2 (List.mem_append.2 (.inr hs))]
  cases ia <;> cases ib <;> rfl
theorem tsub_least {ia ib ic : Bool} {a b c : List Int} (h : tsub ia a ic c = true) (k : tsub ib b ic c = true) : tsub (ia || ib) (joinL (a ++ b)) ic c = true := by
  unfold tsub at *
  rw [Bool.and_eq_true] at *
  refine ⟨?_, (subB_iff _ _).2 fun s hs => ?_⟩
  · have h1 := h.1
    have k1 := k.1
    cases ia <;> cases ib <;> cases ic <;> simp_all
  · rcases List.mem_append.1 (((joinL_spec (a ++ b)).2 s).1 hs) with e | e
    · exact (subB_iff _ _).1 h.2 s e
    · exact (subB_iff _ _).1 k.2 s e
theorem joinL_comm (a b : List Int) : joinL (a ++ b) = joinL (b ++ a) := strict_unique (joinL_spec _).1 (joinL_spec _).1 fun y => by rw [(joinL_spec _).2, (joinL_spec _).2, List.mem_append, List.mem_append, Or.comm]
end Vf
end Go.Proofs.YtglalgjffkoneaaGreatDoor
/- Which images may run: the rules, over lists. No program in sight. -/
namespace Go.Proofs.YtglalgjffkoneaaGreatDoor
set_option linter.unusedVariables false
set_option linter.unusedSimpArgs false
open Go.ChangeShapes Go.WideShapes Go.ChangeAt Go.RowKit
namespace Vf
/-- What is known of the slots: each one's type, or none. -/
abbrev K := List (Option M.Ty)
def numT : M.Ty := ⟨true, []⟩
def oneT (s : Int) : M.Ty := ⟨false, [s]⟩
def le (a b : M.Ty) : Bool := tsub a.imm a.shapes b.imm b.shapes
def joinT (a b : M.Ty) : M.Ty := ⟨a.imm || b.imm, joinL (a.shapes ++ b.shapes)⟩
def atK (k : K) (i : Int) : Option M.Ty := if 0 ≤ i then (k[i.toNat]?).join else none
def isK (k : K) (i : Int) (t : M.Ty) : Prop := ∃ x, atK k i = some x ∧ le x t = true
/-- An element by its number, if there is one. -/
def nth {α : Type} (l : List α) (i : Int) : Option α := if 0 ≤ i then l[i.toNat]? else none
theorem nth_nat {α : Type} (l : List α) (i : Nat) : nth l (i : Int) = l[i]? := by unfold nth; simp
theorem nth_some {α : Type} {l : List α} {i : Int} {x : α} (h : nth l i = some x) : ∃ k : Nat, i = k ∧ l[k]? = some x := by
  unfold nth at h
  split at h
  · rename_i h0
    obtain ⟨k, rfl⟩ := Int.eq_ofNat_of_zero_le h0
    exact ⟨k, rfl, by simpa using h⟩
  · cases h
def tyAt (m : M.Img) (n : Int) : M.Ty := (nth m.types n).getD numT
def shAt (m : M.Img) (n : Int) : M.Sh := (nth m.shapes n).getD ⟨0, [], ⟨#[]⟩⟩
def Is63 (n : Int) : Prop := -4611686018427387904 ≤ n ∧ n ≤ 4611686018427387903
def Up (l : List Int) : Prop := ∀ j, j + 1 < l.length → l.getD j 0 < l.getD (j + 1) 0
/-- To fit a block. -/
def FitsK (m : M.Img) (f : M.Fn) (k : K) (b : Int) : Prop := ∃ x, nth f.blocks b = some x ∧ ∀ (j : Nat) (n : Int), x.inn[j]? = some n → n ≠ -1 → isK k j (tyAt m n)
/-- Slots of types that are within these. -/
def RowK (m : M.Img) (k : K) (slots want : List Int) : Prop := slots.length = want.length ∧ ∀ (j : Nat) (s n : Int), slots[j]? = some s → want[j]? = some n → isK k s (tyAt m n)
/-- An object: its shapes. -/
def ObjK (k : K) (i : Int) (q : Int → Prop) : Prop := ∃ t, atK k i = some t ∧ t.imm = false ∧ t.shapes ≠ [] ∧ ∀ s ∈ t.shapes, q s
def hasF (m : M.Img) (kind : Int) (n : Int) (s : Int) : Prop := (shAt m s).kind = kind ∧ ∃ x, nth (shAt m s).fields n = some x
def fieldT (m : M.Img) (n : Int) (s : Int) : M.Ty := tyAt m ((nth (shAt m s).fields n).getD 0)
def allT (m : M.Img) (n : Int) (ss : List Int) : M.Ty := ss.foldl (fun t s => joinT t (fieldT m n s)) ⟨false, []⟩
def keepK (k : K) (live : List Int) : K := live.foldl (fun acc s => acc.set s.toNat (atK k s)) (List.replicate k.length none)
def KeepsK (k : K) (live : List Int) : Prop := Up live ∧ ∀ s ∈ live, (atK k s).isSome = true
def hasK (k : K) (i : Int) : Prop := 0 ≤ i ∧ i < k.length
def setK (k : K) (i : Int) (t : M.Ty) : K := k.set i.toNat (some t)
/-- Ways: numbers, or shapes, and blocks by turns. -/
def WaysK (l : List Int) (q : Int → Int → Prop) : Prop := l.length % 2 = 0 ∧ ∀ j, 2 * j < l.length → (j = 0 ∨ l.getD (2 * j - 2) 0 < l.getD (2 * j) 0) ∧ q (l.getD (2 * j) 0) (l.getD (2 * j + 1) 0)
def evens : List Int → List Int
  | [] => []
  | [x] => [x]
  | x :: _ :: l => x :: evens l
def resT (m : M.Img) (n : Int) : M.Ty := tyAt m (((nth m.funcs n).map M.Fn.result).getD 0)
/-- A function that may be called with these slots. -/
def CalledK (m : M.Img) (k : K) (n : Int) (slots : List Int) : Prop := ∃ f, nth m.funcs n = some f ∧ RowK m k slots f.params
/-- What an instruction needs. -/
def Needs (m : M.Img) (f : M.Fn) (k : K) (x : M.Ins) : Prop :=
  if x.op = 1 then Is63 x.n ∧ hasK k x.d
  else if x.op = 2 then (0 ≤ x.a ∧ x.a < m.strings.length) ∧ KeepsK k x.v ∧ hasK k x.d
  else if x.op = 3 then (∃ t, atK k x.a = some t) ∧ hasK k x.d
  else if x.op = 4 then (1 ≤ x.n ∧ x.n ≤ 8) ∧ isK k x.a numT ∧ isK k x.b numT ∧ hasK k x.d
  else if x.op = 5 then (∃ s, nth m.shapes x.a = some s ∧ s.kind = 1 ∧ RowK m k x.l s.fields) ∧ KeepsK k x.v ∧ hasK k x.d
  else if x.op = 6 then ObjK k x.a (hasF m 1 x.b) ∧ hasK k x.d
  else if x.op = 7 then ∃ t, atK k x.c = some t ∧ ObjK k x.a fun s => hasF m 1 x.b s ∧ le t (fieldT m x.b s) = true
  else if x.op = 8 then isK k x.b numT ∧ (∃ s, nth m.shapes x.a = some s ∧ s.kind = 2 ∧ RowK m k [x.c] s.fields) ∧ KeepsK k x.v ∧ hasK k x.d
  else if x.op = 9 then isK k x.b numT ∧ ObjK k x.a (hasF m 2 0) ∧ hasK k x.d
  else if x.op = 10 then isK k x.b numT ∧ ∃ t, atK k x.c = some t ∧ ObjK k x.a fun s => hasF m 2 0 s ∧ le t (fieldT m 0 s) = true
  else if x.op = 11 then ObjK k x.a (fun s => (shAt m s).kind = 2 ∨ (shAt m s).kind = 3) ∧ hasK k x.d
  else if x.op = 12 then ObjK k x.a (fun s => (shAt m s).kind = 3) ∧ isK k x.b numT ∧ hasK k x.d
  else if x.op = 13 then ObjK k x.a (fun s => (shAt m s).kind = 3) ∧ ObjK k x.b (fun s => (shAt m s).kind = 3) ∧ KeepsK k x.v ∧ hasK k x.d
  else if x.op = 14 then ObjK k x.a (fun s => (shAt m s).kind = 3) ∧ ObjK k x.b (fun s => (shAt m s).kind = 3) ∧ hasK k x.d
  else if x.op = 15 then hasK k x.d
  else if x.op = 16 then isK k x.a numT
  else if x.op = 17 then CalledK m k x.a x.l ∧ KeepsK k x.v ∧ (if x.b = -1 then x.c = 0 else hasK k x.c ∧ FitsK m f (setK (keepK k x.v) x.c (tyAt m m.exn)) x.b) ∧ hasK k x.d
  else if x.op = 18 then FitsK m f k x.a
  else if x.op = 19 then isK k x.a numT ∧ FitsK m f k x.b ∧ FitsK m f k x.c
  else if x.op = 20 then ∃ t, atK k x.a = some t ∧ WaysK x.l (fun n b => Is63 n ∧ FitsK m f (setK k x.a numT) b) ∧ (x.b ≠ -1 → FitsK m f (setK k x.a numT) x.b)
    ∧ WaysK x.m (fun s b => (0 ≤ s ∧ s < m.shapes.length) ∧ FitsK m f (setK k x.a (oneT s)) b) ∧ (t.imm = true → x.b ≠ -1) ∧ ∀ s ∈ t.shapes, s ∈ evens x.m
  else if x.op = 21 then CalledK m k x.a x.l ∧ le (resT m x.a) (tyAt m f.result) = true
  else if x.op = 22 then isK k x.a (tyAt m f.result)
  else if x.op = 23 then isK k x.a (tyAt m m.exn)
  else True
/-- What is known behind it. -/
def next (m : M.Img) (k : K) (x : M.Ins) : K :=
  if x.op = 1 ∨ x.op = 4 ∨ x.op = 11 ∨ x.op = 12 ∨ x.op = 14 ∨ x.op = 15 then setK k x.d numT
  else if x.op = 2 ∨ x.op = 13 then setK (keepK k x.v) x.d (oneT 0)
  else if x.op = 3 then setK k x.d ((atK k x.a).getD numT)
  else if x.op = 5 ∨ x.op = 8 then setK (keepK k x.v) x.d (oneT x.a)
  else if x.op = 6 then setK k x.d (allT m x.b ((atK k x.a).getD numT).shapes)
  else if x.op = 9 then setK k x.d (allT m 0 ((atK k x.a).getD numT).shapes)
  else if x.op = 17 then setK (keepK k x.v) x.d (resT m x.a)
  else k
def Last (x : M.Ins) : Prop := 18 ≤ x.op ∧ x.op ≤ 23
/-- What a block's slots have at first. -/
def beginK (m : M.Img) (inn : List Int) : K := inn.map fun n => if n = -1 then none else some (tyAt m n)
/-- Where a block is wrong, from its i-th instruction on, of n; none: nowhere. -/
def WrongAt (m : M.Img) (f : M.Fn) (n : Nat) : Nat → K → List M.Ins → Option Nat → Prop
  | _, _, [], r => r = if n = 0 then some 0 else none
  | i, k, x :: l, r => (((i + 1 = n ∨ ¬ Last x) ∧ Needs m f k x) ∧ ((i + 1 = n ∧ Last x ∧ r = none) ∨ (i + 1 = n ∧ ¬ Last x ∧ r = some n) ∨ (i + 1 ≠ n ∧ WrongAt m f n (i + 1) (next m k x) l r))) ∨ (¬ ((i + 1 = n ∨ ¬ Last x) ∧ Needs m f k x) ∧ r = some i)
def WrongBk (m : M.Img) (f : M.Fn) (b : M.Bk) (r : Option Nat) : Prop := WrongAt m f b.code.length 0 (beginK m b.inn) b.code r
/-- The first block of a function that is wrong, from the j-th on, and where. -/
def WrongFn (m : M.Img) (f : M.Fn) : Nat → List M.Bk → Option (Nat × Nat) → Prop
  | _, [], r => r = none
  | j, b :: l, r => (∃ n, WrongBk m f b (some n) ∧ r = some (j, n)) ∨ (WrongBk m f b none ∧ WrongFn m f (j + 1) l r)
def WrongImg (m : M.Img) : Nat → List M.Fn → Option (Nat × Nat × Nat) → Prop
  | _, [], r => r = none
  | i, f :: l, r => (∃ j n, WrongFn m f 0 f.blocks (some (j, n)) ∧ r = some (i, j, n)) ∨ (WrongFn m f 0 f.blocks none ∧ WrongImg m (i + 1) l r)
end Vf
end Go.Proofs.YtglalgjffkoneaaGreatDoor
/- Where an image is wrong, worked out. No program in sight. -/
namespace Go.Proofs.YtglalgjffkoneaaGreatDoor
set_option linter.unusedVariables false
set_option linter.unusedSimpArgs false
open Go.ChangeShapes Go.WideShapes Go.ChangeAt Go.RowKit
namespace Vf
instance (n : Int) : Decidable (Is63 n) := by unfold Is63; infer_instance
def isB (k : K) (i : Int) (t : M.Ty) : Bool := match atK k i with
  | some x => le x t
  | none => false
theorem isB_iff (k : K) (i : Int) (t : M.Ty) : isB k i t = true ↔ isK k i t := by
  unfold isB isK
  cases atK k i with
  | none => simp
  | some x => simp
def upB : List Int → Bool
  | x :: y :: l => decide (x < y) && upB (y :: l)
  | _ => true
theorem upB_iff : ∀ l : List Int, upB l = true ↔ Up l
  | [] => by simp [upB, Up]
  | [_] => by simp [upB, Up]
  | x :: y :: l => by
    unfold upB
    rw [Bool.and_eq_true, upB_iff (y :: l), decide_eq_true_eq]
    constructor
    · rintro ⟨h1, h2⟩ j hj
      cases j with
      | zero => exact h1
      | succ j => exact h2 j (by simpa using hj)
    · intro h
      exact ⟨h 0 (by simp), fun j hj => h (j + 1) (by simpa using hj)⟩
theorem range_all (n : Nat) (q : Nat → Bool) : (List.range n).all q = true ↔ ∀ j, j < n → q j = true := by
  rw [List.all_eq_true]
  exact ⟨fun h j hj => h j (List.mem_range.2 hj), fun h j hj => h j (List.mem_range.1 hj)⟩
theorem getD_at {l : List Int} {j : Nat} (h : j < l.length) : l[j]? = some (l.getD j 0) := by
  simp [List.getD, List.getElem?_eq_getElem h]
def fitsB (m : M.Img) (f : M.Fn) (k : K) (b : Int) : Bool := match nth f.blocks b with
  | none => false
  | some x => (List.range x.inn.length).all fun j => x.inn.getD j 0 == -1 || isB k j (tyAt m (x.inn.getD j 0))
theorem fitsB_iff (m : M.Img) (f : M.Fn) (k : K) (b : Int) : fitsB m f k b = true ↔ FitsK m f k b := by
  unfold fitsB FitsK
  cases nth f.blocks b with
  | none => simp
  | some x =>
    show (List.range x.inn.length).all _ = true ↔ _
    rw [range_all]
    constructor
    · intro h
      refine ⟨x, rfl, fun j n hj hn => ?_⟩
      have hl := (List.getElem?_eq_some_iff.1 hj).1
      have h1 := h j hl
      rw [getD_at hl] at hj
      rw [Option.some.inj hj, Bool.or_eq_true, isB_iff, beq_iff_eq] at h1
      exact h1.resolve_left hn
    · rintro ⟨y, e, h⟩ j hj
      obtain rfl := Option.some.inj e
      rw [Bool.or_eq_true, isB_iff, beq_iff_eq]
      by_cases hn : x.inn.getD j 0 = -1
      · exact .inl hn
      · exact .inr (h j _ (getD_at hj) hn)
def rowB (m : M.Img) (k : K) (slots want : List Int) : Bool := decide (slots.length = want.length) && (List.range slots.length).all fun j => isB k (slots.getD j 0) (tyAt m (want.getD j 0))
theorem rowB_iff (m : M.Img) (k : K) (slots want : List Int) : rowB m k slots want = true ↔ RowK m k slots want := by
  unfold rowB RowK
  rw [Bool.and_eq_true, decide_eq_true_eq, range_all]
  refine and_congr_right fun hl => ⟨fun h j s n hs hn => ?_, fun h j hj => ?_⟩
  · have h1 := (List.getElem?_eq_some_iff.1 hs).1
    have h2 := h j h1
    rw [getD_at h1] at hs
    rw [getD_at (hl ▸ h1)] at hn
    rw [Option.some.inj hs, Option.some.inj hn, isB_iff] at h2
    exact h2
  · rw [isB_iff]
    exact h j _ _ (getD_at hj) (getD_at (hl ▸ hj))
def objB (k : K) (i : Int) (q : Int → Bool) : Bool := match atK k i with
  | none => false
  | some t => !t.imm && (!t.shapes.isEmpty && t.shapes.all q)
theorem objB_iff {k : K} {i : Int} {q : Int → Bool} {Q : Int → Prop} (h : ∀ s, q s = true ↔ Q s) : objB k i q = true ↔ ObjK k i Q := by
  unfold objB ObjK
  cases atK k i with
  | none => simp
  | some t =>
    show (!t.imm && (!t.shapes.isEmpty && t.shapes.all q)) = true ↔ _
    rw [Bool.and_eq_true, Bool.and_eq_true, List.all_eq_true]
    constructor
    · rintro ⟨h1, h2, h3⟩
      exact ⟨t, rfl, by simpa using h1, by simpa using h2, fun s hs => (h s).1 (h3 s hs)⟩
    · rintro ⟨y, e, h1, h2, h3⟩
      obtain rfl := Option.some.inj e
      exact ⟨by simpa using h1, by simpa using h2, fun s hs => (h s).2 (h3 s hs)⟩
def hasFB (m : M.Img) (kind : Int) (n : Int) (s : Int) : Bool := decide ((shAt m s).kind = kind) && (nth (shAt m s).fields n).isSome
theorem hasFB_iff (m : M.Img) (kind n s : Int) : hasFB m kind n s = true ↔ hasF m kind n s := by
  unfold hasFB hasF
  rw [Bool.and_eq_true, decide_eq_true_eq, Option.isSome_iff_exists]
def keepsB (k : K) (live : List Int) : Bool := upB live && live.all fun s => (atK k s).isSome
theorem keepsB_iff (k : K) (live : List Int) : keepsB k live = true ↔ KeepsK k live := by
  unfold keepsB KeepsK
  rw [Bool.and_eq_true, upB_iff, List.all_eq_true]
def hasKB (k : K) (i : Int) : Bool := decide (0 ≤ i ∧ i < k.length)
theorem hasKB_iff (k : K) (i : Int) : hasKB k i = true ↔ hasK k i := by
  unfold hasKB hasK
  rw [decide_eq_true_eq]
def waysB (l : List Int) (q : Int → Int → Bool) : Bool := decide (l.length % 2 = 0) && (List.range (l.length / 2)).all fun j => (decide (j = 0) || decide (l.getD (2 * j - 2) 0 < l.getD (2 * j) 0)) && q (l.getD (2 * j) 0) (l.getD (2 * j + 1) 0)
theorem waysB_iff {l : List Int} {q : Int → Int → Bool} {Q : Int → Int → Prop} (h : ∀ s b, q s b = true ↔ Q s b) : waysB l q = true ↔ WaysK l Q := by
  unfold waysB WaysK
  rw [Bool.and_eq_true, decide_eq_true_eq, range_all]
  refine and_congr_right fun hl => ?_
  constructor
  · intro h1 j hj
    have h2 := h1 j (by omega)
    rw [Bool.and_eq_true, Bool.or_eq_true, decide_eq_true_eq, decide_eq_true_eq, h] at h2
    exact h2
  · intro h1 j hj
    rw [Bool.and_eq_true, Bool.or_eq_true, decide_eq_true_eq, decide_eq_true_eq, h]
    exact h1 j (by omega)
def calledB (m : M.Img) (k : K) (n : Int) (slots : List Int) : Bool := match nth m.funcs n with
  | none => false
  | some f => rowB m k slots f.params
theorem calledB_iff (m : M.Img) (k : K) (n : Int) (slots : List Int) : calledB m k n slots = true ↔ CalledK m k n slots := by
  unfold calledB CalledK
  cases nth m.funcs n with
  | none => simp
  | some f => simp [rowB_iff]
def shB (m : M.Img) (n kind : Int) (q : M.Sh → Bool) : Bool := match nth m.shapes n with
  | none => false
  | some s => decide (s.kind = kind) && q s
theorem shB_iff {m : M.Img} {n kind : Int} {q : M.Sh → Bool} {Q : M.Sh → Prop} (h : ∀ s, q s = true ↔ Q s) : shB m n kind q = true ↔ ∃ s, nth m.shapes n = some s ∧ s.kind = kind ∧ Q s := by
  unfold shB
  cases nth m.shapes n with
  | none => simp
  | some s => simp [h]
def storeB (k : K) (c a : Int) (q : M.Ty → Int → Bool) : Bool := match atK k c with
  | none => false
  | some t => objB k a (q t)
theorem storeB_iff {k : K} {c a : Int} {q : M.Ty → Int → Bool} {Q : M.Ty → Int → Prop} (h : ∀ t s, q t s = true ↔ Q t s) : storeB k c a q = true ↔ ∃ t, atK k c = some t ∧ ObjK k a (Q t) := by
  unfold storeB
  cases atK k c with
  | none => simp
  | some t => simp [objB_iff (h t)]
def switchB (m : M.Img) (f : M.Fn) (k : K) (x : M.Ins) : Bool := match atK k x.a with
  | none => false
  | some t => waysB x.l (fun n b => decide (Is63 n) && fitsB m f (setK k x.a numT) b) && ((decide (x.b = -1) || fitsB m f (setK k x.a numT) x.b) &&
    (waysB x.m (fun s b => decide (0 ≤ s ∧ s < m.shapes.length) && fitsB m f (setK k x.a (oneT s)) b) && ((!t.imm || decide (x.b ≠ -1)) && t.shapes.all fun s => (evens x.m).contains s)))
theorem switchB_iff (m : M.Img) (f : M.Fn) (k : K) (x : M.Ins) : switchB m f k x = true ↔ ∃ t, atK k x.a = some t ∧ WaysK x.l (fun n b => Is63 n ∧ FitsK m f (setK k x.a numT) b) ∧ (x.b ≠ -1 → FitsK m f (setK k x.a numT) x.b)
    ∧ WaysK x.m (fun s b => (0 ≤ s ∧ s < m.shapes.length) ∧ FitsK m f (setK k x.a (oneT s)) b) ∧ (t.imm = true → x.b ≠ -1) ∧ ∀ s ∈ t.shapes, s ∈ evens x.m := by
  unfold switchB
  cases atK k x.a with
  | none => simp
  | some t =>
    show (_ && (_ && (_ && (_ && _)))) = true ↔ _
    rw [Bool.and_eq_true, Bool.and_eq_true, Bool.and_eq_true, Bool.and_eq_true,
      waysB_iff (Q := fun n b => Is63 n ∧ FitsK m f (setK k x.a numT) b) (fun s b => by rw [Bool.and_eq_true, decide_eq_true_eq, fitsB_iff]),
      waysB_iff (Q := fun s b => (0 ≤ s ∧ s < m.shapes.length) ∧ FitsK m f (setK k x.a (oneT s)) b) (fun s b => by rw [Bool.and_eq_true, decide_eq_true_eq, fitsB_iff]),
      Bool.or_eq_true, decide_eq_true_eq, fitsB_iff, Bool.or_eq_true, decide_eq_true_eq, List.all_eq_true]
    have e1 : (x.b = -1 ∨ FitsK m f (setK k x.a numT) x.b) ↔ (x.b ≠ -1 → FitsK m f (setK k x.a numT) x.b) := by
      constructor
      · rintro (h | h) h1
        · exact absurd h h1
        · exact h
      · intro h
        by_cases h1 : x.b = -1
        · exact .inl h1
        · exact .inr (h h1)
    have e2 : ((!t.imm) = true ∨ x.b ≠ -1) ↔ (t.imm = true → x.b ≠ -1) := by cases t.imm <;> simp
    rw [e1, e2]
    constructor
    · rintro ⟨a, b, c, d, e⟩
      exact ⟨t, rfl, a, b, c, d, fun s hs => by simpa using e s hs⟩
    · rintro ⟨y, e0, a, b, c, d, e⟩
      obtain rfl := Option.some.inj e0
      exact ⟨a, b, c, d, fun s hs => by simpa using e s hs⟩
theorem ite_bool {c : Prop} [Decidable c] {a b : Bool} {P Q : Prop} (h : a = true ↔ P) (h' : b = true ↔ Q) : (if c then a else b) = true ↔ if c then P else Q := by
  by_cases hc : c
  · rw [if_pos hc, if_pos hc]; exact h
  · rw [if_neg hc, if_neg hc]; exact h'
theorem and_bool {a b : Bool} {P Q : Prop} (h : a = true ↔ P) (h' : b = true ↔ Q) : (a && b) = true ↔ P ∧ Q := by rw [Bool.and_eq_true, h, h']
theorem dec_bool {P : Prop} [Decidable P] : decide P = true ↔ P := by rw [decide_eq_true_eq]
def needsB (m : M.Img) (f : M.Fn) (k : K) (x : M.Ins) : Bool :=
  if x.op = 1 then decide (Is63 x.n) && hasKB k x.d
  else if x.op = 2 then decide (0 ≤ x.a ∧ x.a < m.strings.length) && (keepsB k x.v && hasKB k x.d)
  else if x.op = 3 then (atK k x.a).isSome && hasKB k x.d
  else if x.op = 4 then decide (1 ≤ x.n ∧ x.n ≤ 8) && (isB k x.a numT && (isB k x.b numT && hasKB k x.d))
  else if x.op = 5 then shB m x.a 1 (fun s => rowB m k x.l s.fields) && (keepsB k x.v && hasKB k x.d)
  else if x.op = 6 then objB k x.a (hasFB m 1 x.b) && hasKB k x.d
  else if x.op = 7 then storeB k x.c x.a fun t s => hasFB m 1 x.b s && le t (fieldT m x.b s)
  else if x.op = 8 then isB k x.b numT && (shB m x.a 2 (fun s => rowB m k [x.c] s.fields) && (keepsB k x.v && hasKB k x.d))
  else if x.op = 9 then isB k x.b numT && (objB k x.a (hasFB m 2 0) && hasKB k x.d)
  else if x.op = 10 then isB k x.b numT && storeB k x.c x.a fun t s => hasFB m 2 0 s && le t (fieldT m 0 s)
  else if x.op = 11 then objB k x.a (fun s => decide ((shAt m s).kind = 2 ∨ (shAt m s).kind = 3)) && hasKB k x.d
  else if x.op = 12 then objB k x.a (fun s => decide ((shAt m s).kind = 3)) && (isB k x.b numT && hasKB k x.d)
  else if x.op = 13 then objB k x.a (fun s => decide ((shAt m s).kind = 3)) && (objB k x.b (fun s => decide ((shAt m s).kind = 3)) && (keepsB k x.v && hasKB k x.d))
  else if x.op = 14 then objB k x.a (fun s => decide ((shAt m s).kind = 3)) && (objB k x.b (fun s => decide ((shAt m s).kind = 3)) && hasKB k x.d)
  else if x.op = 15 then hasKB k x.d
  else if x.op = 16 then isB k x.a numT
  else if x.op = 17 then calledB m k x.a x.l && (keepsB k x.v && ((if x.b = -1 then decide (x.c = 0) else hasKB k x.c && fitsB m f (setK (keepK k x.v) x.c (tyAt m m.exn)) x.b) && hasKB k x.d))
  else if x.op = 18 then fitsB m f k x.a
  else if x.op = 19 then isB k x.a numT && (fitsB m f k x.b && fitsB m f k x.c)
  else if x.op = 20 then switchB m f k x
  else if x.op = 21 then calledB m k x.a x.l && le (resT m x.a) (tyAt m f.result)
  else if x.op = 22 then isB k x.a (tyAt m f.result)
  else if x.op = 23 then isB k x.a (tyAt m m.exn)
  else true
theorem needsB_iff (m : M.Img) (f : M.Fn) (k : K) (x : M.Ins) : needsB m f k x = true ↔ Needs m f k x := by
  have k3 : ∀ s, decide ((shAt m s).kind = 3) = true ↔ (shAt m s).kind = 3 := fun s => by rw [decide_eq_true_eq]
  unfold needsB Needs
  refine ite_bool (and_bool dec_bool (hasKB_iff _ _)) ?_
  refine ite_bool (and_bool dec_bool (and_bool (keepsB_iff _ _) (hasKB_iff _ _))) ?_
  refine ite_bool (and_bool Option.isSome_iff_exists (hasKB_iff _ _)) ?_
  refine ite_bool (and_bool dec_bool (and_bool (isB_iff _ _ _) (and_bool (isB_iff _ _ _) (hasKB_iff _ _)))) ?_
  refine ite_bool (and_bool (shB_iff fun s => rowB_iff _ _ _ _) (and_bool (keepsB_iff _ _) (hasKB_iff _ _))) ?_
  refine ite_bool (and_bool (objB_iff fun s => hasFB_iff _ _ _ _) (hasKB_iff _ _)) ?_
  refine ite_bool (storeB_iff fun t s => and_bool (hasFB_iff _ _ _ _) Iff.rfl) ?_
  refine ite_bool (and_bool (isB_iff _ _ _) (and_bool (shB_iff fun s => rowB_iff _ _ _ _) (and_bool (keepsB_iff _ _) (hasKB_iff _ _)))) ?_
  refine ite_bool (and_bool (isB_iff _ _ _) (and_bool (objB_iff fun s => hasFB_iff _ _ _ _) (hasKB_iff _ _))) ?_
  refine ite_bool (and_bool (isB_iff _ _ _) (storeB_iff fun t s => and_bool (hasFB_iff _ _ _ _) Iff.rfl)) ?_
  refine ite_bool (and_bool (objB_iff fun s => dec_bool) (hasKB_iff _ _)) ?_
  refine ite_bool (and_bool (objB_iff k3) (and_bool (isB_iff _ _ _) (hasKB_iff _ _))) ?_
  refine ite_bool (and_bool (objB_iff k3) (and_bool (objB_iff k3) (and_bool (keepsB_iff _ _) (hasKB_iff _ _)))) ?_
  refine ite_bool (and_bool (objB_iff k3) (and_bool (objB_iff k3) (hasKB_iff _ _))) ?_
  refine ite_bool (hasKB_iff _ _) ?_
  refine ite_bool (isB_iff _ _ _) ?_
  refine ite_bool (and_bool (calledB_iff _ _ _ _) (and_bool (keepsB_iff _ _) (and_bool (ite_bool dec_bool (and_bool (hasKB_iff _ _) (fitsB_iff _ _ _ _))) (hasKB_iff _ _)))) ?_
  refine ite_bool (fitsB_iff _ _ _ _) ?_
  refine ite_bool (and_bool (isB_iff _ _ _) (and_bool (fitsB_iff _ _ _ _) (fitsB_iff _ _ _ _))) ?_
  refine ite_bool (switchB_iff _ _ _ _) ?_
  refine ite_bool (and_bool (calledB_iff _ _ _ _) Iff.rfl) ?_
  refine ite_bool (isB_iff _ _ _) ?_
  refine ite_bool (isB_iff _ _ _) ?_
  exact ⟨fun _ => trivial, fun _ => rfl⟩
def lastB (x : M.Ins) : Bool := decide (18 ≤ x.op ∧ x.op ≤ 23)
theorem lastB_iff (x : M.Ins) : lastB x = true ↔ Last x := by unfold lastB Last; rw [decide_eq_true_eq]
def wrongAtB (m : M.Img) (f : M.Fn) (n : Nat) : Nat → K → List M.Ins → Option Nat
  | _, _, [] => if n = 0 then some 0 else none
  | i, k, x :: l => if (decide (i + 1 = n) || !lastB x) && needsB m f k x then (if i + 1 = n then (if lastB x then none else some n) else wrongAtB m f n (i + 1) (next m k x) l) else some i
theorem wrongAt_is (m : M.Img) (f : M.Fn) (n : Nat) : ∀ (l : List M.Ins) (i : Nat) (k : K), WrongAt m f n i k l (wrongAtB m f n i k l)
  | [], i, k => by show _ = _; rfl
  | x :: l, i, k => by
    have hc : ((decide (i + 1 = n) || !lastB x) && needsB m f k x) = true ↔ ((i + 1 = n ∨ ¬ Last x) ∧ Needs m f k x) := by
      rw [Bool.and_eq_true, Bool.or_eq_true, decide_eq_true_eq, needsB_iff, Bool.not_eq_true', ← Bool.not_eq_true, lastB_iff]
    unfold WrongAt wrongAtB
    by_cases h : ((decide (i + 1 = n) || !lastB x) && needsB m f k x) = true
    · rw [if_pos h]
      refine .inl ⟨hc.1 h, ?_⟩
      by_cases hn : i + 1 = n
      · rw [if_pos hn]
        by_cases hl : lastB x = true
        · rw [if_pos hl]
          exact .inl ⟨hn, (lastB_iff x).1 hl, rfl⟩
        · rw [if_neg hl]
          exact .inr (.inl ⟨hn, fun e => hl ((lastB_iff x).2 e), rfl⟩)
      · rw [if_neg hn]
        exact .inr (.inr ⟨hn, wrongAt_is m f n l _ _⟩)
    · rw [if_neg h]
      exact .inr ⟨fun e => h (hc.2 e), rfl⟩
def wrongBkB (m : M.Img) (f : M.Fn) (b : M.Bk) : Option Nat := wrongAtB m f b.code.length 0 (beginK m b.inn) b.code
def wrongFnB (m : M.Img) (f : M.Fn) : Nat → List M.Bk → Option (Nat × Nat)
  | _, [] => none
  | j, b :: l => match wrongBkB m f b with
    | some n => some (j, n)
    | none => wrongFnB m f (j + 1) l
theorem wrongFn_is (m : M.Img) (f : M.Fn) : ∀ (l : List M.Bk) (j : Nat), WrongFn m f j l (wrongFnB m f j l)
  | [], j => by show _ = _; rfl
  | b :: l, j => by
    have h : WrongBk m f b (wrongBkB m f b) := wrongAt_is m f _ _ _ _
    unfold WrongFn wrongFnB
    cases e : wrongBkB m f b with
    | none => rw [e] at h; exact .inr ⟨h, wrongFn_is m f l _⟩
    | some n => rw [e] at h; exact .inl ⟨n, h, rfl⟩
def wrongImgB (m : M.Img) : Nat → List M.Fn → Option (Nat × Nat × Nat)
  | _, [] => none
  | i, f :: l => match wrongFnB m f 0 f.blocks with
    | some (j, n) => some (i, j, n)
    | none => wrongImgB m (i + 1) l
theorem wrongImg_is (m : M.Img) : ∀ (l : List M.Fn) (i : Nat), WrongImg m i l (wrongImgB m i l)
  | [], i => by show _ = _; rfl
  | f :: l, i => by
    have h : WrongFn m f 0 f.blocks (wrongFnB m f 0 f.blocks) := wrongFn_is m f _ _
    unfold WrongImg wrongImgB
    cases e : wrongFnB m f 0 f.blocks with
    | none => rw [e] at h; exact .inr ⟨h, wrongImg_is m l _⟩
    | some p => obtain ⟨j, n⟩ := p; rw [e] at h; exact .inl ⟨j, n, h, rfl⟩
/-- Where an image is wrong first. -/
def faultB (m : M.Img) : Option (Nat × Nat × Nat) := wrongImgB m 0 m.funcs
end Vf
end Go.Proofs.YtglalgjffkoneaaGreatDoor
/- newWalk: the words of an image's types, and of each shape alone. -/
namespace Go.Proofs.YtglalgjffkoneaaGreatDoor
set_option linter.unusedVariables false
set_option linter.unusedSimpArgs false
open Go.ChangeShapes Go.WideShapes Go.ChangeAt Go.RowKit
def ptrs (bs : List Nat) : List Value := bs.map fun b => .pointer (some ⟨b, 0, none⟩)
theorem infoTPtr : (Tryz.prog.info? 59).map (fun i => (i.zero, i.size, i.bytes)) = some (some (.pointer none), 1, 8) := by kernel_rfl
/-- Words in memory: a type's. -/
def TyW (w : World) (b : Nat) (t : M.Ty) : Prop := WordsAt w b t.imm (ofL t.shapes)
/-- A row under way of pointers to words. -/
structure Bag (base : Nat) (w : World) (a : Option Addr) (i c : Nat) (bs : List Nat) (ts : List M.Ty) : Prop where
  own : w.ownsRow base 59 1 (.slice a i c) i (ptrs bs)
  len : bs.length = i
  lt : ts.length = i
  each : ∀ (j b : Nat) (t : M.Ty), bs[j]? = some b → ts[j]? = some t → TyW w b t
theorem own_row_blk {w : World} {base : Nat} {a : Option Addr} {i c : Nat} {xs : List Value} (h : w.ownsRow base 59 1 (.slice a i c) i xs) {g : Nat} (hg : (Value.slice a i c).ownBlock = some g) : base ≤ g ∧ ∃ cs, Blk w g 59 cs := by
  refine ⟨(h.lt g hg).1, ?_⟩
  rcases h.2 with ⟨h1, _⟩ | ⟨g', cap, cur, e, e1, e2, e3⟩
  · rw [h1] at hg; cases hg
  · rw [e] at hg
    simp only [Value.ownBlock, Option.some.injEq] at hg
    subst hg
    exact ⟨_, e2⟩
theorem Bag.nil (base : Nat) (w : World) : Bag base w none 0 0 [] [] := ⟨⟨by simp [ptrs], .inl ⟨rfl, rfl⟩⟩, rfl, rfl, fun j b t h => by simp at h⟩
/-- What is written elsewhere leaves it. -/
theorem Bag.keep {base : Nat} {w w' : World} {a : Option Addr} {i c : Nat} {bs : List Nat} {ts : List M.Ty} (h : Bag base w a i c bs ts) {S : Nat → Prop} (t : Turn S w w') (hr : ∀ g, (Value.slice a i c).ownBlock = some g → ¬ S g) (hw : ∀ b im R, WordsAt w b im R → ¬ S b) : Bag base w' a i c bs ts :=
  ⟨own_keep h.own t hr, h.len, h.lt, fun j b x h1 h2 => (h.each j b x h1 h2).keep t (hw _ _ _ (h.each j b x h1 h2))⟩
theorem Bag.still {base : Nat} {w w' : World} {a : Option Addr} {i c : Nat} {bs : List Nat} {ts : List M.Ty} (h : Bag base w a i c bs ts) (t : Still w w') : Bag base w' a i c bs ts := h.keep t (fun _ _ e => e) (fun _ _ _ _ e => e)
/-- A block of another kind. -/
theorem words_ne {w : World} {b g : Nat} {im : Bool} {R : Nat → Nat} {t : TypeId} {cs : Array Value} (h : WordsAt w b im R) (k : Blk w g t cs) (ht : t ≠ 106) : b ≠ g := fun e => by
  subst e
  exact ht (h.blk.inj k).1.symm
theorem Bag.box {base : Nat} {w w' : World} {a : Option Addr} {i c : Nat} {bs : List Nat} {ts : List M.Ty} (h : Bag base w a i c bs ts) {X : Nat} {t : TypeId} {cs : Array Value} (k : Blk w X t cs) (ht : t ≠ 106) (hX : X < base) (u : Turn (fun j => j = X) w w') : Bag base w' a i c bs ts :=
  h.keep u (fun g hg e => by have := (h.own.lt g hg).1; omega) (fun b im R hb e => words_ne hb k ht e)
theorem Bag.row {base : Nat} {w w' : World} {a : Option Addr} {i c : Nat} {bs : List Nat} {ts : List M.Ty} (h : Bag base w a i c bs ts) {a' : Option Addr} {i' c' : Nat} {xs : List Value} (o : w.ownsRow base 59 1 (.slice a' i' c') i' xs) (u : Turn (fun k => (Value.slice a' i' c').ownBlock = some k) w w') : ∀ (j b : Nat) (t : M.Ty), bs[j]? = some b → ts[j]? = some t → TyW w' b t := fun j b t h1 h2 => by
  have hb := h.each j b t h1 h2
  refine WordsAt.keep hb u fun e => ?_
  obtain ⟨_, cs, hg⟩ := own_row_blk o e
  exact words_ne hb hg (by decide) rfl
/-- One more. -/
theorem Bag.snoc {base : Nat} {w3 w4 : World} {a : Option Addr} {i c : Nat} {bs : List Nat} {ts : List M.Ty} (h : Bag base w3 a i c bs ts) {b : Nat} {t : M.Ty} (hb : TyW w3 b t) {a' : Option Addr} {c' : Nat} (u : Turn (fun k => (Value.slice a i c).ownBlock = some k) w3 w4) (ho : w4.ownsRow base 59 1 (.slice a' (i + 1) c') (i + 1) (ptrs bs ++ [.pointer (some ⟨b, 0, none⟩)])) : Bag base w4 a' (i + 1) c' (bs ++ [b]) (ts ++ [t]) := by
  refine ⟨by unfold ptrs at *; rw [List.map_append]; exact ho, by rw [List.length_append, h.len]; rfl, by rw [List.length_append, h.lt]; rfl, fun j b' t' h1 h2 => ?_⟩
  by_cases hj : j < i
  · rw [List.getElem?_append_left (by rw [h.len]; exact hj)] at h1
    rw [List.getElem?_append_left (by rw [h.lt]; exact hj)] at h2
    exact h.row h.own u j b' t' h1 h2
  · rw [List.getElem?_append_right (by rw [h.len]; omega), h.len] at h1
    rw [List.getElem?_append_right (by rw [h.lt]; omega), h.lt] at h2
    have h0 : j - i = 0 := by
      have := (List.getElem?_eq_some_iff.1 h1).1
      simp at this
      omega
    rw [h0] at h1 h2
    simp at h1 h2
    subst h1
    subst h2
    refine WordsAt.keep hb u fun e => ?_
    obtain ⟨_, cs, hg⟩ := own_row_blk h.own e
    exact words_ne hb hg (by decide) rfl
/-- The row of one that is not empty. -/
theorem Bag.head {base : Nat} {w : World} {a : Option Addr} {i c : Nat} {bs : List Nat} {ts : List M.Ty} (h : Bag base w a i c bs ts) (hi : 0 < i) : ∃ g, a = some ⟨g, 0, none⟩ ∧ base ≤ g ∧ g < w.heap.size ∧ (∃ cs, Blk w g 59 cs) ∧ ∀ (k b : Nat), bs[k]? = some b → w.cell? ⟨g, k, none⟩ = some (.pointer (some ⟨b, 0, none⟩)) := by
  have hlt := h.own.lt
  have hcells := fun g hg => h.own.cells (g := g) hg
  have hrow := fun g hg => own_row_blk h.own (g := g) hg
  rcases h.own.2 with ⟨_, h0⟩ | ⟨g, cap, cur, e, e1, e2, e3, e4, e5, e6⟩
  · exfalso
    omega
  · injection e with ea _ _
    subst ea
    refine ⟨g, rfl, (hlt g rfl).1, (hlt g rfl).2, (hrow g rfl).2, fun k b hb => ?_⟩
    have hget : (ptrs bs)[k]? = some (.pointer (some ⟨b, 0, none⟩)) := by unfold ptrs; rw [List.getElem?_map, hb]; rfl
    have := hcells g rfl k _ hget
    rwa [Addr.add_lit, Nat.zero_add] at this
end Go.Proofs.YtglalgjffkoneaaGreatDoor
