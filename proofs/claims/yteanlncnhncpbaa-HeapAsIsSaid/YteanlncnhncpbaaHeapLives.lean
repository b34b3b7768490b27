/- The document's examples are as it says: the contract of layer 2's 'lives'. -/
import Derived.Test.YteanlncnhncpbaaHeapNew
namespace Go.Proofs.Yteanlncnhncpbaa
set_option linter.unusedVariables false
open Go.ChangeShapes Go.WideShapes Go.ChangeAt Go.RowKit
open M (W)

def exK (j : Nat) : Int := if j = 0 then 1 else 3
def exN (j : Nat) : Int := if j = 0 then 2 else 0
/-- The heap of the document's example, empty. -/
structure Ex (s : St) : Prop where
  n : s.n = 10
  m : s.m = 2
  lk : s.lk = exK
  ln : s.ln = exN
theorem Ex.more {s : St} (h : Ex s) (D x z : Nat) : Ex (s.more D x z) := ⟨h.n, h.m, h.lk, h.ln⟩
theorem Ex.need {s : St} (h : Ex s) : s.needE 0 2 = 0 ∧ s.need 0 2 = (3 : Nat) ∧ s.needE 1 9 = 0 ∧ s.need 1 9 = (3 : Nat) ∧ s.needE 0 1 = 1 ∧ s.zero 0 = 1 ∧ s.zero 1 = 0 := by
  unfold St.needE St.need St.zero St.kind St.len
  rw [h.m, h.lk, h.ln]
  decide
theorem Ex.alloc {s : St} {w : World} (h : Ex s) (hs : HpIs w s) (ht : s.top ≤ 7) : Calls Try.prog 45 #[s.ptr, .int .i64 0, .int .i64 2] w fun e w' => e = .returned (.tuple #[.int .i64 s.top, .int .i64 0]) ∧ HpIs w' (s.more 3 (M.hd 0 2 0 0).toNat 1) ∧ Turn (fun k => k = s.g ∨ k = s.gw) w w' := by
  obtain ⟨a, b, _, _, _, c, _⟩ := h.need
  have := alloc_ok s 0 2 3 w hs a b (by rw [h.n]; omega) (by omega)
  rw [c] at this
  exact this
theorem Ex.alloc9 {s : St} {w : World} (h : Ex s) (hs : HpIs w s) (ht : s.top ≤ 7) : Calls Try.prog 45 #[s.ptr, .int .i64 1, .int .i64 9] w fun e w' => e = .returned (.tuple #[.int .i64 s.top, .int .i64 0]) ∧ HpIs w' (s.more 3 (M.hd 1 9 0 0).toNat 0) ∧ Turn (fun k => k = s.g ∨ k = s.gw) w w' := by
  obtain ⟨_, _, a, b, _, _, c⟩ := h.need
  have := alloc_ok s 1 9 3 w hs a b (by rw [h.n]; omega) (by omega)
  rw [c] at this
  exact this
theorem Ex.alloc1 {s : St} {w : World} (h : Ex s) (hs : HpIs w s) : Calls Try.prog 45 #[s.ptr, .int .i64 0, .int .i64 1] w fun e w' => e = .returned (.tuple #[.int .i64 0, .int .i64 1]) ∧ Still w w' := by
  obtain ⟨_, _, _, _, a, _, _⟩ := h.need
  have := alloc_err s 0 1 w hs (by rw [a]; decide)
  rw [a] at this
  exact this
theorem Ex.allocF {s : St} {w : World} (h : Ex s) (hs : HpIs w s) (ht : s.top = 9) : Calls Try.prog 45 #[s.ptr, .int .i64 0, .int .i64 2] w fun e w' => e = .returned (.tuple #[.int .i64 0, .int .i64 3]) ∧ Still w w' := by
  obtain ⟨a, b, _⟩ := h.need
  exact alloc_full s 0 2 w hs a (by rw [b, h.n, ht]; decide)
def Ex.end (s : St) : St := ((s.more 3 (M.hd 0 2 0 0).toNat 1).more 3 (M.hd 1 9 0 0).toNat 0).more 3 (M.hd 0 2 0 0).toNat 1
theorem Ex.obAt {s : St} (h : Ex s) (ht : s.top = 0) (hw : ∀ i, s.ws i = 0) (hx : ∀ i, s.hx i = 0) : ObAt (Ex.end s) 0 ⟨0, 1, 2, 3⟩ ∧ (Ex.end s).fits 6 = true ∧ (Ex.end s).fits 8 = false := by
  have hkk : (Ex.end s).kind 0 = 1 ∧ (Ex.end s).len 0 = 2 := by
    unfold St.kind St.len Ex.end St.more
    simp only
    rw [h.m, h.lk, h.ln]
    decide
  have hws : (Ex.end s).ws 0 = (M.hd 0 2 0 0).toNat := by
    unfold Ex.end St.more
    simp only
    rw [ht]
    simp
  have hob : (Ex.end s).ob ((Ex.end s).ws 0) = ⟨0, 1, 2, 3⟩ := by
    unfold St.ob St.need
    rw [hws, show M.sh (((M.hd 0 2 0 0).toNat : Nat) : Int) = 0 by decide, show M.ln (((M.hd 0 2 0 0).toNat : Nat) : Int) = 2 by decide, hkk.1, hkk.2]
    rfl
  have hin : ∀ k : Int, M.inSet (Ex.end s).hx k = (decide (k = 6) || (decide (k = 3) || (decide (k = 0) || M.inSet s.hx k))) := by
    intro k
    unfold Ex.end St.more
    simp only
    rw [ht]
    rw [M.putIn_in _ _ (by decide), M.putIn_in _ _ (by decide), M.putIn_in _ _ (by decide)]
    rfl
  have h0 : ∀ k : Int, M.inSet s.hx k = false := by
    intro k
    unfold M.inSet
    rw [hx]; simp
  refine ⟨⟨?_, ?_, ?_, hob⟩, ?_, ?_⟩
  · show M.inSet (Ex.end s).hx 0 = true
    rw [hin]; simp
  · show 0 < s.n
    rw [h.n]; decide
  · unfold St.reads
    rw [hob]
    have : (Ex.end s).obE ((Ex.end s).ws 0) = 0 := by
      unfold St.obE St.needE
      rw [hws, show M.sh (((M.hd 0 2 0 0).toNat : Nat) : Int) = 0 by decide, show M.ln (((M.hd 0 2 0 0).toNat : Nat) : Int) = 2 by decide, hkk.1, hkk.2]
      rfl
    rw [this]
    show (decide ((0 : Int) = 0) && decide ((3 : Int) ≤ (s.n : Int) - 0)) = true
    rw [h.n]; decide
  · unfold St.fits M.fits
    rw [hin, h0]; decide
  · unfold St.fits M.fits
    rw [hin, h0]; decide

theorem ptr_3 (w : World) : Calls Try.prog 43 #[.int .i64 3] w fun e w' => e = .returned (.int .u64 6) ∧ w' = w := ptr_any 3 w
theorem ptr_4 (w : World) : Calls Try.prog 43 #[.int .i64 4] w fun e w' => e = .returned (.int .u64 8) ∧ w' = w := ptr_any 4 w
theorem Ex.set6 {s : St} {w : World} (h : Ex s) (ht : s.top = 0) (hw : ∀ i, s.ws i = 0) (hx : ∀ i, s.hx i = 0) (hs : HpIs w (Ex.end s)) : Calls Try.prog 47 #[s.ptr, .int .i64 0, .int .i64 1, .int .u64 6] w fun e w' => e = .returned (.int .i64 0) ∧ HpIs w' ((Ex.end s).put 2 6) ∧ Turn (fun k => k = s.gw) w w' := by
  obtain ⟨a, b, _⟩ := h.obAt ht hw hx
  exact set_ok (Ex.end s) 0 _ 1 6 w hs a (by decide) (by decide) (by decide) (by decide) b
theorem Ex.obAt2 {s : St} (h : Ex s) (ht : s.top = 0) (hw : ∀ i, s.ws i = 0) (hx : ∀ i, s.hx i = 0) : ObAt ((Ex.end s).put 2 6) 0 ⟨0, 1, 2, 3⟩ := by
  obtain ⟨⟨a, b, c, d⟩, _, _⟩ := h.obAt ht hw hx
  exact ⟨a, b, c, d⟩
theorem Ex.set8 {s : St} {w : World} (h : Ex s) (ht : s.top = 0) (hw : ∀ i, s.ws i = 0) (hx : ∀ i, s.hx i = 0) (hs : HpIs w ((Ex.end s).put 2 6)) : Calls Try.prog 47 #[s.ptr, .int .i64 0, .int .i64 1, .int .u64 8] w fun e w' => e = .returned (.int .i64 1) ∧ Still w w' := by
  obtain ⟨_, _, c⟩ := h.obAt ht hw hx
  exact set_unfit ((Ex.end s).put 2 6) 0 _ 1 8 w hs (h.obAt2 ht hw hx) (by decide) (by decide) (by decide) (by decide) c
theorem Ex.lays (w : World) : Lays (w.alloc (.cells #[.int .i64 1, .int .i64 2, .int .i64 3, .int .i64 0] 83)) (some ⟨w.heap.size, 0, none⟩) 2 exK exN :=
  ⟨fun _ => ⟨w.heap.size, 0, rfl, by simp, fun j hj => by
    have hb := Blk.new w 83 #[.int .i64 1, .int .i64 2, .int .i64 3, .int .i64 0]
    match j, hj with
    | 0, _ => exact ⟨hb.cell 0, hb.cell 1⟩
    | 1, _ => exact ⟨hb.cell 2, hb.cell 3⟩⟩⟩
theorem Ex.new (w : World) (cap : Nat) : Calls Try.prog 46 #[.int .i64 10, .slice (some ⟨w.heap.size, 0, none⟩) 2 cap] (w.alloc (.cells #[.int .i64 1, .int .i64 2, .int .i64 3, .int .i64 0] 83)) fun e w' =>
    ∃ s : St, e = .returned (.tuple #[s.ptr, .int .i64 0]) ∧ HpIs w' s ∧ Below w.heap.size w w' ∧ w.heap.size ≤ s.g ∧ w.heap.size ≤ s.gw ∧ Ex s ∧ s.top = 0 ∧ (∀ i, s.ws i = 0) ∧ (∀ i, s.hx i = 0) := by
  refine (new_ok 10 _ 2 cap exK exN _ (by decide) (by decide) (Ex.lays w) (by decide)).mono fun e w' ⟨s, h1, h2, h3, h4, h5, h6, h7, h8, h9, h10, h11, h12, h13⟩ => ⟨s, h1, h2, ?_, ?_, ?_, ⟨h7, h11, h12, h13⟩, h8, h9, h10⟩
  · exact ((Below.refl _ w).alloc (Nat.le_refl _) _).trans ((Still.below h3).mono (by simp))
  · simp at h4; omega
  · simp at h5; omega
theorem Turn.own {S : Nat → Prop} {w w' w0 : World} {B : Nat} (h : Turn S w w') (hb : Below B w0 w) (hB : B ≤ w0.heap.size) (hs : ∀ k, S k → B ≤ k) : Below B w0 w' := hb.trans (h.below (Nat.le_trans hB hb.size) hs)

set_option maxRecDepth 100000 in
set_option maxHeartbeats 2000000 in
theorem lives_any (w : World) : Calls Try.prog 16 #[] w fun e w' => e = .returned (.bool true) ∧ Below w.heap.size w w' := by
  go_enter Try.func16, Try.ntmps16
  go_wp2_with fail
  refine (Ex.new _ _).mono ?_; rintro e w1 ⟨s, rfl, h1, b1, g1, g2, hE, ht, hw, hx⟩
  have H1 := Lib.hid h1; have B1 := Lib.hid b1; have HW := Lib.hid hw; have HX := Lib.hid hx; have HE := Lib.hid hE; have HT := Lib.hid ht
  clear h1 b1 hw hx hE ht
  go_wp2_with fail
  refine (HE.out.alloc H1.out (by rw [HT.out]; decide)).mono ?_; rintro e w2 ⟨rfl, h2, t2⟩
  have H2 := Lib.hid h2; have B2 := Lib.hid (t2.own B1.out (Nat.le_refl _) (by rintro k (rfl | rfl) <;> assumption))
  clear h2 t2
  go_wp2_with fail
  refine ((HE.out.more _ _ _).alloc9 H2.out (by show s.top + 3 ≤ 7; rw [HT.out]; decide)).mono ?_; rintro e w3 ⟨rfl, h3, t3⟩
  have H3 := Lib.hid h3; have B3 := Lib.hid (t3.own B2.out (Nat.le_refl _) (by rintro k (rfl | rfl) <;> assumption))
  clear h3 t3
  go_wp2_with fail
  refine (((HE.out.more _ _ _).more _ _ _).alloc1 H3.out).mono ?_; rintro e w4 ⟨rfl, t4⟩
  have H4 := Lib.hid (H3.out.still t4); have B4 := Lib.hid (Turn.own t4 B3.out (Nat.le_refl _) (fun _ e => e.elim))
  clear t4
  go_wp2_with fail
  refine (((HE.out.more _ _ _).more _ _ _).alloc H4.out (by show s.top + 3 + 3 ≤ 7; rw [HT.out]; decide)).mono ?_; rintro e w5 ⟨rfl, h5, t5⟩
  have H5 := Lib.hid h5; have B5 := Lib.hid (t5.own B4.out (Nat.le_refl _) (by rintro k (rfl | rfl) <;> assumption))
  clear h5 t5
  go_wp2_with fail
  refine ((((HE.out.more _ _ _).more _ _ _).more _ _ _).allocF H5.out (by show s.top + 3 + 3 + 3 = 9; rw [HT.out])).mono ?_; rintro e w6 ⟨rfl, t6⟩
  have H6 := Lib.hid (H5.out.still t6); have B6 := Lib.hid (Turn.own t6 B5.out (Nat.le_refl _) (fun _ e => e.elim))
  clear t6
  have e0 : ((s.top : Int) == 0) = true := by rw [HT.out]; rfl
  have e3 : (((s.more 3 (M.hd 0 2 0 0).toNat 1).top : Int) == 3) = true := by show (((s.top + 3 : Nat) : Int) == 3) = true; rw [HT.out]; rfl
  have e6 : ((((s.more 3 (M.hd 0 2 0 0).toNat 1).more 3 (M.hd 1 9 0 0).toNat 0).top : Int) == 6) = true := by show (((s.top + 3 + 3 : Nat) : Int) == 6) = true; rw [HT.out]; rfl
  go_wp2_with fail
  refine (ptr_3 _).mono ?_; rintro e w6 ⟨rfl, rfl⟩
  go_wp2_with fail
  refine (HE.out.set6 HT.out HW.out HX.out H6.out).mono ?_; rintro e w7 ⟨rfl, h7, t7⟩
  have H7 := Lib.hid h7; have B7 := Lib.hid (t7.own B6.out (Nat.le_refl _) (by rintro k rfl; assumption))
  clear h7 t7
  go_wp2_with fail
  refine (ptr_4 _).mono ?_; rintro e w7 ⟨rfl, rfl⟩
  go_wp2_with fail
  refine (HE.out.set8 HT.out HW.out HX.out H7.out).mono ?_; rintro e w8 ⟨rfl, t8⟩
  have B8 := Lib.hid (Turn.own t8 B7.out (Nat.le_refl _) (fun _ e => e.elim))
  clear t8
  go_wp2_with fail
  go_ret
  exact ⟨rfl, B8.out⟩
end Go.Proofs.Yteanlncnhncpbaa
