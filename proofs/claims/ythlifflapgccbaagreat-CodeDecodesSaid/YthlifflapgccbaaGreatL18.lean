/- Lemmas, put together: Tr6 Tr7. -/
import Derived.Test.YthlifflapgccbaaGreatL17
import Derived.Test.YthlifflapgccbaaGreatL13
import Derived.Test.YthlifflapgccbaaGreatL14
import Derived.Deep.RegionLaw
/- The document's taker: an instruction. -/
namespace Go.Proofs.YthlifflapgccbaaGreat
set_option linter.unusedVariables false
set_option linter.unusedSimpArgs false
open Go.ChangeShapes Go.WideShapes Go.ChangeAt Go.RowKit
open M (W)
theorem qfield68 (x : M.Ins) : M.qField x 68 = M.qMap M.qNum (fun n => { x with d := n }) := by unfold M.qField; rfl
theorem qfield65 (x : M.Ins) : M.qField x 65 = M.qMap M.qNum (fun n => { x with a := n }) := by unfold M.qField; rfl
theorem qfield66 (x : M.Ins) : M.qField x 66 = M.qMap M.qNum (fun n => { x with b := n }) := by unfold M.qField; rfl
theorem qfield67 (x : M.Ins) : M.qField x 67 = M.qMap M.qNum (fun n => { x with c := n }) := by unfold M.qField; rfl
theorem qfield78 (x : M.Ins) : M.qField x 78 = M.qMap M.qNum (fun n => { x with n := n }) := by unfold M.qField; rfl
theorem qfield76 (x : M.Ins) : M.qField x 76 = M.qMap (M.qList M.qNum) (fun n => { x with l := n }) := by unfold M.qField; rfl
theorem qfield77 (x : M.Ins) : M.qField x 77 = M.qMap (M.qList M.qNum) (fun n => { x with m := n }) := by unfold M.qField; rfl
theorem qfield108 (x : M.Ins) : M.qField x 108 = M.qMap (M.qList M.qNum) (fun n => { x with v := n }) := by unfold M.qField; rfl
/-- Where the taker of an instruction stands. -/
structure LettersT (q : RP) (w w0 : World) (X : Nat) (Z : Array Value) (u : ByteArray) (x0 : M.Ins) (k1 : Nat) (b1 : Bool) (pos : Nat) (v : IV) (k2 : Nat) (b2 : Bool) (wr : World) : Prop where
  le : pos ≤ u.size
  box : Blk wr X 70 v.arr
  res : Blk wr w.heap.size 70 Z
  step : StepT q (M.qFields (u.data.toList.take pos) x0) (fun y => InsQ (Inside w0 X X wr) wr v.cells y) w0 wr k1 b1 k2 b2
/-- What instr answers. -/
def InstrT (q : RP) (w : World) (k : Nat) (bad : Bool) (e : Ending) (w' : World) : Prop := ∃ (v : IV) (k' : Nat) (bad' : Bool), e = .returned (.agg v.arr) ∧ StepT q M.qIns (fun x => InsQ (Fresh w w') w' v.cells x) w w' k bad k' bad'
theorem LettersT.f68 {q : RP} {w w0 wr w3 : World} {X : Nat} {Z : Array Value} {u : ByteArray} {x0 : M.Ins} {k1 : Nat} {b1 : Bool} {pos k2 k3 : Nat} {b2 b3 : Bool} {xo xd xa xb xc xn : Int} {la : Option Addr} {ln lc : Nat} {ma : Option Addr} {mn mc : Nat} {va : Option Addr} {vn vc : Nat} {y : Int} (h : LettersT q w w0 X Z u x0 k1 b1 pos ⟨xo, xd, xa, xb, xc, xn, la, ln, lc, ma, mn, mc, va, vn, vc⟩ k2 b2 wr) (hlt : pos < u.size) (hc : u[pos]'hlt = 68) (hy : In64 y) (U : StepT q M.qNum (fun x => y = x) wr w3 k2 b2 k3 b3) (hX : w0.heap.size ≤ X) (hwX : w.heap.size < w0.heap.size) (hg : q.g < w.heap.size) (hb : q.b < w.heap.size) :
    LettersT q w w0 X Z u x0 k1 b1 (pos + 1) ⟨xo, y, xa, xb, xc, xn, la, ln, lc, ma, mn, mc, va, vn, vc⟩ k3 b3 (w3.setCell ⟨X, 1, none⟩ (.int .i64 y)) := by
  have hbx := h.box.keep U.turn (by omega)
  have hrs := h.res.keep U.turn (by omega)
  have hXr : X < wr.heap.size := h.box.lt
  have h0r : w0.heap.size ≤ wr.heap.size := h.step.turn.size
  have t2 : Turn (fun i => i = X) w3 (w3.setCell ⟨X, 1, none⟩ (.int .i64 y)) := (Turn.refl (fun i => i = X) w3).setCell (p := ⟨X, 1, none⟩) (fun _ => rfl) _
  have hb2 : Blk (w3.setCell ⟨X, 1, none⟩ (.int .i64 y)) X 70 (IV.arr ⟨xo, y, xa, xb, xc, xn, la, ln, lc, ma, mn, mc, va, vn, vc⟩) := by have := hbx.set 1 (.int .i64 y); simpa [IV.arr] using this
  generalize w3.setCell ⟨X, 1, none⟩ (.int .i64 y) = w9 at t2 hb2 ⊢
  refine ⟨hlt, hb2, hrs.keep t2 (by omega), ?_⟩
  rw [take_snoc u pos hlt, hc]
  refine h.step.fsnoc fun x => ?_
  rw [qfield68]
  refine U.map (U.rd.turn t2 (by omega) (by omega)) (turn_box (h.step.turn.trans U.turn) t2 hX) fun z hz hp => ?_
  have hk := kept_inside (K := X) (wB := w0) (by omega) U.turn t2
  obtain ⟨la', ln', lc', ma', mn', mc', va', vn', vc', he, hl, hm, hv, ⟨k0, k1', k2', k3', k4, k5⟩, il, im, iv⟩ := hp
  simp only [IV.cells, List.cons.injEq, Value.slice.injEq, Value.int.injEq, and_true, true_and] at he
  obtain ⟨rfl, rfl, rfl, rfl, rfl, rfl, ⟨rfl, rfl, rfl⟩, ⟨rfl, rfl, rfl⟩, ⟨rfl, rfl, rfl⟩⟩ := he
  subst hz
  exact ⟨la, ln, lc, ma, mn, mc, va, vn, vc, rfl, hl, hm, hv, ⟨k0, hy, k2', k3', k4, k5⟩, il.keep hk, im.keep hk, iv.keep hk⟩
theorem LettersT.f65 {q : RP} {w w0 wr w3 : World} {X : Nat} {Z : Array Value} {u : ByteArray} {x0 : M.Ins} {k1 : Nat} {b1 : Bool} {pos k2 k3 : Nat} {b2 b3 : Bool} {xo xd xa xb xc xn : Int} {la : Option Addr} {ln lc : Nat} {ma : Option Addr} {mn mc : Nat} {va : Option Addr} {vn vc : Nat} {y : Int} (h : LettersT q w w0 X Z u x0 k1 b1 pos ⟨xo, xd, xa, xb, xc, xn, la, ln, lc, ma, mn, mc, va, vn, vc⟩ k2 b2 wr) (hlt : pos < u.size) (hc : u[pos]'hlt = 65) (hy : In64 y) (U : StepT q M.qNum (fun x => y = x) wr w3 k2 b2 k3 b3) (hX : w0.heap.size ≤ X) (hwX : w.heap.size < w0.heap.size) (hg : q.g < w.heap.size) (hb : q.b < w.heap.size) :
    LettersT q w w0 X Z u x0 k1 b1 (pos + 1) ⟨xo, xd, y, xb, xc, xn, la, ln, lc, ma, mn, mc, va, vn, vc⟩ k3 b3 (w3.setCell ⟨X, 2, none⟩ (.int .i64 y)) := by
  have hbx := h.box.keep U.turn (by omega)
  have hrs := h.res.keep U.turn (by omega)
  have hXr : X < wr.heap.size := h.box.lt
  have h0r : w0.heap.size ≤ wr.heap.size := h.step.turn.size
  have t2 : Turn (fun i => i = X) w3 (w3.setCell ⟨X, 2, none⟩ (.int .i64 y)) := (Turn.refl (fun i => i = X) w3).setCell (p := ⟨X, 2, none⟩) (fun _ => rfl) _
  have hb2 : Blk (w3.setCell ⟨X, 2, none⟩ (.int .i64 y)) X 70 (IV.arr ⟨xo, xd, y, xb, xc, xn, la, ln, lc, ma, mn, mc, va, vn, vc⟩) := by have := hbx.set 2 (.int .i64 y); simpa [IV.arr] using this
  generalize w3.setCell ⟨X, 2, none⟩ (.int .i64 y) = w9 at t2 hb2 ⊢
  refine ⟨hlt, hb2, hrs.keep t2 (by omega), ?_⟩
  rw [take_snoc u pos hlt, hc]
  refine h.step.fsnoc fun x => ?_
  rw [qfield65]
  refine U.map (U.rd.turn t2 (by omega) (by omega)) (turn_box (h.step.turn.trans U.turn) t2 hX) fun z hz hp => ?_
  have hk := kept_inside (K := X) (wB := w0) (by omega) U.turn t2
  obtain ⟨la', ln', lc', ma', mn', mc', va', vn', vc', he, hl, hm, hv, ⟨k0, k1', k2', k3', k4, k5⟩, il, im, iv⟩ := hp
  simp only [IV.cells, List.cons.injEq, Value.slice.injEq, Value.int.injEq, and_true, true_and] at he
  obtain ⟨rfl, rfl, rfl, rfl, rfl, rfl, ⟨rfl, rfl, rfl⟩, ⟨rfl, rfl, rfl⟩, ⟨rfl, rfl, rfl⟩⟩ := he
  subst hz
  exact ⟨la, ln, lc, ma, mn, mc, va, vn, vc, rfl, hl, hm, hv, ⟨k0, k1', hy, k3', k4, k5⟩, il.keep hk, im.keep hk, iv.keep hk⟩
theorem LettersT.f66 {q : RP} {w w0 wr w3 : World} {X : Nat} {Z : Array Value} {u : ByteArray} {x0 : M.Ins} {k1 : Nat} {b1 : Bool} {pos k2 k3 : Nat} {b2 b3 : Bool} {xo xd xa xb xc xn : Int} {la : Option Addr} {ln lc : Nat} {ma : Option Addr} {mn mc : Nat} {va : Option Addr} {vn vc : Nat} {y : Int} (h : LettersT q w w0 X Z u x0 k1 b1 pos ⟨xo, xd, xa, xb, xc, xn, la, ln, lc, ma, mn, mc, va, vn, vc⟩ k2 b2 wr) (hlt : pos < u.size) (hc : u[pos]'hlt = 66) (hy : In64 y) (U : StepT q M.qNum (fun x => y = x) wr w3 k2 b2 k3 b3) (hX : w0.heap.size ≤ X) (hwX : w.heap.size < w0.heap.size) (hg : q.g < w.heap.size) (hb : q.b < w.heap.size) :
    LettersT q w w0 X Z u x0 k1 b1 (pos + 1) ⟨xo, xd, xa, y, xc, xn, la, ln, lc, ma, mn, mc, va, vn, vc⟩ k3 b3 (w3.setCell ⟨X, 3, none⟩ (.int .i64 y)) := by
  have hbx := h.box.keep U.turn (by omega)
  have hrs := h.res.keep U.turn (by omega)
  have hXr : X < wr.heap.size := h.box.lt
  have h0r : w0.heap.size ≤ wr.heap.size := h.step.turn.size
  have t2 : Turn (fun i => i = X) w3 (w3.setCell ⟨X, 3, none⟩ (.int .i64 y)) := (Turn.refl (fun i => i = X) w3).setCell (p := ⟨X, 3, none⟩) (fun _ => rfl) _
  have hb2 : Blk (w3.setCell ⟨X, 3, none⟩ (.int .i64 y)) X 70 (IV.arr ⟨xo, xd, xa, y, xc, xn, la, ln, lc, ma, mn, mc, va, vn, vc⟩) := by have := hbx.set 3 (.int .i64 y); simpa [IV.arr] using this
  generalize w3.setCell ⟨X, 3, none⟩ (.int .i64 y) = w9 at t2 hb2 ⊢
  refine ⟨hlt, hb2, hrs.keep t2 (by omega), ?_⟩
  rw [take_snoc u pos hlt, hc]
  refine h.step.fsnoc fun x => ?_
  rw [qfield66]
  refine U.map (U.rd.turn t2 (by omega) (by omega)) (turn_box (h.step.turn.trans U.turn) t2 hX) fun z hz hp => ?_
  have hk := kept_inside (K := X) (wB := w0) (by omega) U.turn t2
  obtain ⟨la', ln', lc', ma', mn', mc', va', vn', vc', he, hl, hm, hv, ⟨k0, k1', k2', k3', k4, k5⟩, il, im, iv⟩ := hp
  simp only [IV.cells, List.cons.injEq, Value.slice.injEq, Value.int.injEq, and_true, true_and] at he
  obtain ⟨rfl, rfl, rfl, rfl, rfl, rfl, ⟨rfl, rfl, rfl⟩, ⟨rfl, rfl, rfl⟩, ⟨rfl, rfl, rfl⟩⟩ := he
  subst hz
  exact ⟨la, ln, lc, ma, mn, mc, va, vn, vc, rfl, hl, hm, hv, ⟨k0, k1', k2', hy, k4, k5⟩, il.keep hk, im.keep hk, iv.keep hk⟩
theorem LettersT.f67 {q : RP} {w w0 wr w3 : World} {X : Nat} {Z : Array Value} {u : ByteArray} {x0 : M.Ins} {k1 : Nat} {b1 : Bool} {pos k2 k3 : Nat} {b2 b3 : Bool} {xo xd xa xb xc xn : Int} {la : Option Addr} {ln lc : Nat} {ma : Option Addr} {mn mc : Nat} {va : Option Addr} {vn vc : Nat} {y : Int} (h : LettersT q w w0 X Z u x0 k1 b1 pos ⟨xo, xd, xa, xb, xc, xn, la, ln, lc, ma, mn, mc, va, vn, vc⟩ k2 b2 wr) (hlt : pos < u.size) (hc : u[pos]'hlt = 67) (hy : In64 y) (U : StepT q M.qNum (fun x => y = x) wr w3 k2 b2 k3 b3) (hX : w0.heap.size ≤ X) (hwX : w.heap.size < w0.heap.size) (hg : q.g < w.heap.size) (hb : q.b < w.heap.size) :
    LettersT q w w0 X Z u x0 k1 b1 (pos + 1) ⟨xo, xd, xa, xb, y, xn, la, ln, lc, ma, mn, mc, va, vn, vc⟩ k3 b3 (w3.setCell ⟨X, 4, none⟩ (.int .i64 y)) := by
  have hbx := h.box.keep U.turn (by omega)
  have hrs := h.res.keep U.turn (by omega)
  have hXr : X < wr.heap.size := h.box.lt
  have h0r : w0.heap.size ≤ wr.heap.size := h.step.turn.size
  have t2 : Turn (fun i => i = X) w3 (w3.setCell ⟨X, 4, none⟩ (.int .i64 y)) := (Turn.refl (fun i => i = X) w3).setCell (p := ⟨X, 4, none⟩) (fun _ => rfl) _
  have hb2 : Blk (w3.setCell ⟨X, 4, none⟩ (.int .i64 y)) X 70 (IV.arr ⟨xo, xd, xa, xb, y, xn, la, ln, lc, ma, mn, mc, va, vn, vc⟩) := by have := hbx.set 4 (.int .i64 y); simpa [IV.arr] using this
  generalize w3.setCell ⟨X, 4, none⟩ (.int .i64 y) = w9 at t2 hb2 ⊢
  refine ⟨hlt, hb2, hrs.keep t2 (by omega), ?_⟩
  rw [take_snoc u pos hlt, hc]
  refine h.step.fsnoc fun x => ?_
  rw [qfield67]
  refine U.map (U.rd.turn t2 (by omega) (by omega)) (turn_box (h.step.turn.trans U.turn) t2 hX) fun z hz hp => ?_
  have hk := kept_inside (K := X) (wB := w0) (by omega) U.turn t2
  obtain ⟨la', ln', lc', ma', mn', mc', va', vn', vc', he, hl, hm, hv, ⟨k0, k1', k2', k3', k4, k5⟩, il, im, iv⟩ := hp
  simp only [IV.cells, List.cons.injEq, Value.slice.injEq, Value.int.injEq, and_true, true_and] at he
  obtain ⟨rfl, rfl, rfl, rfl, rfl, rfl, ⟨rfl, rfl, rfl⟩, ⟨rfl, rfl, rfl⟩, ⟨rfl, rfl, rfl⟩⟩ := he
  subst hz
  exact ⟨la, ln, lc, ma, mn, mc, va, vn, vc, rfl, hl, hm, hv, ⟨k0, k1', k2', k3', hy, k5⟩, il.keep hk, im.keep hk, iv.keep hk⟩
theorem LettersT.f78 {q : RP} {w w0 wr w3 : World} {X : Nat} {Z : Array Value} {u : ByteArray} {x0 : M.Ins} {k1 : Nat} {b1 : Bool} {pos k2 k3 : Nat} {b2 b3 : Bool} {xo xd xa xb xc xn : Int} {la : Option Addr} {ln lc : Nat} {ma : Option Addr} {mn mc : Nat} {va : Option Addr} {vn vc : Nat} {y : Int} (h : LettersT q w w0 X Z u x0 k1 b1 pos ⟨xo, xd, xa, xb, xc, xn, la, ln, lc, ma, mn, mc, va, vn, vc⟩ k2 b2 wr) (hlt : pos < u.size) (hc : u[pos]'hlt = 78) (hy : In64 y) (U : StepT q M.qNum (fun x => y = x) wr w3 k2 b2 k3 b3) (hX : w0.heap.size ≤ X) (hwX : w.heap.size < w0.heap.size) (hg : q.g < w.heap.size) (hb : q.b < w.heap.size) :
    LettersT q w w0 X Z u x0 k1 b1 (pos + 1) ⟨xo, xd, xa, xb, xc, y, la, ln, lc, ma, mn, mc, va, vn, vc⟩ k3 b3 (w3.setCell ⟨X, 5, none⟩ (.int .i64 y)) := by
  have hbx := h.box.keep U.turn (by omega)
  have hrs := h.res.keep U.turn (by omega)
  have hXr : X < wr.heap.size := h.box.lt
  have h0r : w0.heap.size ≤ wr.heap.size := h.step.turn.size
  have t2 : Turn (fun i => i = X) w3 (w3.setCell ⟨X, 5, none⟩ (.int .i64 y)) := (Turn.refl (fun i => i = X) w3).setCell (p := ⟨X, 5, none⟩) (fun _ => rfl) _
  have hb2 : Blk (w3.setCell ⟨X, 5, none⟩ (.int .i64 y)) X 70 (IV.arr ⟨xo, xd, xa, xb, xc, y, la, ln, lc, ma, mn, mc, va, vn, vc⟩) := by have := hbx.set 5 (.int .i64 y); simpa [IV.arr] using this
  generalize w3.setCell ⟨X, 5, none⟩ (.int .i64 y) = w9 at t2 hb2 ⊢
  refine ⟨hlt, hb2, hrs.keep t2 (by omega), ?_⟩
  rw [take_snoc u pos hlt, hc]
  refine h.step.fsnoc fun x => ?_
  rw [qfield78]
  refine U.map (U.rd.turn t2 (by omega) (by omega)) (turn_box (h.step.turn.trans U.turn) t2 hX) fun z hz hp => ?_
  have hk := kept_inside (K := X) (wB := w0) (by omega) U.turn t2
  obtain ⟨la', ln', lc', ma', mn', mc', va', vn', vc', he, hl, hm, hv, ⟨k0, k1', k2', k3', k4, k5⟩, il, im, iv⟩ := hp
  simp only [IV.cells, List.cons.injEq, Value.slice.injEq, Value.int.injEq, and_true, true_and] at he
  obtain ⟨rfl, rfl, rfl, rfl, rfl, rfl, ⟨rfl, rfl, rfl⟩, ⟨rfl, rfl, rfl⟩, ⟨rfl, rfl, rfl⟩⟩ := he
  subst hz
  exact ⟨la, ln, lc, ma, mn, mc, va, vn, vc, rfl, hl, hm, hv, ⟨k0, k1', k2', k3', k4, hy⟩, il.keep hk, im.keep hk, iv.keep hk⟩
theorem LettersT.f76 {q : RP} {w w0 wr w3 : World} {X : Nat} {Z : Array Value} {u : ByteArray} {x0 : M.Ins} {k1 : Nat} {b1 : Bool} {pos k2 k3 : Nat} {b2 b3 : Bool} {xo xd xa xb xc xn : Int} {la : Option Addr} {ln lc : Nat} {ma : Option Addr} {mn mc : Nat} {va : Option Addr} {vn vc : Nat} {ya : Option Addr} {yn yc : Nat} (h : LettersT q w w0 X Z u x0 k1 b1 pos ⟨xo, xd, xa, xb, xc, xn, la, ln, lc, ma, mn, mc, va, vn, vc⟩ k2 b2 wr) (hlt : pos < u.size) (hc : u[pos]'hlt = 76) (hy : yn ≤ 100000000) (U : StepT q (M.qList M.qNum) (fun l => IntsQ (Fresh wr w3) w3 ya yn l) wr w3 k2 b2 k3 b3) (hX : w0.heap.size ≤ X) (hwX : w.heap.size < w0.heap.size) (hg : q.g < w.heap.size) (hb : q.b < w.heap.size) :
    LettersT q w w0 X Z u x0 k1 b1 (pos + 1) ⟨xo, xd, xa, xb, xc, xn, ya, yn, yc, ma, mn, mc, va, vn, vc⟩ k3 b3 (w3.setCell ⟨X, 6, none⟩ (.slice ya yn yc)) := by
  have hbx := h.box.keep U.turn (by omega)
  have hrs := h.res.keep U.turn (by omega)
  have hXr : X < wr.heap.size := h.box.lt
  have h0r : w0.heap.size ≤ wr.heap.size := h.step.turn.size
  have t2 : Turn (fun i => i = X) w3 (w3.setCell ⟨X, 6, none⟩ (.slice ya yn yc)) := (Turn.refl (fun i => i = X) w3).setCell (p := ⟨X, 6, none⟩) (fun _ => rfl) _
  have hb2 : Blk (w3.setCell ⟨X, 6, none⟩ (.slice ya yn yc)) X 70 (IV.arr ⟨xo, xd, xa, xb, xc, xn, ya, yn, yc, ma, mn, mc, va, vn, vc⟩) := by have := hbx.set 6 (.slice ya yn yc); simpa [IV.arr] using this
  generalize w3.setCell ⟨X, 6, none⟩ (.slice ya yn yc) = w9 at t2 hb2 ⊢
  refine ⟨hlt, hb2, hrs.keep t2 (by omega), ?_⟩
  rw [take_snoc u pos hlt, hc]
  refine h.step.fsnoc fun x => ?_
  rw [qfield76]
  refine U.map (U.rd.turn t2 (by omega) (by omega)) (turn_box (h.step.turn.trans U.turn) t2 hX) fun z hz hp => ?_
  have hk := kept_inside (K := X) (wB := w0) (by omega) U.turn t2
  obtain ⟨la', ln', lc', ma', mn', mc', va', vn', vc', he, hl, hm, hv, ⟨k0, k1', k2', k3', k4, k5⟩, il, im, iv⟩ := hp
  simp only [IV.cells, List.cons.injEq, Value.slice.injEq, Value.int.injEq, and_true, true_and] at he
  obtain ⟨rfl, rfl, rfl, rfl, rfl, rfl, ⟨rfl, rfl, rfl⟩, ⟨rfl, rfl, rfl⟩, ⟨rfl, rfl, rfl⟩⟩ := he
  exact ⟨ya, yn, yc, ma, mn, mc, va, vn, vc, rfl, by unfold maxLen; omega, hm, hv, ⟨k0, k1', k2', k3', k4, k5⟩, LiesQ.keep hz (fresh_inside hXr hXr h0r t2) fun _ _ h => h, im.keep hk, iv.keep hk⟩
theorem LettersT.f77 {q : RP} {w w0 wr w3 : World} {X : Nat} {Z : Array Value} {u : ByteArray} {x0 : M.Ins} {k1 : Nat} {b1 : Bool} {pos k2 k3 : Nat} {b2 b3 : Bool} {xo xd xa xb xc xn : Int} {la : Option Addr} {ln lc : Nat} {ma : Option Addr} {mn mc : Nat} {va : Option Addr} {vn vc : Nat} {ya : Option Addr} {yn yc : Nat} (h : LettersT q w w0 X Z u x0 k1 b1 pos ⟨xo, xd, xa, xb, xc, xn, la, ln, lc, ma, mn, mc, va, vn, vc⟩ k2 b2 wr) (hlt : pos < u.size) (hc : u[pos]'hlt = 77) (hy : yn ≤ 100000000) (U : StepT q (M.qList M.qNum) (fun l => IntsQ (Fresh wr w3) w3 ya yn l) wr w3 k2 b2 k3 b3) (hX : w0.heap.size ≤ X) (hwX : w.heap.size < w0.heap.size) (hg : q.g < w.heap.size) (hb : q.b < w.heap.size) :
    LettersT q w w0 X Z u x0 k1 b1 (pos + 1) ⟨xo, xd, xa, xb, xc, xn, la, ln, lc, ya, yn, yc, va, vn, vc⟩ k3 b3 (w3.setCell ⟨X, 7, none⟩ (.slice ya yn yc)) := by
  have hbx := h.box.keep U.turn (by omega)
  have hrs := h.res.keep U.turn (by omega)
  have hXr : X < wr.heap.size := h.box.lt
  have h0r : w0.heap.size ≤ wr.heap.size := h.step.turn.size
  have t2 : Turn (fun i => i = X) w3 (w3.setCell ⟨X, 7, none⟩ (.slice ya yn yc)) := (Turn.refl (fun i => i = X) w3).setCell (p := ⟨X, 7, none⟩) (fun _ => rfl) _
  have hb2 : Blk (w3.setCell ⟨X, 7, none⟩ (.slice ya yn yc)) X 70 (IV.arr ⟨xo, xd, xa, xb, xc, xn, la, ln, lc, ya, yn, yc, va, vn, vc⟩) := by have := hbx.set 7 (.slice ya yn yc); simpa [IV.arr] using this
  generalize w3.setCell ⟨X, 7, none⟩ (.slice ya yn yc) = w9 at t2 hb2 ⊢
  refine ⟨hlt, hb2, hrs.keep t2 (by omega), ?_⟩
  rw [take_snoc u pos hlt, hc]
  refine h.step.fsnoc fun x => ?_
  rw [qfield77]
  refine U.map (U.rd.turn t2 (by omega) (by omega)) (turn_box (h.step.turn.trans U.turn) t2 hX) fun z hz hp => ?_
  have hk := kept_inside (K := X) (wB := w0) (by omega) U.turn t2
  obtain ⟨la', ln', lc', ma', mn', mc', va', vn', vc', he, hl, hm, hv, ⟨k0, k1', k2', k3', k4, k5⟩, il, im, iv⟩ := hp
  simp only [IV.cells, List.cons.injEq, Value.slice.injEq, Value.int.injEq, and_true, true_and] at he
  obtain ⟨rfl, rfl, rfl, rfl, rfl, rfl, ⟨rfl, rfl, rfl⟩, ⟨rfl, rfl, rfl⟩, ⟨rfl, rfl, rfl⟩⟩ := he
  exact ⟨la, ln, lc, ya, yn, yc, va, vn, vc, rfl, hl, by unfold maxLen; omega, hv, ⟨k0, k1', k2', k3', k4, k5⟩, il.keep hk, LiesQ.keep hz (fresh_inside hXr hXr h0r t2) fun _ _ h => h, iv.keep hk⟩
theorem LettersT.f108 {q : RP} {w w0 wr w3 : World} {X : Nat} {Z : Array Value} {u : ByteArray} {x0 : M.Ins} {k1 : Nat} {b1 : Bool} {pos k2 k3 : Nat} {b2 b3 : Bool} {xo xd xa xb xc xn : Int} {la : Option Addr} {ln lc : Nat} {ma : Option Addr} {mn mc : Nat} {va : Option Addr} {vn vc : Nat} {ya : Option Addr} {yn yc : Nat} (h : LettersT q w w0 X Z u x0 k1 b1 pos ⟨xo, xd, xa, xb, xc, xn, la, ln, lc, ma, mn, mc, va, vn, vc⟩ k2 b2 wr) (hlt : pos < u.size) (hc : u[pos]'hlt = 108) (hy : yn ≤ 100000000) (U : StepT q (M.qList M.qNum) (fun l => IntsQ (Fresh wr w3) w3 ya yn l) wr w3 k2 b2 k3 b3) (hX : w0.heap.size ≤ X) (hwX : w.heap.size < w0.heap.size) (hg : q.g < w.heap.size) (hb : q.b < w.heap.size) :
    LettersT q w w0 X Z u x0 k1 b1 (pos + 1) ⟨xo, xd, xa, xb, xc, xn, la, ln, lc, ma, mn, mc, ya, yn, yc⟩ k3 b3 (w3.setCell ⟨X, 8, none⟩ (.slice ya yn yc)) := by
  have hbx := h.box.keep U.turn (by omega)
  have hrs := h.res.keep U.turn (by omega)
  have hXr : X < wr.heap.size := h.box.lt
  have h0r : w0.heap.size ≤ wr.heap.size := h.step.turn.size
  have t2 : Turn (fun i => i = X) w3 (w3.setCell ⟨X, 8, none⟩ (.slice ya yn yc)) := (Turn.refl (fun i => i = X) w3).setCell (p := ⟨X, 8, none⟩) (fun _ => rfl) _
  have hb2 : Blk (w3.setCell ⟨X, 8, none⟩ (.slice ya yn yc)) X 70 (IV.arr ⟨xo, xd, xa, xb, xc, xn, la, ln, lc, ma, mn, mc, ya, yn, yc⟩) := by have := hbx.set 8 (.slice ya yn yc); simpa [IV.arr] using this
  generalize w3.setCell ⟨X, 8, none⟩ (.slice ya yn yc) = w9 at t2 hb2 ⊢
  refine ⟨hlt, hb2, hrs.keep t2 (by omega), ?_⟩
  rw [take_snoc u pos hlt, hc]
  refine h.step.fsnoc fun x => ?_
  rw [qfield108]
  refine U.map (U.rd.turn t2 (by omega) (by omega)) (turn_box (h.step.turn.trans U.turn) t2 hX) fun z hz hp => ?_
  have hk := kept_inside (K := X) (wB := w0) (by omega) U.turn t2
  obtain ⟨la', ln', lc', ma', mn', mc', va', vn', vc', he, hl, hm, hv, ⟨k0, k1', k2', k3', k4, k5⟩, il, im, iv⟩ := hp
  simp only [IV.cells, List.cons.injEq, Value.slice.injEq, Value.int.injEq, and_true, true_and] at he
  obtain ⟨rfl, rfl, rfl, rfl, rfl, rfl, ⟨rfl, rfl, rfl⟩, ⟨rfl, rfl, rfl⟩, ⟨rfl, rfl, rfl⟩⟩ := he
  exact ⟨la, ln, lc, ma, mn, mc, ya, yn, yc, rfl, hl, hm, by unfold maxLen; omega, ⟨k0, k1', k2', k3', k4, k5⟩, il.keep hk, im.keep hk, LiesQ.keep hz (fresh_inside hXr hXr h0r t2) fun _ _ h => h⟩
set_option maxRecDepth 100000 in
set_option maxHeartbeats 4000000 in
theorem tinstr_any {q : RP} (hq : q.ok) {w : World} {k : Nat} {bad : Bool} (h : Td q w k bad) :
    Calls Tryz.prog 43 #[.pointer (some ⟨q.g, 0, none⟩)] w (InstrT q w k bad) := by
  obtain ⟨Z, hZ⟩ : ∃ Z : Array Value, #[.int .i64 0, .int .i64 0, .int .i64 0, .int .i64 0, .int .i64 0, .int .i64 0, .slice none 0 0, .slice none 0 0, .slice none 0 0] = Z := ⟨_, rfl⟩
  have H0 : Hid (Td q (w.alloc (.cells Z 70)) k bad ∧ Blk (w.alloc (.cells Z 70)) w.heap.size 70 Z) := ⟨h.still ((Still.refl w).alloc _), Blk.new w _ _⟩
  have HN : Hid (q.g < w.heap.size ∧ q.b < w.heap.size) := ⟨h.blk.lt, h.lt⟩
  have HQ := Lib.hid hq
  have HSM : Hid (q.L.length ≤ 100000000) := hq.small
  clear h hq
  go_enter Tryz.func43, Tryz.ntmps43
  go_wp2_with fail
  have HZ := Lib.hid hZ
  have T0 : Hid (Turn (fun i => i = q.g) w (w.alloc (.cells Z 70)) ∧ w.heap.size < (w.alloc (.cells Z 70)).heap.size) := ⟨(Turn.refl _ w).alloc _, by simp⟩
  clear hZ
  generalize w.alloc (.cells Z 70) = w0 at H0 T0 ⊢
  refine (tnum_any HQ.out H0.out.1).mono ?_; rintro e w1 ⟨op, k1, b1, rfl, hop, u1⟩
  have U1 := Lib.hid (And.intro hop u1)
  have R1 : Hid (Blk w1 w.heap.size 70 Z) := H0.out.2.keep u1.turn (by have := HN.out; omega)
  clear hop u1
  go_wp2_with fail
  have st1 : Still w1 (w1.alloc (.cells #[.int .i64 op, .int .i64 0, .int .i64 0, .int .i64 0, .int .i64 0, .int .i64 0, .slice none 0 0, .slice none 0 0, .slice none 0 0] 70)) := (Still.refl w1).alloc _
  have R2 : Hid (Blk (w1.alloc (.cells #[.int .i64 op, .int .i64 0, .int .i64 0, .int .i64 0, .int .i64 0, .int .i64 0, .slice none 0 0, .slice none 0 0, .slice none 0 0] 70)) w.heap.size 70 Z ∧ Blk (w1.alloc (.cells #[.int .i64 op, .int .i64 0, .int .i64 0, .int .i64 0, .int .i64 0, .int .i64 0, .slice none 0 0, .slice none 0 0, .slice none 0 0] 70)) w1.heap.size 70 (IV.arr ⟨op, 0, 0, 0, 0, 0, none, 0, 0, none, 0, 0, none, 0, 0⟩) ∧ Td q (w1.alloc (.cells #[.int .i64 op, .int .i64 0, .int .i64 0, .int .i64 0, .int .i64 0, .int .i64 0, .slice none 0 0, .slice none 0 0, .slice none 0 0] 70)) k1 b1 ∧ Turn (fun i => i = q.g) w0 (w1.alloc (.cells #[.int .i64 op, .int .i64 0, .int .i64 0, .int .i64 0, .int .i64 0, .int .i64 0, .slice none 0 0, .slice none 0 0, .slice none 0 0] 70)) ∧ w0.heap.size ≤ w1.heap.size ∧ w1.heap.size < (w1.alloc (.cells #[.int .i64 op, .int .i64 0, .int .i64 0, .int .i64 0, .int .i64 0, .int .i64 0, .slice none 0 0, .slice none 0 0, .slice none 0 0] 70)).heap.size) :=
    ⟨st1.blk R1.out, Blk.new w1 _ _, U1.out.2.rd.still st1, U1.out.2.turn.alloc _, U1.out.2.turn.size, by simp⟩
  clear st1
  generalize hX : w1.heap.size = X at R2 ⊢
  generalize w1.alloc (.cells #[.int .i64 op, .int .i64 0, .int .i64 0, .int .i64 0, .int .i64 0, .int .i64 0, .slice none 0 0, .slice none 0 0, .slice none 0 0] 70) = w2 at R2 ⊢
  have c0 := R2.out.2.1.cell 0
  have hXl := R2.out.2.2.2.2.2
  refine (refUses_any op w2).mono ?_; rintro e w3 ⟨rfl, t3⟩
  have R3 : Hid (Blk w3 w.heap.size 70 Z ∧ Blk w3 X 70 (IV.arr ⟨op, 0, 0, 0, 0, 0, none, 0, 0, none, 0, 0, none, 0, 0⟩) ∧ Td q w3 k1 b1 ∧ Turn (fun i => i = q.g) w0 w3 ∧ w0.heap.size ≤ X ∧ X < w3.heap.size) :=
    ⟨t3.blk R2.out.1, t3.blk R2.out.2.1, R2.out.2.2.1.still t3, R2.out.2.2.2.1.trans t3.turn, R2.out.2.2.2.2.1, Nat.lt_of_lt_of_le R2.out.2.2.2.2.2 t3.size⟩
  have HLET := Lib.hid (uses_letters op)
  have hus : (M.uses op).size ≤ 6 := by have := uses_len op; rw [Array.length_toList] at this; exact this
  have HOP : Hid (∀ (V : M.Ins → Prop) (wa wb wc w3 : World) (k k1 k2 : Nat) (bad b1 b2 : Bool), (M.uses op).data.toList ≠ [] → StepT q M.qNum (fun x => op = x) wa wb k bad k1 b1 → StepT q (M.qFields (M.uses op).data.toList ⟨op, 0, 0, 0, 0, 0, [], [], []⟩) V wc w3 k1 b1 k2 b2 → StepT q M.qIns V wc w3 k bad k2 b2) := fun V wa wb wc w3 k k1 k2 bad b1 b2 hne h u => h.ins hne u
  have HNO : Hid (∀ (V : M.Ins → Prop) (wa wb w w3 : World) (k k1 : Nat) (bad b1 : Bool), (M.uses op).data.toList = [] → StepT q M.qNum (fun x => op = x) wa wb k bad k1 b1 → Td q w3 k1 true → Turn (fun i => i = q.g) w w3 → StepT q M.qIns V w w3 k bad k1 true) := fun V wa wb w w3 k k1 bad b1 hne h hr ht => h.noIns hne hr ht
  clear c0 hXl t3 R1 R2
  generalize hu : M.uses op = u at *
  clear hu
  by_cases he : u.data.toList = []
  · obtain rfl : u = ByteArray.empty := by
      cases u with
      | mk a => exact congrArg ByteArray.mk (Array.toList_inj.1 he)
    have HE := Lib.hid he
    clear he
    obtain ⟨hl, d0, d1, d2, f1, f2⟩ := td_cells R3.out.2.2.1
    go_wp2_with fail
    have hXg : X ≠ q.g := by have := R3.out.2.2.2.2.1; have := T0.out.2; have := HN.out; omega
    have D2 : Hid (Td q (w3.setCell ⟨q.g, 2, none⟩ (.bool true)) k1 true ∧ Blk (w3.setCell ⟨q.g, 2, none⟩ (.bool true)) X 70 (IV.arr ⟨op, 0, 0, 0, 0, 0, none, 0, 0, none, 0, 0, none, 0, 0⟩) ∧ Blk (w3.setCell ⟨q.g, 2, none⟩ (.bool true)) w.heap.size 70 Z ∧ Turn (fun i => i = q.g) w0 (w3.setCell ⟨q.g, 2, none⟩ (.bool true))) :=
      ⟨R3.out.2.2.1.set 2 _ rfl R3.out.2.2.1.le, R3.out.2.1.keep ((Turn.refl (fun i => i = q.g) w3).set_g 2 _) hXg, R3.out.1.keep ((Turn.refl (fun i => i = q.g) w3).set_g 2 _) (by have := HN.out; omega), R3.out.2.2.2.1.set_g 2 _⟩
    clear hl d0 d1 d2 f1 f2
    generalize w3.setCell ⟨q.g, 2, none⟩ (.bool true) = wb at D2 ⊢
    go_loopw [5] (fun z wr => z = .int .i64 0 ∧ wr = wb) (fun _ _ => 0)
    case atStart => exact ⟨rfl, rfl⟩
    case round =>
      obtain ⟨rfl, rfl⟩ := hrel
      have hbox : Blk wr X 70 #[.int .i64 op, .int .i64 0, .int .i64 0, .int .i64 0, .int .i64 0, .int .i64 0, .slice none 0 0, .slice none 0 0, .slice none 0 0] := D2.out.2.1
      obtain ⟨e0, e1, e2, e3, e4, e5, e6, e7, e8, e9⟩ := insBox hbox
      have hres := D2.out.2.2.1
      rw [← HZ.out] at hres
      obtain ⟨c0, c1, c2, c3, c4, c5, c6, c7, c8, c9⟩ := insBox hres
      have g0 := hres.frozen 0
      have g1 := hres.frozen 1
      have g2 := hres.frozen 2
      have g3 := hres.frozen 3
      have g4 := hres.frozen 4
      have g5 := hres.frozen 5
      have g6 := hres.frozen 6
      have g7 := hres.frozen 7
      have g8 := hres.frozen 8
      have HRES := Lib.hid hres
      clear hbox hres
      go_wp2_with fail
      have hb := setsB9 HRES.out (.int .i64 op) (.int .i64 0) (.int .i64 0) (.int .i64 0) (.int .i64 0) (.int .i64 0) (.slice none 0 0) (.slice none 0 0) (.slice none 0 0)
      have ht := setsT9 wr w.heap.size (.int .i64 op) (.int .i64 0) (.int .i64 0) (.int .i64 0) (.int .i64 0) (.int .i64 0) (.slice none 0 0) (.slice none 0 0) (.slice none 0 0)
      refine bodyPost_ret (results_cell_row rfl _ _ w.heap.size 70 #[.int .i64 op, .int .i64 0, .int .i64 0, .int .i64 0, .int .i64 0, .int .i64 0, .slice none 0 0, .slice none 0 0, .slice none 0 0] (0, 0) _ rfl hb Tryz.underlying70 rfl (by kernel_rfl)) rfl ?_
      generalize hW9 : (((((((((wr.setCell ⟨w.heap.size, 0, none⟩ (.int .i64 op)).setCell ⟨w.heap.size, 1, none⟩ (.int .i64 0)).setCell ⟨w.heap.size, 2, none⟩ (.int .i64 0)).setCell ⟨w.heap.size, 3, none⟩ (.int .i64 0)).setCell ⟨w.heap.size, 4, none⟩ (.int .i64 0)).setCell ⟨w.heap.size, 5, none⟩ (.int .i64 0)).setCell ⟨w.heap.size, 6, none⟩ (.slice none 0 0)).setCell ⟨w.heap.size, 7, none⟩ (.slice none 0 0)).setCell ⟨w.heap.size, 8, none⟩ (.slice none 0 0)) = w9 at hb ht ⊢
      have hg := HN.out
      have h0 := T0.out
      refine ⟨⟨op, 0, 0, 0, 0, 0, none, 0, 0, none, 0, 0, none, 0, 0⟩, k1, true, rfl, ?_⟩
      exact HNO.out _ _ _ _ _ _ _ _ _ HE.out U1.out.2 (D2.out.1.turn ht (by omega) (by omega)) (turn_box (T0.out.1.trans D2.out.2.2.2) ht (Nat.le_refl _))
  · have HE := Lib.hid he
    have hne : u.toList.isEmpty = false := by
      rw [ByteArray.toList_eq]
      cases h : u.data.toList with
      | nil => exact absurd h HE.out
      | cons a b => rfl
    clear he
    go_wp2_with fail
    go_loopw [5] (fun z wr => ∃ (pos : Nat) (v : IV) (k2 : Nat) (b2 : Bool), z = .int .i64 pos ∧ LettersT q w w0 X Z u ⟨op, 0, 0, 0, 0, 0, [], [], []⟩ k1 b1 pos v k2 b2 wr) (fun z _ => u.size - (intOf z).toNat)
    case atStart =>
      obtain ⟨r1, r2, r3, r4, r5, r6⟩ := R3.out
      refine ⟨0, ⟨op, 0, 0, 0, 0, 0, none, 0, 0, none, 0, 0, none, 0, 0⟩, k1, b1, rfl, Nat.zero_le _, r2, r1, r3, r4, fun e => e, Nat.le_refl _, fun _ e => (by simp [M.qFields] at e), fun hb x R1 e => ?_⟩
      simp only [List.take_zero, M.qFields, Option.some.injEq, Prod.mk.injEq] at e
      obtain ⟨rfl, rfl⟩ := e
      have z64 : In64 0 := by constructor <;> decide
      exact ⟨hb, rfl, none, 0, 0, none, 0, 0, none, 0, 0, rfl, Nat.zero_le _, Nat.zero_le _, Nat.zero_le _, ⟨U1.out.1, z64, z64, z64, z64, z64⟩, ⟨rfl, fun h => absurd h (by omega)⟩, ⟨rfl, fun h => absurd h (by omega)⟩, ⟨rfl, fun h => absurd h (by omega)⟩⟩
    case round =>
      obtain ⟨pos, v, k2, b2, rfl, hs⟩ := hrel
      obtain ⟨xo, xd, xa, xb, xc, xn, la, ln, lc, ma, mn, mc, va, vn, vc⟩ := v
      have hg0 := HN.out
      have ht0 := T0.out
      have hX0 := R3.out.2.2.2.2.1
      by_cases hlt : pos < u.size
      · have hlet := HLET.out _ (letter_mem u pos hlt)
        have HS := Lib.hid hs
        have HLT := Lib.hid hlt
        rcases hlet with hR | hR | hR | hR | hR | hR | hR | hR
        · have hn : (u[pos]'hlt).toNat = 68 := by rw [hR]; rfl
          have HR := Lib.hid hR
          have HC := Lib.hid (tnum_any HQ.out hs.step.rd)
          clear hs hR
          go_wp2_with fail
          refine HC.out.mono ?_; rintro e w4 ⟨y, k3, b3, rfl, hy, hu⟩
          have HU := Lib.hid (And.intro hy hu)
          have hbx := HS.out.box.keep hu.turn (by omega)
          obtain ⟨e0, e1, e2, e3, e4, e5, e6, e7, e8, e9⟩ := insBox (show Blk w4 X 70 #[.int .i64 xo, .int .i64 xd, .int .i64 xa, .int .i64 xb, .int .i64 xc, .int .i64 xn, .slice la ln lc, .slice ma mn mc, .slice va vn vc] from hbx)
          have f9 := hbx.frozen 1
          clear hy hu hbx HC hn
          go_wp2_with fail
          go_roundw
          case rel => exact ⟨pos + 1, ⟨xo, y, xa, xb, xc, xn, la, ln, lc, ma, mn, mc, va, vn, vc⟩, k3, b3, by go_num, HS.out.f68 HLT.out HR.out HU.out.1 HU.out.2 (by omega) (by omega) (by omega) (by omega)⟩
          case measure => simp [intOf]; omega
        · have hn : (u[pos]'hlt).toNat = 65 := by rw [hR]; rfl
          have HR := Lib.hid hR
          have HC := Lib.hid (tnum_any HQ.out hs.step.rd)
          clear hs hR
          go_wp2_with fail
          refine HC.out.mono ?_; rintro e w4 ⟨y, k3, b3, rfl, hy, hu⟩
          have HU := Lib.hid (And.intro hy hu)
          have hbx := HS.out.box.keep hu.turn (by omega)
          obtain ⟨e0, e1, e2, e3, e4, e5, e6, e7, e8, e9⟩ := insBox (show Blk w4 X 70 #[.int .i64 xo, .int .i64 xd, .int .i64 xa, .int .i64 xb, .int .i64 xc, .int .i64 xn, .slice la ln lc, .slice ma mn mc, .slice va vn vc] from hbx)
          have f9 := hbx.frozen 2
          clear hy hu hbx HC hn
          go_wp2_with fail
          go_roundw
          case rel => exact ⟨pos + 1, ⟨xo, xd, y, xb, xc, xn, la, ln, lc, ma, mn, mc, va, vn, vc⟩, k3, b3, by go_num, HS.out.f65 HLT.out HR.out HU.out.1 HU.out.2 (by omega) (by omega) (by omega) (by omega)⟩
          case measure => simp [intOf]; omega
        · have hn : (u[pos]'hlt).toNat = 66 := by rw [hR]; rfl
          have HR := Lib.hid hR
          have HC := Lib.hid (tnum_any HQ.out hs.step.rd)
          clear hs hR
          go_wp2_with fail
          refine HC.out.mono ?_; rintro e w4 ⟨y, k3, b3, rfl, hy, hu⟩
          have HU := Lib.hid (And.intro hy hu)
          have hbx := HS.out.box.keep hu.turn (by omega)
          obtain ⟨e0, e1, e2, e3, e4, e5, e6, e7, e8, e9⟩ := insBox (show Blk w4 X 70 #[.int .i64 xo, .int .i64 xd, .int .i64 xa, .int .i64 xb, .int .i64 xc, .int .i64 xn, .slice la ln lc, .slice ma mn mc, .slice va vn vc] from hbx)
          have f9 := hbx.frozen 3
          clear hy hu hbx HC hn
          go_wp2_with fail
          go_roundw
          case rel => exact ⟨pos + 1, ⟨xo, xd, xa, y, xc, xn, la, ln, lc, ma, mn, mc, va, vn, vc⟩, k3, b3, by go_num, HS.out.f66 HLT.out HR.out HU.out.1 HU.out.2 (by omega) (by omega) (by omega) (by omega)⟩
          case measure => simp [intOf]; omega
        · have hn : (u[pos]'hlt).toNat = 67 := by rw [hR]; rfl
          have HR := Lib.hid hR
          have HC := Lib.hid (tnum_any HQ.out hs.step.rd)
          clear hs hR
          go_wp2_with fail
          refine HC.out.mono ?_; rintro e w4 ⟨y, k3, b3, rfl, hy, hu⟩
          have HU := Lib.hid (And.intro hy hu)
          have hbx := HS.out.box.keep hu.turn (by omega)
          obtain ⟨e0, e1, e2, e3, e4, e5, e6, e7, e8, e9⟩ := insBox (show Blk w4 X 70 #[.int .i64 xo, .int .i64 xd, .int .i64 xa, .int .i64 xb, .int .i64 xc, .int .i64 xn, .slice la ln lc, .slice ma mn mc, .slice va vn vc] from hbx)
          have f9 := hbx.frozen 4
          clear hy hu hbx HC hn
          go_wp2_with fail
          go_roundw
          case rel => exact ⟨pos + 1, ⟨xo, xd, xa, xb, y, xn, la, ln, lc, ma, mn, mc, va, vn, vc⟩, k3, b3, by go_num, HS.out.f67 HLT.out HR.out HU.out.1 HU.out.2 (by omega) (by omega) (by omega) (by omega)⟩
          case measure => simp [intOf]; omega
        · have hn : (u[pos]'hlt).toNat = 78 := by rw [hR]; rfl
          have HR := Lib.hid hR
          have HC := Lib.hid (tnum_any HQ.out hs.step.rd)
          clear hs hR
          go_wp2_with fail
          refine HC.out.mono ?_; rintro e w4 ⟨y, k3, b3, rfl, hy, hu⟩
          have HU := Lib.hid (And.intro hy hu)
          have hbx := HS.out.box.keep hu.turn (by omega)
          obtain ⟨e0, e1, e2, e3, e4, e5, e6, e7, e8, e9⟩ := insBox (show Blk w4 X 70 #[.int .i64 xo, .int .i64 xd, .int .i64 xa, .int .i64 xb, .int .i64 xc, .int .i64 xn, .slice la ln lc, .slice ma mn mc, .slice va vn vc] from hbx)
          have f9 := hbx.frozen 5
          clear hy hu hbx HC hn
          go_wp2_with fail
          go_roundw
          case rel => exact ⟨pos + 1, ⟨xo, xd, xa, xb, xc, y, la, ln, lc, ma, mn, mc, va, vn, vc⟩, k3, b3, by go_num, HS.out.f78 HLT.out HR.out HU.out.1 HU.out.2 (by omega) (by omega) (by omega) (by omega)⟩
          case measure => simp [intOf]; omega
        · have hn : (u[pos]'hlt).toNat = 76 := by rw [hR]; rfl
          have HR := Lib.hid hR
          have HC := Lib.hid (tnums_any HQ.out hs.step.rd)
          clear hs hR
          go_wp2_with fail
          refine HC.out.mono ?_; rintro e w4 ⟨ya, yn, yc, k3, b3, rfl, hy, hu⟩
          have HU := Lib.hid (And.intro hy hu)
          have hbx := HS.out.box.keep hu.turn (by omega)
          obtain ⟨e0, e1, e2, e3, e4, e5, e6, e7, e8, e9⟩ := insBox (show Blk w4 X 70 #[.int .i64 xo, .int .i64 xd, .int .i64 xa, .int .i64 xb, .int .i64 xc, .int .i64 xn, .slice la ln lc, .slice ma mn mc, .slice va vn vc] from hbx)
          have f9 := hbx.frozen 6
          clear hy hu hbx HC hn
          go_wp2_with fail
          go_roundw
          case rel => exact ⟨pos + 1, ⟨xo, xd, xa, xb, xc, xn, ya, yn, yc, ma, mn, mc, va, vn, vc⟩, k3, b3, by go_num, HS.out.f76 HLT.out HR.out (Nat.le_trans HU.out.1 HSM.out) HU.out.2 (by omega) (by omega) (by omega) (by omega)⟩
          case measure => simp [intOf]; omega
        · have hn : (u[pos]'hlt).toNat = 77 := by rw [hR]; rfl
          have HR := Lib.hid hR
          have HC := Lib.hid (tnums_any HQ.out hs.step.rd)
          clear hs hR
          go_wp2_with fail
          refine HC.out.mono ?_; rintro e w4 ⟨ya, yn, yc, k3, b3, rfl, hy, hu⟩
          have HU := Lib.hid (And.intro hy hu)
          have hbx := HS.out.box.keep hu.turn (by omega)
          obtain ⟨e0, e1, e2, e3, e4, e5, e6, e7, e8, e9⟩ := insBox (show Blk w4 X 70 #[.int .i64 xo, .int .i64 xd, .int .i64 xa, .int .i64 xb, .int .i64 xc, .int .i64 xn, .slice la ln lc, .slice ma mn mc, .slice va vn vc] from hbx)
          have f9 := hbx.frozen 7
          clear hy hu hbx HC hn
          go_wp2_with fail
          go_roundw
          case rel => exact ⟨pos + 1, ⟨xo, xd, xa, xb, xc, xn, la, ln, lc, ya, yn, yc, va, vn, vc⟩, k3, b3, by go_num, HS.out.f77 HLT.out HR.out (Nat.le_trans HU.out.1 HSM.out) HU.out.2 (by omega) (by omega) (by omega) (by omega)⟩
          case measure => simp [intOf]; omega
        · have hn : (u[pos]'hlt).toNat = 108 := by rw [hR]; rfl
          have HR := Lib.hid hR
          have HC := Lib.hid (tnums_any HQ.out hs.step.rd)
          clear hs hR
          go_wp2_with fail
          refine HC.out.mono ?_; rintro e w4 ⟨ya, yn, yc, k3, b3, rfl, hy, hu⟩
          have HU := Lib.hid (And.intro hy hu)
          have hbx := HS.out.box.keep hu.turn (by omega)
          obtain ⟨e0, e1, e2, e3, e4, e5, e6, e7, e8, e9⟩ := insBox (show Blk w4 X 70 #[.int .i64 xo, .int .i64 xd, .int .i64 xa, .int .i64 xb, .int .i64 xc, .int .i64 xn, .slice la ln lc, .slice ma mn mc, .slice va vn vc] from hbx)
          have f9 := hbx.frozen 8
          clear hy hu hbx HC hn
          go_wp2_with fail
          go_roundw
          case rel => exact ⟨pos + 1, ⟨xo, xd, xa, xb, xc, xn, la, ln, lc, ma, mn, mc, ya, yn, yc⟩, k3, b3, by go_num, HS.out.f108 HLT.out HR.out (Nat.le_trans HU.out.1 HSM.out) HU.out.2 (by omega) (by omega) (by omega) (by omega)⟩
          case measure => simp [intOf]; omega
      · obtain rfl : pos = u.size := by have := hs.le; omega
        have hall : u.data.toList.take u.size = u.data.toList := List.take_of_length_le (by rw [Array.length_toList]; exact Nat.le_refl _)
        have hstep := hs.step
        rw [hall] at hstep
        have HS := Lib.hid (HOP.out _ _ _ _ _ _ _ _ _ _ _ HE.out U1.out.2 hstep)
        have HTT := Lib.hid hs.step.turn
        have hbox : Blk wr X 70 #[.int .i64 xo, .int .i64 xd, .int .i64 xa, .int .i64 xb, .int .i64 xc, .int .i64 xn, .slice la ln lc, .slice ma mn mc, .slice va vn vc] := hs.box
        have hres0 := hs.res
        clear hs hall hstep
        obtain ⟨e0, e1, e2, e3, e4, e5, e6, e7, e8, e9⟩ := insBox hbox
        have hres := hres0
        rw [← HZ.out] at hres
        obtain ⟨c0, c1, c2, c3, c4, c5, c6, c7, c8, c9⟩ := insBox hres
        have g0 := hres.frozen 0
        have g1 := hres.frozen 1
        have g2 := hres.frozen 2
        have g3 := hres.frozen 3
        have g4 := hres.frozen 4
        have g5 := hres.frozen 5
        have g6 := hres.frozen 6
        have g7 := hres.frozen 7
        have g8 := hres.frozen 8
        have HRES := Lib.hid hres
        clear hbox hres
        go_wp2_with fail
        have hb := setsB9 HRES.out (.int .i64 xo) (.int .i64 xd) (.int .i64 xa) (.int .i64 xb) (.int .i64 xc) (.int .i64 xn) (.slice la ln lc) (.slice ma mn mc) (.slice va vn vc)
        have ht := setsT9 wr w.heap.size (.int .i64 xo) (.int .i64 xd) (.int .i64 xa) (.int .i64 xb) (.int .i64 xc) (.int .i64 xn) (.slice la ln lc) (.slice ma mn mc) (.slice va vn vc)
        refine bodyPost_ret (results_cell_row rfl _ _ w.heap.size 70 #[.int .i64 xo, .int .i64 xd, .int .i64 xa, .int .i64 xb, .int .i64 xc, .int .i64 xn, .slice la ln lc, .slice ma mn mc, .slice va vn vc] (0, 0) _ rfl hb Tryz.underlying70 rfl (by kernel_rfl)) rfl ?_
        generalize hW9 : (((((((((wr.setCell ⟨w.heap.size, 0, none⟩ (.int .i64 xo)).setCell ⟨w.heap.size, 1, none⟩ (.int .i64 xd)).setCell ⟨w.heap.size, 2, none⟩ (.int .i64 xa)).setCell ⟨w.heap.size, 3, none⟩ (.int .i64 xb)).setCell ⟨w.heap.size, 4, none⟩ (.int .i64 xc)).setCell ⟨w.heap.size, 5, none⟩ (.int .i64 xn)).setCell ⟨w.heap.size, 6, none⟩ (.slice la ln lc)).setCell ⟨w.heap.size, 7, none⟩ (.slice ma mn mc)).setCell ⟨w.heap.size, 8, none⟩ (.slice va vn vc)) = w9 at hb ht ⊢
        refine ⟨⟨xo, xd, xa, xb, xc, xn, la, ln, lc, ma, mn, mc, va, vn, vc⟩, k2, b2, rfl, ?_⟩
        refine HS.out.into (HS.out.rd.turn ht (by omega) (by omega)) (turn_box (T0.out.1.trans HTT.out) ht (Nat.le_refl _)) fun x hx => ?_
        exact InsQ.keep hx ⟨fun b hb => ht.block b hb.2.1 (by have := hb.1; omega), fun b hb => ⟨by have := hb.1; omega, Nat.lt_of_lt_of_le hb.2.1 ht.size⟩⟩
end Go.Proofs.YthlifflapgccbaaGreat
/- The document's taker: a function. -/
namespace Go.Proofs.YthlifflapgccbaaGreat
set_option linter.unusedVariables false
set_option linter.unusedSimpArgs false
open Go.ChangeShapes Go.WideShapes Go.ChangeAt Go.RowKit
open M (W)
/-- What function answers. -/
def FnT (q : RP) (w : World) (k : Nat) (bad : Bool) (e : Ending) (w' : World) : Prop := ∃ (pa : Option Addr) (pn pc : Nat) (v0 v1 : Int) (a : Option Addr) (n c k' : Nat) (bad' : Bool), e = .returned (.agg #[.slice pa pn pc, .int .i64 v0, .int .i64 v1, .slice a n c]) ∧ StepT q M.qFn (fun x => FnQ (Fresh w w') w' [.slice pa pn pc, .int .i64 v0, .int .i64 v1, .slice a n c] x) w w' k bad k' bad'
theorem Td.lens {q : RP} {w : World} {k : Nat} {bad : Bool} (h : Td q w k bad) : q.g < w.heap.size ∧ w.cell? ⟨q.g, 2, none⟩ = some (.bool bad) := ⟨h.blk.lt, h.blk.cell 2⟩
/-- Between two instructions of a block that is being taken. -/
structure InBk (q : RP) (wa : World) (ia : Option Addr) (inn ic : Nat) (k7 : Nat) (b7 : Bool) (vs : List (List Value)) (a : Option Addr) (j c : Nat) (wr : World) (k8 : Nat) (b8 : Bool) : Prop where
  tk : TkT q M.qIns 70 9 InsQ (fun b => b = wa.heap.size) wa wa k7 b7 vs a j c wr k8 b8
  box : Blk wr wa.heap.size 85 #[.slice ia inn ic, .slice a j c]
structure InFn (q : RP) (w0 w1 : World) (pa : Option Addr) (pn pc : Nat) (v0 v1 : Int) (Z : Array Value) (z : Nat) (k4 : Nat) (b4 : Bool) (vs : List (List Value)) (a : Option Addr) (i c : Nat) (wr : World) (k5 : Nat) (b5 : Bool) : Prop where
  tk : TkT q M.qBk 85 2 BkQ (fun b => b = w1.heap.size) w1 w1 k4 b4 vs a i c wr k5 b5
  box : Blk wr w1.heap.size 55 #[.slice pa pn pc, .int .i64 v0, .int .i64 v1, .slice a i c]
  res : Blk wr z 55 Z
/-- A block, when its instructions are taken. -/
theorem InBk.done {q : RP} {wr wa wr2 wc wd : World} {ia : Option Addr} {inn ic k5 k6 k7 k8 n2 j c : Nat} {b5 b6 b7 b8 : Bool} {vs : List (List Value)} {a : Option Addr}
    (h : InBk q wa ia inn ic k7 b7 vs a j c wr2 k8 b8) (hin : inn ≤ maxLen) (hn : n2 ≤ maxLen) (U : StepT q (M.qList M.qNum) (fun l => IntsQ (Fresh wr wa) wa ia inn l) wr wa k5 b5 k6 b6) (S : StepT q M.qLen (fun x => x = n2) wc wd k6 b6 k7 b7) (hj : j ≤ n2) (hd : b8 = true ∨ j = n2) (hg : q.g < wr.heap.size) :
    StepT q M.qBk (fun x => BkQ (FreshD (fun b => b = wa.heap.size) wr wr2) wr2 [.slice ia inn ic, .slice a j c] x) wr wr2 k5 b5 k8 b8 := by
  have s1 := U.turn.size
  have t2 := h.tk.step.turn
  have s2 := t2.size
  have hl := tlist_done (V' := fun l => LiesQ (FreshD (fun b => b = wa.heap.size) wa wr2) wr2 9 (InsQ (FreshD (fun b => b = wa.heap.size) wa wr2) wr2) a j l) S h.tk.step hj hd fun _ l hl => TkT.lies (P := InsQ) (fun _ _ _ _ _ _ h k => h.keep k) h.tk hl.1 hl.2
  refine U.pair hl h.tk.step.rd (U.turn.trans t2) fun x y hx hy => ?_
  have hk1 : Kept (Fresh wr wa) (FreshD (fun b => b = wa.heap.size) wr wr2) wa wr2 := ⟨fun b hb => t2.block b hb.2 (by have := hb.1; omega), fun b hb => ⟨hb.1, by have := hb.2; omega, by have := hb.2; omega⟩⟩
  have hk2 : Kept (FreshD (fun b => b = wa.heap.size) wa wr2) (FreshD (fun b => b = wa.heap.size) wr wr2) wr2 wr2 := ⟨fun b hb => rfl, fun b hb => ⟨by have := hb.1; omega, hb.2.1, hb.2.2⟩⟩
  exact ⟨ia, inn, ic, a, j, c, rfl, hin, by omega, IntsQ.keep hx hk1, LiesQ.keep hy hk2 fun _ _ h => h.keep hk2⟩
/-- What instr answers, its cells told. -/
def InstrF (q : RP) (w : World) (k : Nat) (bad : Bool) (e : Ending) (w' : World) : Prop := ∃ (xo xd xa xb xc xn : Int) (la : Option Addr) (ln lc : Nat) (ma : Option Addr) (mn mc : Nat) (va : Option Addr) (vn vc : Nat) (k' : Nat) (bad' : Bool), e = .returned (.agg #[.int .i64 xo, .int .i64 xd, .int .i64 xa, .int .i64 xb, .int .i64 xc, .int .i64 xn, .slice la ln lc, .slice ma mn mc, .slice va vn vc]) ∧ StepT q M.qIns (fun x => InsQ (Fresh w w') w' [.int .i64 xo, .int .i64 xd, .int .i64 xa, .int .i64 xb, .int .i64 xc, .int .i64 xn, .slice la ln lc, .slice ma mn mc, .slice va vn vc] x) w w' k bad k' bad'
theorem tinstr_flat {q : RP} (hq : q.ok) {w : World} {k : Nat} {bad : Bool} (h : Td q w k bad) :
    Calls Tryz.prog 43 #[.pointer (some ⟨q.g, 0, none⟩)] w (InstrF q w k bad) :=
  (tinstr_any hq h).mono fun e w' ⟨v, k', b', h1, h2⟩ => ⟨v.o, v.d, v.a, v.b, v.c, v.n, v.la, v.ln, v.lc, v.ma, v.mn, v.mc, v.va, v.vn, v.vc, k', b', h1, h2⟩
set_option maxRecDepth 100000 in
set_option maxHeartbeats 8000000 in
theorem tfunction_any {q : RP} (hq : q.ok) {w : World} {k : Nat} {bad : Bool} (h : Td q w k bad) :
    Calls Tryz.prog 16 #[.pointer (some ⟨q.g, 0, none⟩)] w (FnT q w k bad) := by
  obtain ⟨Z, hZ⟩ : ∃ Z : Array Value, #[.slice none 0 0, .int .i64 0, .int .i64 0, .slice none 0 0] = Z := ⟨_, rfl⟩
  have H0 : Hid (Td q (w.alloc (.cells Z 55)) k bad ∧ Blk (w.alloc (.cells Z 55)) w.heap.size 55 Z ∧ Turn (fun i => i = q.g) w (w.alloc (.cells Z 55)) ∧ w.heap.size < (w.alloc (.cells Z 55)).heap.size) := ⟨h.still ((Still.refl w).alloc _), Blk.new w _ _, (Turn.refl _ w).alloc _, by simp⟩
  have HN : Hid (q.g < w.heap.size ∧ q.b < w.heap.size) := ⟨h.blk.lt, h.lt⟩
  have HQ := Lib.hid hq
  have HSM : Hid (q.L.length ≤ 100000000) := hq.small
  clear h hq
  go_enter Tryz.func16, Tryz.ntmps16
  go_wp2_with fail
  have HZ := Lib.hid hZ
  clear hZ
  generalize w.alloc (.cells Z 55) = w0 at H0 ⊢
  refine (tnums_any HQ.out H0.out.1).mono ?_; rintro e w1 ⟨pa, pn, pc, k1, b1, rfl, hp1, u1⟩
  have U1 := Lib.hid (And.intro hp1 u1)
  have Z1 : Hid (Blk w1 w.heap.size 55 Z) := H0.out.2.1.keep u1.turn (by have := HN.out; omega)
  clear hp1 u1
  go_wp2_with fail
  have A2 : Hid (Blk (w1.alloc (.cells #[.slice pa pn pc, .int .i64 0, .int .i64 0, .slice none 0 0] 55)) w.heap.size 55 Z ∧ Blk (w1.alloc (.cells #[.slice pa pn pc, .int .i64 0, .int .i64 0, .slice none 0 0] 55)) w1.heap.size 55 #[.slice pa pn pc, .int .i64 0, .int .i64 0, .slice none 0 0] ∧ Td q (w1.alloc (.cells #[.slice pa pn pc, .int .i64 0, .int .i64 0, .slice none 0 0] 55)) k1 b1 ∧ Still w1 (w1.alloc (.cells #[.slice pa pn pc, .int .i64 0, .int .i64 0, .slice none 0 0] 55)) ∧ w1.heap.size < (w1.alloc (.cells #[.slice pa pn pc, .int .i64 0, .int .i64 0, .slice none 0 0] 55)).heap.size) :=
    ⟨((Still.refl w1).alloc _).blk Z1.out, Blk.new w1 _ _, U1.out.2.rd.still ((Still.refl w1).alloc _), (Still.refl w1).alloc _, by simp⟩
  generalize w1.alloc (.cells #[.slice pa pn pc, .int .i64 0, .int .i64 0, .slice none 0 0] 55) = w2 at A2 ⊢
  have G1 : Hid (w.heap.size < w1.heap.size ∧ q.g < w1.heap.size ∧ q.b < w1.heap.size) := by
    have := U1.out.2.turn.size; have := H0.out.2.2.2; have := HN.out
    exact ⟨by omega, by omega, by omega⟩
  refine (tnum_any HQ.out A2.out.2.2.1).mono ?_; rintro e w3 ⟨v0, k2, b2, rfl, hi0, u2⟩
  have U2 := Lib.hid (And.intro hi0 u2)
  have hbx := A2.out.2.1.keep u2.turn (by have := G1.out; omega)
  have hrx := A2.out.1.keep u2.turn (by have := HN.out; omega)
  have c0 := hbx.cell 1
  have f0 := hbx.frozen 1
  have l0 := hbx.lt
  have TB : Turn (fun b => b = w1.heap.size) w3 (w3.setCell ⟨w1.heap.size, 1, none⟩ (.int .i64 v0)) := (Turn.refl (fun b => b = w1.heap.size) w3).setCell (p := ⟨w1.heap.size, 1, none⟩) (fun _ => rfl) _
  have T1 : Turn (fun i => i = q.g) w1 (w3.setCell ⟨w1.heap.size, 1, none⟩ (.int .i64 v0)) := turn_box ((Turn.mono A2.out.2.2.2.1 fun _ _ e => e.elim).trans u2.turn) TB (Nat.le_refl _)
  have A4 : Hid (Blk (w3.setCell ⟨w1.heap.size, 1, none⟩ (.int .i64 v0)) w.heap.size 55 Z ∧ Blk (w3.setCell ⟨w1.heap.size, 1, none⟩ (.int .i64 v0)) w1.heap.size 55 #[.slice pa pn pc, .int .i64 v0, .int .i64 0, .slice none 0 0] ∧ Td q (w3.setCell ⟨w1.heap.size, 1, none⟩ (.int .i64 v0)) k2 b2 ∧ Turn (fun i => i = q.g) w1 (w3.setCell ⟨w1.heap.size, 1, none⟩ (.int .i64 v0))) :=
    ⟨hrx.keep TB (by have := G1.out; omega), (by have := hbx.set 1 (.int .i64 v0); simpa using this), u2.rd.turn TB (by have := G1.out; omega) (by have := G1.out; omega), T1⟩
  clear hi0 u2 hbx hrx TB T1
  go_wp2_with fail
  clear c0 f0 l0
  generalize w3.setCell ⟨w1.heap.size, 1, none⟩ (.int .i64 v0) = w4 at A4 ⊢
  refine (tnum_any HQ.out A4.out.2.2.1).mono ?_; rintro e w5 ⟨v1, k3, b3, rfl, hi1, u3⟩
  have U3 := Lib.hid (And.intro hi1 u3)
  have hbx := A4.out.2.1.keep u3.turn (by have := G1.out; omega)
  have hrx := A4.out.1.keep u3.turn (by have := HN.out; omega)
  have c0 := hbx.cell 2
  have f0 := hbx.frozen 2
  have l0 := hbx.lt
  have TB : Turn (fun b => b = w1.heap.size) w5 (w5.setCell ⟨w1.heap.size, 2, none⟩ (.int .i64 v1)) := (Turn.refl (fun b => b = w1.heap.size) w5).setCell (p := ⟨w1.heap.size, 2, none⟩) (fun _ => rfl) _
  have T1 : Turn (fun i => i = q.g) w1 (w5.setCell ⟨w1.heap.size, 2, none⟩ (.int .i64 v1)) := turn_box (A4.out.2.2.2.trans u3.turn) TB (Nat.le_refl _)
  have A6 : Hid (Blk (w5.setCell ⟨w1.heap.size, 2, none⟩ (.int .i64 v1)) w.heap.size 55 Z ∧ Blk (w5.setCell ⟨w1.heap.size, 2, none⟩ (.int .i64 v1)) w1.heap.size 55 #[.slice pa pn pc, .int .i64 v0, .int .i64 v1, .slice none 0 0] ∧ Td q (w5.setCell ⟨w1.heap.size, 2, none⟩ (.int .i64 v1)) k3 b3 ∧ Turn (fun i => i = q.g) w1 (w5.setCell ⟨w1.heap.size, 2, none⟩ (.int .i64 v1))) :=
    ⟨hrx.keep TB (by have := G1.out; omega), (by have := hbx.set 2 (.int .i64 v1); simpa using this), u3.rd.turn TB (by have := G1.out; omega) (by have := G1.out; omega), T1⟩
  clear hi1 u3 hbx hrx TB T1
  go_wp2_with fail
  clear c0 f0 l0
  generalize w5.setCell ⟨w1.heap.size, 2, none⟩ (.int .i64 v1) = w6 at A6 ⊢
  refine (tcount_any HQ.out A6.out.2.2.1).mono ?_; rintro e w7 ⟨n, k4, b4, rfl, hn, u4⟩
  have U4 := Lib.hid (And.intro hn u4)
  have hnb : n ≤ 100000000 := by have := HSM.out; omega
  have HNB := Lib.hid hnb
  have A7 : Hid (InFn q w0 w1 pa pn pc v0 v1 Z w.heap.size k4 b4 [] none 0 0 w7 k4 b4) := ⟨TkT.none u4.rd (A6.out.2.2.2.trans u4.turn) (Nat.le_refl _) ((A6.out.2.2.2.trans u4.turn).mono fun _ _ e => .inl e), A6.out.2.1.keep u4.turn (by have := G1.out; omega), A6.out.1.keep u4.turn (by have := HN.out; omega)⟩
  clear hn u4
  go_wp2_with fail
  go_loopw [5, 6, 7, 8] (fun z5 z6 z7 z8 wr => ∃ (i : Nat) (vs : List (List Value)) (a : Option Addr) (c k5 : Nat) (b5 : Bool), z5 = .int .i64 i ∧ i ≤ n ∧ InFn q w0 w1 pa pn pc v0 v1 Z w.heap.size k4 b4 vs a i c wr k5 b5) (fun z5 _ _ _ _ => n - (intOf z5).toNat)
  case atStart => exact ⟨0, [], none, 0, k4, b4, rfl, Nat.zero_le _, A7.out⟩
  case round =>
    obtain ⟨wo, hwo⟩ : ∃ wo, wo = wr := ⟨_, rfl⟩
    subst hwo
    obtain ⟨i, vs, a, c, k5, b5, rfl, hi, hI⟩ := hrel
    have HI := Lib.hid (And.intro hi hI)
    obtain ⟨hl5, hc5⟩ := hI.tk.step.rd.lens
    by_cases hgo : i < n ∧ b5 = false
    · obtain ⟨hlt, rfl⟩ := hgo
      have x1 : decide ((i : Int) < n) = true := decide_eq_true (by omega)
      have HLT := Lib.hid hlt
      have HC := Lib.hid (tnums_any HQ.out hI.tk.step.rd)
      have hwr := hI.tk.step.turn.size
      clear hI hi
      go_wp2_with fail
      refine HC.out.mono ?_; rintro e wa ⟨ia, inn, ic, k6, b6, rfl, hin, ua⟩
      have UA := Lib.hid (And.intro hin ua)
      have hwa := ua.turn.size
      clear hin ua HC hl5 hc5
      go_wp2_with fail
      have SB : Hid (Still wa (wa.alloc (.cells #[.slice ia inn ic, .slice none 0 0] 85))) := (Still.refl wa).alloc _
      have BB : Hid (Blk (wa.alloc (.cells #[.slice ia inn ic, .slice none 0 0] 85)) wa.heap.size 85 #[.slice ia inn ic, .slice none 0 0]) := Blk.new wa _ _
      generalize wa.alloc (.cells #[.slice ia inn ic, .slice none 0 0] 85) = wb at SB BB ⊢
      refine (tcount_any HQ.out (UA.out.2.rd.still SB.out)).mono ?_; rintro e wc ⟨n2, k7, b7, rfl, hn2, u7⟩
      have U7 := Lib.hid (And.intro hn2 u7)
      have hn2b : n2 ≤ 100000000 := by have := HSM.out; omega
      have HN2 := Lib.hid hn2b
      have A8 : Hid (InBk q wa ia inn ic k7 b7 [] none 0 0 wc k7 b7) := ⟨TkT.none u7.rd ((Turn.mono SB.out fun _ _ e => e.elim).trans u7.turn) (Nat.le_refl _) (((Turn.mono SB.out fun _ _ e => e.elim).trans u7.turn).mono fun _ _ e => .inl e), BB.out.keep u7.turn (by have := G1.out; omega)⟩
      clear hn2 u7
      go_wp2_with fail
      go_loopw [8] (fun z8 wr2 => ∃ (j : Nat) (vs2 : List (List Value)) (a2 : Option Addr) (c2 k8 : Nat) (b8 : Bool), z8 = .int .i64 j ∧ j ≤ n2 ∧ InBk q wa ia inn ic k7 b7 vs2 a2 j c2 wr2 k8 b8) (fun z8 _ => n2 - (intOf z8).toNat)
      case atStart => exact ⟨0, [], none, 0, k7, b7, rfl, Nat.zero_le _, A8.out⟩
      case round =>
        obtain ⟨j, vs2, a2, c2, k8, b8, rfl, hj, hK⟩ := hrel
        have HK := Lib.hid (And.intro hj hK)
        obtain ⟨hl8, hc8⟩ := hK.tk.step.rd.lens
        have hw2 := hK.tk.step.turn.size
        by_cases hgo2 : j < n2 ∧ b8 = false
        · obtain ⟨hlt2, rfl⟩ := hgo2
          have x2 : decide ((j : Int) < n2) = true := decide_eq_true (by omega)
          have HLT2 := Lib.hid hlt2
          have d1 : wr.drew.cell? ⟨wa.heap.size, 1, none⟩ = some (.slice a2 j c2) := hK.box.cell 1
          have dl : wa.heap.size < wr.drew.heap.size := hK.box.lt
          have HDL : Hid (wa.heap.size < wr.heap.size) := hK.box.lt
          have SD : Hid (Still wr wr.drew) := (Still.refl wr).drew
          have HC2 := Lib.hid (tinstr_flat HQ.out (hK.tk.step.rd.still SD.out))
          clear hK hj
          go_wp2_with fail
          go_region_law (first
            | (go_simp; go_at_call 43; (with_reducible refine HC2.out.mono ?_); rintro e w9 ⟨xo, xd, xa, xb, xc, xn, la, ln, lc, ma, mn, mc, va, vn, vc, k9, b9, rfl, hu⟩; have TU := Lib.hid (SD.out.turn.trans hu.turn); have hb9 := HK.out.2.box.keep TU.out (by have := G1.out; omega); have HB9 := Lib.hid hb9; have d2 := hb9.cell 1; have l9 := hb9.lt; have HL9 := Lib.hid l9; have HO9 := Lib.hid (own_keep HK.out.2.tk.own TU.out (fun b e1 e2 => by have := (HK.out.2.tk.own.lt b e1).1; have := G1.out; omega)); have HU := Lib.hid hu; clear hu hb9)
            | (refine step_append_form rfl (.tmp 50) (.tmp 53) 83 rfl wa.heap.size 70 9 120 _ Tryz.underlying83 infoTIns rfl (by decide) a2 j c2 vs2.flatten (by simp [Act.eval]) (HO9.out.alloc _) ⟨w9.heap.size, 0, none⟩ 1 1 [.int .i64 xo, .int .i64 xd, .int .i64 xa, .int .i64 xb, .int .i64 xc, .int .i64 xn, .slice la ln lc, .slice ma mn mc, .slice va vn vc] (by simp [Act.eval]) rfl (fun j u hj => by rw [Addr.add_lit, Nat.zero_add, (Blk.new w9 70 #[.int .i64 xo, .int .i64 xd, .int .i64 xa, .int .i64 xb, .int .i64 xc, .int .i64 xn, .slice la ln lc, .slice ma mn mc, .slice va vn vc]).cell j]; simpa using hj) (by simp [Value.oneCell']) (by decide) (by have := HLT2.out; have := HN2.out; unfold maxLen; omega) (by have := HLT2.out; have := HN2.out; omega) (by simp; have := HL9.out; omega) ?_
               intro g4 c4 w4 hr4 ht4 hn4
               have hb4 := (((Still.refl w9).alloc (.cells #[.int .i64 xo, .int .i64 xd, .int .i64 xa, .int .i64 xb, .int .i64 xc, .int .i64 xn, .slice la ln lc, .slice ma mn mc, .slice va vn vc] 70)).blk HB9.out).keep ht4.out (fun e => HK.out.2.tk.row _ e rfl)
               have HB4 := Lib.hid hb4
               have q2 := hb4.cell 1
               have q2f := hb4.frozen 1
               have l4 := hb4.lt
               clear hb4))
          all_goals
            go_wp2_with fail
            go_roundw
            case rel =>
              have hlt2 := HLT2.out
              have hdl := HDL.out
              have hg1 := G1.out
              refine ⟨j + 1, vs2 ++ [[.int .i64 xo, .int .i64 xd, .int .i64 xa, .int .i64 xb, .int .i64 xc, .int .i64 xn, .slice la ln lc, .slice ma mn mc, .slice va vn vc]], some ⟨g4, 0, none⟩, c4, k9, b9, by go_num, by omega, ⟨TkT.next (P := InsQ) (fun _ _ _ _ _ _ h k => h.keep k) HK.out.2.tk (by omega) (by omega) (fun b e => by subst e; exact ⟨Nat.le_refl _, hdl⟩) HU.out TU.out (fun b hb => hb) rfl ((Turn.refl _ w9).alloc _) (HO9.out.alloc _) ht4.out hr4.out ?_ ((Turn.refl (fun b => b = wa.heap.size) w4).setCell (p := ⟨wa.heap.size, 1, none⟩) (fun _ => rfl) _), by have := HB4.out.set 1 (.slice (some ⟨g4, 0, none⟩) (j + 1) c4); simpa using this⟩⟩
              rcases hn4.out with e | e
              · exact .inl (by rw [e]; rfl)
              · exact .inr fun j hj => by
                  have : g4 = j := by simpa [Value.ownBlock] using hj
                  rw [← this]; exact e
            case measure => have := HLT2.out; have := HN2.out; simp [intOf]; omega
        · have hd : b8 = true ∨ j = n2 := by
            cases b8 with
            | true => exact .inl rfl
            | false => exact .inr (by have : ¬ j < n2 := fun e => hgo2 ⟨e, rfl⟩; omega)
          have HD := Lib.hid hd
          have UB := Lib.hid (InBk.done hK (by have := UA.out.1; have := HSM.out; unfold maxLen; omega) (by have := HN2.out; unfold maxLen; omega) UA.out.2 U7.out.2 hj hd (by have := G1.out; omega))
          have TR : Hid (Turn (fun i => i = q.g) wo wr) := UA.out.2.turn.trans hK.tk.step.turn
          have hbF := HI.out.2.box.keep TR.out (by have := G1.out; omega)
          have HBF := Lib.hid hbF
          have HRS := Lib.hid (HI.out.2.res.keep TR.out (by have := HN.out; omega))
          have HO := Lib.hid (own_keep HI.out.2.tk.own TR.out (fun b e1 e2 => by have := (HI.out.2.tk.own.lt b e1).1; have := G1.out; omega))
          have HLW : Hid (w1.heap.size < wo.heap.size) := HI.out.2.box.lt
          have e3 := hbF.cell 3
          have f3 := hbF.frozen 3
          have lF := hbF.lt
          have e0 := hK.box.cell 0
          have e1 := hK.box.cell 1
          have lB := hK.box.lt
          have HLT3 := Lib.hid HLT.out
          have hx2 : (b8 = true ∧ decide ((j : Int) < n2) = true ∧ decide (j < n2) = true ∧ j < n2) ∨ (decide ((j : Int) < n2) = false ∧ decide (j < n2) = false ∧ ¬ (j : Int) < n2) := by
            by_cases hjj : j < n2
            · rcases hd with e | e
              · exact .inl ⟨e, decide_eq_true (by omega), decide_eq_true (by omega), hjj⟩
              · omega
            · exact .inr ⟨decide_eq_false (by omega), decide_eq_false (by omega), by omega⟩
          clear hK hj hd hgo2 hbF
          rcases hx2 with ⟨rfl, x2, x3, x4⟩ | ⟨x2, x3, x4⟩
          all_goals
            go_wp2_with (at_builtin; refine wpList_append_form rfl (.tmp 57) (.tmp 59) 53 rfl w1.heap.size 85 2 48 _ Tryz.underlying53 infoTBk rfl (by decide) a i c vs.flatten rfl (HO.out.alloc _) ⟨wr.heap.size, 0, none⟩ 1 1 [.slice ia inn ic, .slice a2 j c2] rfl rfl (fun jj u hj => by rw [Addr.add_lit, Nat.zero_add, (Blk.new wr 85 #[.slice ia inn ic, .slice a2 j c2]).cell jj]; simpa using hj) (by simp [Value.oneCell']) (by decide) (by have := HLT.out; have := HNB.out; unfold maxLen; omega) (by have := HLT.out; have := HNB.out; omega) (by simp; omega) ?_; intro g4 c4 w4 hr4 ht4 hn4; have hb4 := (((Still.refl wr).alloc (.cells #[.slice ia inn ic, .slice a2 j c2] 85)).blk HBF.out).keep ht4.out (fun e => HI.out.2.tk.row _ e rfl); have HB4 := Lib.hid hb4; have HR4 := Lib.hid ((((Still.refl wr).alloc (.cells #[.slice ia inn ic, .slice a2 j c2] 85)).blk HRS.out).keep ht4.out (fun e => by have := (HO.out.lt _ e).1; have := G1.out; omega)); have q3 := hb4.cell 3; have q3f := hb4.frozen 3; have l4 := hb4.lt; clear hb4)
          all_goals
            have hlt := HLT.out
            have hlw := HLW.out
            have hg1 := G1.out
            have hnb := HNB.out
            have TF := (Turn.refl (fun b => b = w1.heap.size) w4).setCell (p := ⟨w1.heap.size, 3, none⟩) (fun _ => rfl) (.slice (some ⟨g4, 0, none⟩) (i + 1) c4)
            refine ⟨⟨i + 1, vs ++ [[.slice ia inn ic, .slice a2 j c2]], some ⟨g4, 0, none⟩, c4, k8, _, by go_num, by omega, ⟨TkT.next (P := BkQ) (fun _ _ _ _ _ _ h k => h.keep k) HI.out.2.tk (by omega) (by omega) (fun b e => by subst e; exact ⟨Nat.le_refl _, hlw⟩) UB.out TR.out (fun b hb => ⟨hb.1, hb.2.1⟩) rfl ((Turn.refl _ wr).alloc _) (HO.out.alloc _) ht4.out hr4.out ?_ TF, by have := HB4.out.set 3 (.slice (some ⟨g4, 0, none⟩) (i + 1) c4); simpa using this, HR4.out.keep TF (by have := G1.out; omega)⟩⟩, by simp [intOf]; omega⟩
            rcases hn4.out with e | e
            · exact .inl (by rw [e]; rfl)
            · exact .inr fun j hj => by
                have : g4 = j := by simpa [Value.ownBlock] using hj
                rw [← this]; exact e
    · skip
      have hd : b5 = true ∨ i = n := by
        cases b5 with
        | true => exact .inl rfl
        | false => exact .inr (by have : ¬ i < n := fun e => hgo ⟨e, rfl⟩; omega)
      have HD := Lib.hid hd
      have hbF := hI.box
      have hres := hI.res
      rw [← HZ.out] at hres
      have HRES := Lib.hid hres
      have e0 := hbF.cell 0
      have e1 := hbF.cell 1
      have e2 := hbF.cell 2
      have e3 := hbF.cell 3
      have lF := hbF.lt
      have c0 := hres.cell 0
      have c1 := hres.cell 1
      have c2 := hres.cell 2
      have c3 := hres.cell 3
      have g0 := hres.frozen 0
      have g1 := hres.frozen 1
      have g2 := hres.frozen 2
      have g3 := hres.frozen 3
      have lR := hres.lt
      have hx2 : (b5 = true ∧ decide ((i : Int) < n) = true ∧ decide (i < n) = true ∧ i < n) ∨ (decide ((i : Int) < n) = false ∧ decide (i < n) = false ∧ ¬ (i : Int) < n) := by
        by_cases hjj : i < n
        · rcases hd with e | e
          · exact .inl ⟨e, decide_eq_true (by omega), decide_eq_true (by omega), hjj⟩
          · omega
        · exact .inr ⟨decide_eq_false (by omega), decide_eq_false (by omega), by omega⟩
      have FIN : Hid (∀ w9, Turn (fun b => b = w.heap.size) wo w9 → StepT q M.qFn (fun x => FnQ (Fresh w w9) w9 [.slice pa pn pc, .int .i64 v0, .int .i64 v1, .slice a i c] x) w w9 k bad k5 b5) := fun w9 ht => by
        have hg1 := G1.out
        have hn := HN.out
        have h0s := H0.out.2.2.2
        have hu1s := U1.out.2.turn.size
        have htk := HI.out.2.tk
        have hts := htk.step.turn
        have hl := tlist_done (V' := fun l => LiesQ (FreshD (fun b => b = w1.heap.size) w1 wo) wo 2 (BkQ (FreshD (fun b => b = w1.heap.size) w1 wo) wo) a i l) U4.out.2 htk.step HI.out.1 HD.out fun _ l hl => TkT.lies (P := BkQ) (fun _ _ _ _ _ _ h k => h.keep k) htk hl.1 hl.2
        have hrd := htk.step.rd.turn ht (by omega) (by omega)
        have tt := turn_box ((H0.out.2.2.1.trans U1.out.2.turn).trans hts) ht (Nat.le_refl _)
        have hts2 := hts.size
        have hts3 := ht.size
        have K1 : Kept (Fresh w0 w1) (Fresh w w9) w1 w9 := ⟨fun b hb => (ht.block b (by have := hb.2; omega) (by have := hb.1; omega)).trans (hts.block b hb.2 (by have := hb.1; omega)), fun b hb => ⟨by have := hb.1; omega, by have := hb.2; omega⟩⟩
        have K2 : Kept (FreshD (fun b => b = w1.heap.size) w1 wo) (Fresh w w9) wo w9 := ⟨fun b hb => ht.block b hb.2.1 (by have := hb.1; omega), fun b hb => ⟨by have := hb.1; omega, by have := hb.2.1; omega⟩⟩
        refine StepT.pair (Z := fun x => FnQ (Fresh w w9) w9 [.slice pa pn pc, .int .i64 v0, .int .i64 v1, .slice a i c] x) U1.out.2 (StepT.pair (Z := fun x => v0 = x.1 ∧ v1 = x.2.1 ∧ LiesQ (FreshD (fun b => b = w1.heap.size) w1 wo) wo 2 (BkQ (FreshD (fun b => b = w1.heap.size) w1 wo) wo) a i x.2.2) U2.out.2 (StepT.pair (Z := fun x => v1 = x.1 ∧ LiesQ (FreshD (fun b => b = w1.heap.size) w1 wo) wo 2 (BkQ (FreshD (fun b => b = w1.heap.size) w1 wo) wo) a i x.2) U3.out.2 hl hl.rd hl.turn fun x y hx hy => ⟨hx, hy⟩) hl.rd hl.turn fun x y hx hy => ⟨hx, hy⟩) hrd tt ?_
        rintro x0 ⟨x1, x2, x3⟩ y0 ⟨y1, y2, y3⟩
        dsimp only at y1 y2 y3 ⊢
        subst y1
        subst y2
        have hnb := HNB.out
        have hpn := U1.out.1
        have hsm := HSM.out
        have hin := HI.out.1
        exact ⟨pa, pn, pc, a, i, c, rfl, by unfold maxLen; omega, by unfold maxLen; omega, U2.out.1, U3.out.1, IntsQ.keep y0 K1, LiesQ.keep y3 K2 fun _ _ h => h.keep K2⟩
      clear hI hi hd hgo hbF hres
      rcases hx2 with ⟨rfl, x2, x3, x4⟩ | ⟨x2, x3, x4⟩
      all_goals
        go_wp2_with fail
        have hb := setsB4 HRES.out (.slice pa pn pc) (.int .i64 v0) (.int .i64 v1) (.slice a i c)
        have ht := setsT4 wo w.heap.size (.slice pa pn pc) (.int .i64 v0) (.int .i64 v1) (.slice a i c)
        refine bodyPost_ret (results_cell_row rfl _ _ w.heap.size 55 #[.slice pa pn pc, .int .i64 v0, .int .i64 v1, .slice a i c] (0, 0) _ rfl hb Tryz.underlying55 rfl (by kernel_rfl)) rfl ?_
        generalize ((((wo.setCell ⟨w.heap.size, 0, none⟩ (.slice pa pn pc)).setCell ⟨w.heap.size, 1, none⟩ (.int .i64 v0)).setCell ⟨w.heap.size, 2, none⟩ (.int .i64 v1)).setCell ⟨w.heap.size, 3, none⟩ (.slice a i c)) = w9 at hb ht ⊢
        exact ⟨pa, pn, pc, v0, v1, a, i, c, k5, _, rfl, FIN.out _ ht⟩
end Go.Proofs.YthlifflapgccbaaGreat
