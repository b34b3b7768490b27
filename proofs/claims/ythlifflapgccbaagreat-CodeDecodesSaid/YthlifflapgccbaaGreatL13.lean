/- Lemmas, put together: RdParts TakeN RdField RdInstr. -/
import Derived.Test.YthlifflapgccbaaGreatTakes
import Derived.Test.YthlifflapgccbaaGreatL12
import Derived.Test.YthlifflapgccbaaGreatL06
import Derived.Test.YthlifflapgccbaaGreatWrInstr
/- The reader in memory: structs out of what is taken. -/
namespace Go.Proofs.YthlifflapgccbaaGreat
set_option linter.unusedVariables false
set_option linter.unusedSimpArgs false
open Go.ChangeShapes Go.WideShapes Go.ChangeAt Go.RowKit
open M (W)
theorem StepR.into {α : Type} {q : RP} {p : M.Par α} {V V' : α → Prop} {w w' wa wb : World} {k sz k1 s1 : Nat} {bad b1 : Bool} (h : StepR q p V wa wb k sz bad k1 s1 b1) (hr : Rd q w' k1 s1 b1) (ht : Turn (fun i => i = q.g) w w') (hV : ∀ x, V x → V' x) : StepR q p V' w w' k sz bad k1 s1 b1 :=
  ⟨hr, ht, h.stay, h.no, fun hb x s2 R2 e => by
    obtain ⟨y1, y2, y3, y4⟩ := h.yes hb x s2 R2 e
    exact ⟨y1, y2, y3, hV x y4⟩⟩
theorem StepR.pair {α β γ : Type} {q : RP} {p : M.Par α} {r : M.Par β} {f : α → β → γ} {V : α → Prop} {U : β → Prop} {Z : γ → Prop} {w w1 wa w2 : World} {k sz k1 s1 k2 s2 : Nat} {bad b1 b2 : Bool} (h : StepR q p V w w1 k sz bad k1 s1 b1) (u : StepR q r U wa w2 k1 s1 b1 k2 s2 b2) (t : Turn (fun i => i = q.g) w w2) (hV : ∀ x y, V x → U y → Z (f x y)) : StepR q (M.andThen p (fun _ => r) f) Z w w2 k sz bad k2 s2 b2 :=
  ⟨u.rd, t, fun hb => u.stay (h.stay hb), fun hb e => by
    unfold M.andThen at e
    cases hp : p sz (q.L.drop k) with
    | none => exact u.stay (h.no hb hp)
    | some y =>
      obtain ⟨x, z1, R1⟩ := y
      obtain ⟨y1, y2, y3, y4⟩ := h.yes hb _ _ _ hp
      rw [hp] at e
      simp only at e
      cases hr : r z1 R1 with
      | none => exact u.no y1 (by rw [y2, y3]; exact hr)
      | some y => obtain ⟨x9, z9, R9⟩ := y; rw [hr] at e; exact absurd e (by simp), fun hb x s3 R3 e => by
    unfold M.andThen at e
    cases hp : p sz (q.L.drop k) with
    | none => rw [hp] at e; exact absurd e (by simp)
    | some y =>
      obtain ⟨x1, z1, R1⟩ := y
      obtain ⟨y1, y2, y3, y4⟩ := h.yes hb _ _ _ hp
      rw [hp] at e
      simp only at e
      cases hr : r z1 R1 with
      | none => rw [hr] at e; exact absurd e (by simp)
      | some y =>
        obtain ⟨x2, z2, R2⟩ := y
        rw [hr] at e
        simp only [Option.some.injEq, Prod.mk.injEq] at e
        obtain ⟨rfl, rfl, rfl⟩ := e
        obtain ⟨u1, u2, u3, u4⟩ := u.yes y1 x2 z2 R2 (by rw [y2, y3]; exact hr)
        exact ⟨u1, u2, u3, hV _ _ y4 u4⟩⟩
/-- What was new between is new, and stands as it stood: a reader and a box are all that turned. -/
theorem kept_fresh {w wa wb wc w' : World} {g i : Nat} (hg : g < wa.heap.size) (hi : i < wa.heap.size) (hs : w.heap.size ≤ wa.heap.size) (t : Turn (fun k => k = g) wb wc) (t2 : Turn (fun k => k = i) wc w') : Kept (Fresh wa wb) (Fresh w w') wb w' :=
  ⟨fun b hb => (t2.block b (Nat.lt_of_lt_of_le hb.2 t.size) (by have := hb.1; omega)).trans (t.block b hb.2 (by have := hb.1; omega)), fun b hb => ⟨Nat.le_trans hs hb.1, Nat.lt_of_lt_of_le hb.2 (Nat.le_trans t.size t2.size)⟩⟩
theorem turn_box {w wc w' : World} {g i : Nat} (t : Turn (fun k => k = g) w wc) (t2 : Turn (fun k => k = i) wc w') (hi : w.heap.size ≤ i) : Turn (fun k => k = g) w w' :=
  ⟨t2.os.trans t.os, t2.tape.trans t.tape, t2.output.trans t.output, Nat.le_trans t.size t2.size, fun k hk hs => (t2.block k (Nat.lt_of_lt_of_le hk t.size) (fun e => by omega)).trans (t.block k hk hs)⟩
theorem rnum_elem {q : RP} (hq : q.ok) (W : World) (k sz : Nat) (bad : Bool) (h : Rd q W k sz bad) : Calls Tryz.prog 38 #[.pointer (some ⟨q.g, 0, none⟩)] W fun e w' => ∃ (v0 : Int) (k' sz' : Nat) (bad' : Bool), e = .returned (.int .i64 v0) ∧ StepR q M.pNum (fun x => IntIs [.int .i64 v0] x) W w' k sz bad k' sz' bad' :=
  (rnumber_any hq h).mono fun e w' ⟨n, k', b', h1, h2, h3⟩ => ⟨n, k', sz, b', h1, h3.into h3.rd h3.turn fun x hx => by subst hx; exact ⟨rfl, h2⟩⟩
theorem rtext_elem {q : RP} (hq : q.ok) (W : World) (k sz : Nat) (bad : Bool) (h : Rd q W k sz bad) : Calls Tryz.prog 35 #[.pointer (some ⟨q.g, 0, none⟩)] W fun e w' => ∃ (v0 : ByteArray) (k' sz' : Nat) (bad' : Bool), e = .returned (.string v0) ∧ StepR q M.pText (fun x => TxIs [.string v0] x) W w' k sz bad k' sz' bad' :=
  (rtext_any hq h).mono fun e w' ⟨n, k', b', h1, h2, h3⟩ => ⟨n, k', sz, b', h1, h3.into h3.rd h3.turn fun x hx => by subst hx; exact ⟨rfl, by unfold maxLen; omega⟩⟩
theorem setsB2 {w : World} {i : Nat} {t : TypeId} {x0 x1 : Value} (h : Blk w i t #[x0, x1]) (v0 v1 : Value) : Blk ((w.setCell ⟨i, 0, none⟩ v0).setCell ⟨i, 1, none⟩ v1) i t #[v0, v1] := by
  have h0 : Blk (w.setCell ⟨i, 0, none⟩ v0) i t #[v0, x1] := by have := h.set 0 v0; simpa using this
  have h1 : Blk ((w.setCell ⟨i, 0, none⟩ v0).setCell ⟨i, 1, none⟩ v1) i t #[v0, v1] := by have := h0.set 1 v1; simpa using this
  exact h1
theorem setsT2 (w : World) (i : Nat) (v0 v1 : Value) : Turn (fun k => k = i) w ((w.setCell ⟨i, 0, none⟩ v0).setCell ⟨i, 1, none⟩ v1) := by
  refine Turn.setCell (S := fun k => k = i) ?_ (p := ⟨i, 1, none⟩) (fun _ => rfl) _
  exact Turn.setCell (S := fun k => k = i) (Turn.refl (fun k => k = i) w) (p := ⟨i, 0, none⟩) (fun _ => rfl) _
theorem setsB3 {w : World} {i : Nat} {t : TypeId} {x0 x1 x2 : Value} (h : Blk w i t #[x0, x1, x2]) (v0 v1 v2 : Value) : Blk (((w.setCell ⟨i, 0, none⟩ v0).setCell ⟨i, 1, none⟩ v1).setCell ⟨i, 2, none⟩ v2) i t #[v0, v1, v2] := by
  have h0 : Blk (w.setCell ⟨i, 0, none⟩ v0) i t #[v0, x1, x2] := by have := h.set 0 v0; simpa using this
  have h1 : Blk ((w.setCell ⟨i, 0, none⟩ v0).setCell ⟨i, 1, none⟩ v1) i t #[v0, v1, x2] := by have := h0.set 1 v1; simpa using this
  have h2 : Blk (((w.setCell ⟨i, 0, none⟩ v0).setCell ⟨i, 1, none⟩ v1).setCell ⟨i, 2, none⟩ v2) i t #[v0, v1, v2] := by have := h1.set 2 v2; simpa using this
  exact h2
theorem setsT3 (w : World) (i : Nat) (v0 v1 v2 : Value) : Turn (fun k => k = i) w (((w.setCell ⟨i, 0, none⟩ v0).setCell ⟨i, 1, none⟩ v1).setCell ⟨i, 2, none⟩ v2) := by
  refine Turn.setCell (S := fun k => k = i) ?_ (p := ⟨i, 2, none⟩) (fun _ => rfl) _
  refine Turn.setCell (S := fun k => k = i) ?_ (p := ⟨i, 1, none⟩) (fun _ => rfl) _
  exact Turn.setCell (S := fun k => k = i) (Turn.refl (fun k => k = i) w) (p := ⟨i, 0, none⟩) (fun _ => rfl) _
theorem setsB4 {w : World} {i : Nat} {t : TypeId} {x0 x1 x2 x3 : Value} (h : Blk w i t #[x0, x1, x2, x3]) (v0 v1 v2 v3 : Value) : Blk ((((w.setCell ⟨i, 0, none⟩ v0).setCell ⟨i, 1, none⟩ v1).setCell ⟨i, 2, none⟩ v2).setCell ⟨i, 3, none⟩ v3) i t #[v0, v1, v2, v3] := by
  have h0 : Blk (w.setCell ⟨i, 0, none⟩ v0) i t #[v0, x1, x2, x3] := by have := h.set 0 v0; simpa using this
  have h1 : Blk ((w.setCell ⟨i, 0, none⟩ v0).setCell ⟨i, 1, none⟩ v1) i t #[v0, v1, x2, x3] := by have := h0.set 1 v1; simpa using this
  have h2 : Blk (((w.setCell ⟨i, 0, none⟩ v0).setCell ⟨i, 1, none⟩ v1).setCell ⟨i, 2, none⟩ v2) i t #[v0, v1, v2, x3] := by have := h1.set 2 v2; simpa using this
  have h3 : Blk ((((w.setCell ⟨i, 0, none⟩ v0).setCell ⟨i, 1, none⟩ v1).setCell ⟨i, 2, none⟩ v2).setCell ⟨i, 3, none⟩ v3) i t #[v0, v1, v2, v3] := by have := h2.set 3 v3; simpa using this
  exact h3
theorem setsT4 (w : World) (i : Nat) (v0 v1 v2 v3 : Value) : Turn (fun k => k = i) w ((((w.setCell ⟨i, 0, none⟩ v0).setCell ⟨i, 1, none⟩ v1).setCell ⟨i, 2, none⟩ v2).setCell ⟨i, 3, none⟩ v3) := by
  refine Turn.setCell (S := fun k => k = i) ?_ (p := ⟨i, 3, none⟩) (fun _ => rfl) _
  refine Turn.setCell (S := fun k => k = i) ?_ (p := ⟨i, 2, none⟩) (fun _ => rfl) _
  refine Turn.setCell (S := fun k => k = i) ?_ (p := ⟨i, 1, none⟩) (fun _ => rfl) _
  exact Turn.setCell (S := fun k => k = i) (Turn.refl (fun k => k = i) w) (p := ⟨i, 0, none⟩) (fun _ => rfl) _
theorem setsB9 {w : World} {i : Nat} {t : TypeId} {x0 x1 x2 x3 x4 x5 x6 x7 x8 : Value} (h : Blk w i t #[x0, x1, x2, x3, x4, x5, x6, x7, x8]) (v0 v1 v2 v3 v4 v5 v6 v7 v8 : Value) : Blk (((((((((w.setCell ⟨i, 0, none⟩ v0).setCell ⟨i, 1, none⟩ v1).setCell ⟨i, 2, none⟩ v2).setCell ⟨i, 3, none⟩ v3).setCell ⟨i, 4, none⟩ v4).setCell ⟨i, 5, none⟩ v5).setCell ⟨i, 6, none⟩ v6).setCell ⟨i, 7, none⟩ v7).setCell ⟨i, 8, none⟩ v8) i t #[v0, v1, v2, v3, v4, v5, v6, v7, v8] := by
  have h0 : Blk (w.setCell ⟨i, 0, none⟩ v0) i t #[v0, x1, x2, x3, x4, x5, x6, x7, x8] := by have := h.set 0 v0; simpa using this
  have h1 : Blk ((w.setCell ⟨i, 0, none⟩ v0).setCell ⟨i, 1, none⟩ v1) i t #[v0, v1, x2, x3, x4, x5, x6, x7, x8] := by have := h0.set 1 v1; simpa using this
  have h2 : Blk (((w.setCell ⟨i, 0, none⟩ v0).setCell ⟨i, 1, none⟩ v1).setCell ⟨i, 2, none⟩ v2) i t #[v0, v1, v2, x3, x4, x5, x6, x7, x8] := by have := h1.set 2 v2; simpa using this
  have h3 : Blk ((((w.setCell ⟨i, 0, none⟩ v0).setCell ⟨i, 1, none⟩ v1).setCell ⟨i, 2, none⟩ v2).setCell ⟨i, 3, none⟩ v3) i t #[v0, v1, v2, v3, x4, x5, x6, x7, x8] := by have := h2.set 3 v3; simpa using this
  have h4 : Blk (((((w.setCell ⟨i, 0, none⟩ v0).setCell ⟨i, 1, none⟩ v1).setCell ⟨i, 2, none⟩ v2).setCell ⟨i, 3, none⟩ v3).setCell ⟨i, 4, none⟩ v4) i t #[v0, v1, v2, v3, v4, x5, x6, x7, x8] := by have := h3.set 4 v4; simpa using this
  have h5 : Blk ((((((w.setCell ⟨i, 0, none⟩ v0).setCell ⟨i, 1, none⟩ v1).setCell ⟨i, 2, none⟩ v2).setCell ⟨i, 3, none⟩ v3).setCell ⟨i, 4, none⟩ v4).setCell ⟨i, 5, none⟩ v5) i t #[v0, v1, v2, v3, v4, v5, x6, x7, x8] := by have := h4.set 5 v5; simpa using this
  have h6 : Blk (((((((w.setCell ⟨i, 0, none⟩ v0).setCell ⟨i, 1, none⟩ v1).setCell ⟨i, 2, none⟩ v2).setCell ⟨i, 3, none⟩ v3).setCell ⟨i, 4, none⟩ v4).setCell ⟨i, 5, none⟩ v5).setCell ⟨i, 6, none⟩ v6) i t #[v0, v1, v2, v3, v4, v5, v6, x7, x8] := by have := h5.set 6 v6; simpa using this
  have h7 : Blk ((((((((w.setCell ⟨i, 0, none⟩ v0).setCell ⟨i, 1, none⟩ v1).setCell ⟨i, 2, none⟩ v2).setCell ⟨i, 3, none⟩ v3).setCell ⟨i, 4, none⟩ v4).setCell ⟨i, 5, none⟩ v5).setCell ⟨i, 6, none⟩ v6).setCell ⟨i, 7, none⟩ v7) i t #[v0, v1, v2, v3, v4, v5, v6, v7, x8] := by have := h6.set 7 v7; simpa using this
  have h8 : Blk (((((((((w.setCell ⟨i, 0, none⟩ v0).setCell ⟨i, 1, none⟩ v1).setCell ⟨i, 2, none⟩ v2).setCell ⟨i, 3, none⟩ v3).setCell ⟨i, 4, none⟩ v4).setCell ⟨i, 5, none⟩ v5).setCell ⟨i, 6, none⟩ v6).setCell ⟨i, 7, none⟩ v7).setCell ⟨i, 8, none⟩ v8) i t #[v0, v1, v2, v3, v4, v5, v6, v7, v8] := by have := h7.set 8 v8; simpa using this
  exact h8
theorem setsT9 (w : World) (i : Nat) (v0 v1 v2 v3 v4 v5 v6 v7 v8 : Value) : Turn (fun k => k = i) w (((((((((w.setCell ⟨i, 0, none⟩ v0).setCell ⟨i, 1, none⟩ v1).setCell ⟨i, 2, none⟩ v2).setCell ⟨i, 3, none⟩ v3).setCell ⟨i, 4, none⟩ v4).setCell ⟨i, 5, none⟩ v5).setCell ⟨i, 6, none⟩ v6).setCell ⟨i, 7, none⟩ v7).setCell ⟨i, 8, none⟩ v8) := by
  refine Turn.setCell (S := fun k => k = i) ?_ (p := ⟨i, 8, none⟩) (fun _ => rfl) _
  refine Turn.setCell (S := fun k => k = i) ?_ (p := ⟨i, 7, none⟩) (fun _ => rfl) _
  refine Turn.setCell (S := fun k => k = i) ?_ (p := ⟨i, 6, none⟩) (fun _ => rfl) _
  refine Turn.setCell (S := fun k => k = i) ?_ (p := ⟨i, 5, none⟩) (fun _ => rfl) _
  refine Turn.setCell (S := fun k => k = i) ?_ (p := ⟨i, 4, none⟩) (fun _ => rfl) _
  refine Turn.setCell (S := fun k => k = i) ?_ (p := ⟨i, 3, none⟩) (fun _ => rfl) _
  refine Turn.setCell (S := fun k => k = i) ?_ (p := ⟨i, 2, none⟩) (fun _ => rfl) _
  refine Turn.setCell (S := fun k => k = i) ?_ (p := ⟨i, 1, none⟩) (fun _ => rfl) _
  exact Turn.setCell (S := fun k => k = i) (Turn.refl (fun k => k = i) w) (p := ⟨i, 0, none⟩) (fun _ => rfl) _
set_option maxRecDepth 100000 in
theorem rkind_any {q : RP} (hq : q.ok) (w : World) (k sz : Nat) (bad : Bool) (h : Rd q w k sz bad) :
    Calls Tryz.prog 31 #[.pointer (some ⟨q.g, 0, none⟩)] w fun e w' => ∃ (v0 : Bool) (a2 : Option Addr) (n2 c2 : Nat) (k' sz' : Nat) (bad' : Bool), e = .returned (.agg #[.bool v0, .slice a2 n2 c2]) ∧ StepR q M.pTy (fun x => TyQ (Fresh w w') w' [.bool v0, .slice a2 n2 c2] x) w w' k sz bad k' sz' bad' := by
  have H0 : Hid (Rd q (w.alloc (.cells #[.bool false, .slice none 0 0] 49)) k sz bad ∧ Turn (fun i => i = q.g) w (w.alloc (.cells #[.bool false, .slice none 0 0] 49)) ∧ Blk (w.alloc (.cells #[.bool false, .slice none 0 0] 49)) w.heap.size 49 #[.bool false, .slice none 0 0]) := ⟨h.still ((Still.refl w).alloc _), (Turn.refl _ w).alloc _, Blk.new w _ _⟩
  have HN : Hid (q.g < w.heap.size ∧ q.b < w.heap.size) := ⟨h.blk.lt, h.lt⟩
  clear h
  go_enter Tryz.func31, Tryz.ntmps31
  go_wp2_with fail
  obtain ⟨w0, hw0⟩ : ∃ w0, (w.alloc (.cells #[.bool false, .slice none 0 0] 49)) = w0 := ⟨_, rfl⟩
  have HW0 : Hid (w.heap.size < w0.heap.size) := by show _ < _; rw [← hw0]; simp
  rw [hw0] at H0
  rw [hw0]
  clear hw0
  refine (ryes_any hq H0.out.1).mono ?_; rintro e w1 ⟨v0, k1, b1, rfl, u1⟩
  have U1 := Lib.hid u1
  have H1 : Hid (Turn (fun i => i = q.g) w w1 ∧ Blk w1 w.heap.size 49 #[.bool false, .slice none 0 0]) := ⟨(H0.out.2.1).trans u1.turn, (H0.out.2.2).keep u1.turn (by have := HN.out; omega)⟩
  clear u1
  go_wp2_with fail
  refine (takeInt_any M.pNum 38 (enters_of Tryz.func38 (by kernel_rfl) rfl) 512 (by decide) hq U1.out.rd (rnum_elem hq)).mono ?_; rintro e w2 ⟨a2, n2, c2, k2, s2, b2, rfl, hi2, u2⟩
  have U2 := Lib.hid u2
  have Ehi2 := Lib.hid hi2
  have H2 : Hid (Turn (fun i => i = q.g) w w2 ∧ Blk w2 w.heap.size 49 #[.bool false, .slice none 0 0]) := ⟨(H1.out.1).trans u2.turn, (H1.out.2).keep u2.turn (by have := HN.out; omega)⟩
  clear u2 hi2
  have c90 := H2.out.2.cell 0
  have f90 := H2.out.2.frozen 0
  have c91 := H2.out.2.cell 1
  have f91 := H2.out.2.frozen 1
  have hl9 := H2.out.2.lt
  go_wp2_with fail
  have hb := setsB2 H2.out.2 (.bool v0) (.slice a2 n2 c2)
  have ht := setsT2 w2 w.heap.size (.bool v0) (.slice a2 n2 c2)
  refine bodyPost_ret (results_cell_row rfl _ _ w.heap.size 49 #[.bool v0, .slice a2 n2 c2] (0, 0) _ rfl hb Tryz.underlying49 rfl (by kernel_rfl)) rfl ?_
  obtain ⟨hgl, hbl⟩ := HN.out
  have hw0 := HW0.out
  have hi2 := Ehi2.out
  generalize hW9 : ((w2.setCell ⟨w.heap.size, 0, none⟩ (.bool v0)).setCell ⟨w.heap.size, 1, none⟩ (.slice a2 n2 c2)) = w9 at hb ht ⊢
  have tt := turn_box H2.out.1 ht (Nat.le_refl _)
  refine ⟨v0, a2, n2, c2, k2, s2, b2, rfl, ?_⟩
  have hz1 : w0.heap.size ≤ w1.heap.size := by have := U1.out.turn.size; omega
  have K1 : Kept (Fresh w1 w2) (Fresh w w9) w2 w9 := kept_fresh (g := q.g) (i := w.heap.size) (by omega) (by omega) (by omega) (Turn.refl _ _) ht
  have hrd := U2.out.rd.turn ht (by omega) (by omega)
  refine (StepR.pair (Z := fun x => TyQ (Fresh w w9) w9 [.bool v0, .slice a2 n2 c2] x) U1.out (U2.out) ((U1.out.turn).trans U2.out.turn) ?_).into hrd tt fun x hx => hx
  rintro x0 x1 y0 y1
  subst y0
  exact ⟨a2, n2, c2, rfl, by unfold maxLen; omega, LiesQ.keep y1 K1 fun _ _ h => h⟩
set_option maxRecDepth 100000 in
theorem rshape_any {q : RP} (hq : q.ok) (w : World) (k sz : Nat) (bad : Bool) (h : Rd q w k sz bad) :
    Calls Tryz.prog 33 #[.pointer (some ⟨q.g, 0, none⟩)] w fun e w' => ∃ (v0 : Int) (a2 : Option Addr) (n2 c2 : Nat) (v1 : ByteArray) (k' sz' : Nat) (bad' : Bool), e = .returned (.agg #[.int .i64 v0, .slice a2 n2 c2, .string v1]) ∧ StepR q M.pSh (fun x => ShQ (Fresh w w') w' [.int .i64 v0, .slice a2 n2 c2, .string v1] x) w w' k sz bad k' sz' bad' := by
  have H0 : Hid (Rd q (w.alloc (.cells #[.int .i64 0, .slice none 0 0, .string ⟨#[]⟩] 51)) k sz bad ∧ Turn (fun i => i = q.g) w (w.alloc (.cells #[.int .i64 0, .slice none 0 0, .string ⟨#[]⟩] 51)) ∧ Blk (w.alloc (.cells #[.int .i64 0, .slice none 0 0, .string ⟨#[]⟩] 51)) w.heap.size 51 #[.int .i64 0, .slice none 0 0, .string ⟨#[]⟩]) := ⟨h.still ((Still.refl w).alloc _), (Turn.refl _ w).alloc _, Blk.new w _ _⟩
  have HN : Hid (q.g < w.heap.size ∧ q.b < w.heap.size) := ⟨h.blk.lt, h.lt⟩
  clear h
  go_enter Tryz.func33, Tryz.ntmps33
  go_wp2_with fail
  obtain ⟨w0, hw0⟩ : ∃ w0, (w.alloc (.cells #[.int .i64 0, .slice none 0 0, .string ⟨#[]⟩] 51)) = w0 := ⟨_, rfl⟩
  have HW0 : Hid (w.heap.size < w0.heap.size) := by show _ < _; rw [← hw0]; simp
  rw [hw0] at H0
  rw [hw0]
  clear hw0
  refine (rnumber_any hq H0.out.1).mono ?_; rintro e w1 ⟨v0, k1, b1, rfl, hi0, u1⟩
  have U1 := Lib.hid u1
  have Ehi0 := Lib.hid hi0
  have H1 : Hid (Turn (fun i => i = q.g) w w1 ∧ Blk w1 w.heap.size 51 #[.int .i64 0, .slice none 0 0, .string ⟨#[]⟩]) := ⟨(H0.out.2.1).trans u1.turn, (H0.out.2.2).keep u1.turn (by have := HN.out; omega)⟩
  clear u1 hi0
  go_wp2_with fail
  refine (takeInt_any M.pNum 38 (enters_of Tryz.func38 (by kernel_rfl) rfl) 200 (by decide) hq U1.out.rd (rnum_elem hq)).mono ?_; rintro e w2 ⟨a2, n2, c2, k2, s2, b2, rfl, hi2, u2⟩
  have U2 := Lib.hid u2
  have Ehi2 := Lib.hid hi2
  have H2 : Hid (Turn (fun i => i = q.g) w w2 ∧ Blk w2 w.heap.size 51 #[.int .i64 0, .slice none 0 0, .string ⟨#[]⟩]) := ⟨(H1.out.1).trans u2.turn, (H1.out.2).keep u2.turn (by have := HN.out; omega)⟩
  clear u2 hi2
  go_wp2_with fail
  refine (rtext_any hq U2.out.rd).mono ?_; rintro e w3 ⟨v1, k3, b3, rfl, hi1, u3⟩
  have U3 := Lib.hid u3
  have Ehi1 := Lib.hid hi1
  have H3 : Hid (Turn (fun i => i = q.g) w w3 ∧ Blk w3 w.heap.size 51 #[.int .i64 0, .slice none 0 0, .string ⟨#[]⟩]) := ⟨(H2.out.1).trans u3.turn, (H2.out.2).keep u3.turn (by have := HN.out; omega)⟩
  clear u3 hi1
  have c90 := H3.out.2.cell 0
  have f90 := H3.out.2.frozen 0
  have c91 := H3.out.2.cell 1
  have f91 := H3.out.2.frozen 1
  have c92 := H3.out.2.cell 2
  have f92 := H3.out.2.frozen 2
  have hl9 := H3.out.2.lt
  go_wp2_with fail
  have hb := setsB3 H3.out.2 (.int .i64 v0) (.slice a2 n2 c2) (.string v1)
  have ht := setsT3 w3 w.heap.size (.int .i64 v0) (.slice a2 n2 c2) (.string v1)
  refine bodyPost_ret (results_cell_row rfl _ _ w.heap.size 51 #[.int .i64 v0, .slice a2 n2 c2, .string v1] (0, 0) _ rfl hb Tryz.underlying51 rfl (by kernel_rfl)) rfl ?_
  obtain ⟨hgl, hbl⟩ := HN.out
  have hw0 := HW0.out
  have hi0 := Ehi0.out
  have hi2 := Ehi2.out
  have hi1 := Ehi1.out
  generalize hW9 : (((w3.setCell ⟨w.heap.size, 0, none⟩ (.int .i64 v0)).setCell ⟨w.heap.size, 1, none⟩ (.slice a2 n2 c2)).setCell ⟨w.heap.size, 2, none⟩ (.string v1)) = w9 at hb ht ⊢
  have tt := turn_box H3.out.1 ht (Nat.le_refl _)
  refine ⟨v0, a2, n2, c2, v1, k3, s2, b3, rfl, ?_⟩
  have hz1 : w0.heap.size ≤ w1.heap.size := by have := U1.out.turn.size; omega
  have K1 : Kept (Fresh w1 w2) (Fresh w w9) w2 w9 := kept_fresh (g := q.g) (i := w.heap.size) (by omega) (by omega) (by omega) ((Turn.refl _ _).trans U3.out.turn) ht
  have hrd := U3.out.rd.turn ht (by omega) (by omega)
  refine (StepR.pair (Z := fun x => ShQ (Fresh w w9) w9 [.int .i64 v0, .slice a2 n2 c2, .string v1] x) U1.out (StepR.pair (Z := fun x => LiesQ (Fresh w1 w2) w2 1 IntIs a2 n2 x.1 ∧ v1 = x.2) U2.out (U3.out) ((U2.out.turn).trans U3.out.turn) (fun x y hx hy => ⟨hx, hy⟩)) (((U1.out.turn).trans U2.out.turn).trans U3.out.turn) ?_).into hrd tt fun x hx => hx
  rintro x0 ⟨x1, x2⟩ y0 ⟨y1, y2⟩
  dsimp only at y1 y2 ⊢
  subst y0
  subst y2
  exact ⟨a2, n2, c2, rfl, by unfold maxLen; omega, hi0, by show v1.size ≤ maxLen; unfold maxLen; omega, LiesQ.keep y1 K1 fun _ _ h => h⟩
end Go.Proofs.YthlifflapgccbaaGreat
/- takeList of numbers and of instructions: the count of instructions is kept. -/
namespace Go.Proofs.YthlifflapgccbaaGreat
set_option linter.unusedVariables false
set_option linter.unusedSimpArgs false
open Go.ChangeShapes Go.WideShapes Go.ChangeAt Go.RowKit
open M (W)
set_option maxRecDepth 100000 in
set_option maxHeartbeats 1000000 in
theorem takeNum_any (p : M.Par Int) (fid : FuncId) (hfid : ∀ args W, (callFunc fid args).run Tryz.prog W = .ok (.enter fid args) W) (most : Nat) (hm : most ≤ 1000000) {q : RP} (hq : q.ok) {w : World} {k sz : Nat} {bad : Bool} (h : Rd q w k sz bad)
    (hf : ∀ (W : World) (k sz : Nat) (bad : Bool), Rd q W k sz bad → Calls Tryz.prog fid #[.pointer (some ⟨q.g, 0, none⟩)] W fun e w' => ∃ (v0 : Int) (k' : Nat) (bad' : Bool), e = .returned (.int .i64 v0) ∧ StepR q p (fun x => (fun _ _ => IntIs) (Fresh W w') w' [.int .i64 v0] x) W w' k sz bad k' sz bad') :
    Calls Tryz.prog 59 #[.pointer (some ⟨q.g, 0, none⟩), .int .i64 most, .func (.func fid) #[.pointer (some ⟨q.g, 0, none⟩)] #[]] w fun e w' => ∃ (a : Option Addr) (n c k' : Nat) (bad' : Bool), e = .returned (.slice a n c) ∧ n ≤ most ∧ StepR q (M.pList most p) (fun l => LiesQ (Fresh w w') w' 1 ((fun _ _ => IntIs) (Fresh w w') w') a n l) w w' k sz bad k' sz bad' := by
  have H := Lib.hid (rlength_any most hm hq h)
  have HM := Lib.hid hm
  have HF := Lib.hid hf
  have HFID := Lib.hid hfid
  clear h hq hm hf hfid
  go_enter Tryz.func59, Tryz.ntmps59
  go_wp2_with fail
  refine H.out.mono ?_; rintro e w1 ⟨n, k1, b1, rfl, hn1, hn2, hs⟩
  have HS1 := Lib.hid hs
  have HN := Lib.hid hn1
  clear hs hn1 hn2
  by_cases h0 : n = 0
  · subst h0
    go_wp2_with fail
    go_ret
    exact ⟨none, 0, 0, k1, b1, rfl, Nat.zero_le _, list_done (i := 0) HS1.out (StepR.refl (V := fun l => l = []) HS1.out.rd rfl) (Nat.le_refl _) (.inr rfl) fun _ l hl => by subst hl; exact ⟨rfl, fun h => absurd h (by omega)⟩⟩
  · skip
    have x0 : ((n : Int) == 0) = false := beq_eq_false_iff_ne.2 (by omega)
    obtain ⟨C, hC, hmk⟩ : ∃ C : Array Value, C.size = n * 1 ∧ ∀ W, (Instr.makeSlice 46 (.int .i64 0) (.int .i64 (n : Int))).run Tryz.prog W = .ok (.slice (some ⟨W.heap.size, 0, none⟩) 0 n) (W.alloc (.cells C 3)) :=
      ⟨_, size_madeCells _ _, run_make_cap (P := Tryz.prog) 46 3 _ 1 8 Tryz.underlying46 infoTInt .i64 .i64 n (by have := HN.out; have := HM.out; omega) (by have := HN.out; have := HM.out; unfold maxLen; omega)⟩
    have HC := Lib.hid hC
    clear hC
    have H0 := Lib.hid h0
    clear h0
    have hgl := HS1.out.rd.blk.lt
    have hbl := HS1.out.rd.lt
    go_wp2_with fail
    go_loopw [8] (fun v wr => ∃ (vs : List (List Value)) (a : Option Addr) (i c k2 : Nat) (b2 : Bool), v = .slice a i c ∧ i ≤ n ∧ Tk q p 3 1 (fun _ _ => IntIs) w1 k1 sz b1 vs a i c wr k2 sz b2) (fun v _ => n - lenV v)
    case atStart =>
      have st : Still w1 (w1.alloc (.cells C 3)) := (Still.refl w1).alloc _
      exact ⟨[], _, 0, _, k1, b1, rfl, Nat.zero_le _, Tk.none (HS1.out.rd.still st) st.turn (World.ownsRow_made w1 _ n (Nat.le_refl _) (by have := HN.out; have := HM.out; unfold maxLen; omega) HC.out)⟩
    case round =>
      obtain ⟨vs, a, i, c, k2, b2, rfl, hi, htk⟩ := hrel
      obtain ⟨hl, d0, d1, d2, d3, f1, f2, f3⟩ := rd_cells htk.step.rd
      have HT := Lib.hid htk
      have HI := Lib.hid hi
      by_cases hlt : i < n
      · have x1 : decide ((i : Int) < n) = true := decide_eq_true (by omega)
        cases b2 with
        | true =>
          have HLT := Lib.hid hlt
          clear htk hi hlt
          go_wp2_with fail
          go_ret
          exact ⟨a, i, c, k2, true, rfl, Nat.le_trans HI.out HN.out, list_done HS1.out HT.out.step HI.out (.inl rfl) fun e => absurd e (by have := HLT.out; omega)⟩
        | false =>
          have HCALL := Lib.hid (HF.out wr k2 sz false htk.step.rd)
          have hfid := HFID.out
          have HLT := Lib.hid hlt
          clear htk hi hlt
          go_wp2_with fail
          refine HCALL.out.mono ?_; rintro e w2 ⟨v0, k3, b3, rfl, hu⟩
          have HU := Lib.hid hu
          clear hu hfid
          have hgo := HU.out.turn.size
          have ho2 := own_keep HT.out.own HU.out.turn (fun j e e2 => by have := (HT.out.own.lt j e).1; omega)
          have HO2 := Lib.hid ho2
          have h1 := HN.out
          have h2 := HM.out
          have h3 := HLT.out
          have HSZ : w1.heap.size ≤ w2.heap.size := Nat.le_trans HT.out.step.turn.size HU.out.turn.size
          clear ho2 hgo
          go_wp2_with (at_builtin; refine wpList_append_form rfl (.tmp 27) (.tmp 30) 46 rfl w1.heap.size 3 1 8 _ Tryz.underlying46 infoTInt rfl (by decide) a i c vs.flatten rfl (HO2.out.alloc _) ⟨w2.heap.size, 0, none⟩ 1 1 [.int .i64 v0] rfl rfl (fun j u hj => by rw [Addr.add_lit, Nat.zero_add, (Blk.new w2 3 #[.int .i64 v0]).cell j]; simpa using hj) (by simp [Value.oneCell']) (by decide) (by unfold maxLen; omega) (by omega) (by simp; omega) ?_; intro g4 c4 w4 hr4 ht4 hn4)
          go_roundw
          case rel =>
            refine ⟨vs ++ [[.int .i64 v0]], some ⟨g4, 0, none⟩, i + 1, c4, k3, b3, rfl, by omega, Tk.next (P := (fun _ _ => IntIs)) (fun _ _ _ _ _ _ h _ => h) HT.out hgl hbl HU.out rfl ((Still.refl w2).alloc _) (HO2.out.alloc _) ht4.out hr4.out ?_⟩
            rcases hn4.out with e | e
            · exact .inl (by rw [e]; rfl)
            · exact .inr fun j hj => by
                have : g4 = j := by simpa [Value.ownBlock] using hj
                rw [← this]; exact e
          case measure => simp [lenV]; omega
      · obtain rfl : i = n := by omega
        have x1 : decide ((i : Int) < i) = false := decide_eq_false (by omega)
        clear htk hi hlt
        go_wp2_with fail
        go_ret
        exact ⟨a, i, c, k2, b2, rfl, HN.out, list_done HS1.out HT.out.step HI.out (.inr rfl) fun _ l hl => Tk.lies (P := (fun _ _ => IntIs)) (fun _ _ _ _ _ _ h _ => h) HT.out HS1.out.turn.size hl.1 hl.2⟩
set_option maxRecDepth 100000 in
set_option maxHeartbeats 1000000 in
theorem takeInn_any (p : M.Par M.Ins) (fid : FuncId) (hfid : ∀ args W, (callFunc fid args).run Tryz.prog W = .ok (.enter fid args) W) (most : Nat) (hm : most ≤ 1000000) {q : RP} (hq : q.ok) {w : World} {k sz : Nat} {bad : Bool} (h : Rd q w k sz bad)
    (hf : ∀ (W : World) (k sz : Nat) (bad : Bool), Rd q W k sz bad → Calls Tryz.prog fid #[.pointer (some ⟨q.g, 0, none⟩)] W fun e w' => ∃ (v0 v1 v2 v3 v4 v5 : Int) (la : Option Addr) (ln lc : Nat) (ma : Option Addr) (mn mc : Nat) (va : Option Addr) (vn vc : Nat) (k' : Nat) (bad' : Bool), e = .returned (.agg #[.int .i64 v0, .int .i64 v1, .int .i64 v2, .int .i64 v3, .int .i64 v4, .int .i64 v5, .slice la ln lc, .slice ma mn mc, .slice va vn vc]) ∧ StepR q p (fun x => InsQ (Fresh W w') w' [.int .i64 v0, .int .i64 v1, .int .i64 v2, .int .i64 v3, .int .i64 v4, .int .i64 v5, .slice la ln lc, .slice ma mn mc, .slice va vn vc] x) W w' k sz bad k' sz bad') :
    Calls Tryz.prog 89 #[.pointer (some ⟨q.g, 0, none⟩), .int .i64 most, .func (.func fid) #[.pointer (some ⟨q.g, 0, none⟩)] #[]] w fun e w' => ∃ (a : Option Addr) (n c k' : Nat) (bad' : Bool), e = .returned (.slice a n c) ∧ n ≤ most ∧ StepR q (M.pList most p) (fun l => LiesQ (Fresh w w') w' 9 (InsQ (Fresh w w') w') a n l) w w' k sz bad k' sz bad' := by
  have H := Lib.hid (rlength_any most hm hq h)
  have HM := Lib.hid hm
  have HF := Lib.hid hf
  have HFID := Lib.hid hfid
  clear h hq hm hf hfid
  go_enter Tryz.func89, Tryz.ntmps89
  go_wp2_with fail
  refine H.out.mono ?_; rintro e w1 ⟨n, k1, b1, rfl, hn1, hn2, hs⟩
  have HS1 := Lib.hid hs
  have HN := Lib.hid hn1
  clear hs hn1 hn2
  by_cases h0 : n = 0
  · subst h0
    go_wp2_with fail
    go_ret
    exact ⟨none, 0, 0, k1, b1, rfl, Nat.zero_le _, list_done (i := 0) HS1.out (StepR.refl (V := fun l => l = []) HS1.out.rd rfl) (Nat.le_refl _) (.inr rfl) fun _ l hl => by subst hl; exact ⟨rfl, fun h => absurd h (by omega)⟩⟩
  · skip
    have x0 : ((n : Int) == 0) = false := beq_eq_false_iff_ne.2 (by omega)
    obtain ⟨C, hC, hmk⟩ : ∃ C : Array Value, C.size = n * 9 ∧ ∀ W, (Instr.makeSlice 83 (.int .i64 0) (.int .i64 (n : Int))).run Tryz.prog W = .ok (.slice (some ⟨W.heap.size, 0, none⟩) 0 n) (W.alloc (.cells C 70)) :=
      ⟨_, size_madeCells _ _, run_make_cap (P := Tryz.prog) 83 70 _ 9 120 Tryz.underlying83 infoTIns .i64 .i64 n (by have := HN.out; have := HM.out; omega) (by have := HN.out; have := HM.out; unfold maxLen; omega)⟩
    have HC := Lib.hid hC
    clear hC
    have H0 := Lib.hid h0
    clear h0
    have hgl := HS1.out.rd.blk.lt
    have hbl := HS1.out.rd.lt
    go_wp2_with fail
    go_loopw [8] (fun v wr => ∃ (vs : List (List Value)) (a : Option Addr) (i c k2 : Nat) (b2 : Bool), v = .slice a i c ∧ i ≤ n ∧ Tk q p 70 9 InsQ w1 k1 sz b1 vs a i c wr k2 sz b2) (fun v _ => n - lenV v)
    case atStart =>
      have st : Still w1 (w1.alloc (.cells C 70)) := (Still.refl w1).alloc _
      exact ⟨[], _, 0, _, k1, b1, rfl, Nat.zero_le _, Tk.none (HS1.out.rd.still st) st.turn (World.ownsRow_made w1 _ n (Nat.le_refl _) (by have := HN.out; have := HM.out; unfold maxLen; omega) HC.out)⟩
    case round =>
      obtain ⟨vs, a, i, c, k2, b2, rfl, hi, htk⟩ := hrel
      obtain ⟨hl, d0, d1, d2, d3, f1, f2, f3⟩ := rd_cells htk.step.rd
      have HT := Lib.hid htk
      have HI := Lib.hid hi
      by_cases hlt : i < n
      · have x1 : decide ((i : Int) < n) = true := decide_eq_true (by omega)
        cases b2 with
        | true =>
          have HLT := Lib.hid hlt
          clear htk hi hlt
          go_wp2_with fail
          go_ret
          exact ⟨a, i, c, k2, true, rfl, Nat.le_trans HI.out HN.out, list_done HS1.out HT.out.step HI.out (.inl rfl) fun e => absurd e (by have := HLT.out; omega)⟩
        | false =>
          have HCALL := Lib.hid (HF.out wr k2 sz false htk.step.rd)
          have hfid := HFID.out
          have HLT := Lib.hid hlt
          clear htk hi hlt
          go_wp2_with fail
          refine HCALL.out.mono ?_; rintro e w2 ⟨v0, v1, v2, v3, v4, v5, la, ln, lc, ma, mn, mc, va, vn, vc, k3, b3, rfl, hu⟩
          have HU := Lib.hid hu
          clear hu hfid
          have hgo := HU.out.turn.size
          have ho2 := own_keep HT.out.own HU.out.turn (fun j e e2 => by have := (HT.out.own.lt j e).1; omega)
          have HO2 := Lib.hid ho2
          have h1 := HN.out
          have h2 := HM.out
          have h3 := HLT.out
          have HSZ : w1.heap.size ≤ w2.heap.size := Nat.le_trans HT.out.step.turn.size HU.out.turn.size
          clear ho2 hgo
          go_wp2_with (at_builtin; refine wpList_append_form rfl (.tmp 27) (.tmp 30) 83 rfl w1.heap.size 70 9 120 _ Tryz.underlying83 infoTIns rfl (by decide) a i c vs.flatten rfl (HO2.out.alloc _) ⟨w2.heap.size, 0, none⟩ 1 1 [.int .i64 v0, .int .i64 v1, .int .i64 v2, .int .i64 v3, .int .i64 v4, .int .i64 v5, .slice la ln lc, .slice ma mn mc, .slice va vn vc] rfl rfl (fun j u hj => by rw [Addr.add_lit, Nat.zero_add, (Blk.new w2 70 #[.int .i64 v0, .int .i64 v1, .int .i64 v2, .int .i64 v3, .int .i64 v4, .int .i64 v5, .slice la ln lc, .slice ma mn mc, .slice va vn vc]).cell j]; simpa using hj) (by simp [Value.oneCell']) (by decide) (by unfold maxLen; omega) (by omega) (by simp; omega) ?_; intro g4 c4 w4 hr4 ht4 hn4)
          go_roundw
          case rel =>
            refine ⟨vs ++ [[.int .i64 v0, .int .i64 v1, .int .i64 v2, .int .i64 v3, .int .i64 v4, .int .i64 v5, .slice la ln lc, .slice ma mn mc, .slice va vn vc]], some ⟨g4, 0, none⟩, i + 1, c4, k3, b3, rfl, by omega, Tk.next (P := InsQ) (fun _ _ _ _ _ _ h k => h.keep k) HT.out hgl hbl HU.out rfl ((Still.refl w2).alloc _) (HO2.out.alloc _) ht4.out hr4.out ?_⟩
            rcases hn4.out with e | e
            · exact .inl (by rw [e]; rfl)
            · exact .inr fun j hj => by
                have : g4 = j := by simpa [Value.ownBlock] using hj
                rw [← this]; exact e
          case measure => simp [lenV]; omega
      · obtain rfl : i = n := by omega
        have x1 : decide ((i : Int) < i) = false := decide_eq_false (by omega)
        clear htk hi hlt
        go_wp2_with fail
        go_ret
        exact ⟨a, i, c, k2, b2, rfl, HN.out, list_done HS1.out HT.out.step HI.out (.inr rfl) fun _ l hl => Tk.lies (P := InsQ) (fun _ _ _ _ _ _ h k => h.keep k) HT.out HS1.out.turn.size hl.1 hl.2⟩
end Go.Proofs.YthlifflapgccbaaGreat
/- The reader in memory: a part of an instruction, into its box. -/
namespace Go.Proofs.YthlifflapgccbaaGreat
set_option linter.unusedVariables false
set_option linter.unusedSimpArgs false
open Go.ChangeShapes Go.WideShapes Go.ChangeAt Go.RowKit
open M (W)
theorem rnum_elemN {q : RP} (hq : q.ok) (W : World) (k sz : Nat) (bad : Bool) (h : Rd q W k sz bad) : Calls Tryz.prog 38 #[.pointer (some ⟨q.g, 0, none⟩)] W fun e w' => ∃ (v0 : Int) (k' : Nat) (bad' : Bool), e = .returned (.int .i64 v0) ∧ StepR q M.pNum (fun x => IntIs [.int .i64 v0] x) W w' k sz bad k' sz bad' :=
  (rnumber_any hq h).mono fun e w' ⟨n, k', b', h1, h2, h3⟩ => ⟨n, k', b', h1, h3.into h3.rd h3.turn fun x hx => by subst hx; exact ⟨rfl, h2⟩⟩
/-- What lies in an instruction's box. -/
structure IV where
  o : Int
  d : Int
  a : Int
  b : Int
  c : Int
  n : Int
  la : Option Addr
  ln : Nat
  lc : Nat
  ma : Option Addr
  mn : Nat
  mc : Nat
  va : Option Addr
  vn : Nat
  vc : Nat
def IV.cells (v : IV) : List Value := [.int .i64 v.o, .int .i64 v.d, .int .i64 v.a, .int .i64 v.b, .int .i64 v.c, .int .i64 v.n, .slice v.la v.ln v.lc, .slice v.ma v.mn v.mc, .slice v.va v.vn v.vc]
def IV.arr (v : IV) : Array Value := #[.int .i64 v.o, .int .i64 v.d, .int .i64 v.a, .int .i64 v.b, .int .i64 v.c, .int .i64 v.n, .slice v.la v.ln v.lc, .slice v.ma v.mn v.mc, .slice v.va v.vn v.vc]
/-- New since wB, but the box itself and one more. -/
def Inside (wB : World) (X K : Nat) (w : World) (b : Nat) : Prop := wB.heap.size ≤ b ∧ b < w.heap.size ∧ b ≠ X ∧ b ≠ K
theorem kept_inside {wB w w1 w2 : World} {g X K : Nat} (hg : g < wB.heap.size) (t : Turn (fun k => k = g) w w1) (t2 : Turn (fun k => k = X) w1 w2) : Kept (Inside wB X K w) (Inside wB X K w2) w w2 :=
  ⟨fun b hb => (t2.block b (Nat.lt_of_lt_of_le hb.2.1 t.size) hb.2.2.1).trans (t.block b hb.2.1 (by have := hb.1; omega)), fun b hb => ⟨hb.1, Nat.lt_of_lt_of_le hb.2.1 (Nat.le_trans t.size t2.size), hb.2.2⟩⟩
theorem fresh_inside {wB w w1 w2 : World} {X K : Nat} (hX : X < w.heap.size) (hK : K < w.heap.size) (hs : wB.heap.size ≤ w.heap.size) (t2 : Turn (fun k => k = X) w1 w2) : Kept (Fresh w w1) (Inside wB X K w2) w1 w2 :=
  ⟨fun b hb => t2.block b hb.2 (by have := hb.1; omega), fun b hb => ⟨Nat.le_trans hs hb.1, Nat.lt_of_lt_of_le hb.2 t2.size, by have := hb.1; omega, by have := hb.1; omega⟩⟩
theorem StepR.one {α β : Type} {q : RP} {p : M.Par α} {f : α → α → β} {V : α → Prop} {Z : β → Prop} {w w' wa wb : World} {k sz k1 s1 : Nat} {bad b1 : Bool} (h : StepR q p V wa wb k sz bad k1 s1 b1) (hr : Rd q w' k1 s1 b1) (ht : Turn (fun i => i = q.g) w w') (hV : ∀ x, V x → Z (f x x)) : StepR q (M.andThen p (fun n z R => some (n, z, R)) f) Z w w' k sz bad k1 s1 b1 :=
  ⟨hr, ht, h.stay, fun hb e => by
    unfold M.andThen at e
    cases hp : p sz (q.L.drop k) with
    | none => exact h.no hb hp
    | some y =>
      obtain ⟨x, z1, R1⟩ := y
      rw [hp] at e
      exact absurd e (by simp), fun hb x s3 R3 e => by
    unfold M.andThen at e
    cases hp : p sz (q.L.drop k) with
    | none => rw [hp] at e; exact absurd e (by simp)
    | some y =>
      obtain ⟨x1, z1, R1⟩ := y
      rw [hp] at e
      simp only [Option.some.injEq, Prod.mk.injEq] at e
      obtain ⟨rfl, rfl, rfl⟩ := e
      obtain ⟨y1, y2, y3, y4⟩ := h.yes hb _ _ _ hp
      exact ⟨y1, y2, y3, hV _ y4⟩⟩
theorem field68 (x : M.Ins) : M.pField x 68 = M.andThen M.pNum (fun n z R => some (n, z, R)) (fun n _ => { x with d := n }) := by unfold M.pField; rfl
theorem field65 (x : M.Ins) : M.pField x 65 = M.andThen M.pNum (fun n z R => some (n, z, R)) (fun n _ => { x with a := n }) := by unfold M.pField; rfl
theorem field66 (x : M.Ins) : M.pField x 66 = M.andThen M.pNum (fun n z R => some (n, z, R)) (fun n _ => { x with b := n }) := by unfold M.pField; rfl
theorem field67 (x : M.Ins) : M.pField x 67 = M.andThen M.pNum (fun n z R => some (n, z, R)) (fun n _ => { x with c := n }) := by unfold M.pField; rfl
theorem field78 (x : M.Ins) : M.pField x 78 = M.andThen M.pNum (fun n z R => some (n, z, R)) (fun n _ => { x with n := n }) := by unfold M.pField; rfl
theorem field76 (x : M.Ins) : M.pField x 76 = M.andThen (M.pList 1024 M.pNum) (fun n z R => some (n, z, R)) (fun n _ => { x with l := n }) := by unfold M.pField; rfl
theorem field77 (x : M.Ins) : M.pField x 77 = M.andThen (M.pList 1024 M.pNum) (fun n z R => some (n, z, R)) (fun n _ => { x with m := n }) := by unfold M.pField; rfl
theorem field108 (x : M.Ins) : M.pField x 108 = M.andThen (M.pList 200 M.pNum) (fun n z R => some (n, z, R)) (fun n _ => { x with v := n }) := by unfold M.pField; rfl
theorem turn_or {w w1 w2 : World} {g X : Nat} (t : Turn (fun k => k = g) w w1) (t2 : Turn (fun k => k = X) w1 w2) : Turn (fun k => k = g ∨ k = X) w w2 :=
  (t.mono fun _ _ e => .inl e).trans (t2.mono fun _ _ e => .inr e)
set_option maxRecDepth 100000 in
set_option maxHeartbeats 2000000 in
theorem rfield_any (ch : UInt8) (hch : ch = 68 ∨ ch = 65 ∨ ch = 66 ∨ ch = 67 ∨ ch = 78 ∨ ch = 76 ∨ ch = 77 ∨ ch = 108) {q : RP} (hq : q.ok) {wB w : World} {X k sz : Nat} {bad : Bool} (K : Nat) (hK : K < w.heap.size) (v : IV) (hX : wB.heap.size ≤ X) (hgB : q.g < wB.heap.size) (hbB : q.b < wB.heap.size) (t : Turn (fun i => i = q.g) wB w) (h : Rd q w k sz bad) (hx : Blk w X 70 v.arr) :
    Calls Tryz.prog 105 #[.pointer (some ⟨q.g, 0, none⟩), .pointer (some ⟨X, 0, none⟩), .int .i32 (ch.toNat : Int)] w fun e w' => e = .returned (.tuple #[]) ∧ ∃ (v' : IV) (k' : Nat) (bad' : Bool), Blk w' X 70 v'.arr ∧ Turn (fun i => i = q.g ∨ i = X) w w' ∧
      ∀ x, StepR q (M.pField x ch) (fun y => InsQ (Inside wB X K w) w v.cells x → InsQ (Inside wB X K w') w' v'.cells y) wB w' k sz bad k' sz bad' := by
  obtain ⟨xo, xd, xa, xb, xc, xn, la, ln, lc, ma, mn, mc, va, vn, vc⟩ := v
  have hx' : Blk w X 70 #[.int .i64 xo, .int .i64 xd, .int .i64 xa, .int .i64 xb, .int .i64 xc, .int .i64 xn, .slice la ln lc, .slice ma mn mc, .slice va vn vc] := hx
  have HX := Lib.hid hx'
  have HH := Lib.hid h
  have HT := Lib.hid t
  have HB := Lib.hid (And.intro hX (And.intro hgB hbB))
  have HXL : Hid (X < w.heap.size) := hx.lt
  have HXG : Hid (X ≠ q.g) := by show _ ≠ _; omega
  clear h hx hx' t hX hgB hbB
  rcases hch with rfl | rfl | rfl | rfl | rfl | rfl | rfl | rfl
  · skip
    have H1 := Lib.hid (rnumber_any hq HH.out)
    clear HH hq
    go_enter Tryz.func105, Tryz.ntmps105
    go_wp2_with fail
    refine H1.out.mono ?_; rintro e w1 ⟨y, k1, b1, rfl, hi, u⟩
    have U := Lib.hid (And.intro hi u)
    have hbx := HX.out.keep u.turn HXG.out
    have HBX := Lib.hid hbx
    obtain ⟨e0, e1, e2, e3, e4, e5, e6, e7, e8, e9⟩ := insBox hbx
    have f9 := hbx.frozen 1
    clear u hi hbx H1
    go_wp2_with fail
    go_end0
    have t2 : Turn (fun i => i = X) w1 (w1.setCell ⟨X, 1, none⟩ (.int .i64 y)) := (Turn.refl (fun i => i = X) w1).setCell (p := ⟨X, 1, none⟩) (fun _ => rfl) _
    have hb2 : Blk (w1.setCell ⟨X, 1, none⟩ (.int .i64 y)) X 70 #[.int .i64 xo, .int .i64 y, .int .i64 xa, .int .i64 xb, .int .i64 xc, .int .i64 xn, .slice la ln lc, .slice ma mn mc, .slice va vn vc] := by have := HBX.out.set 1 (.int .i64 y); simpa using this
    obtain ⟨hX, hgB, hbB⟩ := HB.out
    generalize w1.setCell ⟨X, 1, none⟩ (.int .i64 y) = w9 at t2 hb2 ⊢
    refine ⟨rfl, ⟨xo, y, xa, xb, xc, xn, la, ln, lc, ma, mn, mc, va, vn, vc⟩, k1, b1, hb2, turn_or U.out.2.turn t2, fun x => ?_⟩
    rw [field68]
    refine U.out.2.one (U.out.2.rd.turn t2 (by omega) (by omega)) (turn_box (HT.out.trans U.out.2.turn) t2 hX) fun z hz hp => ?_
    have hk := kept_inside (K := K) hgB U.out.2.turn t2
    obtain ⟨la', ln', lc', ma', mn', mc', va', vn', vc', he, hl, hm, hv, ⟨k0, k1', k2, k3, k4, k5⟩, il, im, iv⟩ := hp
    simp only [IV.cells, List.cons.injEq, Value.slice.injEq, Value.int.injEq, and_true, true_and] at he
    obtain ⟨rfl, rfl, rfl, rfl, rfl, rfl, ⟨rfl, rfl, rfl⟩, ⟨rfl, rfl, rfl⟩, ⟨rfl, rfl, rfl⟩⟩ := he
    subst hz
    exact ⟨la, ln, lc, ma, mn, mc, va, vn, vc, rfl, hl, hm, hv, ⟨k0, U.out.1, k2, k3, k4, k5⟩, il.keep hk, im.keep hk, iv.keep hk⟩
  · skip
    have H1 := Lib.hid (rnumber_any hq HH.out)
    clear HH hq
    go_enter Tryz.func105, Tryz.ntmps105
    go_wp2_with fail
    refine H1.out.mono ?_; rintro e w1 ⟨y, k1, b1, rfl, hi, u⟩
    have U := Lib.hid (And.intro hi u)
    have hbx := HX.out.keep u.turn HXG.out
    have HBX := Lib.hid hbx
    obtain ⟨e0, e1, e2, e3, e4, e5, e6, e7, e8, e9⟩ := insBox hbx
    have f9 := hbx.frozen 2
    clear u hi hbx H1
    go_wp2_with fail
    go_end0
    have t2 : Turn (fun i => i = X) w1 (w1.setCell ⟨X, 2, none⟩ (.int .i64 y)) := (Turn.refl (fun i => i = X) w1).setCell (p := ⟨X, 2, none⟩) (fun _ => rfl) _
    have hb2 : Blk (w1.setCell ⟨X, 2, none⟩ (.int .i64 y)) X 70 #[.int .i64 xo, .int .i64 xd, .int .i64 y, .int .i64 xb, .int .i64 xc, .int .i64 xn, .slice la ln lc, .slice ma mn mc, .slice va vn vc] := by have := HBX.out.set 2 (.int .i64 y); simpa using this
    obtain ⟨hX, hgB, hbB⟩ := HB.out
    generalize w1.setCell ⟨X, 2, none⟩ (.int .i64 y) = w9 at t2 hb2 ⊢
    refine ⟨rfl, ⟨xo, xd, y, xb, xc, xn, la, ln, lc, ma, mn, mc, va, vn, vc⟩, k1, b1, hb2, turn_or U.out.2.turn t2, fun x => ?_⟩
    rw [field65]
    refine U.out.2.one (U.out.2.rd.turn t2 (by omega) (by omega)) (turn_box (HT.out.trans U.out.2.turn) t2 hX) fun z hz hp => ?_
    have hk := kept_inside (K := K) hgB U.out.2.turn t2
    obtain ⟨la', ln', lc', ma', mn', mc', va', vn', vc', he, hl, hm, hv, ⟨k0, k1', k2, k3, k4, k5⟩, il, im, iv⟩ := hp
    simp only [IV.cells, List.cons.injEq, Value.slice.injEq, Value.int.injEq, and_true, true_and] at he
    obtain ⟨rfl, rfl, rfl, rfl, rfl, rfl, ⟨rfl, rfl, rfl⟩, ⟨rfl, rfl, rfl⟩, ⟨rfl, rfl, rfl⟩⟩ := he
    subst hz
    exact ⟨la, ln, lc, ma, mn, mc, va, vn, vc, rfl, hl, hm, hv, ⟨k0, k1', U.out.1, k3, k4, k5⟩, il.keep hk, im.keep hk, iv.keep hk⟩
  · skip
    have H1 := Lib.hid (rnumber_any hq HH.out)
    clear HH hq
    go_enter Tryz.func105, Tryz.ntmps105
    go_wp2_with fail
    refine H1.out.mono ?_; rintro e w1 ⟨y, k1, b1, rfl, hi, u⟩
    have U := Lib.hid (And.intro hi u)
    have hbx := HX.out.keep u.turn HXG.out
    have HBX := Lib.hid hbx
    obtain ⟨e0, e1, e2, e3, e4, e5, e6, e7, e8, e9⟩ := insBox hbx
    have f9 := hbx.frozen 3
    clear u hi hbx H1
    go_wp2_with fail
    go_end0
    have t2 : Turn (fun i => i = X) w1 (w1.setCell ⟨X, 3, none⟩ (.int .i64 y)) := (Turn.refl (fun i => i = X) w1).setCell (p := ⟨X, 3, none⟩) (fun _ => rfl) _
    have hb2 : Blk (w1.setCell ⟨X, 3, none⟩ (.int .i64 y)) X 70 #[.int .i64 xo, .int .i64 xd, .int .i64 xa, .int .i64 y, .int .i64 xc, .int .i64 xn, .slice la ln lc, .slice ma mn mc, .slice va vn vc] := by have := HBX.out.set 3 (.int .i64 y); simpa using this
    obtain ⟨hX, hgB, hbB⟩ := HB.out
    generalize w1.setCell ⟨X, 3, none⟩ (.int .i64 y) = w9 at t2 hb2 ⊢
    refine ⟨rfl, ⟨xo, xd, xa, y, xc, xn, la, ln, lc, ma, mn, mc, va, vn, vc⟩, k1, b1, hb2, turn_or U.out.2.turn t2, fun x => ?_⟩
    rw [field66]
    refine U.out.2.one (U.out.2.rd.turn t2 (by omega) (by omega)) (turn_box (HT.out.trans U.out.2.turn) t2 hX) fun z hz hp => ?_
    have hk := kept_inside (K := K) hgB U.out.2.turn t2
    obtain ⟨la', ln', lc', ma', mn', mc', va', vn', vc', he, hl, hm, hv, ⟨k0, k1', k2, k3, k4, k5⟩, il, im, iv⟩ := hp
    simp only [IV.cells, List.cons.injEq, Value.slice.injEq, Value.int.injEq, and_true, true_and] at he
    obtain ⟨rfl, rfl, rfl, rfl, rfl, rfl, ⟨rfl, rfl, rfl⟩, ⟨rfl, rfl, rfl⟩, ⟨rfl, rfl, rfl⟩⟩ := he
    subst hz
    exact ⟨la, ln, lc, ma, mn, mc, va, vn, vc, rfl, hl, hm, hv, ⟨k0, k1', k2, U.out.1, k4, k5⟩, il.keep hk, im.keep hk, iv.keep hk⟩
  · skip
    have H1 := Lib.hid (rnumber_any hq HH.out)
    clear HH hq
    go_enter Tryz.func105, Tryz.ntmps105
    go_wp2_with fail
    refine H1.out.mono ?_; rintro e w1 ⟨y, k1, b1, rfl, hi, u⟩
    have U := Lib.hid (And.intro hi u)
    have hbx := HX.out.keep u.turn HXG.out
    have HBX := Lib.hid hbx
    obtain ⟨e0, e1, e2, e3, e4, e5, e6, e7, e8, e9⟩ := insBox hbx
    have f9 := hbx.frozen 4
    clear u hi hbx H1
    go_wp2_with fail
    go_end0
    have t2 : Turn (fun i => i = X) w1 (w1.setCell ⟨X, 4, none⟩ (.int .i64 y)) := (Turn.refl (fun i => i = X) w1).setCell (p := ⟨X, 4, none⟩) (fun _ => rfl) _
    have hb2 : Blk (w1.setCell ⟨X, 4, none⟩ (.int .i64 y)) X 70 #[.int .i64 xo, .int .i64 xd, .int .i64 xa, .int .i64 xb, .int .i64 y, .int .i64 xn, .slice la ln lc, .slice ma mn mc, .slice va vn vc] := by have := HBX.out.set 4 (.int .i64 y); simpa using this
    obtain ⟨hX, hgB, hbB⟩ := HB.out
    generalize w1.setCell ⟨X, 4, none⟩ (.int .i64 y) = w9 at t2 hb2 ⊢
    refine ⟨rfl, ⟨xo, xd, xa, xb, y, xn, la, ln, lc, ma, mn, mc, va, vn, vc⟩, k1, b1, hb2, turn_or U.out.2.turn t2, fun x => ?_⟩
    rw [field67]
    refine U.out.2.one (U.out.2.rd.turn t2 (by omega) (by omega)) (turn_box (HT.out.trans U.out.2.turn) t2 hX) fun z hz hp => ?_
    have hk := kept_inside (K := K) hgB U.out.2.turn t2
    obtain ⟨la', ln', lc', ma', mn', mc', va', vn', vc', he, hl, hm, hv, ⟨k0, k1', k2, k3, k4, k5⟩, il, im, iv⟩ := hp
    simp only [IV.cells, List.cons.injEq, Value.slice.injEq, Value.int.injEq, and_true, true_and] at he
    obtain ⟨rfl, rfl, rfl, rfl, rfl, rfl, ⟨rfl, rfl, rfl⟩, ⟨rfl, rfl, rfl⟩, ⟨rfl, rfl, rfl⟩⟩ := he
    subst hz
    exact ⟨la, ln, lc, ma, mn, mc, va, vn, vc, rfl, hl, hm, hv, ⟨k0, k1', k2, k3, U.out.1, k5⟩, il.keep hk, im.keep hk, iv.keep hk⟩
  · skip
    have H1 := Lib.hid (rlong_any hq HH.out)
    clear HH hq
    go_enter Tryz.func105, Tryz.ntmps105
    go_wp2_with fail
    refine H1.out.mono ?_; rintro e w1 ⟨y, k1, b1, rfl, hi, u⟩
    have U := Lib.hid (And.intro hi u)
    have hbx := HX.out.keep u.turn HXG.out
    have HBX := Lib.hid hbx
    obtain ⟨e0, e1, e2, e3, e4, e5, e6, e7, e8, e9⟩ := insBox hbx
    have f9 := hbx.frozen 5
    clear u hi hbx H1
    go_wp2_with fail
    go_end0
    have t2 : Turn (fun i => i = X) w1 (w1.setCell ⟨X, 5, none⟩ (.int .i64 y)) := (Turn.refl (fun i => i = X) w1).setCell (p := ⟨X, 5, none⟩) (fun _ => rfl) _
    have hb2 : Blk (w1.setCell ⟨X, 5, none⟩ (.int .i64 y)) X 70 #[.int .i64 xo, .int .i64 xd, .int .i64 xa, .int .i64 xb, .int .i64 xc, .int .i64 y, .slice la ln lc, .slice ma mn mc, .slice va vn vc] := by have := HBX.out.set 5 (.int .i64 y); simpa using this
    obtain ⟨hX, hgB, hbB⟩ := HB.out
    generalize w1.setCell ⟨X, 5, none⟩ (.int .i64 y) = w9 at t2 hb2 ⊢
    refine ⟨rfl, ⟨xo, xd, xa, xb, xc, y, la, ln, lc, ma, mn, mc, va, vn, vc⟩, k1, b1, hb2, turn_or U.out.2.turn t2, fun x => ?_⟩
    rw [field78]
    refine U.out.2.one (U.out.2.rd.turn t2 (by omega) (by omega)) (turn_box (HT.out.trans U.out.2.turn) t2 hX) fun z hz hp => ?_
    have hk := kept_inside (K := K) hgB U.out.2.turn t2
    obtain ⟨la', ln', lc', ma', mn', mc', va', vn', vc', he, hl, hm, hv, ⟨k0, k1', k2, k3, k4, k5⟩, il, im, iv⟩ := hp
    simp only [IV.cells, List.cons.injEq, Value.slice.injEq, Value.int.injEq, and_true, true_and] at he
    obtain ⟨rfl, rfl, rfl, rfl, rfl, rfl, ⟨rfl, rfl, rfl⟩, ⟨rfl, rfl, rfl⟩, ⟨rfl, rfl, rfl⟩⟩ := he
    subst hz
    exact ⟨la, ln, lc, ma, mn, mc, va, vn, vc, rfl, hl, hm, hv, ⟨k0, k1', k2, k3, k4, U.out.1⟩, il.keep hk, im.keep hk, iv.keep hk⟩
  · skip
    have H1 := Lib.hid (takeNum_any M.pNum 38 (enters_of Tryz.func38 (by kernel_rfl) rfl) 1024 (by decide) hq HH.out (rnum_elemN hq))
    clear HH hq
    go_enter Tryz.func105, Tryz.ntmps105
    go_wp2_with fail
    refine H1.out.mono ?_; rintro e w1 ⟨ya, yn, yc, k1, b1, rfl, hi, u⟩
    have U := Lib.hid (And.intro hi u)
    have hbx := HX.out.keep u.turn HXG.out
    have HBX := Lib.hid hbx
    obtain ⟨e0, e1, e2, e3, e4, e5, e6, e7, e8, e9⟩ := insBox hbx
    have f9 := hbx.frozen 6
    clear u hi hbx H1
    go_wp2_with fail
    go_end0
    have t2 : Turn (fun i => i = X) w1 (w1.setCell ⟨X, 6, none⟩ (.slice ya yn yc)) := (Turn.refl (fun i => i = X) w1).setCell (p := ⟨X, 6, none⟩) (fun _ => rfl) _
    have hb2 : Blk (w1.setCell ⟨X, 6, none⟩ (.slice ya yn yc)) X 70 #[.int .i64 xo, .int .i64 xd, .int .i64 xa, .int .i64 xb, .int .i64 xc, .int .i64 xn, .slice ya yn yc, .slice ma mn mc, .slice va vn vc] := by have := HBX.out.set 6 (.slice ya yn yc); simpa using this
    obtain ⟨hX, hgB, hbB⟩ := HB.out
    generalize w1.setCell ⟨X, 6, none⟩ (.slice ya yn yc) = w9 at t2 hb2 ⊢
    refine ⟨rfl, ⟨xo, xd, xa, xb, xc, xn, ya, yn, yc, ma, mn, mc, va, vn, vc⟩, k1, b1, hb2, turn_or U.out.2.turn t2, fun x => ?_⟩
    rw [field76]
    refine U.out.2.one (U.out.2.rd.turn t2 (by omega) (by omega)) (turn_box (HT.out.trans U.out.2.turn) t2 hX) fun z hz hp => ?_
    have hk := kept_inside (K := K) hgB U.out.2.turn t2
    obtain ⟨la', ln', lc', ma', mn', mc', va', vn', vc', he, hl, hm, hv, ⟨k0, k1', k2, k3, k4, k5⟩, il, im, iv⟩ := hp
    simp only [IV.cells, List.cons.injEq, Value.slice.injEq, Value.int.injEq, and_true, true_and] at he
    obtain ⟨rfl, rfl, rfl, rfl, rfl, rfl, ⟨rfl, rfl, rfl⟩, ⟨rfl, rfl, rfl⟩, ⟨rfl, rfl, rfl⟩⟩ := he
    exact ⟨ya, yn, yc, ma, mn, mc, va, vn, vc, rfl, by have := U.out.1; unfold maxLen; omega, hm, hv, ⟨k0, k1', k2, k3, k4, k5⟩, LiesQ.keep hz (fresh_inside HXL.out hK HT.out.size t2) fun _ _ h => h, im.keep hk, iv.keep hk⟩
  · skip
    have H1 := Lib.hid (takeNum_any M.pNum 38 (enters_of Tryz.func38 (by kernel_rfl) rfl) 1024 (by decide) hq HH.out (rnum_elemN hq))
    clear HH hq
    go_enter Tryz.func105, Tryz.ntmps105
    go_wp2_with fail
    refine H1.out.mono ?_; rintro e w1 ⟨ya, yn, yc, k1, b1, rfl, hi, u⟩
    have U := Lib.hid (And.intro hi u)
    have hbx := HX.out.keep u.turn HXG.out
    have HBX := Lib.hid hbx
    obtain ⟨e0, e1, e2, e3, e4, e5, e6, e7, e8, e9⟩ := insBox hbx
    have f9 := hbx.frozen 7
    clear u hi hbx H1
    go_wp2_with fail
    go_end0
    have t2 : Turn (fun i => i = X) w1 (w1.setCell ⟨X, 7, none⟩ (.slice ya yn yc)) := (Turn.refl (fun i => i = X) w1).setCell (p := ⟨X, 7, none⟩) (fun _ => rfl) _
    have hb2 : Blk (w1.setCell ⟨X, 7, none⟩ (.slice ya yn yc)) X 70 #[.int .i64 xo, .int .i64 xd, .int .i64 xa, .int .i64 xb, .int .i64 xc, .int .i64 xn, .slice la ln lc, .slice ya yn yc, .slice va vn vc] := by have := HBX.out.set 7 (.slice ya yn yc); simpa using this
    obtain ⟨hX, hgB, hbB⟩ := HB.out
    generalize w1.setCell ⟨X, 7, none⟩ (.slice ya yn yc) = w9 at t2 hb2 ⊢
    refine ⟨rfl, ⟨xo, xd, xa, xb, xc, xn, la, ln, lc, ya, yn, yc, va, vn, vc⟩, k1, b1, hb2, turn_or U.out.2.turn t2, fun x => ?_⟩
    rw [field77]
    refine U.out.2.one (U.out.2.rd.turn t2 (by omega) (by omega)) (turn_box (HT.out.trans U.out.2.turn) t2 hX) fun z hz hp => ?_
    have hk := kept_inside (K := K) hgB U.out.2.turn t2
    obtain ⟨la', ln', lc', ma', mn', mc', va', vn', vc', he, hl, hm, hv, ⟨k0, k1', k2, k3, k4, k5⟩, il, im, iv⟩ := hp
    simp only [IV.cells, List.cons.injEq, Value.slice.injEq, Value.int.injEq, and_true, true_and] at he
    obtain ⟨rfl, rfl, rfl, rfl, rfl, rfl, ⟨rfl, rfl, rfl⟩, ⟨rfl, rfl, rfl⟩, ⟨rfl, rfl, rfl⟩⟩ := he
    exact ⟨la, ln, lc, ya, yn, yc, va, vn, vc, rfl, hl, by have := U.out.1; unfold maxLen; omega, hv, ⟨k0, k1', k2, k3, k4, k5⟩, il.keep hk, LiesQ.keep hz (fresh_inside HXL.out hK HT.out.size t2) fun _ _ h => h, iv.keep hk⟩
  · skip
    have H1 := Lib.hid (takeNum_any M.pNum 38 (enters_of Tryz.func38 (by kernel_rfl) rfl) 200 (by decide) hq HH.out (rnum_elemN hq))
    clear HH hq
    go_enter Tryz.func105, Tryz.ntmps105
    go_wp2_with fail
    refine H1.out.mono ?_; rintro e w1 ⟨ya, yn, yc, k1, b1, rfl, hi, u⟩
    have U := Lib.hid (And.intro hi u)
    have hbx := HX.out.keep u.turn HXG.out
    have HBX := Lib.hid hbx
    obtain ⟨e0, e1, e2, e3, e4, e5, e6, e7, e8, e9⟩ := insBox hbx
    have f9 := hbx.frozen 8
    clear u hi hbx H1
    go_wp2_with fail
    go_end0
    have t2 : Turn (fun i => i = X) w1 (w1.setCell ⟨X, 8, none⟩ (.slice ya yn yc)) := (Turn.refl (fun i => i = X) w1).setCell (p := ⟨X, 8, none⟩) (fun _ => rfl) _
    have hb2 : Blk (w1.setCell ⟨X, 8, none⟩ (.slice ya yn yc)) X 70 #[.int .i64 xo, .int .i64 xd, .int .i64 xa, .int .i64 xb, .int .i64 xc, .int .i64 xn, .slice la ln lc, .slice ma mn mc, .slice ya yn yc] := by have := HBX.out.set 8 (.slice ya yn yc); simpa using this
    obtain ⟨hX, hgB, hbB⟩ := HB.out
    generalize w1.setCell ⟨X, 8, none⟩ (.slice ya yn yc) = w9 at t2 hb2 ⊢
    refine ⟨rfl, ⟨xo, xd, xa, xb, xc, xn, la, ln, lc, ma, mn, mc, ya, yn, yc⟩, k1, b1, hb2, turn_or U.out.2.turn t2, fun x => ?_⟩
    rw [field108]
    refine U.out.2.one (U.out.2.rd.turn t2 (by omega) (by omega)) (turn_box (HT.out.trans U.out.2.turn) t2 hX) fun z hz hp => ?_
    have hk := kept_inside (K := K) hgB U.out.2.turn t2
    obtain ⟨la', ln', lc', ma', mn', mc', va', vn', vc', he, hl, hm, hv, ⟨k0, k1', k2, k3, k4, k5⟩, il, im, iv⟩ := hp
    simp only [IV.cells, List.cons.injEq, Value.slice.injEq, Value.int.injEq, and_true, true_and] at he
    obtain ⟨rfl, rfl, rfl, rfl, rfl, rfl, ⟨rfl, rfl, rfl⟩, ⟨rfl, rfl, rfl⟩, ⟨rfl, rfl, rfl⟩⟩ := he
    exact ⟨la, ln, lc, ma, mn, mc, ya, yn, yc, rfl, hl, hm, by have := U.out.1; unfold maxLen; omega, ⟨k0, k1', k2, k3, k4, k5⟩, il.keep hk, im.keep hk, LiesQ.keep hz (fresh_inside HXL.out hK HT.out.size t2) fun _ _ h => h⟩
end Go.Proofs.YthlifflapgccbaaGreat
/- The reader in memory: an instruction. -/
namespace Go.Proofs.YthlifflapgccbaaGreat
set_option linter.unusedVariables false
set_option linter.unusedSimpArgs false
open Go.ChangeShapes Go.WideShapes Go.ChangeAt Go.RowKit
open M (W)
namespace M
theorem fields_snoc (c : UInt8) : ∀ (l : List UInt8) (x : Ins) (z : Nat) (R : List Int), pFields (l ++ [c]) x z R = match pFields l x z R with
    | some (y, z1, R1) => pField y c z1 R1
    | none => none
  | [], x, z, R => by
    simp only [List.nil_append, pFields]
    cases pField x c z R with
    | none => rfl
    | some y => obtain ⟨y1, z1, R1⟩ := y; rfl
  | d :: l, x, z, R => by
    simp only [List.cons_append, pFields]
    cases pField x d z R with
    | none => rfl
    | some y =>
      obtain ⟨y1, z1, R1⟩ := y
      simp only
      exact fields_snoc c l y1 z1 R1
end M
theorem StepR.fsnoc {q : RP} {l : List UInt8} {c : UInt8} {x0 : M.Ins} {V V' : M.Ins → Prop} {wa wb wc w3 : World} {k sz k1 s1 k2 s2 : Nat} {bad b1 b2 : Bool} (h : StepR q (M.pFields l x0) V wa wb k sz bad k1 s1 b1) (u : ∀ x, StepR q (M.pField x c) (fun y => V x → V' y) wc w3 k1 s1 b1 k2 s2 b2) : StepR q (M.pFields (l ++ [c]) x0) V' wc w3 k sz bad k2 s2 b2 :=
  ⟨(u x0).rd, (u x0).turn, fun hb => (u x0).stay (h.stay hb), fun hb e => by
    rw [M.fields_snoc] at e
    cases hp : M.pFields l x0 sz (q.L.drop k) with
    | none => exact (u x0).stay (h.no hb hp)
    | some y =>
      obtain ⟨x, z1, R1⟩ := y
      obtain ⟨y1, y2, y3, y4⟩ := h.yes hb _ _ _ hp
      rw [hp] at e
      exact (u x).no y1 (by rw [y2, y3]; exact e), fun hb x s3 R3 e => by
    rw [M.fields_snoc] at e
    cases hp : M.pFields l x0 sz (q.L.drop k) with
    | none => rw [hp] at e; exact absurd e (by simp)
    | some y =>
      obtain ⟨x1, z1, R1⟩ := y
      obtain ⟨y1, y2, y3, y4⟩ := h.yes hb _ _ _ hp
      rw [hp] at e
      obtain ⟨u1, u2, u3, u4⟩ := (u x1).yes y1 x s3 R3 (by rw [y2, y3]; exact e)
      exact ⟨u1, u2, u3, u4 y4⟩⟩
theorem StepR.ins {q : RP} {op : Int} {V : M.Ins → Prop} {wa wb wc w3 : World} {k sz k1 s1 k2 s2 : Nat} {bad b1 b2 : Bool} (h : StepR q M.pNum (fun x => op = x) wa wb k sz bad k1 s1 b1) (u : StepR q (M.pFields (M.uses op).data.toList ⟨op, 0, 0, 0, 0, 0, [], [], []⟩) V wc w3 k1 s1 b1 k2 s2 b2) : StepR q M.pIns V wc w3 k sz bad k2 s2 b2 :=
  ⟨u.rd, u.turn, fun hb => u.stay (h.stay hb), fun hb e => by
    unfold M.pIns at e
    cases hp : M.pNum sz (q.L.drop k) with
    | none => exact u.stay (h.no hb hp)
    | some y =>
      obtain ⟨x, z1, R1⟩ := y
      obtain ⟨y1, y2, y3, y4⟩ := h.yes hb _ _ _ hp
      subst y4
      rw [hp] at e
      exact u.no y1 (by rw [y2, y3]; exact e), fun hb x s3 R3 e => by
    unfold M.pIns at e
    cases hp : M.pNum sz (q.L.drop k) with
    | none => rw [hp] at e; exact absurd e (by simp)
    | some y =>
      obtain ⟨x1, z1, R1⟩ := y
      obtain ⟨y1, y2, y3, y4⟩ := h.yes hb _ _ _ hp
      subst y4
      rw [hp] at e
      exact u.yes y1 x s3 R3 (by rw [y2, y3]; exact e)⟩
/-- Where the reader of an instruction stands. -/
structure Letters (q : RP) (w : World) (w0 : World) (X K : Nat) (Z : Array Value) (u : ByteArray) (x0 : M.Ins) (k1 sz : Nat) (b1 : Bool) (pos : Nat) (v : IV) (k2 : Nat) (b2 : Bool) (wr : World) : Prop where
  it : wr.heap[K]? = some (.stringIter u pos)
  le : pos ≤ u.size
  box : Blk wr X 70 v.arr
  res : Blk wr w.heap.size 70 Z
  step : StepR q (M.pFields (u.data.toList.take pos) x0) (fun y => InsQ (Inside w0 X K wr) wr v.cells y) w0 wr k1 sz b1 k2 sz b2
theorem take_snoc (u : ByteArray) (pos : Nat) (h : pos < u.size) : u.data.toList.take (pos + 1) = u.data.toList.take pos ++ [u[pos]'h] := by
  have : u.data.toList[pos]? = some (u[pos]'h) := by
    rw [Array.getElem?_toList]
    exact Array.getElem?_eq_getElem h
  rw [List.take_add_one, this]
  rfl
set_option maxRecDepth 100000 in
set_option maxHeartbeats 2000000 in
theorem rinstr_any {q : RP} (hq : q.ok) (w : World) (k sz : Nat) (bad : Bool) (h : Rd q w k sz bad) :
    Calls Tryz.prog 90 #[.pointer (some ⟨q.g, 0, none⟩)] w fun e w' => ∃ (v0 v1 v2 v3 v4 v5 : Int) (la : Option Addr) (ln lc : Nat) (ma : Option Addr) (mn mc : Nat) (va : Option Addr) (vn vc : Nat) (k' : Nat) (bad' : Bool),
      e = .returned (.agg #[.int .i64 v0, .int .i64 v1, .int .i64 v2, .int .i64 v3, .int .i64 v4, .int .i64 v5, .slice la ln lc, .slice ma mn mc, .slice va vn vc]) ∧ StepR q M.pIns (fun x => InsQ (Fresh w w') w' [.int .i64 v0, .int .i64 v1, .int .i64 v2, .int .i64 v3, .int .i64 v4, .int .i64 v5, .slice la ln lc, .slice ma mn mc, .slice va vn vc] x) w w' k sz bad k' sz bad' := by
  obtain ⟨Z, hZ⟩ : ∃ Z : Array Value, #[.int .i64 0, .int .i64 0, .int .i64 0, .int .i64 0, .int .i64 0, .int .i64 0, .slice none 0 0, .slice none 0 0, .slice none 0 0] = Z := ⟨_, rfl⟩
  have H0 : Hid (Rd q (w.alloc (.cells Z 70)) k sz bad ∧ Blk (w.alloc (.cells Z 70)) w.heap.size 70 Z) := ⟨h.still ((Still.refl w).alloc _), Blk.new w _ _⟩
  have HN : Hid (q.g < w.heap.size ∧ q.b < w.heap.size) := ⟨h.blk.lt, h.lt⟩
  have HQ := Lib.hid hq
  clear h hq
  go_enter Tryz.func90, Tryz.ntmps90
  go_wp2_with fail
  have HZ := Lib.hid hZ
  have T0 : Hid (Turn (fun i => i = q.g) w (w.alloc (.cells Z 70)) ∧ w.heap.size < (w.alloc (.cells Z 70)).heap.size) := ⟨(Turn.refl _ w).alloc _, by simp⟩
  clear hZ
  generalize w.alloc (.cells Z 70) = w0 at H0 T0 ⊢
  refine (rnumber_any HQ.out H0.out.1).mono ?_; rintro e w1 ⟨op, k1, b1, rfl, hop, u1⟩
  have U1 := Lib.hid (And.intro hop u1)
  have R1 : Hid (Blk w1 w.heap.size 70 Z) := H0.out.2.keep u1.turn (by have := HN.out; omega)
  clear hop u1
  go_wp2_with fail
  have st1 : Still w1 (w1.alloc (.cells #[.int .i64 op, .int .i64 0, .int .i64 0, .int .i64 0, .int .i64 0, .int .i64 0, .slice none 0 0, .slice none 0 0, .slice none 0 0] 70)) := (Still.refl w1).alloc _
  have R2 : Hid (Blk (w1.alloc (.cells #[.int .i64 op, .int .i64 0, .int .i64 0, .int .i64 0, .int .i64 0, .int .i64 0, .slice none 0 0, .slice none 0 0, .slice none 0 0] 70)) w.heap.size 70 Z ∧ Blk (w1.alloc (.cells #[.int .i64 op, .int .i64 0, .int .i64 0, .int .i64 0, .int .i64 0, .int .i64 0, .slice none 0 0, .slice none 0 0, .slice none 0 0] 70)) w1.heap.size 70 (IV.arr ⟨op, 0, 0, 0, 0, 0, none, 0, 0, none, 0, 0, none, 0, 0⟩) ∧ Rd q (w1.alloc (.cells #[.int .i64 op, .int .i64 0, .int .i64 0, .int .i64 0, .int .i64 0, .int .i64 0, .slice none 0 0, .slice none 0 0, .slice none 0 0] 70)) k1 sz b1 ∧ Turn (fun i => i = q.g) w0 (w1.alloc (.cells #[.int .i64 op, .int .i64 0, .int .i64 0, .int .i64 0, .int .i64 0, .int .i64 0, .slice none 0 0, .slice none 0 0, .slice none 0 0] 70)) ∧ w0.heap.size ≤ w1.heap.size ∧ w1.heap.size < (w1.alloc (.cells #[.int .i64 op, .int .i64 0, .int .i64 0, .int .i64 0, .int .i64 0, .int .i64 0, .slice none 0 0, .slice none 0 0, .slice none 0 0] 70)).heap.size) :=
    ⟨st1.blk R1.out, Blk.new w1 _ _, U1.out.2.rd.still st1, U1.out.2.turn.alloc _, U1.out.2.turn.size, by simp⟩
  clear st1
  generalize hX : w1.heap.size = X at R2 ⊢
  generalize w1.alloc (.cells #[.int .i64 op, .int .i64 0, .int .i64 0, .int .i64 0, .int .i64 0, .int .i64 0, .slice none 0 0, .slice none 0 0, .slice none 0 0] 70) = w2 at R2 ⊢
  refine (uses_any op w2).mono ?_; rintro e w3 ⟨rfl, rfl⟩
  have HLET := Lib.hid (uses_letters op)
  have HOP : Hid (∀ (V : M.Ins → Prop) (wa wb wc w3 : World) (k sz k1 s1 k2 s2 : Nat) (bad b1 b2 : Bool), StepR q M.pNum (fun x => op = x) wa wb k sz bad k1 s1 b1 → StepR q (M.pFields (M.uses op).data.toList ⟨op, 0, 0, 0, 0, 0, [], [], []⟩) V wc w3 k1 s1 b1 k2 s2 b2 → StepR q M.pIns V wc w3 k sz bad k2 s2 b2) := fun V wa wb wc w3 k sz k1 s1 k2 s2 bad b1 b2 h u => h.ins u
  generalize hu : M.uses op = u at *
  clear hu
  go_wp2_with fail
  go_loopw [5] (fun _ wr => ∃ (pos : Nat) (v : IV) (k2 : Nat) (b2 : Bool), Letters q w w0 X w3.heap.size Z u ⟨op, 0, 0, 0, 0, 0, [], [], []⟩ k1 sz b1 pos v k2 b2 wr) (fun _ wr => u.size - wr.iterPos w3.heap.size)
  case atStart =>
    obtain ⟨r1, r2, r3, r4, r5, r6⟩ := R2.out
    have ti : Turn (fun i => i = q.g) w3 (w3.iter u 0) := (Turn.refl _ w3).alloc _
    have ts : Still w3 (w3.iter u 0) := (Still.refl w3).alloc _
    refine ⟨0, ⟨op, 0, 0, 0, 0, 0, none, 0, 0, none, 0, 0, none, 0, 0⟩, k1, b1, World.iter_heap w3 u 0, Nat.zero_le _, ts.blk r2, ts.blk r1, r3.still ts, r4.trans ti, fun e => e, fun _ e => by simp [M.pFields] at e, fun hb x s1 R1 e => ?_⟩
    simp only [List.take_zero, M.pFields, Option.some.injEq, Prod.mk.injEq] at e
    obtain ⟨rfl, rfl, rfl⟩ := e
    have z64 : In64 0 := by constructor <;> decide
    refine ⟨hb, rfl, rfl, none, 0, 0, none, 0, 0, none, 0, 0, rfl, Nat.zero_le _, Nat.zero_le _, Nat.zero_le _, ⟨U1.out.1, z64, z64, z64, z64, z64⟩, ⟨rfl, fun h => absurd h (by omega)⟩, ⟨rfl, fun h => absurd h (by omega)⟩, ⟨rfl, fun h => absurd h (by omega)⟩⟩
  case round =>
    obtain ⟨pos, v, k2, b2, hs⟩ := hrel
    have hit := hs.it
    have hit0 := Lib.hid hs.it
    obtain ⟨r1, r2, r3, r4, r5, r6⟩ := R2.out
    have HN2 := HN.out
    have ht0 := T0.out
    by_cases hlt : pos < u.size
    · have hlet := HLET.out _ (letter_mem u pos hlt)
      have hasc : (u[pos]'hlt).toNat < 128 := by rcases hlet with e | e | e | e | e | e | e | e <;> rw [e] <;> decide
      have hnx : ∀ ty, (Instr.next (.pointer (some ⟨w3.heap.size, 0, none⟩)) true ty).run Tryz.prog wr = _ := fun ty => Lib.run_next_ascii_at wr w3.heap.size u pos ty hit hlt hasc
      have ts : Turn (fun b => b = w3.heap.size) wr (wr.iterAt w3.heap.size u (pos + 1)) := (Turn.refl (fun b => b = w3.heap.size) wr).iterAt (k := w3.heap.size) (fun _ => rfl) u (pos + 1)
      have hsz := hs.step.turn.size
      have hkl : w3.heap.size < wr.heap.size := (Array.getElem?_eq_some_iff.1 hs.it).1
      have hit2 : (wr.iterAt w3.heap.size u (pos + 1)).heap[w3.heap.size]? = some (.stringIter u (pos + 1)) := Lib.iterAt_heap wr w3.heap.size u pos (pos + 1) hs.it
      have HIT := Lib.hid (And.intro hit2 (And.intro ts hkl))
      have hHF := Lib.hid (rfield_any (u[pos]'hlt) hlet HQ.out (wB := w0) (w := wr.iterAt w3.heap.size u (pos + 1)) (X := X) w3.heap.size (by rw [Lib.iterAt_size]; exact hkl) v r5 (by omega) (by omega) (turn_box hs.step.turn ts (by omega)) (hs.step.rd.turn ts (by omega) (by omega)) (hs.box.keep ts (by omega)))
      have hres := hs.res.keep ts (by omega)
      have HRES := Lib.hid hres
      have HS := Lib.hid hs
      have HTK := Lib.hid (take_snoc u pos hlt)
      obtain ⟨W, hWd⟩ : ∃ W, wr.iterAt w3.heap.size u (pos + 1) = W := ⟨_, rfl⟩
      rw [hWd] at hnx hHF HRES HIT
      generalize hR : u[pos]'hlt = R at hnx hHF HTK
      have HLT := Lib.hid hlt
      clear hs hit ts hlet hasc hWd hres hit2 r1 r2 r3 r4 hR hlt
      go_wp2_with fail
      refine hHF.out.mono ?_; rintro e w4 ⟨rfl, v', k3, b3, hb3, ht3, hs3⟩
      have HF3 := Lib.hid (And.intro hb3 (And.intro ht3 hs3))
      clear hb3 ht3 hs3 hHF hnx
      go_wp2_with fail
      go_roundw
      case rel =>
        obtain ⟨hb3, ht3, hs3⟩ := HF3.out
        obtain ⟨hi1, hi2, hi3⟩ := HIT.out
        have hlt := HLT.out
        refine ⟨pos + 1, v', k3, b3, (ht3.block w3.heap.size (by have := hi2.size; omega) (by rintro (e | e) <;> omega)).trans hi1, hlt, hb3, HRES.out.keep ht3 (by rintro (e | e) <;> omega), ?_⟩
        rw [HTK.out]
        refine HS.out.step.fsnoc fun x => (hs3 x).into (hs3 x).rd (hs3 x).turn fun y hy hx => hy (InsQ.keep hx ⟨fun b hb => hi2.block b hb.2.1 hb.2.2.2, fun b hb => ⟨hb.1, Nat.lt_of_lt_of_le hb.2.1 hi2.size, hb.2.2⟩⟩)
      case measure =>
        have hi1 : w4.heap[w3.heap.size]? = some (.stringIter u (pos + 1)) := by
          obtain ⟨hb3, ht3, hs3⟩ := HF3.out
          obtain ⟨hi1, hi2, hi3⟩ := HIT.out
          exact (ht3.block w3.heap.size (by have := hi2.size; omega) (by rintro (e | e) <;> omega)).trans hi1
        have hlt := HLT.out
        simp [World.iterPos, hi1, hit0.out]; omega
    · have hnx : ∀ ty, (Instr.next (.pointer (some ⟨w3.heap.size, 0, none⟩)) true ty).run Tryz.prog wr = _ := fun ty => Lib.run_next_end_at wr w3.heap.size u pos ty hit hlt
      obtain rfl : pos = u.size := by have := hs.le; omega
      have hall : u.data.toList.take u.size = u.data.toList := List.take_of_length_le (by rw [Array.length_toList]; exact Nat.le_refl _)
      have hstep := hs.step
      rw [hall] at hstep
      have HS := Lib.hid (HOP.out _ _ _ _ _ _ _ _ _ _ _ _ _ _ U1.out.2 hstep)
      obtain ⟨xo, xd, xa, xb, xc, xn, la, ln, lc, ma, mn, mc, va, vn, vc⟩ := v
      have hbox : Blk wr X 70 #[.int .i64 xo, .int .i64 xd, .int .i64 xa, .int .i64 xb, .int .i64 xc, .int .i64 xn, .slice la ln lc, .slice ma mn mc, .slice va vn vc] := hs.box
      obtain ⟨e0, e1, e2, e3, e4, e5, e6, e7, e8, e9⟩ := insBox hbox
      have hres := hs.res
      rw [← HZ.out] at hres
      obtain ⟨c0, c1, c2, c3, c4, c5, c6, c7, c8, c9⟩ := insBox hres
      have g0 := hres.frozen 0
      have g1 := hres.frozen 1
      have g2 := hres.frozen 2
      have g3 := hres.frozen 3
      have g4 := hres.frozen 4
      have g5 := hres.frozen 5
      have g6 := hres.frozen 6
      have g7 := hres.frozen 7
      have g8 := hres.frozen 8
      have HRES := Lib.hid hres
      have HTT := Lib.hid hs.step.turn
      clear hs hit hall hstep hbox hres r1 r2 r3 r4
      go_wp2_with fail
      have hb := setsB9 HRES.out (.int .i64 xo) (.int .i64 xd) (.int .i64 xa) (.int .i64 xb) (.int .i64 xc) (.int .i64 xn) (.slice la ln lc) (.slice ma mn mc) (.slice va vn vc)
      have ht := setsT9 wr w.heap.size (.int .i64 xo) (.int .i64 xd) (.int .i64 xa) (.int .i64 xb) (.int .i64 xc) (.int .i64 xn) (.slice la ln lc) (.slice ma mn mc) (.slice va vn vc)
      refine bodyPost_ret (results_cell_row rfl _ _ w.heap.size 70 #[.int .i64 xo, .int .i64 xd, .int .i64 xa, .int .i64 xb, .int .i64 xc, .int .i64 xn, .slice la ln lc, .slice ma mn mc, .slice va vn vc] (0, 0) _ rfl hb Tryz.underlying70 rfl (by kernel_rfl)) rfl ?_
      generalize hW9 : (((((((((wr.setCell ⟨w.heap.size, 0, none⟩ (.int .i64 xo)).setCell ⟨w.heap.size, 1, none⟩ (.int .i64 xd)).setCell ⟨w.heap.size, 2, none⟩ (.int .i64 xa)).setCell ⟨w.heap.size, 3, none⟩ (.int .i64 xb)).setCell ⟨w.heap.size, 4, none⟩ (.int .i64 xc)).setCell ⟨w.heap.size, 5, none⟩ (.int .i64 xn)).setCell ⟨w.heap.size, 6, none⟩ (.slice la ln lc)).setCell ⟨w.heap.size, 7, none⟩ (.slice ma mn mc)).setCell ⟨w.heap.size, 8, none⟩ (.slice va vn vc)) = w9 at hb ht ⊢
      refine ⟨xo, xd, xa, xb, xc, xn, la, ln, lc, ma, mn, mc, va, vn, vc, k2, b2, rfl, ?_⟩
      refine HS.out.into (HS.out.rd.turn ht (by omega) (by omega)) (turn_box (T0.out.1.trans HTT.out) ht (Nat.le_refl _)) fun x hx => ?_
      exact InsQ.keep hx ⟨fun b hb => ht.block b hb.2.1 (by have := hb.1; omega), fun b hb => ⟨by have := hb.1; omega, Nat.lt_of_lt_of_le hb.2.1 ht.size⟩⟩
end Go.Proofs.YthlifflapgccbaaGreat
