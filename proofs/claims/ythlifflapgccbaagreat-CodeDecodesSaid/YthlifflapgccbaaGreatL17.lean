/- Lemmas, put together: Tr1 Tr2 Tr3 Tr4 Tr5 TrL. -/
import Derived.Test.YthlifflapgccbaaGreatL12
import Derived.Test.YthlifflapgccbaaGreatRefGet
import Derived.Test.YthlifflapgccbaaGreatL16
import Derived.Deep.RegionHeld3
import Derived.StillTailTactics
import Derived.Test.YthlifflapgccbaaGreatL13
/- The document's taker in memory: numbers. -/
namespace Go.Proofs.YthlifflapgccbaaGreat
set_option linter.unusedVariables false
set_option linter.unusedSimpArgs false
open Go.ChangeShapes Go.WideShapes Go.ChangeAt Go.RowKit
open M (W)
/-- The document's taker at g stands at k, and is bad or not. -/
structure Td (q : RP) (w : World) (k : Nat) (bad : Bool) : Prop where
  blk : Blk w q.g 43 #[.slice (some ⟨q.b, q.off, none⟩) q.L.length q.cap, .int .i64 k, .bool bad]
  ne : q.b ≠ q.g
  lt : q.b < w.heap.size
  cells : ∀ j, j < q.L.length → w.cell? ⟨q.b, q.off + j, none⟩ = some (.int .u8 (q.L.getD j 0))
  le : k ≤ q.L.length
theorem Td.turn {q : RP} {w w' : World} {k : Nat} {bad : Bool} {S : Nat → Prop} (h : Td q w k bad) (t : Turn S w w') (hg : ¬ S q.g) (hb : ¬ S q.b) : Td q w' k bad :=
  ⟨h.blk.keep t hg, h.ne, Nat.lt_of_lt_of_le h.lt t.size, fun j hj => (t.cell (p := ⟨q.b, q.off + j, none⟩) h.lt hb).trans (h.cells j hj), h.le⟩
theorem Td.still {q : RP} {w w' : World} {k : Nat} {bad : Bool} (h : Td q w k bad) (t : Still w w') : Td q w' k bad := h.turn t (fun e => e) (fun e => e)
theorem Td.set {q : RP} {w : World} {k : Nat} {bad : Bool} (h : Td q w k bad) (i : Nat) (u : Value) {k' : Nat} {bad' : Bool} (hc : (#[.slice (some ⟨q.b, q.off, none⟩) q.L.length q.cap, .int .i64 k, .bool bad] : Array Value).setIfInBounds i u = #[.slice (some ⟨q.b, q.off, none⟩) q.L.length q.cap, .int .i64 k', .bool bad']) (hk : k' ≤ q.L.length) :
    Td q (w.setCell ⟨q.g, i, none⟩ u) k' bad' :=
  ⟨by have := h.blk.set i u; rwa [hc] at this, h.ne, by simpa using h.lt, fun j hj => (Turn.cell ((Turn.refl (fun b => b = q.g) w).setCell (p := ⟨q.g, i, none⟩) (fun _ => rfl) u) (p := ⟨q.b, q.off + j, none⟩) h.lt h.ne).trans (h.cells j hj), hk⟩
/-- What a call of the taker's did: as p says of what is left; bad stays bad. -/
structure StepT {α : Type} (q : RP) (p : M.Pr α) (V : α → Prop) (w w' : World) (k : Nat) (bad : Bool) (k' : Nat) (bad' : Bool) : Prop where
  rd : Td q w' k' bad'
  turn : Turn (fun i => i = q.g) w w'
  stay : bad = true → bad' = true
  far : k ≤ k'
  no : bad = false → p (q.L.drop k) = none → bad' = true
  yes : bad = false → ∀ x R1, p (q.L.drop k) = some (x, R1) → bad' = false ∧ q.L.drop k' = R1 ∧ V x
theorem td_cells {q : RP} {w : World} {k : Nat} {bad : Bool} (h : Td q w k bad) : q.g < w.heap.size ∧ w.cell? ⟨q.g, 0, none⟩ = some (.slice (some ⟨q.b, q.off, none⟩) q.L.length q.cap) ∧ w.cell? ⟨q.g, 1, none⟩ = some (.int .i64 k) ∧ w.cell? ⟨q.g, 2, none⟩ = some (.bool bad) ∧ w.frozen? ⟨q.g, 1, none⟩ = false ∧ w.frozen? ⟨q.g, 2, none⟩ = false :=
  ⟨h.blk.lt, h.blk.cell 0, h.blk.cell 1, h.blk.cell 2, h.blk.frozen 1, h.blk.frozen 2⟩
theorem refGet_far (a : Option Addr) (len cap : Nat) (i : Int) (w : World) (h0 : 0 ≤ i) (h : (len : Int) ≤ i) : Calls Tryz.prog 42 #[.slice a len cap, .int .i64 i] w fun e w' => e = .returned (.tuple #[.int .i64 0, .int .i64 0, .bool false]) ∧ w' = w := by
  go_enter Tryz.func42, Tryz.ntmps42
  go_wp2
  go_ret3
  exact ⟨rfl, rfl⟩

theorem below_turn {w w' : World} {S : Nat → Prop} (h : Below w.heap.size w w') : Turn S w w' := Turn.of_below h fun k hk e => by omega
theorem tget_all {q : RP} (hq : q.ok) {k : Nat} {w : World} {bad : Bool} (h : Td q w k bad) :
    ∃ (n : Int) (to : Int) (ok : Bool), (∀ W, Still w W → Calls Tryz.prog 42 #[.slice (some ⟨q.b, q.off, none⟩) q.L.length q.cap, .int .i64 k] W fun e w' => e = .returned (.tuple #[.int .i64 n, .int .i64 to, .bool ok]) ∧ Still W w') ∧
      (ok = false → M.qNum (q.L.drop k) = none) ∧ (ok = true → ∃ k' : Nat, to = k' ∧ k ≤ k' ∧ k' ≤ q.L.length ∧ In64 n ∧ M.qNum (q.L.drop k) = some (n, q.L.drop k')) := by
  by_cases hl : k < q.L.length
  · have hget := fun W (hW : Still w W) => refGet_in q.b q.off q.cap q.L k W (by have := hq.small; omega) hl hq.cap_le.1 (h.still hW).lt (h.still hW).cells hq.bytes
    cases hg : M.got (q.L.drop k) with
    | none =>
      refine ⟨0, 0, false, fun W hW => (hget W hW).mono fun e w' ⟨h1, h2⟩ => ⟨by rw [h1, getRes_none hl hg], below_turn h2⟩, fun _ => (by unfold M.qNum; rw [hg]), fun h => (by cases h)⟩
    | some p =>
      obtain ⟨x, n⟩ := p
      obtain ⟨h1, h2, h3⟩ := M.got_snd (hq.bytes.drop k) hg
      rw [List.length_drop] at h2
      refine ⟨M.zag x, (k : Int) + n, true, fun W hW => (hget W hW).mono fun e w' ⟨h1, h2⟩ => ⟨by rw [h1, getRes_some hl hg], below_turn h2⟩, fun h => (by cases h), fun _ => ⟨k + n, by omega, by omega, by omega, M.zag_bd h3, ?_⟩⟩
      unfold M.qNum
      rw [hg]
      simp [List.drop_drop]
  · have hkl : k = q.L.length := by have := h.le; omega
    refine ⟨0, 0, false, fun W hW => (refGet_far _ _ _ _ W (by omega) (by omega)).mono fun e w' ⟨h1, h2⟩ => ⟨h1, by rw [h2]; exact Still.refl _⟩, fun _ => ?_, fun h => (by cases h)⟩
    rw [hkl, List.drop_length]
    rfl
set_option maxRecDepth 100000 in
set_option maxHeartbeats 4000000 in
theorem tnum_any {q : RP} (hq : q.ok) {w : World} {k : Nat} {bad : Bool} (h : Td q w k bad) :
    Calls Tryz.prog 13 #[.pointer (some ⟨q.g, 0, none⟩)] w fun e w' => ∃ (n : Int) (k' : Nat) (bad' : Bool), e = .returned (.int .i64 n) ∧ In64 n ∧ StepT q M.qNum (fun x => n = x) w w' k bad k' bad' := by
  obtain ⟨hl, c0, c1, c2, f1, f2⟩ := td_cells h
  have H := Lib.hid h
  cases bad with
  | true =>
    clear h
    go_enter Tryz.func13, Tryz.ntmps13
    go_wp2_with fail
    go_ret
    exact ⟨0, k, true, rfl, by constructor <;> decide, H.out, Turn.refl _ _, fun e => e, Nat.le_refl _, fun e => (by cases e), fun e => (by cases e)⟩
  | false =>
    obtain ⟨n, to, ok, hg, hno, hyes⟩ := tget_all hq h
    have HG := Lib.hid hg
    have HY := Lib.hid (And.intro hno hyes)
    clear h hg hno hyes
    have HW := Lib.hid (show Still w w.drew from (Still.refl w).drewN 1)
    generalize q.L.length = len at c0 HG
    have HF := Lib.hid (show q.g < w.drew.heap.size ∧ w.drew.cell? ⟨q.g, 0, none⟩ = some (.slice (some ⟨q.b, q.off, none⟩) len q.cap) ∧ w.drew.cell? ⟨q.g, 1, none⟩ = some (.int .i64 k) from ⟨hl, c0, c1⟩)
    cases ok with
    | true =>
      obtain ⟨k', hto, hkk, hk', hn, hp⟩ := HY.out.2 rfl
      subst hto
      have HP := Lib.hid (And.intro hkk (And.intro hk' (And.intro hn hp)))
      clear hkk hk' hn hp
      go_enter Tryz.func13, Tryz.ntmps13
      go_wp2_with fail
      refine wp_region_held_drew (S := fun W => W.cell? ⟨q.g, 0, none⟩ = some (.slice (some ⟨q.b, q.off, none⟩) len q.cap) ∧ W.cell? ⟨q.g, 1, none⟩ = some (.int .i64 k)) (by kernel_rfl) ⟨c0, c1⟩ (fun hHeld => ?_)
      refine wpAnyH_take (i := 0) (v := ?_) rfl (by kernel_rfl) (by kernel_rfl) (by kernel_rfl) (fun _ _ _ h => h) (Or.inl ⟨by rfl, ?_⟩) (by assumption) ?_
      rotate_left
      · intro w hSw; (try dsimp only at hSw); go_simp; try with_reducible rfl
      try simp only [Act.put, List.getElem_toArray, List.getElem_cons_succ, List.getElem_cons_zero, List.setIfInBounds_toArray, List.set_cons_zero, List.set_cons_succ]
      refine wpAnyH_take (i := 1) (v := ?_) rfl (by kernel_rfl) (by kernel_rfl) (by kernel_rfl) (fun _ _ _ h => h) (Or.inl ⟨by rfl, ?_⟩) (by assumption) ?_
      rotate_left
      · intro w hSw; (try dsimp only at hSw); go_simp; try with_reducible rfl
      try simp only [Act.put, List.getElem_toArray, List.getElem_cons_succ, List.getElem_cons_zero, List.setIfInBounds_toArray, List.set_cons_zero, List.set_cons_succ]
      refine wpAnyH_take (i := 2) (v := ?_) rfl (by kernel_rfl) (by kernel_rfl) (by kernel_rfl) (fun _ _ _ h => h) (Or.inl ⟨by rfl, ?_⟩) (by assumption) ?_
      rotate_left
      · intro w hSw; (try dsimp only at hSw); go_simp; try with_reducible rfl
      try simp only [Act.put, List.getElem_toArray, List.getElem_cons_succ, List.getElem_cons_zero, List.setIfInBounds_toArray, List.set_cons_zero, List.set_cons_succ]
      refine wpAnyH_take (i := 3) (v := ?_) rfl (by kernel_rfl) (by kernel_rfl) (by kernel_rfl) (fun _ _ _ h => h) (Or.inl ⟨by rfl, ?_⟩) (by assumption) ?_
      rotate_left
      · intro w hSw; (try dsimp only at hSw); go_simp; try with_reducible rfl
      try simp only [Act.put, List.getElem_toArray, List.getElem_cons_succ, List.getElem_cons_zero, List.setIfInBounds_toArray, List.set_cons_zero, List.set_cons_succ]
      refine wpAnyH_take (i := 4) (v := ?_) rfl (by kernel_rfl) (by kernel_rfl) (by kernel_rfl) (fun _ _ _ h => h) (Or.inl ⟨by rfl, ?_⟩) (by assumption) ?_
      rotate_left
      · intro w hSw; (try dsimp only at hSw); go_simp; try with_reducible rfl
      try simp only [Act.put, List.getElem_toArray, List.getElem_cons_succ, List.getElem_cons_zero, List.setIfInBounds_toArray, List.set_cons_zero, List.set_cons_succ]
      refine wpAnyH_take (i := 5) (v := ?_) rfl (by kernel_rfl) (by kernel_rfl) (by kernel_rfl) (fun _ _ _ h => h) (Or.inl ⟨by rfl, ?_⟩) (by assumption) ?_
      rotate_left
      · intro w hSw; (try dsimp only at hSw); go_simp; try with_reducible rfl
      try simp only [Act.put, List.getElem_toArray, List.getElem_cons_succ, List.getElem_cons_zero, List.setIfInBounds_toArray, List.set_cons_zero, List.set_cons_succ]
      refine wpAnyH_take (i := 6) (v := ?_) rfl (by kernel_rfl) (by kernel_rfl) (by kernel_rfl) (fun _ _ _ h => h) (Or.inl ⟨by rfl, ?_⟩) (by assumption) ?_
      rotate_left
      · intro w hSw; (try dsimp only at hSw); go_simp; try with_reducible rfl
      try simp only [Act.put, List.getElem_toArray, List.getElem_cons_succ, List.getElem_cons_zero, List.setIfInBounds_toArray, List.set_cons_zero, List.set_cons_succ]
      refine wpAnyH_take (i := 7) (v := ?_) rfl (by kernel_rfl) (by kernel_rfl) (by kernel_rfl) (fun _ _ _ h => h) (Or.inl ⟨by rfl, ?_⟩) (by assumption) ?_
      rotate_left
      · intro w hSw; (try dsimp only at hSw); go_simp; try with_reducible rfl
      try simp only [Act.put, List.getElem_toArray, List.getElem_cons_succ, List.getElem_cons_zero, List.setIfInBounds_toArray, List.set_cons_zero, List.set_cons_succ]
      refine wpAnyH_ready (rs := [8]) (by kernel_rfl) (by simp) ?_
      refine AllReadyH.cons rfl (fun K hK => ?_) AllReadyH.nil
      go_simp
      refine (HG.out _ HW.out).mono ?_; rintro e w1 ⟨rfl, t1⟩
      refine hK.out _ _ ⟨(t1.cell HF.out.1).trans HF.out.2.1, (t1.cell HF.out.1).trans HF.out.2.2⟩ (fun hHeld => ?_)
      clear hK K
      refine wpAnyH_take (i := 9) (v := ?_) rfl (by kernel_rfl) (by kernel_rfl) (by kernel_rfl) (fun _ _ _ h => h) (Or.inl ⟨by rfl, ?_⟩) (by assumption) ?_
      rotate_left
      · intro w hSw; (try dsimp only at hSw); go_simp; try with_reducible rfl
      try simp only [Act.put, List.getElem_toArray, List.getElem_cons_succ, List.getElem_cons_zero, List.setIfInBounds_toArray, List.set_cons_zero, List.set_cons_succ]
      refine wpAnyH_take (i := 10) (v := ?_) rfl (by kernel_rfl) (by kernel_rfl) (by kernel_rfl) (fun _ _ _ h => h) (Or.inl ⟨by rfl, ?_⟩) (by assumption) ?_
      rotate_left
      · intro w hSw; (try dsimp only at hSw); go_simp; try with_reducible rfl
      try simp only [Act.put, List.getElem_toArray, List.getElem_cons_succ, List.getElem_cons_zero, List.setIfInBounds_toArray, List.set_cons_zero, List.set_cons_succ]
      refine wpAnyH_take (i := 11) (v := ?_) rfl (by kernel_rfl) (by kernel_rfl) (by kernel_rfl) (fun _ _ _ h => h) (Or.inl ⟨by rfl, ?_⟩) (by assumption) ?_
      rotate_left
      · intro w hSw; (try dsimp only at hSw); go_simp; try with_reducible rfl
      try simp only [Act.put, List.getElem_toArray, List.getElem_cons_succ, List.getElem_cons_zero, List.setIfInBounds_toArray, List.set_cons_zero, List.set_cons_succ]
      refine wpAnyH_take (i := 12) (v := ?_) rfl (by kernel_rfl) (by kernel_rfl) (by kernel_rfl) (fun _ _ _ h => h) (Or.inl ⟨by rfl, ?_⟩) (by assumption) ?_
      rotate_left
      · intro w hSw; (try dsimp only at hSw); go_simp; try with_reducible rfl
      try simp only [Act.put, List.getElem_toArray, List.getElem_cons_succ, List.getElem_cons_zero, List.setIfInBounds_toArray, List.set_cons_zero, List.set_cons_succ]
      refine wpAnyH_take (i := 13) (v := ?_) rfl (by kernel_rfl) (by kernel_rfl) (by kernel_rfl) (fun _ _ _ h => h) (Or.inl ⟨by rfl, ?_⟩) (by assumption) ?_
      rotate_left
      · intro w hSw; (try dsimp only at hSw); go_simp; try with_reducible rfl
      try simp only [Act.put, List.getElem_toArray, List.getElem_cons_succ, List.getElem_cons_zero, List.setIfInBounds_toArray, List.set_cons_zero, List.set_cons_succ]
      refine wpAnyH_take (i := 14) (v := ?_) rfl (by kernel_rfl) (by kernel_rfl) (by kernel_rfl) (fun _ _ _ h => h) (Or.inl ⟨by rfl, ?_⟩) (by assumption) ?_
      rotate_left
      · intro w hSw; (try dsimp only at hSw); go_simp; try with_reducible rfl
      try simp only [Act.put, List.getElem_toArray, List.getElem_cons_succ, List.getElem_cons_zero, List.setIfInBounds_toArray, List.set_cons_zero, List.set_cons_succ]
      refine wpAnyH_take (i := 15) (v := ?_) rfl (by kernel_rfl) (by kernel_rfl) (by kernel_rfl) (fun _ _ _ h => h) (Or.inl ⟨by rfl, ?_⟩) (by assumption) ?_
      rotate_left
      · intro w hSw; (try dsimp only at hSw); go_simp; try with_reducible rfl
      try simp only [Act.put, List.getElem_toArray, List.getElem_cons_succ, List.getElem_cons_zero, List.setIfInBounds_toArray, List.set_cons_zero, List.set_cons_succ]
      refine wpAnyH_done (by kernel_rfl) ?_ _
      clear hHeld
      have D1 := Lib.hid (H.out.still (HW.out.trans t1))
      obtain ⟨e0, e1, e2, e3, e4, e5⟩ := td_cells D1.out
      have T1 := Lib.hid (HW.out.trans t1)
      clear t1
      go_wp2_with fail
      go_ret
      refine ⟨n, k', false, rfl, HP.out.2.2.1, D1.out.set 1 _ rfl HP.out.2.1, (Turn.mono T1.out fun _ _ e => False.elim e).set_g 1 _, fun e => e, HP.out.1, fun _ e => (by rw [HP.out.2.2.2] at e; cases e), fun hb x R1 e => ?_⟩
      rw [HP.out.2.2.2] at e
      simp only [Option.some.injEq, Prod.mk.injEq] at e
      exact ⟨rfl, e.2, e.1⟩
    | false =>
      have HN := Lib.hid (HY.out.1 rfl)
      go_enter Tryz.func13, Tryz.ntmps13
      go_wp2_with fail
      refine wp_region_held_drew (S := fun W => W.cell? ⟨q.g, 0, none⟩ = some (.slice (some ⟨q.b, q.off, none⟩) len q.cap) ∧ W.cell? ⟨q.g, 1, none⟩ = some (.int .i64 k)) (by kernel_rfl) ⟨c0, c1⟩ (fun hHeld => ?_)
      refine wpAnyH_take (i := 0) (v := ?_) rfl (by kernel_rfl) (by kernel_rfl) (by kernel_rfl) (fun _ _ _ h => h) (Or.inl ⟨by rfl, ?_⟩) (by assumption) ?_
      rotate_left
      · intro w hSw; (try dsimp only at hSw); go_simp; try with_reducible rfl
      try simp only [Act.put, List.getElem_toArray, List.getElem_cons_succ, List.getElem_cons_zero, List.setIfInBounds_toArray, List.set_cons_zero, List.set_cons_succ]
      refine wpAnyH_take (i := 1) (v := ?_) rfl (by kernel_rfl) (by kernel_rfl) (by kernel_rfl) (fun _ _ _ h => h) (Or.inl ⟨by rfl, ?_⟩) (by assumption) ?_
      rotate_left
      · intro w hSw; (try dsimp only at hSw); go_simp; try with_reducible rfl
      try simp only [Act.put, List.getElem_toArray, List.getElem_cons_succ, List.getElem_cons_zero, List.setIfInBounds_toArray, List.set_cons_zero, List.set_cons_succ]
      refine wpAnyH_take (i := 2) (v := ?_) rfl (by kernel_rfl) (by kernel_rfl) (by kernel_rfl) (fun _ _ _ h => h) (Or.inl ⟨by rfl, ?_⟩) (by assumption) ?_
      rotate_left
      · intro w hSw; (try dsimp only at hSw); go_simp; try with_reducible rfl
      try simp only [Act.put, List.getElem_toArray, List.getElem_cons_succ, List.getElem_cons_zero, List.setIfInBounds_toArray, List.set_cons_zero, List.set_cons_succ]
      refine wpAnyH_take (i := 3) (v := ?_) rfl (by kernel_rfl) (by kernel_rfl) (by kernel_rfl) (fun _ _ _ h => h) (Or.inl ⟨by rfl, ?_⟩) (by assumption) ?_
      rotate_left
      · intro w hSw; (try dsimp only at hSw); go_simp; try with_reducible rfl
      try simp only [Act.put, List.getElem_toArray, List.getElem_cons_succ, List.getElem_cons_zero, List.setIfInBounds_toArray, List.set_cons_zero, List.set_cons_succ]
      refine wpAnyH_take (i := 4) (v := ?_) rfl (by kernel_rfl) (by kernel_rfl) (by kernel_rfl) (fun _ _ _ h => h) (Or.inl ⟨by rfl, ?_⟩) (by assumption) ?_
      rotate_left
      · intro w hSw; (try dsimp only at hSw); go_simp; try with_reducible rfl
      try simp only [Act.put, List.getElem_toArray, List.getElem_cons_succ, List.getElem_cons_zero, List.setIfInBounds_toArray, List.set_cons_zero, List.set_cons_succ]
      refine wpAnyH_take (i := 5) (v := ?_) rfl (by kernel_rfl) (by kernel_rfl) (by kernel_rfl) (fun _ _ _ h => h) (Or.inl ⟨by rfl, ?_⟩) (by assumption) ?_
      rotate_left
      · intro w hSw; (try dsimp only at hSw); go_simp; try with_reducible rfl
      try simp only [Act.put, List.getElem_toArray, List.getElem_cons_succ, List.getElem_cons_zero, List.setIfInBounds_toArray, List.set_cons_zero, List.set_cons_succ]
      refine wpAnyH_take (i := 6) (v := ?_) rfl (by kernel_rfl) (by kernel_rfl) (by kernel_rfl) (fun _ _ _ h => h) (Or.inl ⟨by rfl, ?_⟩) (by assumption) ?_
      rotate_left
      · intro w hSw; (try dsimp only at hSw); go_simp; try with_reducible rfl
      try simp only [Act.put, List.getElem_toArray, List.getElem_cons_succ, List.getElem_cons_zero, List.setIfInBounds_toArray, List.set_cons_zero, List.set_cons_succ]
      refine wpAnyH_take (i := 7) (v := ?_) rfl (by kernel_rfl) (by kernel_rfl) (by kernel_rfl) (fun _ _ _ h => h) (Or.inl ⟨by rfl, ?_⟩) (by assumption) ?_
      rotate_left
      · intro w hSw; (try dsimp only at hSw); go_simp; try with_reducible rfl
      try simp only [Act.put, List.getElem_toArray, List.getElem_cons_succ, List.getElem_cons_zero, List.setIfInBounds_toArray, List.set_cons_zero, List.set_cons_succ]
      refine wpAnyH_ready (rs := [8]) (by kernel_rfl) (by simp) ?_
      refine AllReadyH.cons rfl (fun K hK => ?_) AllReadyH.nil
      go_simp
      refine (HG.out _ HW.out).mono ?_; rintro e w1 ⟨rfl, t1⟩
      refine hK.out _ _ ⟨(t1.cell HF.out.1).trans HF.out.2.1, (t1.cell HF.out.1).trans HF.out.2.2⟩ (fun hHeld => ?_)
      clear hK K
      refine wpAnyH_take (i := 9) (v := ?_) rfl (by kernel_rfl) (by kernel_rfl) (by kernel_rfl) (fun _ _ _ h => h) (Or.inl ⟨by rfl, ?_⟩) (by assumption) ?_
      rotate_left
      · intro w hSw; (try dsimp only at hSw); go_simp; try with_reducible rfl
      try simp only [Act.put, List.getElem_toArray, List.getElem_cons_succ, List.getElem_cons_zero, List.setIfInBounds_toArray, List.set_cons_zero, List.set_cons_succ]
      refine wpAnyH_take (i := 10) (v := ?_) rfl (by kernel_rfl) (by kernel_rfl) (by kernel_rfl) (fun _ _ _ h => h) (Or.inl ⟨by rfl, ?_⟩) (by assumption) ?_
      rotate_left
      · intro w hSw; (try dsimp only at hSw); go_simp; try with_reducible rfl
      try simp only [Act.put, List.getElem_toArray, List.getElem_cons_succ, List.getElem_cons_zero, List.setIfInBounds_toArray, List.set_cons_zero, List.set_cons_succ]
      refine wpAnyH_take (i := 11) (v := ?_) rfl (by kernel_rfl) (by kernel_rfl) (by kernel_rfl) (fun _ _ _ h => h) (Or.inl ⟨by rfl, ?_⟩) (by assumption) ?_
      rotate_left
      · intro w hSw; (try dsimp only at hSw); go_simp; try with_reducible rfl
      try simp only [Act.put, List.getElem_toArray, List.getElem_cons_succ, List.getElem_cons_zero, List.setIfInBounds_toArray, List.set_cons_zero, List.set_cons_succ]
      refine wpAnyH_take (i := 12) (v := ?_) rfl (by kernel_rfl) (by kernel_rfl) (by kernel_rfl) (fun _ _ _ h => h) (Or.inl ⟨by rfl, ?_⟩) (by assumption) ?_
      rotate_left
      · intro w hSw; (try dsimp only at hSw); go_simp; try with_reducible rfl
      try simp only [Act.put, List.getElem_toArray, List.getElem_cons_succ, List.getElem_cons_zero, List.setIfInBounds_toArray, List.set_cons_zero, List.set_cons_succ]
      refine wpAnyH_take (i := 13) (v := ?_) rfl (by kernel_rfl) (by kernel_rfl) (by kernel_rfl) (fun _ _ _ h => h) (Or.inl ⟨by rfl, ?_⟩) (by assumption) ?_
      rotate_left
      · intro w hSw; (try dsimp only at hSw); go_simp; try with_reducible rfl
      try simp only [Act.put, List.getElem_toArray, List.getElem_cons_succ, List.getElem_cons_zero, List.setIfInBounds_toArray, List.set_cons_zero, List.set_cons_succ]
      refine wpAnyH_take (i := 14) (v := ?_) rfl (by kernel_rfl) (by kernel_rfl) (by kernel_rfl) (fun _ _ _ h => h) (Or.inl ⟨by rfl, ?_⟩) (by assumption) ?_
      rotate_left
      · intro w hSw; (try dsimp only at hSw); go_simp; try with_reducible rfl
      try simp only [Act.put, List.getElem_toArray, List.getElem_cons_succ, List.getElem_cons_zero, List.setIfInBounds_toArray, List.set_cons_zero, List.set_cons_succ]
      refine wpAnyH_take (i := 15) (v := ?_) rfl (by kernel_rfl) (by kernel_rfl) (by kernel_rfl) (fun _ _ _ h => h) (Or.inl ⟨by rfl, ?_⟩) (by assumption) ?_
      rotate_left
      · intro w hSw; (try dsimp only at hSw); go_simp; try with_reducible rfl
      try simp only [Act.put, List.getElem_toArray, List.getElem_cons_succ, List.getElem_cons_zero, List.setIfInBounds_toArray, List.set_cons_zero, List.set_cons_succ]
      refine wpAnyH_done (by kernel_rfl) ?_ _
      clear hHeld
      have D1 := Lib.hid (H.out.still (HW.out.trans t1))
      obtain ⟨e0, e1, e2, e3, e4, e5⟩ := td_cells D1.out
      have T1 := Lib.hid (HW.out.trans t1)
      clear t1
      go_wp2_with fail
      go_ret
      exact ⟨0, k, true, rfl, by constructor <;> decide, D1.out.set 2 _ rfl H.out.le, (Turn.mono T1.out fun _ _ e => False.elim e).set_g 2 _, fun _ => rfl, Nat.le_refl _, fun _ _ => rfl, fun hb x R1 e => (by rw [HN.out] at e; cases e)⟩
end Go.Proofs.YthlifflapgccbaaGreat
/- The document's taker in memory: how many. -/
namespace Go.Proofs.YthlifflapgccbaaGreat
set_option linter.unusedVariables false
set_option linter.unusedSimpArgs false
open Go.ChangeShapes Go.WideShapes Go.ChangeAt Go.RowKit
open M (W)
theorem qLen_of {R R1 : List Int} {n : Int} (h : M.qNum R = some (n, R1)) : M.qLen R = if 0 ≤ n ∧ n ≤ R1.length then some (n.toNat, R1) else none := by
  unfold M.qLen; rw [h]
theorem qLen_no {R : List Int} (h : M.qNum R = none) : M.qLen R = none := by
  unfold M.qLen; rw [h]
set_option maxRecDepth 100000 in
set_option maxHeartbeats 4000000 in
theorem tcount_any {q : RP} (hq : q.ok) {w : World} {k : Nat} {bad : Bool} (h : Td q w k bad) :
    Calls Tryz.prog 12 #[.pointer (some ⟨q.g, 0, none⟩)] w fun e w' => ∃ (n k' : Nat) (bad' : Bool), e = .returned (.int .i64 (n : Int)) ∧ n + k' ≤ q.L.length ∧ StepT q M.qLen (fun x => x = n) w w' k bad k' bad' := by
  have H := Lib.hid (tnum_any hq h)
  clear h
  go_enter Tryz.func12, Tryz.ntmps12
  go_wp2_with fail
  refine H.out.mono ?_; rintro e w1 ⟨n, k1, b1, rfl, hn, hs⟩
  have hle := hs.rd.le
  have hqs := hq.small
  obtain ⟨hl, c0, c1, c2, f1, f2⟩ := td_cells hs.rd
  obtain ⟨len, hlen⟩ : ∃ len, q.L.length = len := ⟨_, rfl⟩
  rw [hlen] at c0 hle hqs
  have HS := Lib.hid (And.intro hs hlen)
  have hwr : IntKind.i64.wrap ((len : Int) - (k1 : Int)) = (len : Int) - (k1 : Int) := by rw [IntKind.wrap_i64]; omega
  have HR := Lib.hid (fun (W : World) (hW : Still w1 W) => hs.rd.still hW)
  have hbadres : ∀ (W : World) , Still w1 W → (∀ x, M.qLen (q.L.drop k) = some x → bad = false → b1 = false → False) → StepT q M.qLen (fun x => x = 0) w (W.setCell ⟨q.g, 2, none⟩ (.bool true)) k bad k1 true := fun W hW hno =>
    ⟨(hs.rd.still hW).set 2 _ rfl hs.rd.le, (hs.turn.trans (Turn.mono hW fun _ _ e => False.elim e)).set_g 2 _, fun _ => rfl, hs.far, fun _ _ => rfl, fun hb x R1 e => by
      exfalso
      cases hp : M.qNum (q.L.drop k) with
      | none => rw [qLen_no hp] at e; cases e
      | some y =>
        obtain ⟨y, R⟩ := y
        exact hno _ e hb (hs.yes hb y R hp).1⟩
  have HB := Lib.hid hbadres
  have hval : ∀ y R, M.qNum (q.L.drop k) = some (y, R) → bad = false → n = y ∧ q.L.drop k1 = R := fun y R hp hb => ⟨(hs.yes hb y R hp).2.2, (hs.yes hb y R hp).2.1⟩
  have HV := Lib.hid hval
  have HN := Lib.hid hn
  clear hs hbadres hval hlen hn
  by_cases hneg : n < 0
  · have x1 : decide (n < 0) = true := decide_eq_true hneg
    have HG := Lib.hid hneg
    go_wp2_with fail
    refine wp_region_held_drew (S := fun W => W.cell? ⟨q.g, 0, none⟩ = some (.slice (some ⟨q.b, q.off, none⟩) len q.cap) ∧ W.cell? ⟨q.g, 1, none⟩ = some (.int .i64 k1)) (by kernel_rfl) ⟨c0, c1⟩ (fun hHeld => ?_)
    refine wpAnyH_take (i := 0) (v := ?_) rfl (by kernel_rfl) (by kernel_rfl) (by kernel_rfl) (fun _ _ _ h => h) (Or.inl ⟨by rfl, ?_⟩) (by assumption) ?_
    rotate_left
    · intro w hSw; (try dsimp only at hSw); go_simp; try with_reducible rfl
    try simp only [Act.put, List.getElem_toArray, List.getElem_cons_succ, List.getElem_cons_zero, List.setIfInBounds_toArray, List.set_cons_zero, List.set_cons_succ]
    refine wpAnyH_take (i := 1) (v := .bool true) rfl (by kernel_rfl) (by kernel_rfl) (by kernel_rfl) (fun _ _ _ h => h) (Or.inl ⟨by rfl, ?_⟩) (by assumption) ?_
    · intro w hSw; (try dsimp only at hSw); go_simp
    try simp only [Act.put, List.getElem_toArray, List.getElem_cons_succ, List.getElem_cons_zero, List.setIfInBounds_toArray, List.set_cons_zero, List.set_cons_succ]
    refine wpAnyH_take (i := 2) (v := ?_) rfl (by kernel_rfl) (by kernel_rfl) (by kernel_rfl) (fun _ _ _ h => h) (Or.inl ⟨by rfl, ?_⟩) (by assumption) ?_
    rotate_left
    · intro w hSw; (try dsimp only at hSw); go_simp; try with_reducible rfl
    try simp only [Act.put, List.getElem_toArray, List.getElem_cons_succ, List.getElem_cons_zero, List.setIfInBounds_toArray, List.set_cons_zero, List.set_cons_succ]
    refine wpAnyH_take (i := 3) (v := undef) rfl (by kernel_rfl) (by kernel_rfl) (by kernel_rfl) (fun _ _ _ h => h) (Or.inr ⟨by rfl, rfl⟩) (by assumption) ?_
    try simp only [Act.put, List.getElem_toArray, List.getElem_cons_succ, List.getElem_cons_zero, List.setIfInBounds_toArray, List.set_cons_zero, List.set_cons_succ]
    refine wpAnyH_take (i := 4) (v := undef) rfl (by kernel_rfl) (by kernel_rfl) (by kernel_rfl) (fun _ _ _ h => h) (Or.inr ⟨by rfl, rfl⟩) (by assumption) ?_
    try simp only [Act.put, List.getElem_toArray, List.getElem_cons_succ, List.getElem_cons_zero, List.setIfInBounds_toArray, List.set_cons_zero, List.set_cons_succ]
    refine wpAnyH_take (i := 5) (v := undef) rfl (by kernel_rfl) (by kernel_rfl) (by kernel_rfl) (fun _ _ _ h => h) (Or.inr ⟨by rfl, rfl⟩) (by assumption) ?_
    try simp only [Act.put, List.getElem_toArray, List.getElem_cons_succ, List.getElem_cons_zero, List.setIfInBounds_toArray, List.set_cons_zero, List.set_cons_succ]
    refine wpAnyH_take (i := 6) (v := undef) rfl (by kernel_rfl) (by kernel_rfl) (by kernel_rfl) (fun _ _ _ h => h) (Or.inr ⟨by rfl, rfl⟩) (by assumption) ?_
    try simp only [Act.put, List.getElem_toArray, List.getElem_cons_succ, List.getElem_cons_zero, List.setIfInBounds_toArray, List.set_cons_zero, List.set_cons_succ]
    refine wpAnyH_take (i := 7) (v := undef) rfl (by kernel_rfl) (by kernel_rfl) (by kernel_rfl) (fun _ _ _ h => h) (Or.inr ⟨by rfl, rfl⟩) (by assumption) ?_
    try simp only [Act.put, List.getElem_toArray, List.getElem_cons_succ, List.getElem_cons_zero, List.setIfInBounds_toArray, List.set_cons_zero, List.set_cons_succ]
    refine wpAnyH_take (i := 8) (v := undef) rfl (by kernel_rfl) (by kernel_rfl) (by kernel_rfl) (fun _ _ _ h => h) (Or.inr ⟨by rfl, rfl⟩) (by assumption) ?_
    try simp only [Act.put, List.getElem_toArray, List.getElem_cons_succ, List.getElem_cons_zero, List.setIfInBounds_toArray, List.set_cons_zero, List.set_cons_succ]
    refine wpAnyH_take (i := 9) (v := undef) rfl (by kernel_rfl) (by kernel_rfl) (by kernel_rfl) (fun _ _ _ h => h) (Or.inr ⟨by rfl, rfl⟩) (by assumption) ?_
    try simp only [Act.put, List.getElem_toArray, List.getElem_cons_succ, List.getElem_cons_zero, List.setIfInBounds_toArray, List.set_cons_zero, List.set_cons_succ]
    refine wpAnyH_take (i := 10) (v := undef) rfl (by kernel_rfl) (by kernel_rfl) (by kernel_rfl) (fun _ _ _ h => h) (Or.inr ⟨by rfl, rfl⟩) (by assumption) ?_
    try simp only [Act.put, List.getElem_toArray, List.getElem_cons_succ, List.getElem_cons_zero, List.setIfInBounds_toArray, List.set_cons_zero, List.set_cons_succ]
    refine wpAnyH_take (i := 11) (v := undef) rfl (by kernel_rfl) (by kernel_rfl) (by kernel_rfl) (fun _ _ _ h => h) (Or.inr ⟨by rfl, rfl⟩) (by assumption) ?_
    try simp only [Act.put, List.getElem_toArray, List.getElem_cons_succ, List.getElem_cons_zero, List.setIfInBounds_toArray, List.set_cons_zero, List.set_cons_succ]
    refine wpAnyH_take (i := 12) (v := undef) rfl (by kernel_rfl) (by kernel_rfl) (by kernel_rfl) (fun _ _ _ h => h) (Or.inr ⟨by rfl, rfl⟩) (by assumption) ?_
    try simp only [Act.put, List.getElem_toArray, List.getElem_cons_succ, List.getElem_cons_zero, List.setIfInBounds_toArray, List.set_cons_zero, List.set_cons_succ]
    refine wpAnyH_take (i := 13) (v := undef) rfl (by kernel_rfl) (by kernel_rfl) (by kernel_rfl) (fun _ _ _ h => h) (Or.inr ⟨by rfl, rfl⟩) (by assumption) ?_
    try simp only [Act.put, List.getElem_toArray, List.getElem_cons_succ, List.getElem_cons_zero, List.setIfInBounds_toArray, List.set_cons_zero, List.set_cons_succ]
    refine wpAnyH_take (i := 14) (v := undef) rfl (by kernel_rfl) (by kernel_rfl) (by kernel_rfl) (fun _ _ _ h => h) (Or.inr ⟨by rfl, rfl⟩) (by assumption) ?_
    try simp only [Act.put, List.getElem_toArray, List.getElem_cons_succ, List.getElem_cons_zero, List.setIfInBounds_toArray, List.set_cons_zero, List.set_cons_succ]
    refine wpAnyH_take (i := 15) (v := .bool true) rfl (by kernel_rfl) (by kernel_rfl) (by kernel_rfl) (fun _ _ _ h => h) (Or.inl ⟨by rfl, ?_⟩) (by assumption) ?_
    · intro w hSw; (try dsimp only at hSw); go_simp
    try simp only [Act.put, List.getElem_toArray, List.getElem_cons_succ, List.getElem_cons_zero, List.setIfInBounds_toArray, List.set_cons_zero, List.set_cons_succ]
    refine wpAnyH_done (by kernel_rfl) ?_ _
    clear hHeld
    go_wp2_with fail
    go_ret
    refine ⟨0, k1, true, rfl, by have := HS.out.2; omega, HB.out _ ((Still.refl w1).drewN 1) fun x hx hb hb1 => ?_⟩
    cases hp : M.qNum (q.L.drop k) with
    | none => rw [qLen_no hp] at hx; cases hx
    | some y =>
      obtain ⟨y, R⟩ := y
      obtain ⟨e1, e2⟩ := HV.out y R hp hb
      rw [qLen_of hp, if_neg (by have := HG.out; omega)] at hx
      cases hx
  · have x1 : decide (n < 0) = false := decide_eq_false hneg
    have HG := Lib.hid hneg
    by_cases hbig : (len : Int) - (k1 : Int) < n
    · have x2 : decide ((len : Int) - (k1 : Int) < n) = true := decide_eq_true hbig
      have HBG := Lib.hid hbig
      go_wp2_with fail
      refine wp_region_held_drew (S := fun W => W.cell? ⟨q.g, 0, none⟩ = some (.slice (some ⟨q.b, q.off, none⟩) len q.cap) ∧ W.cell? ⟨q.g, 1, none⟩ = some (.int .i64 k1)) (by kernel_rfl) ⟨c0, c1⟩ (fun hHeld => ?_)
      refine wpAnyH_take (i := 0) (v := ?_) rfl (by kernel_rfl) (by kernel_rfl) (by kernel_rfl) (fun _ _ _ h => h) (Or.inl ⟨by rfl, ?_⟩) (by assumption) ?_
      rotate_left
      · intro w hSw; (try dsimp only at hSw); go_simp; try with_reducible rfl
      try simp only [Act.put, List.getElem_toArray, List.getElem_cons_succ, List.getElem_cons_zero, List.setIfInBounds_toArray, List.set_cons_zero, List.set_cons_succ]
      refine wpAnyH_take (i := 1) (v := .bool false) rfl (by kernel_rfl) (by kernel_rfl) (by kernel_rfl) (fun _ _ _ h => h) (Or.inl ⟨by rfl, ?_⟩) (by assumption) ?_
      · intro w hSw; (try dsimp only at hSw); go_simp
      try simp only [Act.put, List.getElem_toArray, List.getElem_cons_succ, List.getElem_cons_zero, List.setIfInBounds_toArray, List.set_cons_zero, List.set_cons_succ]
      refine wpAnyH_take (i := 2) (v := ?_) rfl (by kernel_rfl) (by kernel_rfl) (by kernel_rfl) (fun _ _ _ h => h) (Or.inl ⟨by rfl, ?_⟩) (by assumption) ?_
      rotate_left
      · intro w hSw; (try dsimp only at hSw); go_simp; try with_reducible rfl
      try simp only [Act.put, List.getElem_toArray, List.getElem_cons_succ, List.getElem_cons_zero, List.setIfInBounds_toArray, List.set_cons_zero, List.set_cons_succ]
      refine wpAnyH_take (i := 3) (v := ?_) rfl (by kernel_rfl) (by kernel_rfl) (by kernel_rfl) (fun _ _ _ h => h) (Or.inl ⟨by rfl, ?_⟩) (by assumption) ?_
      rotate_left
      · intro w hSw; (try dsimp only at hSw); go_simp; try with_reducible rfl
      try simp only [Act.put, List.getElem_toArray, List.getElem_cons_succ, List.getElem_cons_zero, List.setIfInBounds_toArray, List.set_cons_zero, List.set_cons_succ]
      refine wpAnyH_take (i := 4) (v := ?_) rfl (by kernel_rfl) (by kernel_rfl) (by kernel_rfl) (fun _ _ _ h => h) (Or.inl ⟨by rfl, ?_⟩) (by assumption) ?_
      rotate_left
      · intro w hSw; (try dsimp only at hSw); go_simp; try with_reducible rfl
      try simp only [Act.put, List.getElem_toArray, List.getElem_cons_succ, List.getElem_cons_zero, List.setIfInBounds_toArray, List.set_cons_zero, List.set_cons_succ]
      refine wpAnyH_take (i := 5) (v := ?_) rfl (by kernel_rfl) (by kernel_rfl) (by kernel_rfl) (fun _ _ _ h => h) (Or.inl ⟨by rfl, ?_⟩) (by assumption) ?_
      rotate_left
      · intro w hSw; (try dsimp only at hSw); go_simp; try with_reducible rfl
      try simp only [Act.put, List.getElem_toArray, List.getElem_cons_succ, List.getElem_cons_zero, List.setIfInBounds_toArray, List.set_cons_zero, List.set_cons_succ]
      refine wpAnyH_take (i := 6) (v := ?_) rfl (by kernel_rfl) (by kernel_rfl) (by kernel_rfl) (fun _ _ _ h => h) (Or.inl ⟨by rfl, ?_⟩) (by assumption) ?_
      rotate_left
      · intro w hSw; (try dsimp only at hSw); go_simp; try with_reducible rfl
      try simp only [Act.put, List.getElem_toArray, List.getElem_cons_succ, List.getElem_cons_zero, List.setIfInBounds_toArray, List.set_cons_zero, List.set_cons_succ]
      refine wpAnyH_take (i := 7) (v := ?_) rfl (by kernel_rfl) (by kernel_rfl) (by kernel_rfl) (fun _ _ _ h => h) (Or.inl ⟨by rfl, ?_⟩) (by assumption) ?_
      rotate_left
      · intro w hSw; (try dsimp only at hSw); go_simp; try with_reducible rfl
      try simp only [Act.put, List.getElem_toArray, List.getElem_cons_succ, List.getElem_cons_zero, List.setIfInBounds_toArray, List.set_cons_zero, List.set_cons_succ]
      refine wpAnyH_take (i := 8) (v := ?_) rfl (by kernel_rfl) (by kernel_rfl) (by kernel_rfl) (fun _ _ _ h => h) (Or.inl ⟨by rfl, ?_⟩) (by assumption) ?_
      rotate_left
      · intro w hSw; (try dsimp only at hSw); go_simp; try with_reducible rfl
      try simp only [Act.put, List.getElem_toArray, List.getElem_cons_succ, List.getElem_cons_zero, List.setIfInBounds_toArray, List.set_cons_zero, List.set_cons_succ]
      refine wpAnyH_take (i := 9) (v := ?_) rfl (by kernel_rfl) (by kernel_rfl) (by kernel_rfl) (fun _ _ _ h => h) (Or.inl ⟨by rfl, ?_⟩) (by assumption) ?_
      rotate_left
      · intro w hSw; (try dsimp only at hSw); go_simp; try with_reducible rfl
      try simp only [Act.put, List.getElem_toArray, List.getElem_cons_succ, List.getElem_cons_zero, List.setIfInBounds_toArray, List.set_cons_zero, List.set_cons_succ]
      refine wpAnyH_take (i := 10) (v := ?_) rfl (by kernel_rfl) (by kernel_rfl) (by kernel_rfl) (fun _ _ _ h => h) (Or.inl ⟨by rfl, ?_⟩) (by assumption) ?_
      rotate_left
      · intro w hSw; (try dsimp only at hSw); go_simp; try with_reducible rfl
      try simp only [Act.put, List.getElem_toArray, List.getElem_cons_succ, List.getElem_cons_zero, List.setIfInBounds_toArray, List.set_cons_zero, List.set_cons_succ]
      refine wpAnyH_take (i := 11) (v := ?_) rfl (by kernel_rfl) (by kernel_rfl) (by kernel_rfl) (fun _ _ _ h => h) (Or.inl ⟨by rfl, ?_⟩) (by assumption) ?_
      rotate_left
      · intro w hSw; (try dsimp only at hSw); go_simp; try with_reducible rfl
      try simp only [Act.put, List.getElem_toArray, List.getElem_cons_succ, List.getElem_cons_zero, List.setIfInBounds_toArray, List.set_cons_zero, List.set_cons_succ]
      refine wpAnyH_take (i := 12) (v := ?_) rfl (by kernel_rfl) (by kernel_rfl) (by kernel_rfl) (fun _ _ _ h => h) (Or.inl ⟨by rfl, ?_⟩) (by assumption) ?_
      rotate_left
      · intro w hSw; (try dsimp only at hSw); go_simp; try with_reducible rfl
      try simp only [Act.put, List.getElem_toArray, List.getElem_cons_succ, List.getElem_cons_zero, List.setIfInBounds_toArray, List.set_cons_zero, List.set_cons_succ]
      refine wpAnyH_take (i := 13) (v := ?_) rfl (by kernel_rfl) (by kernel_rfl) (by kernel_rfl) (fun _ _ _ h => h) (Or.inl ⟨by rfl, ?_⟩) (by assumption) ?_
      rotate_left
      · intro w hSw; (try dsimp only at hSw); go_simp; try with_reducible rfl
      try simp only [Act.put, List.getElem_toArray, List.getElem_cons_succ, List.getElem_cons_zero, List.setIfInBounds_toArray, List.set_cons_zero, List.set_cons_succ]
      refine wpAnyH_take (i := 14) (v := .bool true) rfl (by kernel_rfl) (by kernel_rfl) (by kernel_rfl) (fun _ _ _ h => h) (Or.inl ⟨by rfl, ?_⟩) (by assumption) ?_
      · intro w hSw; (try dsimp only at hSw); go_simp
      try simp only [Act.put, List.getElem_toArray, List.getElem_cons_succ, List.getElem_cons_zero, List.setIfInBounds_toArray, List.set_cons_zero, List.set_cons_succ]
      refine wpAnyH_take (i := 15) (v := .bool true) rfl (by kernel_rfl) (by kernel_rfl) (by kernel_rfl) (fun _ _ _ h => h) (Or.inl ⟨by rfl, ?_⟩) (by assumption) ?_
      · intro w hSw; (try dsimp only at hSw); go_simp
      try simp only [Act.put, List.getElem_toArray, List.getElem_cons_succ, List.getElem_cons_zero, List.setIfInBounds_toArray, List.set_cons_zero, List.set_cons_succ]
      refine wpAnyH_done (by kernel_rfl) ?_ _
      clear hHeld
      go_wp2_with fail
      go_ret
      refine ⟨0, k1, true, rfl, by have := HS.out.2; omega, HB.out _ ((Still.refl w1).drewN 1) fun x hx hb hb1 => ?_⟩
      cases hp : M.qNum (q.L.drop k) with
      | none => rw [qLen_no hp] at hx; cases hx
      | some y =>
        obtain ⟨y, R⟩ := y
        obtain ⟨e1, e2⟩ := HV.out y R hp hb
        rw [qLen_of hp, if_neg (by have h1 := HBG.out; have h2 := HS.out.2; rw [← e2, List.length_drop]; omega)] at hx
        cases hx
    · have x2 : decide ((len : Int) - (k1 : Int) < n) = false := decide_eq_false hbig
      have HBG := Lib.hid hbig
      go_wp2_with fail
      refine wp_region_held_drew (S := fun W => W.cell? ⟨q.g, 0, none⟩ = some (.slice (some ⟨q.b, q.off, none⟩) len q.cap) ∧ W.cell? ⟨q.g, 1, none⟩ = some (.int .i64 k1)) (by kernel_rfl) ⟨c0, c1⟩ (fun hHeld => ?_)
      refine wpAnyH_take (i := 0) (v := ?_) rfl (by kernel_rfl) (by kernel_rfl) (by kernel_rfl) (fun _ _ _ h => h) (Or.inl ⟨by rfl, ?_⟩) (by assumption) ?_
      rotate_left
      · intro w hSw; (try dsimp only at hSw); go_simp; try with_reducible rfl
      try simp only [Act.put, List.getElem_toArray, List.getElem_cons_succ, List.getElem_cons_zero, List.setIfInBounds_toArray, List.set_cons_zero, List.set_cons_succ]
      refine wpAnyH_take (i := 1) (v := .bool false) rfl (by kernel_rfl) (by kernel_rfl) (by kernel_rfl) (fun _ _ _ h => h) (Or.inl ⟨by rfl, ?_⟩) (by assumption) ?_
      · intro w hSw; (try dsimp only at hSw); go_simp
      try simp only [Act.put, List.getElem_toArray, List.getElem_cons_succ, List.getElem_cons_zero, List.setIfInBounds_toArray, List.set_cons_zero, List.set_cons_succ]
      refine wpAnyH_take (i := 2) (v := ?_) rfl (by kernel_rfl) (by kernel_rfl) (by kernel_rfl) (fun _ _ _ h => h) (Or.inl ⟨by rfl, ?_⟩) (by assumption) ?_
      rotate_left
      · intro w hSw; (try dsimp only at hSw); go_simp; try with_reducible rfl
      try simp only [Act.put, List.getElem_toArray, List.getElem_cons_succ, List.getElem_cons_zero, List.setIfInBounds_toArray, List.set_cons_zero, List.set_cons_succ]
      refine wpAnyH_take (i := 3) (v := ?_) rfl (by kernel_rfl) (by kernel_rfl) (by kernel_rfl) (fun _ _ _ h => h) (Or.inl ⟨by rfl, ?_⟩) (by assumption) ?_
      rotate_left
      · intro w hSw; (try dsimp only at hSw); go_simp; try with_reducible rfl
      try simp only [Act.put, List.getElem_toArray, List.getElem_cons_succ, List.getElem_cons_zero, List.setIfInBounds_toArray, List.set_cons_zero, List.set_cons_succ]
      refine wpAnyH_take (i := 4) (v := ?_) rfl (by kernel_rfl) (by kernel_rfl) (by kernel_rfl) (fun _ _ _ h => h) (Or.inl ⟨by rfl, ?_⟩) (by assumption) ?_
      rotate_left
      · intro w hSw; (try dsimp only at hSw); go_simp; try with_reducible rfl
      try simp only [Act.put, List.getElem_toArray, List.getElem_cons_succ, List.getElem_cons_zero, List.setIfInBounds_toArray, List.set_cons_zero, List.set_cons_succ]
      refine wpAnyH_take (i := 5) (v := ?_) rfl (by kernel_rfl) (by kernel_rfl) (by kernel_rfl) (fun _ _ _ h => h) (Or.inl ⟨by rfl, ?_⟩) (by assumption) ?_
      rotate_left
      · intro w hSw; (try dsimp only at hSw); go_simp; try with_reducible rfl
      try simp only [Act.put, List.getElem_toArray, List.getElem_cons_succ, List.getElem_cons_zero, List.setIfInBounds_toArray, List.set_cons_zero, List.set_cons_succ]
      refine wpAnyH_take (i := 6) (v := ?_) rfl (by kernel_rfl) (by kernel_rfl) (by kernel_rfl) (fun _ _ _ h => h) (Or.inl ⟨by rfl, ?_⟩) (by assumption) ?_
      rotate_left
      · intro w hSw; (try dsimp only at hSw); go_simp; try with_reducible rfl
      try simp only [Act.put, List.getElem_toArray, List.getElem_cons_succ, List.getElem_cons_zero, List.setIfInBounds_toArray, List.set_cons_zero, List.set_cons_succ]
      refine wpAnyH_take (i := 7) (v := ?_) rfl (by kernel_rfl) (by kernel_rfl) (by kernel_rfl) (fun _ _ _ h => h) (Or.inl ⟨by rfl, ?_⟩) (by assumption) ?_
      rotate_left
      · intro w hSw; (try dsimp only at hSw); go_simp; try with_reducible rfl
      try simp only [Act.put, List.getElem_toArray, List.getElem_cons_succ, List.getElem_cons_zero, List.setIfInBounds_toArray, List.set_cons_zero, List.set_cons_succ]
      refine wpAnyH_take (i := 8) (v := ?_) rfl (by kernel_rfl) (by kernel_rfl) (by kernel_rfl) (fun _ _ _ h => h) (Or.inl ⟨by rfl, ?_⟩) (by assumption) ?_
      rotate_left
      · intro w hSw; (try dsimp only at hSw); go_simp; try with_reducible rfl
      try simp only [Act.put, List.getElem_toArray, List.getElem_cons_succ, List.getElem_cons_zero, List.setIfInBounds_toArray, List.set_cons_zero, List.set_cons_succ]
      refine wpAnyH_take (i := 9) (v := ?_) rfl (by kernel_rfl) (by kernel_rfl) (by kernel_rfl) (fun _ _ _ h => h) (Or.inl ⟨by rfl, ?_⟩) (by assumption) ?_
      rotate_left
      · intro w hSw; (try dsimp only at hSw); go_simp; try with_reducible rfl
      try simp only [Act.put, List.getElem_toArray, List.getElem_cons_succ, List.getElem_cons_zero, List.setIfInBounds_toArray, List.set_cons_zero, List.set_cons_succ]
      refine wpAnyH_take (i := 10) (v := ?_) rfl (by kernel_rfl) (by kernel_rfl) (by kernel_rfl) (fun _ _ _ h => h) (Or.inl ⟨by rfl, ?_⟩) (by assumption) ?_
      rotate_left
      · intro w hSw; (try dsimp only at hSw); go_simp; try with_reducible rfl
      try simp only [Act.put, List.getElem_toArray, List.getElem_cons_succ, List.getElem_cons_zero, List.setIfInBounds_toArray, List.set_cons_zero, List.set_cons_succ]
      refine wpAnyH_take (i := 11) (v := ?_) rfl (by kernel_rfl) (by kernel_rfl) (by kernel_rfl) (fun _ _ _ h => h) (Or.inl ⟨by rfl, ?_⟩) (by assumption) ?_
      rotate_left
      · intro w hSw; (try dsimp only at hSw); go_simp; try with_reducible rfl
      try simp only [Act.put, List.getElem_toArray, List.getElem_cons_succ, List.getElem_cons_zero, List.setIfInBounds_toArray, List.set_cons_zero, List.set_cons_succ]
      refine wpAnyH_take (i := 12) (v := ?_) rfl (by kernel_rfl) (by kernel_rfl) (by kernel_rfl) (fun _ _ _ h => h) (Or.inl ⟨by rfl, ?_⟩) (by assumption) ?_
      rotate_left
      · intro w hSw; (try dsimp only at hSw); go_simp; try with_reducible rfl
      try simp only [Act.put, List.getElem_toArray, List.getElem_cons_succ, List.getElem_cons_zero, List.setIfInBounds_toArray, List.set_cons_zero, List.set_cons_succ]
      refine wpAnyH_take (i := 13) (v := ?_) rfl (by kernel_rfl) (by kernel_rfl) (by kernel_rfl) (fun _ _ _ h => h) (Or.inl ⟨by rfl, ?_⟩) (by assumption) ?_
      rotate_left
      · intro w hSw; (try dsimp only at hSw); go_simp; try with_reducible rfl
      try simp only [Act.put, List.getElem_toArray, List.getElem_cons_succ, List.getElem_cons_zero, List.setIfInBounds_toArray, List.set_cons_zero, List.set_cons_succ]
      refine wpAnyH_take (i := 14) (v := .bool false) rfl (by kernel_rfl) (by kernel_rfl) (by kernel_rfl) (fun _ _ _ h => h) (Or.inl ⟨by rfl, ?_⟩) (by assumption) ?_
      · intro w hSw; (try dsimp only at hSw); go_simp
      try simp only [Act.put, List.getElem_toArray, List.getElem_cons_succ, List.getElem_cons_zero, List.setIfInBounds_toArray, List.set_cons_zero, List.set_cons_succ]
      refine wpAnyH_take (i := 15) (v := .bool false) rfl (by kernel_rfl) (by kernel_rfl) (by kernel_rfl) (fun _ _ _ h => h) (Or.inl ⟨by rfl, ?_⟩) (by assumption) ?_
      · intro w hSw; (try dsimp only at hSw); go_simp
      try simp only [Act.put, List.getElem_toArray, List.getElem_cons_succ, List.getElem_cons_zero, List.setIfInBounds_toArray, List.set_cons_zero, List.set_cons_succ]
      refine wpAnyH_done (by kernel_rfl) ?_ _
      clear hHeld
      go_wp2_with fail
      go_ret
      obtain ⟨m, rfl⟩ : ∃ m : Nat, n = (m : Int) := ⟨n.toNat, by have := HG.out; omega⟩
      have h2 := HS.out.2
      have h3 := HBG.out
      refine ⟨m, k1, b1, rfl, by omega, HR.out _ ((Still.refl w1).drewN 1), HS.out.1.turn.trans (Turn.mono ((Still.refl w1).drewN 1) fun _ _ e => False.elim e), HS.out.1.stay, HS.out.1.far, fun hb e => ?_, fun hb x R1 e => ?_⟩
      · cases hp : M.qNum (q.L.drop k) with
        | none => exact HS.out.1.no hb hp
        | some y =>
          obtain ⟨y, R⟩ := y
          obtain ⟨e1, e2⟩ := HV.out y R hp hb
          rw [qLen_of hp, if_pos (by rw [← e1, ← e2, List.length_drop]; omega)] at e
          cases e
      · cases hp : M.qNum (q.L.drop k) with
        | none => rw [qLen_no hp] at e; cases e
        | some y =>
          obtain ⟨y, R⟩ := y
          obtain ⟨e1, e2⟩ := HV.out y R hp hb
          rw [qLen_of hp, if_pos (by rw [← e1, ← e2, List.length_drop]; omega), ← e1] at e
          cases e
          exact ⟨(HS.out.1.yes hb _ _ hp).1, e2, rfl⟩
end Go.Proofs.YthlifflapgccbaaGreat
/- The document's taker in memory: lists of numbers. -/
namespace Go.Proofs.YthlifflapgccbaaGreat
set_option linter.unusedVariables false
set_option linter.unusedSimpArgs false
open Go.ChangeShapes Go.WideShapes Go.ChangeAt Go.RowKit
open M (W)
namespace M
theorem qrep_snoc {α : Type} (p : Pr α) : ∀ (n : Nat) (R : List Int), qRep p (n + 1) R = match qRep p n R with
    | some (l, R1) => (match p R1 with
      | some (x, R2) => some (l ++ [x], R2)
      | none => none)
    | none => none
  | 0, R => by
    simp only [qRep]
    cases p R with
    | none => rfl
    | some y => rfl
  | n + 1, R => by
    show (match p R with
      | some (x, R1) => (match qRep p (n + 1) R1 with
        | some (l, R2) => some (x :: l, R2)
        | none => none)
      | none => none) = (match (match p R with
      | some (x, R1) => (match qRep p n R1 with
        | some (l, R2) => some (x :: l, R2)
        | none => none)
      | none => none) with
      | some (l, R1) => (match p R1 with
        | some (x, R2) => some (l ++ [x], R2)
        | none => none)
      | none => none)
    cases hp : p R with
    | none => rfl
    | some y =>
      obtain ⟨x, R1⟩ := y
      simp only
      rw [qrep_snoc p n R1]
      cases qRep p n R1 with
      | none => rfl
      | some z =>
        obtain ⟨l, R2⟩ := z
        simp only
        cases p R2 with
        | none => rfl
        | some u => rfl
end M
/-- One element more. -/
theorem StepT.next {α : Type} {q : RP} {p : M.Pr α} {w w1 w2 w3 : World} {k k1 k2 i : Nat} {bad b1 b2 : Bool} {l : List α} {x : α} (h : StepT q (M.qRep p i) (fun y => y = l) w w1 k bad k1 b1) (u : StepT q p (fun y => x = y) w1 w2 k1 b1 k2 b2) {T : Nat → Prop} (t : Turn T w2 w3) (hT : ∀ j, T j → w.heap.size ≤ j) (hg : q.g < w.heap.size) (hb : q.b < w.heap.size) : StepT q (M.qRep p (i + 1)) (fun y => y = l ++ [x]) w w3 k bad k2 b2 := by
  refine ⟨u.rd.turn t (fun e => by have := hT _ e; omega) (fun e => by have := hT _ e; omega), Turn.mono (S := fun j => j = q.g ∨ w.heap.size ≤ j) ((Turn.mono (h.turn.trans u.turn) fun j _ e => .inl e).trans (Turn.mono t fun j _ e => .inr (hT j e))) (fun j hj e => e.elim id fun e => by omega), fun e => u.stay (h.stay e), Nat.le_trans h.far u.far, fun hb e => ?_, fun hb y R1 e => ?_⟩
  · rw [M.qrep_snoc] at e
    cases hr : M.qRep p i (q.L.drop k) with
    | none => exact u.stay (h.no hb hr)
    | some z =>
      obtain ⟨l', R⟩ := z
      obtain ⟨e1, e2, e3⟩ := h.yes hb l' R hr
      rw [hr] at e
      simp only at e
      cases hp : p R with
      | none => exact u.no e1 (by rw [e2]; exact hp)
      | some v => obtain ⟨v, R2⟩ := v; rw [hp] at e; cases e
  · rw [M.qrep_snoc] at e
    cases hr : M.qRep p i (q.L.drop k) with
    | none => rw [hr] at e; cases e
    | some z =>
      obtain ⟨l', R⟩ := z
      obtain ⟨e1, e2, e3⟩ := h.yes hb l' R hr
      rw [hr] at e
      simp only at e
      cases hp : p R with
      | none => rw [hp] at e; cases e
      | some v =>
        obtain ⟨v, R2⟩ := v
        rw [hp] at e
        cases e
        obtain ⟨d1, d2, d3⟩ := u.yes e1 v R1 (by rw [e2]; exact hp)
        exact ⟨d1, d2, by rw [e3, d3]⟩
/-- What nums answers. -/
def NumsR (q : RP) (w : World) (k : Nat) (bad : Bool) (e : Ending) (w' : World) : Prop := ∃ (a : Option Addr) (n c k' : Nat) (bad' : Bool), e = .returned (.slice a n c) ∧ n ≤ q.L.length ∧ StepT q (M.qList M.qNum) (fun l => IntsQ (Fresh w w') w' a n l) w w' k bad k' bad'
set_option maxRecDepth 100000 in
set_option maxHeartbeats 4000000 in
theorem tnums_any {q : RP} (hq : q.ok) {w : World} {k : Nat} {bad : Bool} (h : Td q w k bad) :
    Calls Tryz.prog 14 #[.pointer (some ⟨q.g, 0, none⟩)] w (NumsR q w k bad) := by
  have H := Lib.hid (tcount_any hq h)
  have hg : q.g < w.heap.size := h.blk.lt
  have hqb : q.b < w.heap.size := h.lt
  have hqs := hq.small
  clear h
  go_enter Tryz.func14, Tryz.ntmps14
  go_wp2_with fail
  refine H.out.mono ?_; rintro e w1 ⟨n, k1, b1, rfl, hn, hs⟩
  have HS := Lib.hid hs
  have hnl : n ≤ q.L.length := by omega
  have hw1 : w.heap.size ≤ w1.heap.size := hs.turn.size
  clear hs hn
  go_wp2_with fail
  go_loopw [3, 5] (fun v3 v5 wr => ∃ (i : Nat) (l : List Int) (a : Option Addr) (c k2 : Nat) (b2 : Bool), v3 = .slice a i c ∧ v5 = .int .i64 i ∧ i ≤ n ∧ l.length = i ∧ (∀ x ∈ l, In64 x) ∧ wr.ownsRow w1.heap.size 3 1 (.slice a i c) i (l.map (Value.int .i64)) ∧ StepT q (M.qRep M.qNum i) (fun y => y = l) w1 wr k1 b1 k2 b2) (fun v3 v5 _ => n - (intOf v5).toNat)
  case atStart => exact ⟨0, [], none, 0, k1, b1, rfl, rfl, Nat.zero_le _, rfl, by simp, ⟨rfl, .inl ⟨rfl, rfl⟩⟩, HS.out.rd, Turn.refl _ _, fun e => e, Nat.le_refl _, fun _ e => (by cases e), fun hb x R1 e => by cases e; exact ⟨hb, rfl, rfl⟩⟩
  case round =>
    obtain ⟨i, l, a, c, k2, b2, rfl, rfl, hi, hl, hin, ho, hst⟩ := hrel
    have HX := Lib.hid (And.intro hl (And.intro hin (And.intro ho hst)))
    have hwr : w1.heap.size ≤ wr.heap.size := hst.turn.size
    clear hl hin ho
    by_cases hlt : i < n
    · have x0 : (i : Int) < (n : Int) := by omega
      have x1 : decide (i < n) = true := decide_eq_true hlt
      have HN := Lib.hid (tnum_any hq hst.rd)
      have HLT := Lib.hid hlt
      clear hst hlt
      go_wp2_with fail
      refine HN.out.mono ?_; rintro e w5 ⟨m, k3, b3, rfl, hm, hs3⟩
      have HM := Lib.hid (And.intro hm hs3)
      have hw5 : w1.heap.size ≤ w5.heap.size := Nat.le_trans hwr hs3.turn.size
      have HO5 := Lib.hid (own_keep HX.out.2.2.1 hs3.turn (fun j e f => by have := (HX.out.2.2.1.lt j e).1; omega))
      clear hm hs3
      go_wp2_with (at_builtin; refine wpList_append_form rfl (.tmp 13) (.tmp 16) 46 rfl w1.heap.size 3 1 8 _ Tryz.underlying46 infoTInt rfl (by decide) a i c (l.map (Value.int .i64)) rfl (HO5.out.alloc _) ⟨w5.heap.size, 0, none⟩ 1 1 [.int .i64 m] rfl rfl (fun j u hj => by rw [Addr.add_lit, Nat.zero_add, (Blk.new w5 3 #[.int .i64 m]).cell j]; simpa using hj) (by simp [Value.oneCell']) (by decide) (by unfold maxLen; omega) (by omega) (by simp; omega) ?_; intro g4 c4 w6 hr6 ht6 hn6)
      have hlowb : ∀ j, (Value.slice a i c).ownBlock = some j → w1.heap.size ≤ j := fun j e => (HO5.out.lt j e).1
      have T56 : Turn (fun k => (Value.slice a i c).ownBlock = some k) w5 w6 := (Turn.mono ((Still.refl w5).alloc _) (fun _ _ e => False.elim e)).trans ht6.out
      have hlt := HLT.out
      refine ⟨⟨i + 1, l ++ [m], _, c4, k3, b3, rfl, by go_num, hlt, by rw [List.length_append, HX.out.1]; rfl, fun x hx => ?_, by rw [List.map_append]; simpa using hr6.out, HX.out.2.2.2.next HM.out.2 T56 hlowb (by omega) (by omega)⟩, by simp [intOf]; omega⟩
      rcases List.mem_append.1 hx with hx | hx
      · exact HX.out.2.1 x hx
      · rw [List.mem_singleton.1 hx]; exact HM.out.1
    · obtain rfl : i = n := by omega
      have x0 : ¬ (i : Int) < (i : Int) := by omega
      have x1 : decide (i < i) = false := decide_eq_false (by omega)
      clear hlt hst
      go_wp2_with fail
      go_ret
      have hq1 := HX.out.2.2.2
      refine ⟨a, i, c, k2, b2, rfl, hnl, hq1.rd, HS.out.turn.trans (Turn.mono hq1.turn fun _ _ e => e), fun e => hq1.stay (HS.out.stay e), Nat.le_trans HS.out.far hq1.far, fun hb e => ?_, fun hb x R1 e => ?_⟩
      · unfold M.qList at e
        cases hl : M.qLen (q.L.drop k) with
        | none => exact hq1.stay (HS.out.no hb hl)
        | some y =>
          obtain ⟨n', R⟩ := y
          obtain ⟨d1, d2, d3⟩ := HS.out.yes hb n' R hl
          rw [hl] at e
          simp only at e
          rw [d3, ← d2] at e
          exact hq1.no d1 e
      · unfold M.qList at e
        cases hl : M.qLen (q.L.drop k) with
        | none => rw [hl] at e; cases e
        | some y =>
          obtain ⟨n', R⟩ := y
          obtain ⟨d1, d2, d3⟩ := HS.out.yes hb n' R hl
          rw [hl] at e
          simp only at e
          rw [d3, ← d2] at e
          obtain ⟨g1, g2, g3⟩ := hq1.yes d1 x R1 e
          refine ⟨g1, g2, ?_⟩
          rw [g3]
          have hown := HX.out.2.2.1
          refine ⟨HX.out.1, fun h0 => ?_⟩
          rcases hown.2 with ⟨h1, h2⟩ | ⟨g, cap, cur, h1, hb2, hgg, hle, hm, _⟩
          · omega
          · have hown2 := hown
            injection h1 with h1 h2 h3
            subst h1 h3
            refine ⟨g, 0, rfl, ⟨Nat.le_trans hw1 hb2, (Array.getElem?_eq_some_iff.1 hgg).1⟩, fun j x hx => ⟨[.int .i64 x], rfl, ⟨rfl, HX.out.2.1 x (List.mem_of_getElem? hx)⟩, fun u hu => ?_⟩⟩
            obtain rfl : u = 0 := by omega
            have hj : j < l.length := (List.getElem?_eq_some_iff.1 hx).1
            have := hown2.cellAt j (by have := HX.out.1; omega)
            rw [show 0 + j * 1 + 0 = j by omega, this, List.getElem?_map, hx]; rfl
end Go.Proofs.YthlifflapgccbaaGreat
/- The document's taker in memory: texts. -/
namespace Go.Proofs.YthlifflapgccbaaGreat
set_option linter.unusedVariables false
set_option linter.unusedSimpArgs false
open Go.ChangeShapes Go.WideShapes Go.ChangeAt Go.RowKit
open M (W)
theorem conv_partT {q : RP} {w : World} {k : Nat} {bad : Bool} (h : Td q w k bad) {j n c : Nat} (hj : j + n ≤ q.L.length) :
    (convert 22 9 (.slice (some ⟨q.b, q.off + j, none⟩) n c)).run Tryz.prog w = .ok (.string (strOfNums ((q.L.drop j).take n))) w := by
  refine run_convert_bytes_arg w 22 5 Tryz.underlying22 Tryz.underlying5 q.b (q.off + j) n c ((q.L.drop j).take n) (by rw [List.length_take, List.length_drop]; omega) ?_ 9 Tryz.underlying9
  intro i hi
  have hi2 : i < n := hi
  rw [show (⟨q.b, q.off + j + i, none⟩ : Addr) = ⟨q.b, q.off + (j + i), none⟩ by rw [Nat.add_assoc], h.cells (j + i) (by omega)]
  simp [List.getD, List.getElem?_take, List.getElem?_drop, hi2]
/-- What text answers. -/
def TextR (q : RP) (w : World) (k : Nat) (bad : Bool) (e : Ending) (w' : World) : Prop := ∃ (s : ByteArray) (k' : Nat) (bad' : Bool), e = .returned (.string s) ∧ s.size ≤ q.L.length ∧ StepT q M.qText (fun x => s = x) w w' k bad k' bad'
set_option maxRecDepth 100000 in
set_option maxHeartbeats 1000000 in
theorem ttext_any {q : RP} (hq : q.ok) {w : World} {k : Nat} {bad : Bool} (h : Td q w k bad) :
    Calls Tryz.prog 15 #[.pointer (some ⟨q.g, 0, none⟩)] w (TextR q w k bad) := by
  have H := Lib.hid (tcount_any hq h)
  have HQ := Lib.hid hq
  clear h hq
  go_enter Tryz.func15, Tryz.ntmps15
  go_wp2_with fail
  refine H.out.mono ?_; rintro e w1 ⟨n, k1, b1, rfl, hn1, hs⟩
  obtain ⟨hl, c0, c1, c2, f1, f2⟩ := td_cells hs.rd
  have HS1 := Lib.hid hs
  have hle := hs.rd.le
  have hsm := HQ.out.small
  have hcap := HQ.out.cap_le.1
  obtain ⟨A, hA⟩ : ∃ A : Option Addr, (if q.cap = k1 then (some ⟨q.b, q.off, none⟩ : Option Addr) else some ⟨q.b, q.off + k1, none⟩) = A := ⟨_, rfl⟩
  obtain ⟨S, hS⟩ : ∃ S, strOfNums ((q.L.drop k1).take n) = S := ⟨_, rfl⟩
  have hcv : ∀ (W : World), Still w1 W → (convert 22 9 (.slice A n (q.cap - k1))).run Tryz.prog W = .ok (.string S) W := fun W hW => by
    rw [← hA, ← hS]
    split
    · rename_i hck
      have hn0 : n = 0 := by omega
      subst hn0
      have := conv_partT (hs.rd.still hW) (j := 0) (n := 0) (c := q.cap - k1) (by omega)
      simpa using this
    · exact conv_partT (hs.rd.still hW) (j := k1) (n := n) (c := q.cap - k1) (by omega)
  have hsz : S.size = n := by rw [← hS, M.size_of, List.length_take, List.length_drop]; omega
  have HSS := Lib.hid (And.intro hS hsz)
  have HCV := Lib.hid hcv
  have HR := Lib.hid hs.rd
  clear hS hsz hs hcv
  have hcq := fun i => HCV.out (w1.drewN i) ((Still.refl w1).drewN i)
  have b1' : (k1 : Int) + n ≤ q.cap := by omega
  have e3 : (k1 : Int) ≤ (k1 : Int) + n := by omega
  have e4 : IntKind.i64.wrap ((k1 : Int) + (n : Int)) = (k1 : Int) + (n : Int) := by rw [IntKind.wrap_i64]; omega
  have HN := Lib.hid hn1
  have hln : ((k1 : Int) + n).toNat - k1 = n := by omega
  go_wp2_with fail
  go_quiet (fail)
  go_wp2_with fail
  go_ret
  have hset : Td q ((w1.drewN nq).setCell ⟨q.g, 1, none⟩ (.int .i64 ((k1 : Int) + (n : Int)))) (k1 + n) b1 := (HR.out.still ((Still.refl w1).drewN nq)).set 1 _ (by simp) (by have := HN.out; omega)
  refine ⟨S, k1 + n, b1, rfl, by rw [HSS.out.2]; have := HN.out; omega, hset, (HS1.out.turn.trans (Turn.mono ((Still.refl w1).drewN nq) fun _ _ e => False.elim e)).set_g 1 _, HS1.out.stay, by have := HS1.out.far; omega, fun hb e => ?_, fun hb x R1 e => ?_⟩
  · cases hp : M.qLen (q.L.drop k) with
    | none => exact HS1.out.no hb hp
    | some y =>
      obtain ⟨x, R1⟩ := y
      unfold M.qText at e
      rw [hp] at e
      cases e
  · unfold M.qText at e
    cases hp : M.qLen (q.L.drop k) with
    | none => rw [hp] at e; cases e
    | some y =>
      obtain ⟨x2, R2⟩ := y
      obtain ⟨y1, y2, y3⟩ := HS1.out.yes hb _ _ hp
      rw [hp] at e
      simp only [Option.some.injEq, Prod.mk.injEq] at e
      refine ⟨y1, ?_, ?_⟩
      · rw [← e.2, ← y2, y3, List.drop_drop]
      · rw [← e.1, ← y2, y3]; exact HSS.out.1.symm
end Go.Proofs.YthlifflapgccbaaGreat
/- The document's taker: what its calls did, put together. No walk. -/
namespace Go.Proofs.YthlifflapgccbaaGreat
set_option linter.unusedVariables false
set_option linter.unusedSimpArgs false
open Go.ChangeShapes Go.WideShapes Go.ChangeAt Go.RowKit
open M (W)
namespace M
theorem qfields_snoc (c : UInt8) : ∀ (l : List UInt8) (x : Ins) (R : List Int), qFields (l ++ [c]) x R = match qFields l x R with
    | some (y, R1) => qField y c R1
    | none => none
  | [], x, R => by
    simp only [List.nil_append, qFields]
    cases qField x c R with
    | none => rfl
    | some y => obtain ⟨y1, R1⟩ := y; rfl
  | d :: l, x, R => by
    simp only [List.cons_append, qFields]
    cases qField x d R with
    | none => rfl
    | some y =>
      obtain ⟨y1, R1⟩ := y
      simp only
      exact qfields_snoc c l y1 R1
end M
/-- The same step, told of another world behind it. -/
theorem StepT.into {α : Type} {q : RP} {p : M.Pr α} {V V' : α → Prop} {wa w wb w' : World} {k k' : Nat} {bad bad' : Bool} (h : StepT q p V wa wb k bad k' bad') (hr : Td q w' k' bad') (ht : Turn (fun i => i = q.g) w w') (hV : ∀ x, V x → V' x) : StepT q p V' w w' k bad k' bad' :=
  ⟨hr, ht, h.stay, h.far, h.no, fun hb x R1 e => by
    obtain ⟨y1, y2, y3⟩ := h.yes hb x R1 e
    exact ⟨y1, y2, hV x y3⟩⟩
/-- A step whose find is used. -/
theorem StepT.map {α β : Type} {q : RP} {p : M.Pr α} {f : α → β} {V : α → Prop} {Z : β → Prop} {w w' wa wb : World} {k k1 : Nat} {bad b1 : Bool} (h : StepT q p V wa wb k bad k1 b1) (hr : Td q w' k1 b1) (ht : Turn (fun i => i = q.g) w w') (hV : ∀ x, V x → Z (f x)) : StepT q (M.qMap p f) Z w w' k bad k1 b1 :=
  ⟨hr, ht, h.stay, h.far, fun hb e => by
    unfold M.qMap at e
    cases hp : p (q.L.drop k) with
    | none => exact h.no hb hp
    | some y => obtain ⟨x, R1⟩ := y; rw [hp] at e; exact absurd e (by simp), fun hb x R3 e => by
    unfold M.qMap at e
    cases hp : p (q.L.drop k) with
    | none => rw [hp] at e; exact absurd e (by simp)
    | some y =>
      obtain ⟨x1, R1⟩ := y
      rw [hp] at e
      simp only [Option.some.injEq, Prod.mk.injEq] at e
      obtain ⟨rfl, rfl⟩ := e
      obtain ⟨y1, y2, y3⟩ := h.yes hb _ _ hp
      exact ⟨y1, y2, hV _ y3⟩⟩
/-- Two steps, one behind the other. -/
theorem StepT.pair {α β γ : Type} {q : RP} {p : M.Pr α} {p' : M.Pr β} {f : α → β → γ} {V : α → Prop} {V' : β → Prop} {Z : γ → Prop} {w w' wa wb wc wd : World} {k k1 k2 : Nat} {bad b1 b2 : Bool} (h : StepT q p V wa wb k bad k1 b1) (u : StepT q p' V' wc wd k1 b1 k2 b2) (hr : Td q w' k2 b2) (ht : Turn (fun i => i = q.g) w w') (hV : ∀ x y, V x → V' y → Z (f x y)) : StepT q (M.qThen p p' f) Z w w' k bad k2 b2 :=
  ⟨hr, ht, fun e => u.stay (h.stay e), Nat.le_trans h.far u.far, fun hb e => by
    unfold M.qThen at e
    cases hp : p (q.L.drop k) with
    | none => exact u.stay (h.no hb hp)
    | some y =>
      obtain ⟨x, R1⟩ := y
      obtain ⟨y1, y2, y3⟩ := h.yes hb _ _ hp
      rw [hp] at e
      simp only at e
      cases hp2 : p' R1 with
      | none => exact u.no y1 (by rw [y2]; exact hp2)
      | some z => obtain ⟨z, R2⟩ := z; rw [hp2] at e; exact absurd e (by simp), fun hb x R3 e => by
    unfold M.qThen at e
    cases hp : p (q.L.drop k) with
    | none => rw [hp] at e; exact absurd e (by simp)
    | some y =>
      obtain ⟨x1, R1⟩ := y
      obtain ⟨y1, y2, y3⟩ := h.yes hb _ _ hp
      rw [hp] at e
      simp only at e
      cases hp2 : p' R1 with
      | none => rw [hp2] at e; exact absurd e (by simp)
      | some z =>
        obtain ⟨z, R2⟩ := z
        rw [hp2] at e
        simp only [Option.some.injEq, Prod.mk.injEq] at e
        obtain ⟨rfl, rfl⟩ := e
        obtain ⟨u1, u2, u3⟩ := u.yes y1 z R2 (by rw [y2]; exact hp2)
        exact ⟨u1, u2, hV _ _ y3 u3⟩⟩
theorem StepT.fsnoc {q : RP} {l : List UInt8} {c : UInt8} {x0 : M.Ins} {V V' : M.Ins → Prop} {wa wb wc w3 : World} {k k1 k2 : Nat} {bad b1 b2 : Bool} (h : StepT q (M.qFields l x0) V wa wb k bad k1 b1) (u : ∀ x, StepT q (M.qField x c) (fun y => V x → V' y) wc w3 k1 b1 k2 b2) : StepT q (M.qFields (l ++ [c]) x0) V' wc w3 k bad k2 b2 :=
  ⟨(u x0).rd, (u x0).turn, fun hb => (u x0).stay (h.stay hb), Nat.le_trans h.far (u x0).far, fun hb e => by
    rw [M.qfields_snoc] at e
    cases hp : M.qFields l x0 (q.L.drop k) with
    | none => exact (u x0).stay (h.no hb hp)
    | some y =>
      obtain ⟨x, R1⟩ := y
      obtain ⟨y1, y2, y3⟩ := h.yes hb _ _ hp
      rw [hp] at e
      exact (u x).no y1 (by rw [y2]; exact e), fun hb x R3 e => by
    rw [M.qfields_snoc] at e
    cases hp : M.qFields l x0 (q.L.drop k) with
    | none => rw [hp] at e; exact absurd e (by simp)
    | some y =>
      obtain ⟨x1, R1⟩ := y
      obtain ⟨y1, y2, y3⟩ := h.yes hb _ _ hp
      rw [hp] at e
      obtain ⟨u1, u2, u3⟩ := (u x1).yes y1 x R3 (by rw [y2]; exact e)
      exact ⟨u1, u2, u3 y3⟩⟩
/-- An instruction whose operation has letters. -/
theorem StepT.ins {q : RP} {op : Int} {V : M.Ins → Prop} {wa wb wc w3 : World} {k k1 k2 : Nat} {bad b1 b2 : Bool} (hne : (M.uses op).data.toList ≠ []) (h : StepT q M.qNum (fun x => op = x) wa wb k bad k1 b1) (u : StepT q (M.qFields (M.uses op).data.toList ⟨op, 0, 0, 0, 0, 0, [], [], []⟩) V wc w3 k1 b1 k2 b2) : StepT q M.qIns V wc w3 k bad k2 b2 :=
  ⟨u.rd, u.turn, fun hb => u.stay (h.stay hb), Nat.le_trans h.far u.far, fun hb e => by
    unfold M.qIns at e
    cases hp : M.qNum (q.L.drop k) with
    | none => exact u.stay (h.no hb hp)
    | some y =>
      obtain ⟨x, R1⟩ := y
      obtain ⟨y1, y2, y3⟩ := h.yes hb _ _ hp
      subst y3
      rw [hp] at e
      simp only at e
      rw [if_neg hne] at e
      exact u.no y1 (by rw [y2]; exact e), fun hb x R3 e => by
    unfold M.qIns at e
    cases hp : M.qNum (q.L.drop k) with
    | none => rw [hp] at e; exact absurd e (by simp)
    | some y =>
      obtain ⟨x1, R1⟩ := y
      obtain ⟨y1, y2, y3⟩ := h.yes hb _ _ hp
      subst y3
      rw [hp] at e
      simp only at e
      rw [if_neg hne] at e
      exact u.yes y1 x R3 (by rw [y2]; exact e)⟩
/-- An instruction whose operation has none: it is bad. -/
theorem StepT.noIns {q : RP} {op : Int} {V : M.Ins → Prop} {wa wb w w3 : World} {k k1 : Nat} {bad b1 : Bool} (hne : (M.uses op).data.toList = []) (h : StepT q M.qNum (fun x => op = x) wa wb k bad k1 b1) (hr : Td q w3 k1 true) (ht : Turn (fun i => i = q.g) w w3) : StepT q M.qIns V w w3 k bad k1 true :=
  ⟨hr, ht, fun _ => rfl, h.far, fun _ _ => rfl, fun hb x R3 e => by
    exfalso
    unfold M.qIns at e
    cases hp : M.qNum (q.L.drop k) with
    | none => rw [hp] at e; exact absurd e (by simp)
    | some y =>
      obtain ⟨x1, R1⟩ := y
      obtain ⟨y1, y2, y3⟩ := h.yes hb _ _ hp
      subst y3
      rw [hp] at e
      simp only at e
      rw [if_pos hne] at e
      exact absurd e (by simp)⟩
end Go.Proofs.YthlifflapgccbaaGreat
/- The document's taker: a list under way, in a box's field. No program in sight. -/
namespace Go.Proofs.YthlifflapgccbaaGreat
set_option linter.unusedVariables false
set_option linter.unusedSimpArgs false
open Go.ChangeShapes Go.WideShapes Go.ChangeAt Go.RowKit
theorem M.qrep_none {α : Type} (p : M.Pr α) {n m : Nat} {R : List Int} (h : M.qRep p n R = none) (hm : n ≤ m) : M.qRep p m R = none := by
  obtain ⟨d, rfl⟩ := Nat.exists_eq_add_of_le hm
  induction d with
  | zero => exact h
  | succ d ih => rw [← Nat.add_assoc, M.qrep_snoc, ih (by omega)]
/-- In new blocks that are none of D, nor the row. -/
def BesD (D : Nat → Prop) (w wr : World) (v : Value) (b : Nat) : Prop := w.heap.size ≤ b ∧ b < wr.heap.size ∧ ¬ D b ∧ v.ownBlock ≠ some b
/-- In new blocks that are none of D. -/
def FreshD (D : Nat → Prop) (w wr : World) (b : Nat) : Prop := w.heap.size ≤ b ∧ b < wr.heap.size ∧ ¬ D b
structure TkT {α : Type} (q : RP) (p : M.Pr α) (E : TypeId) (K : Nat) (P : InMem α) (D : Nat → Prop) (w wl : World) (k : Nat) (bad : Bool) (vs : List (List Value)) (a : Option Addr) (i c : Nat) (wr : World) (k1 : Nat) (b1 : Bool) : Prop where
  ge : w.heap.size ≤ wl.heap.size
  fr : Turn (fun j => j = q.g ∨ D j) wl wr
  own : wr.ownsRow wl.heap.size E K (.slice a i c) i vs.flatten
  row : ∀ j, (Value.slice a i c).ownBlock = some j → ¬ D j
  len : vs.length = i
  each : ∀ cs ∈ vs, cs.length = K
  step : StepT q (M.qRep p i) (fun (l : List α) => l.length = i ∧ ∀ (j : Nat) (x : α), l[j]? = some x → ∃ cs, vs[j]? = some cs ∧ P (BesD D wl wr (.slice a i c)) wr cs x) w wr k bad k1 b1
theorem TkT.none {α : Type} {q : RP} {p : M.Pr α} {E : TypeId} {K : Nat} {P : InMem α} {D : Nat → Prop} {w wl wr : World} {k : Nat} {bad : Bool} (hr : Td q wr k bad) (ht : Turn (fun i => i = q.g) w wr) (hge : w.heap.size ≤ wl.heap.size) (hfr : Turn (fun j => j = q.g ∨ D j) wl wr) : TkT q p E K P D w wl k bad [] none 0 0 wr k bad :=
  ⟨hge, hfr, ⟨by simp, .inl ⟨rfl, rfl⟩⟩, fun j e => (by cases e), rfl, by simp, hr, ht, fun e => e, Nat.le_refl _, fun _ e => (by cases e), fun hb x R1 e => by
    simp only [M.qRep, Option.some.injEq, Prod.mk.injEq] at e
    obtain ⟨rfl, rfl⟩ := e
    exact ⟨hb, rfl, rfl, by simp⟩⟩
theorem StepT.snoc {α : Type} {q : RP} {p : M.Pr α} {V V' : List α → Prop} {U : α → Prop} {w w1 wa wb w3 : World} {i k k1 k2 : Nat} {bad b1 b2 : Bool} (h : StepT q (M.qRep p i) V w w1 k bad k1 b1) (u : StepT q p U wa wb k1 b1 k2 b2) (r : Td q w3 k2 b2) (t : Turn (fun j => j = q.g) w w3) (hV : ∀ l x, V l → U x → V' (l ++ [x])) :
    StepT q (M.qRep p (i + 1)) V' w w3 k bad k2 b2 :=
  ⟨r, t, fun hb => u.stay (h.stay hb), Nat.le_trans h.far u.far, fun hb e => by
    rw [M.qrep_snoc] at e
    cases hp : M.qRep p i (q.L.drop k) with
    | none => exact u.stay (h.no hb hp)
    | some y =>
      obtain ⟨l, R1⟩ := y
      obtain ⟨y1, y2, y3⟩ := h.yes hb _ _ hp
      rw [hp] at e
      simp only at e
      cases hq : p R1 with
      | none => exact u.no y1 (by rw [y2]; exact hq)
      | some y => rw [hq] at e; exact absurd e (by simp), fun hb x R3 e => by
    rw [M.qrep_snoc] at e
    cases hp : M.qRep p i (q.L.drop k) with
    | none => rw [hp] at e; exact absurd e (by simp)
    | some y =>
      obtain ⟨l, R1⟩ := y
      obtain ⟨y1, y2, y3⟩ := h.yes hb _ _ hp
      rw [hp] at e
      simp only at e
      cases hq : p R1 with
      | none => rw [hq] at e; exact absurd e (by simp)
      | some y =>
        obtain ⟨v, R2⟩ := y
        rw [hq] at e
        simp only [Option.some.injEq, Prod.mk.injEq] at e
        obtain ⟨rfl, rfl⟩ := e
        obtain ⟨d1, d2, d3⟩ := u.yes y1 v R2 (by rw [y2]; exact hq)
        exact ⟨d1, d2, hV _ _ y3 d3⟩⟩
theorem TkT.next {α : Type} {q : RP} {p : M.Pr α} {E : TypeId} {K : Nat} {P : InMem α} (hP : ∀ Q R w w' cs x, P Q w cs x → Kept Q R w w' → P R w' cs x) {D : Nat → Prop} {w wl wr wa w2 w3 w4 w5 : World} {k k1 k2 : Nat} {bad b1 b2 : Bool} {vs : List (List Value)} {a a' : Option Addr} {i c c' : Nat} {cs : List Value} {Q : Nat → Prop}
    (h : TkT q p E K P D w wl k bad vs a i c wr k1 b1) (hg : q.g < w.heap.size) (hb : q.b < w.heap.size) (hD : ∀ j, D j → w.heap.size ≤ j ∧ j < wr.heap.size)
    (u : StepT q p (fun x => P Q w2 cs x) wa w2 k1 b1 k2 b2) (t2 : Turn (fun j => j = q.g) wr w2) (hQ : ∀ b, Q b → wr.heap.size ≤ b ∧ b < w2.heap.size) (hc : cs.length = K)
    (t3 : Turn D w2 w3) (ho3 : w3.ownsRow wl.heap.size E K (.slice a i c) i vs.flatten) (t4 : Turn (fun k => (Value.slice a i c).ownBlock = some k) w3 w4)
    (ho : w4.ownsRow wl.heap.size E K (.slice a' (i + 1) c') (i + 1) (vs.flatten ++ cs)) (hn : (Value.slice a i c).ownBlock = (Value.slice a' (i + 1) c').ownBlock ∨ ∀ j, (Value.slice a' (i + 1) c').ownBlock = some j → w3.heap.size ≤ j) (t5 : Turn D w4 w5) :
    TkT q p E K P D w wl k bad (vs ++ [cs]) a' (i + 1) c' w5 k2 b2 := by
  have hlt := h.own.lt
  have hge := h.ge
  have sfr := h.fr.size
  have s12 := h.step.turn.size
  have s23 := t2.size
  have s34 := t3.size
  have s45 := t4.size
  have s56 := t5.size
  have hrow' : ∀ j, (Value.slice a' (i + 1) c').ownBlock = some j → ¬ D j := fun j e d => by
    rcases hn with hn | hn
    · exact h.row j (hn.trans e) d
    · have := hn j e; have := (hD j d).2; omega
  have ho5 : w5.ownsRow wl.heap.size E K (.slice a' (i + 1) c') (i + 1) (vs.flatten ++ cs) := own_keep ho t5 hrow'
  have tw : Turn (fun j => j = q.g) w w5 := by
    have e1 : Turn (fun j => j = q.g ∨ w.heap.size ≤ j) w w5 :=
      ((((h.step.turn.trans t2).mono fun _ _ e => .inl e).trans (t3.mono fun j _ e => .inr (hD j e).1)).trans (t4.mono fun j _ e => .inr (Nat.le_trans hge (ho3.lt j e).1))).trans (t5.mono fun j _ e => .inr (hD j e).1)
    exact e1.mono fun j hj e => e.elim id fun e => by omega
  have tl : Turn (fun j => j = q.g ∨ D j) wl w5 := by
    have e1 : Turn (fun j => (j = q.g ∨ D j) ∨ wl.heap.size ≤ j) wl w5 :=
      ((((h.fr.mono fun _ _ e => .inl e).trans (t2.mono fun _ _ e => .inl (.inl e))).trans (t3.mono fun j _ e => .inl (.inr e))).trans (t4.mono fun j _ e => .inr (ho3.lt j e).1)).trans (t5.mono fun j _ e => .inl (.inr e))
    exact e1.mono fun j hj e => e.elim id fun e => by omega
  have hkeep1 : Kept (BesD D wl wr (.slice a i c)) (BesD D wl w5 (.slice a' (i + 1) c')) wr w5 := ⟨fun b hb2 => by
    obtain ⟨e1, e2, e3, e4⟩ := hb2
    exact (t5.block b (by omega) e3).trans ((t4.block b (by omega) e4).trans ((t3.block b (by omega) e3).trans (t2.block b e2 (by omega)))), fun b hb2 => by
    obtain ⟨e1, e2, e3, e4⟩ := hb2
    refine ⟨e1, by omega, e3, fun e => ?_⟩
    rcases hn with hn | hn
    · exact e4 (hn.trans e)
    · have := hn b e; omega⟩
  have hkeep2 : Kept Q (BesD D wl w5 (.slice a' (i + 1) c')) w2 w5 := ⟨fun b hb2 => by
    obtain ⟨e1, e2⟩ := hQ b hb2
    have nD : ¬ D b := fun d => by have := (hD b d).2; omega
    exact (t5.block b (by omega) nD).trans ((t4.block b (by omega) (fun e => by have := (hlt b e).2; omega)).trans (t3.block b e2 nD)), fun b hb2 => by
    obtain ⟨e1, e2⟩ := hQ b hb2
    refine ⟨by omega, by omega, fun d => (by have := (hD b d).2; omega), fun e => ?_⟩
    rcases hn with hn | hn
    · have := (hlt b (hn.trans e)).2; omega
    · have := hn b e; omega⟩
  refine ⟨hge, tl, by simpa using ho5, hrow', by simp [h.len], fun d hd => ?_, h.step.snoc u (((u.rd.turn t3 (fun e => ?_) (fun e => ?_)).turn t4 (fun e => ?_) (fun e => ?_)).turn t5 (fun e => ?_) (fun e => ?_)) tw ?_⟩
  · rcases List.mem_append.1 hd with hd | hd
    · exact h.each d hd
    · rw [List.mem_singleton.1 hd]; exact hc
  · have := (hD _ e).1; omega
  · have := (hD _ e).1; omega
  · have := (hlt _ e).1; omega
  · have := (hlt _ e).1; omega
  · have := (hD _ e).1; omega
  · have := (hD _ e).1; omega
  · rintro l x ⟨hl, hx⟩ hu
    refine ⟨by simp [hl], fun j y hj => ?_⟩
    by_cases hji : j < l.length
    · rw [List.getElem?_append_left hji] at hj
      obtain ⟨ds, e1, e2⟩ := hx j y hj
      exact ⟨ds, by rw [List.getElem?_append_left (by rw [h.len]; omega)]; exact e1, hP _ _ _ _ _ _ e2 hkeep1⟩
    · have : j = l.length := by
        have := (List.getElem?_eq_some_iff.1 hj).1
        simp at this
        omega
      subst this
      simp at hj
      subst hj
      exact ⟨cs, by rw [hl, ← h.len]; simp, hP _ _ _ _ _ _ hu hkeep2⟩
/-- The list as it stands then. -/
theorem TkT.lies {α : Type} {q : RP} {p : M.Pr α} {E : TypeId} {K : Nat} {P : InMem α} (hP : ∀ Q R w w' cs x, P Q w cs x → Kept Q R w w' → P R w' cs x) {D : Nat → Prop} {w wl wr : World} {k k1 : Nat} {bad b1 : Bool} {vs : List (List Value)} {a : Option Addr} {i c : Nat} (h : TkT q p E K P D w wl k bad vs a i c wr k1 b1) {l : List α} (hl : l.length = i) (hx : ∀ (j : Nat) (x : α), l[j]? = some x → ∃ cs, vs[j]? = some cs ∧ P (BesD D wl wr (.slice a i c)) wr cs x) : LiesQ (FreshD D wl wr) wr K (P (FreshD D wl wr) wr) a i l :=
  ⟨hl, fun hi => by
    have hlt := h.own.lt
    have hcells := fun g hg => h.own.cells (g := g) hg
    rcases h.own.2 with ⟨_, h0⟩ | ⟨g, cap, cur, e, e1, e2, e3, e4, e5, e6⟩
    · omega
    · injection e with ea _ _
      subst ea
      have hg := hlt g rfl
      refine ⟨g, 0, rfl, ⟨by omega, hg.2, h.row g rfl⟩, fun j x hj => ?_⟩
      obtain ⟨cs, f1, f2⟩ := hx j x hj
      refine ⟨cs, h.each cs (List.mem_of_getElem? f1), hP _ _ _ _ _ _ f2 ⟨fun b hb => rfl, fun b hb => ⟨hb.1, hb.2.1, hb.2.2.1⟩⟩, fun d hd => ?_⟩
      have hf := flat_get vs h.each j cs f1 d hd
      have hcl := h.each cs (List.mem_of_getElem? f1)
      rw [← hf]
      have hget : vs.flatten[j * K + d]? = some cs[d] := by rw [hf]; exact List.getElem?_eq_getElem (by omega)
      rw [hget, Nat.zero_add]
      have := hcells g rfl (j * K + d) _ hget
      rw [Addr.add_lit, Nat.zero_add] at this
      exact this⟩
/-- A count, then the elements: a list. -/
theorem tlist_done {α : Type} {q : RP} {p : M.Pr α} {V V' : List α → Prop} {w w1 wa wb : World} {n i k k1 k2 : Nat} {bad b1 b2 : Bool} (s : StepT q M.qLen (fun x => x = n) wa wb k bad k1 b1) (u : StepT q (M.qRep p i) V w w1 k1 b1 k2 b2) (hi : i ≤ n) (hd : b2 = true ∨ i = n) (hV : i = n → ∀ l, V l → V' l) : StepT q (M.qList p) V' w w1 k bad k2 b2 :=
  ⟨u.rd, u.turn, fun hb => u.stay (s.stay hb), Nat.le_trans s.far u.far, fun hb e => by
    rcases hd with hd | rfl
    · exact hd
    · cases hp : M.qLen (q.L.drop k) with
      | none => exact u.stay (s.no hb hp)
      | some y =>
        obtain ⟨x, R1⟩ := y
        obtain ⟨y1, y2, y3⟩ := s.yes hb _ _ hp
        subst y3
        unfold M.qList at e
        rw [hp] at e
        simp only at e
        exact u.no y1 (by rw [y2]; exact e), fun hb l R3 e => by
    cases hp : M.qLen (q.L.drop k) with
    | none => unfold M.qList at e; rw [hp] at e; exact absurd e (by simp)
    | some y =>
      obtain ⟨x, R1⟩ := y
      obtain ⟨y1, y2, y3⟩ := s.yes hb _ _ hp
      subst y3
      unfold M.qList at e
      rw [hp] at e
      simp only at e
      cases hpi : M.qRep p i R1 with
      | none => rw [M.qrep_none p hpi hi] at e; exact absurd e (by simp)
      | some y =>
        obtain ⟨l2, R4⟩ := y
        have hy := u.yes y1 l2 R4 (by rw [y2]; exact hpi)
        rcases hd with hd | rfl
        · rw [hy.1] at hd; cases hd
        · rw [hpi] at e
          simp only [Option.some.injEq, Prod.mk.injEq] at e
          obtain ⟨rfl, rfl⟩ := e
          exact ⟨hy.1, hy.2.1, hV rfl _ hy.2.2⟩⟩
end Go.Proofs.YthlifflapgccbaaGreat
