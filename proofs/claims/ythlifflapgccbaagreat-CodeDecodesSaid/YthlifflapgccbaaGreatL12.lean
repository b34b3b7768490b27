/- Lemmas, put together: Rd Rd2 RdText LiesQ Take. -/
import Derived.Test.YthlifflapgccbaaGreatL11
import Derived.Test.YthlifflapgccbaaGreatL07
import Derived.Test.YthlifflapgccbaaGreatL04
import Derived.Test.YthlifflapgccbaaGreatL02
import Derived.Laws.MakeOwn
import Derived.Shelf.Abstract
/- The reader in memory: numbers, lengths, texts. -/
namespace Go.Proofs.YthlifflapgccbaaGreat
set_option linter.unusedVariables false
set_option linter.unusedSimpArgs false
open Go.ChangeShapes Go.WideShapes Go.ChangeAt Go.RowKit
open M (W)
/-- A reader: where it lies, and the bytes that it has. -/
structure RP where
  g : Nat
  b : Nat
  off : Nat
  cap : Nat
  L : List Int
structure RP.ok (q : RP) : Prop where
  bytes : M.Bytes q.L
  small : q.L.length ≤ 100000000
  cap_le : q.L.length ≤ q.cap ∧ q.cap ≤ maxLen
/-- It stands at k, knows of sz instructions, and is bad or not. -/
structure Rd (q : RP) (w : World) (k sz : Nat) (bad : Bool) : Prop where
  blk : Blk w q.g 38 #[.slice (some ⟨q.b, q.off, none⟩) q.L.length q.cap, .int .i64 k, .int .i64 sz, .bool bad]
  ne : q.b ≠ q.g
  lt : q.b < w.heap.size
  cells : ∀ j, j < q.L.length → w.cell? ⟨q.b, q.off + j, none⟩ = some (.int .u8 (q.L.getD j 0))
  le : k ≤ q.L.length
  few : sz ≤ 20000
theorem Rd.turn {q : RP} {w w' : World} {k sz : Nat} {bad : Bool} {S : Nat → Prop} (h : Rd q w k sz bad) (t : Turn S w w') (hg : ¬ S q.g) (hb : ¬ S q.b) : Rd q w' k sz bad :=
  ⟨h.blk.keep t hg, h.ne, Nat.lt_of_lt_of_le h.lt t.size, fun j hj => (t.cell (p := ⟨q.b, q.off + j, none⟩) h.lt hb).trans (h.cells j hj), h.le, h.few⟩
theorem Rd.still {q : RP} {w w' : World} {k sz : Nat} {bad : Bool} (h : Rd q w k sz bad) (t : Still w w') : Rd q w' k sz bad := h.turn t (fun e => e) (fun e => e)
theorem Rd.set {q : RP} {w : World} {k sz : Nat} {bad : Bool} (h : Rd q w k sz bad) (i : Nat) (u : Value) {k' sz' : Nat} {bad' : Bool} (hc : (#[.slice (some ⟨q.b, q.off, none⟩) q.L.length q.cap, .int .i64 k, .int .i64 sz, .bool bad] : Array Value).setIfInBounds i u = #[.slice (some ⟨q.b, q.off, none⟩) q.L.length q.cap, .int .i64 k', .int .i64 sz', .bool bad']) (hk : k' ≤ q.L.length) (hs : sz' ≤ 20000) :
    Rd q (w.setCell ⟨q.g, i, none⟩ u) k' sz' bad' :=
  ⟨by have := h.blk.set i u; rwa [hc] at this, h.ne, by simpa using h.lt, fun j hj => (Turn.cell ((Turn.refl (fun b => b = q.g) w).setCell (p := ⟨q.g, i, none⟩) (fun _ => rfl) u) (p := ⟨q.b, q.off + j, none⟩) h.lt h.ne).trans (h.cells j hj), hk, hs⟩
theorem Turn.set_g {w w' : World} {g : Nat} (t : Turn (fun i => i = g) w w') (i : Nat) (u : Value) : Turn (fun i => i = g) w (w'.setCell ⟨g, i, none⟩ u) := t.setCell (p := ⟨g, i, none⟩) (fun _ => rfl) u
/-- What a call of the reader's did: as p says of what is left; bad stays bad. -/
structure StepR {α : Type} (q : RP) (p : M.Par α) (V : α → Prop) (w w' : World) (k sz : Nat) (bad : Bool) (k' sz' : Nat) (bad' : Bool) : Prop where
  rd : Rd q w' k' sz' bad'
  turn : Turn (fun i => i = q.g) w w'
  stay : bad = true → bad' = true
  no : bad = false → p sz (q.L.drop k) = none → bad' = true
  yes : bad = false → ∀ x s1 R1, p sz (q.L.drop k) = some (x, s1, R1) → bad' = false ∧ sz' = s1 ∧ q.L.drop k' = R1 ∧ V x
theorem rd_cells {q : RP} {w : World} {k sz : Nat} {bad : Bool} (h : Rd q w k sz bad) : q.g < w.heap.size ∧ w.cell? ⟨q.g, 0, none⟩ = some (.slice (some ⟨q.b, q.off, none⟩) q.L.length q.cap) ∧ w.cell? ⟨q.g, 1, none⟩ = some (.int .i64 k) ∧ w.cell? ⟨q.g, 2, none⟩ = some (.int .i64 sz) ∧ w.cell? ⟨q.g, 3, none⟩ = some (.bool bad) ∧ w.frozen? ⟨q.g, 1, none⟩ = false ∧ w.frozen? ⟨q.g, 2, none⟩ = false ∧ w.frozen? ⟨q.g, 3, none⟩ = false :=
  ⟨h.blk.lt, h.blk.cell 0, h.blk.cell 1, h.blk.cell 2, h.blk.cell 3, h.blk.frozen 1, h.blk.frozen 2, h.blk.frozen 3⟩
theorem get_all {q : RP} (hq : q.ok) {k : Nat} (hk : k ≤ q.L.length) {sz : Nat} {w : World} {bad : Bool} (h : Rd q w k sz bad) :
    ∃ (n : Int) (to : Int) (ok : Bool), (∀ W, Still w W → Calls Tryz.prog 91 #[.slice (some ⟨q.b, q.off, none⟩) q.L.length q.cap, .int .i64 k] W fun e w' => e = .returned (.tuple #[.int .i64 n, .int .i64 to, .bool ok]) ∧ w' = W) ∧
      (ok = false → M.pNum sz (q.L.drop k) = none) ∧ (ok = true → ∃ k' : Nat, to = k' ∧ k' ≤ q.L.length ∧ In64 n ∧ M.pNum sz (q.L.drop k) = some (n, sz, q.L.drop k')) := by
  by_cases hl : k < q.L.length
  · have hget := fun W (hW : Still w W) => get_in q.b q.off q.cap q.L k W (by have := hq.small; omega) hl (h.still hW).cells hq.bytes
    cases hg : M.got (q.L.drop k) with
    | none =>
      refine ⟨0, 0, false, fun W hW => by have := hget W hW; rwa [getRes_none hl hg] at this, fun _ => (by unfold M.pNum; rw [hg]), fun h => (by cases h)⟩
    | some p =>
      obtain ⟨x, n⟩ := p
      obtain ⟨h1, h2, h3⟩ := M.got_snd (hq.bytes.drop k) hg
      rw [List.length_drop] at h2
      refine ⟨M.zag x, (k : Int) + n, true, fun W hW => by have := hget W hW; rwa [getRes_some hl hg] at this, fun h => (by cases h), fun _ => ⟨k + n, by omega, by omega, M.zag_bd h3, ?_⟩⟩
      unfold M.pNum
      rw [hg]
      simp [List.drop_drop]
  · have hkl : k = q.L.length := by omega
    refine ⟨0, 0, false, fun W hW => get_far _ _ _ _ W (by omega) (by omega), fun _ => ?_, fun h => (by cases h)⟩
    rw [hkl, List.drop_length]
    rfl
set_option maxRecDepth 100000 in
theorem rlong_any {q : RP} (hq : q.ok) {w : World} {k sz : Nat} {bad : Bool} (h : Rd q w k sz bad) :
    Calls Tryz.prog 62 #[.pointer (some ⟨q.g, 0, none⟩)] w fun e w' => ∃ (n : Int) (k' : Nat) (bad' : Bool), e = .returned (.int .i64 n) ∧ In64 n ∧ StepR q M.pNum (fun x => n = x) w w' k sz bad k' sz bad' := by
  obtain ⟨n, to, ok, hg, hno, hyes⟩ := get_all hq h.le h
  have HG := Lib.hid hg
  have HY := Lib.hid (And.intro hno hyes)
  obtain ⟨hl, c0, c1, c2, c3, f1, f2, f3⟩ := rd_cells h
  have H := Lib.hid h
  clear h hg hno hyes
  generalize q.L.length = len at c0 HG
  cases ok with
  | true =>
    obtain ⟨k', hto, hk', hn, hp⟩ := HY.out.2 rfl
    subst hto
    have HP := Lib.hid (And.intro hk' (And.intro hn hp))
    clear hk' hn hp
    go_enter Tryz.func62, Tryz.ntmps62
    go_wp2_with fail
    go_quiet ((go_at_call 91; exact Calls.quiet_of_same (HG.out _ ((Still.refl _).drewN _))))
    go_wp2_with fail
    go_ret
    refine ⟨n, k', bad, rfl, HP.out.2.1, ?_, ((Turn.refl (fun i => i = q.g) w).drewN nq).set_g 1 _, fun e => e, fun _ e => (by rw [HP.out.2.2] at e; cases e), fun hb x s1 R1 e => ?_⟩
    · exact (H.out.still ((Still.refl w).drewN nq)).set 1 _ rfl HP.out.1 H.out.few
    · rw [HP.out.2.2] at e
      simp only [Option.some.injEq, Prod.mk.injEq] at e
      exact ⟨hb, e.2.1, e.2.2, e.1⟩
  | false =>
    have HN := Lib.hid (HY.out.1 rfl)
    go_enter Tryz.func62, Tryz.ntmps62
    go_wp2_with fail
    go_quiet ((go_at_call 91; exact Calls.quiet_of_same (HG.out _ ((Still.refl _).drewN _))))
    go_wp2_with fail
    go_ret
    refine ⟨0, k, true, rfl, by constructor <;> decide, ?_, ((Turn.refl (fun i => i = q.g) w).drewN nq).set_g 3 _, fun _ => rfl, fun _ _ => rfl, fun hb x s1 R1 e => (by rw [HN.out] at e; cases e)⟩
    exact (H.out.still ((Still.refl w).drewN nq)).set 3 _ rfl H.out.le H.out.few
theorem rnumber_any {q : RP} (hq : q.ok) {w : World} {k sz : Nat} {bad : Bool} (h : Rd q w k sz bad) :
    Calls Tryz.prog 38 #[.pointer (some ⟨q.g, 0, none⟩)] w fun e w' => ∃ (n : Int) (k' : Nat) (bad' : Bool), e = .returned (.int .i64 n) ∧ In64 n ∧ StepR q M.pNum (fun x => n = x) w w' k sz bad k' sz bad' := by
  have H := Lib.hid (rlong_any hq h)
  clear h
  go_enter Tryz.func38, Tryz.ntmps38
  go_wp2_with fail
  refine H.out.mono ?_; rintro e w1 ⟨n, k', bad', rfl, hn, hs⟩
  have HN := Lib.hid (And.intro hn hs)
  clear hn hs
  go_wp2_with fail
  go_ret
  exact ⟨n, k', bad', rfl, HN.out.1, HN.out.2⟩
end Go.Proofs.YthlifflapgccbaaGreat
/- The reader in memory: lengths, truths, texts. -/
namespace Go.Proofs.YthlifflapgccbaaGreat
set_option linter.unusedVariables false
set_option linter.unusedSimpArgs false
open Go.ChangeShapes Go.WideShapes Go.ChangeAt Go.RowKit
open M (W)
theorem len_bad {q : RP} {w w1 w2 : World} {k sz k1 : Nat} {bad b1 : Bool} {n : Int} {most : Nat} (s : StepR q M.pNum (fun x => n = x) w w1 k sz bad k1 sz b1) (hr : Rd q w2 k1 sz true) (ht : Turn (fun i => i = q.g) w1 w2) (h : ¬ (0 ≤ n ∧ n ≤ most ∧ n ≤ (q.L.drop k1).length)) :
    StepR q (M.pLen most) (fun x => (0 : Nat) = x) w w2 k sz bad k1 sz true :=
  ⟨hr, s.turn.trans ht, fun _ => rfl, fun _ _ => rfl, fun hb x s1 R1 e => by
    obtain ⟨e1, e2, e3⟩ := M.pLen_some e
    obtain ⟨_, _, y3, y4⟩ := s.yes hb _ _ _ e1
    exact absurd ⟨by omega, by omega, by rw [y3, y4]; omega⟩ h⟩
theorem len_good {q : RP} {w w1 w2 : World} {k sz k1 : Nat} {bad b1 : Bool} {n : Int} {most : Nat} (s : StepR q M.pNum (fun x => n = x) w w1 k sz bad k1 sz b1) (hr : Rd q w2 k1 sz b1) (ht : Turn (fun i => i = q.g) w1 w2) (h : 0 ≤ n ∧ n ≤ most ∧ n ≤ (q.L.drop k1).length) :
    StepR q (M.pLen most) (fun x => n.toNat = x) w w2 k sz bad k1 sz b1 :=
  ⟨hr, s.turn.trans ht, s.stay, fun hb e => by
    cases hp : M.pNum sz (q.L.drop k) with
    | none => exact s.no hb hp
    | some y =>
      obtain ⟨x, z1, R1⟩ := y
      obtain ⟨y1, y2, y3, y4⟩ := s.yes hb _ _ _ hp
      subst y4
      unfold M.pLen at e
      rw [hp] at e
      simp only at e
      rw [← y3, if_pos h] at e
      exact absurd e (by simp), fun hb x s1 R1 e => by
    obtain ⟨e1, e2, e3⟩ := M.pLen_some e
    obtain ⟨y1, y2, y3, y4⟩ := s.yes hb _ _ _ e1
    exact ⟨y1, y2, y3, by omega⟩⟩
set_option maxRecDepth 100000 in
set_option maxHeartbeats 2000000 in
theorem rlength_any (most : Nat) (hm : most ≤ 1000000) {q : RP} (hq : q.ok) {w : World} {k sz : Nat} {bad : Bool} (h : Rd q w k sz bad) :
    Calls Tryz.prog 57 #[.pointer (some ⟨q.g, 0, none⟩), .int .i64 most] w fun e w' => ∃ (n : Nat) (k' : Nat) (bad' : Bool), e = .returned (.int .i64 n) ∧ n ≤ most ∧ n ≤ q.L.length - k' ∧ StepR q (M.pLen most) (fun x => n = x) w w' k sz bad k' sz bad' := by
  have H := Lib.hid (rnumber_any hq h)
  have HS := Lib.hid hq.small
  clear h hq
  go_enter Tryz.func57, Tryz.ntmps57
  go_wp2_with fail
  refine H.out.mono ?_; rintro e w1 ⟨n, k1, b1, rfl, hn, hs⟩
  obtain ⟨hl, c0, c1, c2, c3, f1, f2, f3⟩ := rd_cells hs.rd
  have hle := hs.rd.le
  have hn1 := hn.1
  have hn2 := hn.2
  have hlen : Hid ((q.L.drop k1).length = q.L.length - k1) := List.length_drop ..
  have hlL := HS.out
  have HS1 := Lib.hid hs
  clear hs hn
  generalize hlq : q.L.length = len at c0 hle hlL hlen ⊢
  have HLQ := Lib.hid hlq
  clear hlq
  by_cases h0 : n < 0
  · skip
    have x0 : decide (n < 0) = true := decide_eq_true (by omega)
    have HN := Lib.hid h0
    clear h0
    go_wp2_with fail
    go_quiet (fail)
    go_wp2_with fail
    go_ret
    refine ⟨0, k1, true, rfl, by omega, by omega, len_bad HS1.out ?_ ?_ (by have := HN.out; have := hlen.out; omega)⟩
    · exact (HS1.out.rd.still ((Still.refl w1).drewN nq)).set 3 _ rfl HS1.out.rd.le HS1.out.rd.few
    · exact ((Turn.refl _ w1).drewN nq).set_g 3 _
  · by_cases h1 : (most : Int) < n
    · skip
      have x0 : decide (n < 0) = false := decide_eq_false (by omega)
      have x1 : decide ((most : Int) < n) = true := decide_eq_true (by omega)
      have HN := Lib.hid h1
      clear h0 h1
      go_wp2_with fail
      go_quiet (fail)
      go_wp2_with fail
      go_ret
      refine ⟨0, k1, true, rfl, by omega, by omega, len_bad HS1.out ?_ ?_ (by have := HN.out; have := hlen.out; omega)⟩
      · exact (HS1.out.rd.still ((Still.refl w1).drewN nq)).set 3 _ rfl HS1.out.rd.le HS1.out.rd.few
      · exact ((Turn.refl _ w1).drewN nq).set_g 3 _
    · by_cases h2 : (len : Int) - k1 < n
      · skip
        have x0 : decide (n < 0) = false := decide_eq_false (by omega)
        have x1 : decide ((most : Int) < n) = false := decide_eq_false (by omega)
        have x2 : decide ((len : Int) - (k1 : Int) < n) = true := decide_eq_true (by omega)
        have HN := Lib.hid h2
        clear h0 h1 h2
        go_wp2_with fail
        go_quiet (fail)
        go_wp2_with fail
        go_ret
        refine ⟨0, k1, true, rfl, by omega, by omega, len_bad HS1.out ?_ ?_ (by have := HN.out; have := hlen.out; omega)⟩
        · exact (HS1.out.rd.still ((Still.refl w1).drewN nq)).set 3 _ rfl HS1.out.rd.le HS1.out.rd.few
        · exact ((Turn.refl _ w1).drewN nq).set_g 3 _
      · skip
        have x0 : decide (n < 0) = false := decide_eq_false (by omega)
        have x1 : decide ((most : Int) < n) = false := decide_eq_false (by omega)
        have x2 : decide ((len : Int) - (k1 : Int) < n) = false := decide_eq_false (by omega)
        have HN := Lib.hid (And.intro h0 (And.intro h1 h2))
        clear h0 h1 h2
        go_wp2_with fail
        go_quiet (fail)
        go_wp2_with fail
        go_ret
        have h0 := HN.out.1
        have h1 := HN.out.2.1
        have h2 := HN.out.2.2
        have hl9 := hlen.out
        have hlq := HLQ.out
        have hg := len_good (most := most) HS1.out (HS1.out.rd.still ((Still.refl w1).drewN nq)) ((Turn.refl _ w1).drewN nq) (by omega)
        refine ⟨n.toNat, k1, b1, ?_, by omega, by omega, hg⟩
        rw [Int.toNat_of_nonneg (by omega)]
        rfl
set_option maxRecDepth 100000 in
theorem ryes_any {q : RP} (hq : q.ok) {w : World} {k sz : Nat} {bad : Bool} (h : Rd q w k sz bad) :
    Calls Tryz.prog 58 #[.pointer (some ⟨q.g, 0, none⟩)] w fun e w' => ∃ (b : Bool) (k' : Nat) (bad' : Bool), e = .returned (.bool b) ∧ StepR q M.pYes (fun x => b = x) w w' k sz bad k' sz bad' := by
  have H := Lib.hid (rnumber_any hq h)
  clear h hq
  go_enter Tryz.func58, Tryz.ntmps58
  go_wp2_with fail
  refine H.out.mono ?_; rintro e w1 ⟨n, k1, b1, rfl, hn, hs⟩
  obtain ⟨hl, c0, c1, c2, c3, f1, f2, f3⟩ := rd_cells hs.rd
  have HS1 := Lib.hid hs
  clear hs hn
  by_cases h0 : n = 0
  · subst h0
    go_wp2_with fail
    go_ret
    refine ⟨false, k1, b1, rfl, HS1.out.rd, HS1.out.turn, HS1.out.stay, fun hb e => ?_, fun hb x s1 R1 e => ?_⟩
    · cases hp : M.pNum sz (q.L.drop k) with
      | none => exact HS1.out.no hb hp
      | some y =>
        obtain ⟨x, z1, R1⟩ := y
        obtain ⟨y1, y2, y3, y4⟩ := HS1.out.yes hb _ _ _ hp
        subst y4
        unfold M.pYes at e
        rw [hp] at e
        simp at e
    · unfold M.pYes at e
      cases hp : M.pNum sz (q.L.drop k) with
      | none => rw [hp] at e; cases e
      | some y =>
        obtain ⟨x2, z1, R2⟩ := y
        obtain ⟨y1, y2, y3, y4⟩ := HS1.out.yes hb _ _ _ hp
        subst y4
        rw [hp] at e
        simp at e
        exact ⟨y1, by rw [y2]; exact e.2.1, by rw [y3]; exact e.2.2, e.1.symm⟩
  · have x0 : (n == (0 : Int)) = false := beq_eq_false_iff_ne.2 h0
    have x0' : (n != (0 : Int)) = true := by simp [bne, x0]
    by_cases h1 : n = 1
    · subst h1
      go_wp2_with fail
      go_ret
      refine ⟨true, k1, b1, rfl, HS1.out.rd, HS1.out.turn, HS1.out.stay, fun hb e => ?_, fun hb x s1 R1 e => ?_⟩
      · cases hp : M.pNum sz (q.L.drop k) with
        | none => exact HS1.out.no hb hp
        | some y =>
          obtain ⟨x, z1, R1⟩ := y
          obtain ⟨y1, y2, y3, y4⟩ := HS1.out.yes hb _ _ _ hp
          subst y4
          unfold M.pYes at e
          rw [hp] at e
          simp at e
      · unfold M.pYes at e
        cases hp : M.pNum sz (q.L.drop k) with
        | none => rw [hp] at e; cases e
        | some y =>
          obtain ⟨x2, z1, R2⟩ := y
          obtain ⟨y1, y2, y3, y4⟩ := HS1.out.yes hb _ _ _ hp
          subst y4
          rw [hp] at e
          simp at e
          exact ⟨y1, by rw [y2]; exact e.2.1, by rw [y3]; exact e.2.2, e.1.symm⟩
    · have x1 : (n == (1 : Int)) = false := beq_eq_false_iff_ne.2 h1
      have x1' : (n != (1 : Int)) = true := by simp [bne, x1]
      have HN := Lib.hid (And.intro h0 h1)
      clear h0 h1
      go_wp2_with fail
      go_ret
      refine ⟨false, k1, true, rfl, HS1.out.rd.set 3 _ rfl HS1.out.rd.le HS1.out.rd.few, HS1.out.turn.set_g 3 _, fun _ => rfl, fun _ _ => rfl, fun hb x s1 R1 e => ?_⟩
      unfold M.pYes at e
      cases hp : M.pNum sz (q.L.drop k) with
      | none => rw [hp] at e; cases e
      | some y =>
        obtain ⟨x2, z1, R2⟩ := y
        obtain ⟨y1, y2, y3, y4⟩ := HS1.out.yes hb _ _ _ hp
        subst y4
        rw [hp] at e
        simp only [if_neg HN.out.1, if_neg HN.out.2] at e
        cases e
end Go.Proofs.YthlifflapgccbaaGreat
/- The reader in memory: texts. -/
namespace Go.Proofs.YthlifflapgccbaaGreat
set_option linter.unusedVariables false
set_option linter.unusedSimpArgs false
open Go.ChangeShapes Go.WideShapes Go.ChangeAt Go.RowKit
open M (W)
theorem conv_part {q : RP} {w : World} {k sz : Nat} {bad : Bool} (h : Rd q w k sz bad) {j n c : Nat} (hj : j + n ≤ q.L.length) :
    (convert 22 9 (.slice (some ⟨q.b, q.off + j, none⟩) n c)).run Tryz.prog w = .ok (.string (strOfNums ((q.L.drop j).take n))) w := by
  refine run_convert_bytes_arg w 22 5 Tryz.underlying22 Tryz.underlying5 q.b (q.off + j) n c ((q.L.drop j).take n) (by rw [List.length_take, List.length_drop]; omega) ?_ 9 Tryz.underlying9
  intro i hi
  have hi2 : i < n := hi
  rw [show (⟨q.b, q.off + j + i, none⟩ : Addr) = ⟨q.b, q.off + (j + i), none⟩ by rw [Nat.add_assoc], h.cells (j + i) (by omega)]
  simp [List.getD, List.getElem?_take, List.getElem?_drop, hi2]
set_option maxRecDepth 100000 in
set_option maxHeartbeats 1000000 in
theorem rtext_any {q : RP} (hq : q.ok) {w : World} {k sz : Nat} {bad : Bool} (h : Rd q w k sz bad) :
    Calls Tryz.prog 35 #[.pointer (some ⟨q.g, 0, none⟩)] w fun e w' => ∃ (s : ByteArray) (k' : Nat) (bad' : Bool), e = .returned (.string s) ∧ s.size ≤ 16384 ∧ StepR q M.pText (fun x => s = x) w w' k sz bad k' sz bad' := by
  have H := Lib.hid (rlength_any 16384 (by omega) hq h)
  have HQ := Lib.hid hq
  clear h hq
  go_enter Tryz.func35, Tryz.ntmps35
  go_wp2_with fail
  refine H.out.mono ?_; rintro e w1 ⟨n, k1, b1, rfl, hn1, hn2, hs⟩
  obtain ⟨hl, c0, c1, c2, c3, f1, f2, f3⟩ := rd_cells hs.rd
  have HS1 := Lib.hid hs
  have hle := hs.rd.le
  have hsm := HQ.out.small
  have hcap := HQ.out.cap_le.1
  have hr2 : Rd q (w1.setCell ⟨q.g, 1, none⟩ (.int .i64 (k1 + n : Nat))) (k1 + n) sz b1 := hs.rd.set 1 _ rfl (by omega) hs.rd.few
  obtain ⟨A, hA⟩ : ∃ A : Option Addr, (if q.cap = k1 then (some ⟨q.b, q.off, none⟩ : Option Addr) else some ⟨q.b, q.off + k1, none⟩) = A := ⟨_, rfl⟩
  obtain ⟨S, hS⟩ : ∃ S, strOfNums ((q.L.drop k1).take n) = S := ⟨_, rfl⟩
  have hcv : ∀ (W : World), Still (w1.setCell ⟨q.g, 1, none⟩ (.int .i64 (k1 + n : Nat))) W → (convert 22 9 (.slice A n (q.cap - k1))).run Tryz.prog W = .ok (.string S) W := fun W hW => by
    rw [← hA, ← hS]
    split
    · rename_i hck
      have hn0 : n = 0 := by omega
      subst hn0
      have := conv_part (hr2.still hW) (j := 0) (n := 0) (c := q.cap - k1) (by omega)
      simpa using this
    · exact conv_part (hr2.still hW) (j := k1) (n := n) (c := q.cap - k1) (by omega)
  have hsz : S.size = n := by rw [← hS, M.size_of, List.length_take, List.length_drop]; omega
  have HSS := Lib.hid (And.intro hS hsz)
  have HAA := Lib.hid hA
  clear hS hsz hA
  have HCV := Lib.hid hcv
  have HR2 := Lib.hid hr2
  clear hs hcv hr2
  have T2 : Hid (Turn (fun i => i = q.g) w1 (w1.setCell ⟨q.g, 1, none⟩ (.int .i64 (k1 + n : Nat)))) := (Turn.refl _ w1).set_g 1 _
  have hww : ∀ u, w1.setCell ⟨q.g, 1, none⟩ (.int .i64 (↑k1 + ↑n)) = u → w1.setCell ⟨q.g, 1, none⟩ (.int .i64 (k1 + n : Nat)) = u := fun u h => by rw [← h]; simp
  go_wp2_with fail
  obtain ⟨w2, hw2⟩ : ∃ w2, w1.setCell ⟨q.g, 1, none⟩ (.int .i64 (↑k1 + ↑n)) = w2 := ⟨_, rfl⟩
  rw [hww w2 hw2] at HCV HR2 T2
  rw [hw2]
  clear hww hw2 c0 c1 c2 c3 f1 f2 f3 hl
  obtain ⟨hl, c0, c1, c2, c3, f1, f2, f3⟩ := rd_cells HR2.out
  have hcq := fun i => HCV.out (w2.drewN i) ((Still.refl w2).drewN i)
  have e1 : (((k1 + n : Nat) : Int)) - (n : Int) = (k1 : Int) := by omega
  have b1' : (k1 : Int) + n ≤ q.cap := by omega
  have e2 : IntKind.i64.wrap (k1 : Int) = (k1 : Int) := by rw [IntKind.wrap_i64]; omega
  have e3 : (k1 : Int) ≤ (k1 : Int) + n := by omega
  have HN := Lib.hid (And.intro hn1 hn2)
  clear hn1 hn2
  have hA := HAA.out
  have hln : ((k1 : Int) + n).toNat - k1 = n := by omega
  go_quiet (fail)
  go_wp2_with fail
  go_ret
  refine ⟨S, k1 + n, b1, rfl, by rw [HSS.out.2]; exact HN.out.1, HR2.out.still ((Still.refl w2).drewN nq), (HS1.out.turn.trans T2.out).trans ((Turn.refl _ w2).drewN nq), HS1.out.stay, fun hb e => ?_, fun hb x s1 R1 e => ?_⟩
  · cases hp : M.pLen 16384 sz (q.L.drop k) with
    | none => exact HS1.out.no hb hp
    | some y =>
      obtain ⟨x, z1, R1⟩ := y
      unfold M.pText at e
      rw [hp] at e
      cases e
  · unfold M.pText at e
    cases hp : M.pLen 16384 sz (q.L.drop k) with
    | none => rw [hp] at e; cases e
    | some y =>
      obtain ⟨x2, z1, R2⟩ := y
      obtain ⟨y1, y2, y3, y4⟩ := HS1.out.yes hb _ _ _ hp
      subst y4
      rw [hp] at e
      simp only [Option.some.injEq, Prod.mk.injEq] at e
      refine ⟨y1, by rw [y2]; exact e.2.1, ?_, ?_⟩
      · rw [← e.2.2, ← y3, List.drop_drop]
      · rw [← e.1, ← y3]; exact HSS.out.1.symm
end Go.Proofs.YthlifflapgccbaaGreat
/- Images in new memory: what lies in blocks of a kind. No program in sight. -/
namespace Go.Proofs.YthlifflapgccbaaGreat
set_option linter.unusedVariables false
set_option linter.unusedSimpArgs false
open Go.ChangeShapes Go.WideShapes Go.ChangeAt Go.RowKit
structure LiesQ {α : Type} (Q : Nat → Prop) (w : World) (k : Nat) (P : List Value → α → Prop) (a : Option Addr) (n : Nat) (xs : List α) : Prop where
  len : xs.length = n
  at_ : 0 < n → ∃ b off, a = some ⟨b, off, none⟩ ∧ Q b ∧ ∀ i x, xs[i]? = some x → ∃ cs : List Value, cs.length = k ∧ P cs x ∧ ∀ j, j < k → w.cell? ⟨b, off + i * k + j, none⟩ = cs[j]?
def IntsQ (Q : Nat → Prop) (w : World) (a : Option Addr) (n : Nat) (xs : List Int) : Prop := LiesQ Q w 1 IntIs a n xs
def TyQ (Q : Nat → Prop) (w : World) (cs : List Value) (t : M.Ty) : Prop := ∃ a n c, cs = [.bool t.imm, .slice a n c] ∧ n ≤ maxLen ∧ IntsQ Q w a n t.shapes
def ShQ (Q : Nat → Prop) (w : World) (cs : List Value) (s : M.Sh) : Prop := ∃ a n c, cs = [.int .i64 s.kind, .slice a n c, .string s.name] ∧ n ≤ maxLen ∧ In64 s.kind ∧ s.name.size ≤ maxLen ∧ IntsQ Q w a n s.fields
def InsQ (Q : Nat → Prop) (w : World) (cs : List Value) (x : M.Ins) : Prop := ∃ la ln lc ma mn mc va vn vc, cs = [.int .i64 x.op, .int .i64 x.d, .int .i64 x.a, .int .i64 x.b, .int .i64 x.c, .int .i64 x.n, .slice la ln lc, .slice ma mn mc, .slice va vn vc] ∧
  ln ≤ maxLen ∧ mn ≤ maxLen ∧ vn ≤ maxLen ∧ (In64 x.op ∧ In64 x.d ∧ In64 x.a ∧ In64 x.b ∧ In64 x.c ∧ In64 x.n) ∧ IntsQ Q w la ln x.l ∧ IntsQ Q w ma mn x.m ∧ IntsQ Q w va vn x.v
def BkQ (Q : Nat → Prop) (w : World) (cs : List Value) (x : M.Bk) : Prop := ∃ ia inn ic ca cn cc, cs = [.slice ia inn ic, .slice ca cn cc] ∧ inn ≤ maxLen ∧ cn ≤ maxLen ∧ IntsQ Q w ia inn x.inn ∧ LiesQ Q w 9 (InsQ Q w) ca cn x.code
def FnQ (Q : Nat → Prop) (w : World) (cs : List Value) (x : M.Fn) : Prop := ∃ pa pn pc ba bn bc, cs = [.slice pa pn pc, .int .i64 x.result, .int .i64 x.slots, .slice ba bn bc] ∧ pn ≤ maxLen ∧ bn ≤ maxLen ∧ In64 x.result ∧ In64 x.slots ∧ IntsQ Q w pa pn x.params ∧ LiesQ Q w 2 (BkQ Q w) ba bn x.blocks
/-- What stands in blocks of the kind Q stands from w to w', and is of the kind R. -/
structure Kept (Q R : Nat → Prop) (w w' : World) : Prop where
  same : ∀ b, Q b → w'.heap[b]? = w.heap[b]?
  to : ∀ b, Q b → R b
theorem LiesQ.keep {α : Type} {Q R : Nat → Prop} {k : Nat} {w w' : World} {P P' : List Value → α → Prop} {a : Option Addr} {n : Nat} {xs : List α} (h : LiesQ Q w k P a n xs) (hk : Kept Q R w w') (hq : ∀ cs x, P cs x → P' cs x) : LiesQ R w' k P' a n xs :=
  ⟨h.len, fun hn => by
    obtain ⟨b, off, ha, hB, hx⟩ := h.at_ hn
    refine ⟨b, off, ha, hk.to b hB, fun i x hi => ?_⟩
    obtain ⟨cs, h1, h2, h3⟩ := hx i x hi
    exact ⟨cs, h1, hq cs x h2, fun j hj => by rw [← h3 j hj]; exact World.cell?_of_block (w := w) (hk.same b hB)⟩⟩
theorem IntsQ.keep {Q R : Nat → Prop} {w w' : World} {a : Option Addr} {n : Nat} {xs : List Int} (h : IntsQ Q w a n xs) (hk : Kept Q R w w') : IntsQ R w' a n xs := LiesQ.keep h hk fun _ _ h => h
theorem TyQ.keep {Q R : Nat → Prop} {w w' : World} {cs : List Value} {x : M.Ty} (h : TyQ Q w cs x) (hk : Kept Q R w w') : TyQ R w' cs x := by
  obtain ⟨a, n, c, h1, h2, h3⟩ := h
  exact ⟨a, n, c, h1, h2, h3.keep hk⟩
theorem ShQ.keep {Q R : Nat → Prop} {w w' : World} {cs : List Value} {x : M.Sh} (h : ShQ Q w cs x) (hk : Kept Q R w w') : ShQ R w' cs x := by
  obtain ⟨a, n, c, h1, h2, h3, h4, h5⟩ := h
  exact ⟨a, n, c, h1, h2, h3, h4, h5.keep hk⟩
theorem InsQ.keep {Q R : Nat → Prop} {w w' : World} {cs : List Value} {x : M.Ins} (h : InsQ Q w cs x) (hk : Kept Q R w w') : InsQ R w' cs x := by
  obtain ⟨la, ln, lc, ma, mn, mc, va, vn, vc, h1, h2, h3, h4, h5, h6, h7, h8⟩ := h
  exact ⟨la, ln, lc, ma, mn, mc, va, vn, vc, h1, h2, h3, h4, h5, h6.keep hk, h7.keep hk, h8.keep hk⟩
theorem BkQ.keep {Q R : Nat → Prop} {w w' : World} {cs : List Value} {x : M.Bk} (h : BkQ Q w cs x) (hk : Kept Q R w w') : BkQ R w' cs x := by
  obtain ⟨ia, inn, ic, ca, cn, cc, h1, h2, h3, h4, h5⟩ := h
  exact ⟨ia, inn, ic, ca, cn, cc, h1, h2, h3, h4.keep hk, h5.keep hk fun _ _ h => h.keep hk⟩
theorem FnQ.keep {Q R : Nat → Prop} {w w' : World} {cs : List Value} {x : M.Fn} (h : FnQ Q w cs x) (hk : Kept Q R w w') : FnQ R w' cs x := by
  obtain ⟨pa, pn, pc, ba, bn, bc, h1, h2, h3, h4, h5, h6, h7⟩ := h
  exact ⟨pa, pn, pc, ba, bn, bc, h1, h2, h3, h4, h5, h6.keep hk, h7.keep hk fun _ _ h => h.keep hk⟩
theorem IntIs.keep {Q R : Nat → Prop} {w w' : World} {cs : List Value} {x : Int} (h : IntIs cs x) (hk : Kept Q R w w') : IntIs cs x := h
theorem TxIs.keep {Q R : Nat → Prop} {w w' : World} {cs : List Value} {x : ByteArray} (h : TxIs cs x) (hk : Kept Q R w w') : TxIs cs x := h
/-- Blocks made from w to w'. -/
def Fresh (w w' : World) (i : Nat) : Prop := w.heap.size ≤ i ∧ i < w'.heap.size
namespace M
theorem rep_snoc {α : Type} (p : Par α) : ∀ (n z : Nat) (R : List Int), pRep p (n + 1) z R = match pRep p n z R with
    | some (l, z1, R1) => (match p z1 R1 with
      | some (x, z2, R2) => some (l ++ [x], z2, R2)
      | none => none)
    | none => none
  | 0, z, R => by
    simp only [pRep]
    cases p z R with
    | none => rfl
    | some y => obtain ⟨x, z1, R1⟩ := y; rfl
  | n + 1, z, R => by
    have ih := fun z R => rep_snoc p n z R
    have e1 : ∀ (q : Nat), pRep p (q + 1) z R = match p z R with
      | some (x, z1, R1) => (match pRep p q z1 R1 with
        | some (l, z2, R2) => some (x :: l, z2, R2)
        | none => none)
      | none => none := fun q => rfl
    rw [e1 (n + 1), e1 n]
    cases hp : p z R with
    | none => rfl
    | some y =>
      obtain ⟨x, z1, R1⟩ := y
      simp only
      rw [ih z1 R1]
      cases pRep p n z1 R1 with
      | none => rfl
      | some y =>
        obtain ⟨l, z2, R2⟩ := y
        simp only
        cases p z2 R2 with
        | none => rfl
        | some y => obtain ⟨x3, z3, R3⟩ := y; rfl
theorem rep_none {α : Type} (p : Par α) {n m z : Nat} {R : List Int} (h : pRep p n z R = none) (hm : n ≤ m) : pRep p m z R = none := by
  obtain ⟨d, rfl⟩ := Nat.exists_eq_add_of_le hm
  induction d with
  | zero => exact h
  | succ d ih =>
    rw [← Nat.add_assoc, rep_snoc, ih (by omega)]
end M
theorem StepR.refl {α : Type} {q : RP} {p : M.Par α} {V : List α → Prop} {w : World} {k sz : Nat} {bad : Bool} (h : Rd q w k sz bad) (hv : V []) : StepR q (M.pRep p 0) V w w k sz bad k sz bad :=
  ⟨h, Turn.refl _ _, fun e => e, fun _ e => by simp [M.pRep] at e, fun hb x s1 R1 e => by
    simp only [M.pRep, Option.some.injEq, Prod.mk.injEq] at e
    obtain ⟨rfl, rfl, rfl⟩ := e
    exact ⟨hb, rfl, rfl, hv⟩⟩
theorem StepR.snoc {α : Type} {q : RP} {p : M.Par α} {V V' : List α → Prop} {U : α → Prop} {w w1 w2 w3 : World} {i k sz k1 s1 k2 s2 : Nat} {bad b1 b2 : Bool} (h : StepR q (M.pRep p i) V w w1 k sz bad k1 s1 b1) (u : StepR q p U w1 w2 k1 s1 b1 k2 s2 b2) (r : Rd q w3 k2 s2 b2) (t : Turn (fun j => j = q.g) w w3) (hV : ∀ l x, V l → U x → V' (l ++ [x])) :
    StepR q (M.pRep p (i + 1)) V' w w3 k sz bad k2 s2 b2 :=
  ⟨r, t, fun hb => u.stay (h.stay hb), fun hb e => by
    rw [M.rep_snoc] at e
    cases hp : M.pRep p i sz (q.L.drop k) with
    | none => exact u.stay (h.no hb hp)
    | some y =>
      obtain ⟨l, z1, R1⟩ := y
      obtain ⟨y1, y2, y3, y4⟩ := h.yes hb _ _ _ hp
      rw [hp] at e
      simp only at e
      cases hq : p z1 R1 with
      | none => exact u.no y1 (by rw [y2, y3]; exact hq)
      | some y => rw [hq] at e; exact absurd e (by simp), fun hb x s3 R3 e => by
    rw [M.rep_snoc] at e
    cases hp : M.pRep p i sz (q.L.drop k) with
    | none => rw [hp] at e; exact absurd e (by simp)
    | some y =>
      obtain ⟨l, z1, R1⟩ := y
      obtain ⟨y1, y2, y3, y4⟩ := h.yes hb _ _ _ hp
      rw [hp] at e
      simp only at e
      cases hq : p z1 R1 with
      | none => rw [hq] at e; exact absurd e (by simp)
      | some y =>
        obtain ⟨x2, z2, R2⟩ := y
        rw [hq] at e
        simp only [Option.some.injEq, Prod.mk.injEq] at e
        obtain ⟨rfl, rfl, rfl⟩ := e
        obtain ⟨u1, u2, u3, u4⟩ := u.yes y1 x2 z2 R2 (by rw [y2, y3]; exact hq)
        exact ⟨u1, u2, u3, hV l x2 y4 u4⟩⟩
theorem flat_get {k : Nat} : ∀ (vs : List (List Value)), (∀ cs ∈ vs, cs.length = k) → ∀ (j : Nat) (cs : List Value), vs[j]? = some cs → ∀ q, q < k → vs.flatten[j * k + q]? = cs[q]?
  | c :: vs, h, 0, cs, hj, q, hq => by
    simp at hj
    subst hj
    have := h c (by simp)
    simp only [List.flatten_cons, Nat.zero_mul, Nat.zero_add]
    rw [List.getElem?_append_left (by omega)]
  | c :: vs, h, j + 1, cs, hj, q, hq => by
    have hc := h c (by simp)
    simp only [List.getElem?_cons_succ] at hj
    have ih := flat_get vs (fun d hd => h d (by simp [hd])) j cs hj q hq
    simp only [List.flatten_cons]
    rw [List.getElem?_append_right (by rw [hc, Nat.add_mul]; omega), ← ih]
    congr 1
    rw [hc, Nat.add_mul]
    omega
end Go.Proofs.YthlifflapgccbaaGreat
/- A list under way: taken so far. No program in sight. -/
namespace Go.Proofs.YthlifflapgccbaaGreat
set_option linter.unusedVariables false
set_option linter.unusedSimpArgs false
open Go.ChangeShapes Go.WideShapes Go.ChangeAt Go.RowKit
theorem run_make_cap {P : Program} (t e : TypeId) (z : Value) (size bytes : Nat) (ht : P.underlying t = some (.slice e)) (hinfo : (P.info? e).map (fun i => (i.zero, i.size, i.bytes)) = some (some z, size, bytes))
    (kl kc : IntKind) (c : Nat) (hbytes : bytes * c ≤ 281474976710656) (h63 : c ≤ maxLen) (w : World) :
    (Instr.makeSlice t (.int kl 0) (.int kc (c : Int))).run P w = .ok (.slice (some ⟨w.heap.size, 0, none⟩) 0 c) (w.alloc (.cells (madeCells z.cells (c * size)) e)) := by
  obtain ⟨i, hi, hzz⟩ := Option.map_eq_some_iff.1 hinfo
  simp only [Prod.mk.injEq] at hzz
  obtain ⟨hz, hs, hb⟩ := hzz
  have h63' : (c : Int) ≤ 9223372036854775807 := by unfold maxLen at h63; omega
  have hb' : (i.bytes : Int) * (c : Int) ≤ 281474976710656 := by
    have h : ((i.bytes * c : Nat) : Int) ≤ 281474976710656 := by rw [hb]; omega
    rwa [Int.natCast_mul] at h
  have hr := run_make (P := P) w t e i z ht hi hz kl kc 0 c (Int.le_refl _) (by omega) hb' h63'
  simp only [Int.toNat_zero, Int.toNat_natCast, hs] at hr
  exact hr
def lenV : Value → Nat
  | .slice _ n _ => n
  | _ => 0
theorem turn_own {S : Nat → Prop} {w wp w' : World} {e : TypeId} {size n : Nat} {v : Value} {xs : List Value} (h : Turn S w wp) (t : Turn (fun k => v.ownBlock = some k) wp w') (ho : wp.ownsRow w.heap.size e size v n xs) : Turn S w w' :=
  ⟨t.os.trans h.os, t.tape.trans h.tape, t.output.trans h.output, Nat.le_trans h.size t.size, fun k hk hs => (t.block k (Nat.lt_of_lt_of_le hk h.size) (fun e => by have := (ho.lt k e).1; omega)).trans (h.block k hk hs)⟩
/-- What stands where between two elements: not in the list's own row. -/
def Beside (w1 wr : World) (v : Value) (b : Nat) : Prop := w1.heap.size ≤ b ∧ b < wr.heap.size ∧ v.ownBlock ≠ some b
abbrev InMem (α : Type) := (Nat → Prop) → World → List Value → α → Prop
structure Tk {α : Type} (q : RP) (p : M.Par α) (E : TypeId) (K : Nat) (P : InMem α) (w1 : World) (k sz : Nat) (bad : Bool) (vs : List (List Value)) (a : Option Addr) (i c : Nat) (wr : World) (k1 s1 : Nat) (b1 : Bool) : Prop where
  own : wr.ownsRow w1.heap.size E K (.slice a i c) i vs.flatten
  len : vs.length = i
  each : ∀ cs ∈ vs, cs.length = K
  step : StepR q (M.pRep p i) (fun (l : List α) => l.length = i ∧ ∀ (j : Nat) (x : α), l[j]? = some x → ∃ cs, vs[j]? = some cs ∧ P (Beside w1 wr (.slice a i c)) wr cs x) w1 wr k sz bad k1 s1 b1
theorem Tk.none {α : Type} {q : RP} {p : M.Par α} {E : TypeId} {K : Nat} {P : InMem α} {w1 wr : World} {k sz : Nat} {bad : Bool} {a : Option Addr} {c : Nat} (hr : Rd q wr k sz bad) (ht : Turn (fun i => i = q.g) w1 wr) (ho : wr.ownsRow w1.heap.size E K (.slice a 0 c) 0 []) : Tk q p E K P w1 k sz bad [] a 0 c wr k sz bad :=
  ⟨ho, rfl, by simp, hr, ht, fun e => e, fun _ e => by simp [M.pRep] at e, fun hb x s1 R1 e => by
    simp only [M.pRep, Option.some.injEq, Prod.mk.injEq] at e
    obtain ⟨rfl, rfl, rfl⟩ := e
    exact ⟨hb, rfl, rfl, rfl, by simp⟩⟩
theorem Tk.next {α : Type} {q : RP} {p : M.Par α} {E : TypeId} {K : Nat} {P : InMem α} (hP : ∀ Q R w w' cs x, P Q w cs x → Kept Q R w w' → P R w' cs x) {w1 wr w2 w3 w4 : World} {k sz k1 s1 k2 s2 : Nat} {bad b1 b2 : Bool} {vs : List (List Value)} {a a' : Option Addr} {i c c' : Nat} {cs : List Value}
    (h : Tk q p E K P w1 k sz bad vs a i c wr k1 s1 b1) (hg : q.g < w1.heap.size) (hb : q.b < w1.heap.size) (u : StepR q p (fun x => P (Fresh wr w2) w2 cs x) wr w2 k1 s1 b1 k2 s2 b2) (hc : cs.length = K)
    (h3 : Turn (fun _ => False) w2 w3) (ho3 : w3.ownsRow w1.heap.size E K (.slice a i c) i vs.flatten) (h4 : Turn (fun k => (Value.slice a i c).ownBlock = some k) w3 w4)
    (ho : w4.ownsRow w1.heap.size E K (.slice a' (i + 1) c') (i + 1) (vs.flatten ++ cs)) (hn : (Value.slice a i c).ownBlock = (Value.slice a' (i + 1) c').ownBlock ∨ ∀ j, (Value.slice a' (i + 1) c').ownBlock = some j → w3.heap.size ≤ j) :
    Tk q p E K P w1 k sz bad (vs ++ [cs]) a' (i + 1) c' w4 k2 s2 b2 := by
  have hlt := h.own.lt
  have s12 := h.step.turn.size
  have s23 := u.turn.size
  have s34 := h3.size
  have s45 := h4.size
  have t3 : Turn (fun i => i = q.g) w1 w3 := (h.step.turn.trans u.turn).trans (h3.mono fun _ _ e => e.elim)
  have hkeep1 : Kept (Beside w1 wr (.slice a i c)) (Beside w1 w4 (.slice a' (i + 1) c')) wr w4 := ⟨fun b hb2 => by
    obtain ⟨e1, e2, e3⟩ := hb2
    exact (h4.block b (by omega) e3).trans ((h3.block b (by omega) (fun e => e)).trans (u.turn.block b e2 (by omega))), fun b hb2 => by
    obtain ⟨e1, e2, e3⟩ := hb2
    refine ⟨e1, by omega, fun e => ?_⟩
    rcases hn with hn | hn
    · exact e3 (hn.trans e)
    · have := hn b e; omega⟩
  have hkeep2 : Kept (Fresh wr w2) (Beside w1 w4 (.slice a' (i + 1) c')) w2 w4 := ⟨fun b hb2 => by
    obtain ⟨e1, e2⟩ := hb2
    exact (h4.block b (by omega) (fun e => by have := (hlt b e).2; omega)).trans (h3.block b e2 (fun e => e)), fun b hb2 => by
    obtain ⟨e1, e2⟩ := hb2
    refine ⟨by omega, by omega, fun e => ?_⟩
    rcases hn with hn | hn
    · have := (hlt b (hn.trans e)).2; omega
    · have := hn b e; omega⟩
  refine ⟨by simpa using ho, by simp [h.len], fun d hd => ?_, h.step.snoc u ((u.rd.still h3).turn h4 (fun e => ?_) (fun e => ?_)) (turn_own t3 h4 ho3) ?_⟩
  · rcases List.mem_append.1 hd with hd | hd
    · exact h.each d hd
    · rw [List.mem_singleton.1 hd]; exact hc
  · have := (hlt _ e).1; omega
  · have := (hlt _ e).1; omega
  · rintro l x ⟨hl, hx⟩ hu
    refine ⟨by simp [hl], fun j y hj => ?_⟩
    by_cases hji : j < l.length
    · rw [List.getElem?_append_left hji] at hj
      obtain ⟨ds, e1, e2⟩ := hx j y hj
      exact ⟨ds, by rw [List.getElem?_append_left (by rw [h.len]; omega)]; exact e1, hP _ _ _ _ _ _ e2 hkeep1⟩
    · have : j = l.length := by
        have := (List.getElem?_eq_some_iff.1 hj).1
        simp at this
        omega
      subst this
      simp at hj
      subst hj
      exact ⟨cs, by rw [hl, ← h.len]; simp, hP _ _ _ _ _ _ hu hkeep2⟩
/-- The list as it is given back. -/
theorem Tk.lies {α : Type} {q : RP} {p : M.Par α} {E : TypeId} {K : Nat} {P : InMem α} (hP : ∀ Q R w w' cs x, P Q w cs x → Kept Q R w w' → P R w' cs x) {w w1 wr : World} {k sz k1 s1 : Nat} {bad b1 : Bool} {vs : List (List Value)} {a : Option Addr} {i c : Nat} (h : Tk q p E K P w1 k sz bad vs a i c wr k1 s1 b1) (hw : w.heap.size ≤ w1.heap.size) {l : List α} (hl : l.length = i) (hx : ∀ (j : Nat) (x : α), l[j]? = some x → ∃ cs, vs[j]? = some cs ∧ P (Beside w1 wr (.slice a i c)) wr cs x) : LiesQ (Fresh w wr) wr K (P (Fresh w wr) wr) a i l :=
  ⟨hl, fun hi => by
    have hlt := h.own.lt
    have hcells := fun g hg => h.own.cells (g := g) hg
    rcases h.own.2 with ⟨_, h0⟩ | ⟨g, cap, cur, e, e1, e2, e3, e4, e5, e6⟩
    · omega
    · injection e with ea _ _
      subst ea
      have hg := hlt g rfl
      refine ⟨g, 0, rfl, ⟨by omega, hg.2⟩, fun j x hj => ?_⟩
      obtain ⟨cs, f1, f2⟩ := hx j x hj
      refine ⟨cs, h.each cs (List.mem_of_getElem? f1), hP _ _ _ _ _ _ f2 ⟨fun b hb => rfl, fun b hb => ⟨by have := hb.1; omega, hb.2.1⟩⟩, fun d hd => ?_⟩
      have hf := flat_get vs h.each j cs f1 d hd
      have hcl := h.each cs (List.mem_of_getElem? f1)
      rw [← hf]
      have hget : vs.flatten[j * K + d]? = some cs[d] := by rw [hf]; exact List.getElem?_eq_getElem (by omega)
      rw [hget, Nat.zero_add]
      have := hcells g rfl (j * K + d) _ hget
      rw [Addr.add_lit, Nat.zero_add] at this
      exact this⟩
/-- A list's length, then its elements: a list. -/
theorem list_done {α : Type} {q : RP} {p : M.Par α} {V V' : List α → Prop} {w w1 w2 : World} {most n i k sz k1 k2 s2 : Nat} {bad b1 b2 : Bool} (s : StepR q (M.pLen most) (fun x => n = x) w w1 k sz bad k1 sz b1) (u : StepR q (M.pRep p i) V w1 w2 k1 sz b1 k2 s2 b2) (hi : i ≤ n) (hd : b2 = true ∨ i = n) (hV : i = n → ∀ l, V l → V' l) : StepR q (M.pList most p) V' w w2 k sz bad k2 s2 b2 :=
  ⟨u.rd, s.turn.trans u.turn, fun hb => u.stay (s.stay hb), fun hb e => by
    rcases hd with hd | rfl
    · exact hd
    · cases hp : M.pLen most sz (q.L.drop k) with
      | none => exact u.stay (s.no hb hp)
      | some y =>
        obtain ⟨x, z1, R1⟩ := y
        obtain ⟨y1, y2, y3, y4⟩ := s.yes hb _ _ _ hp
        subst y4
        unfold M.pList at e
        rw [hp] at e
        simp only at e
        exact u.no y1 (by rw [y3, y2]; exact e), fun hb l s3 R3 e => by
    cases hp : M.pLen most sz (q.L.drop k) with
    | none => unfold M.pList at e; rw [hp] at e; exact absurd e (by simp)
    | some y =>
      obtain ⟨x, z1, R1⟩ := y
      obtain ⟨y1, y2, y3, y4⟩ := s.yes hb _ _ _ hp
      subst y4
      unfold M.pList at e
      rw [hp] at e
      simp only at e
      cases hpi : M.pRep p i z1 R1 with
      | none => rw [M.rep_none p hpi hi] at e; exact absurd e (by simp)
      | some y =>
        obtain ⟨l2, s4, R4⟩ := y
        have hy := u.yes y1 l2 s4 R4 (by rw [y3, y2]; exact hpi)
        rcases hd with hd | rfl
        · rw [hy.1] at hd; cases hd
        · rw [hpi] at e
          simp only [Option.some.injEq, Prod.mk.injEq] at e
          obtain ⟨rfl, rfl, rfl⟩ := e
          exact ⟨hy.1, hy.2.1, hy.2.2.1, hV rfl _ hy.2.2.2⟩⟩
end Go.Proofs.YthlifflapgccbaaGreat
