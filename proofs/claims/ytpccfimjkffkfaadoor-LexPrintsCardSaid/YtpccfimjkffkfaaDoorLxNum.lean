/- The reader of lex in memory: numbers. -/
import Derived.Test.YtpccfimjkffkfaaDoorLxTok
namespace Go.Proofs.YtpccfimjkffkfaaDoor
set_option linter.unusedVariables false
set_option linter.unusedSimpArgs false
open Go.ChangeShapes Go.WideShapes Go.ChangeAt Go.RowKit
namespace Lx
theorem num_snoc (l : List Nat) (c : Nat) : num (l ++ [c]) = 10 * num l + (c - 48) := by simp [num, List.foldl_append]
theorem foldl_le (l : List Nat) : ∀ (a b : Nat), a ≤ b → a ≤ l.foldl (fun n c => 10 * n + (c - 48)) b := by
  induction l with
  | nil => intro a b h; exact h
  | cons c l ih => intro a b h; exact ih a _ (by show a ≤ 10 * b + (c - 48); omega)
theorem num_take_le (l : List Nat) (i : Nat) : num (l.take i) ≤ num l := by
  conv => rhs; rw [← List.take_append_drop i l]
  unfold num
  rw [List.foldl_append]
  exact foldl_le _ _ _ (Nat.le_refl _)
theorem takeWhile_split (p : Nat → Bool) : ∀ (L : List Nat) (i : Nat), (∀ j, j < i → ∃ c, L[j]? = some c ∧ p c = true) → (L.drop i).head?.any p = false → L.takeWhile p = L.take i
  | L, 0, _, h => by
    rw [List.drop_zero] at h
    cases L with
    | nil => rfl
    | cons c L =>
      have : p c = false := by simpa using h
      rw [List.takeWhile_cons, this]; rfl
  | [], i + 1, _, _ => rfl
  | c :: L, i + 1, h, h2 => by
    obtain ⟨c', h3, h4⟩ := h 0 (by omega)
    obtain rfl : c = c' := by simpa using h3
    rw [List.takeWhile_cons, h4, List.take_succ_cons, takeWhile_split p L i (fun j hj => by have := h (j + 1) (by omega); simpa using this) (by simpa using h2)]
    rfl
theorem takeWhile_pre (p : Nat → Bool) : ∀ (L : List Nat) (i : Nat), (∀ j, j < i → ∃ c, L[j]? = some c ∧ p c = true) → (L.takeWhile p).take i = L.take i
  | _, 0, _ => by simp
  | [], i + 1, _ => rfl
  | c :: L, i + 1, h => by
    obtain ⟨c', h3, h4⟩ := h 0 (by omega)
    obtain rfl : c = c' := by simpa using h3
    rw [List.takeWhile_cons, h4, if_pos rfl, List.take_succ_cons, List.take_succ_cons, takeWhile_pre p L i (fun j hj => by have := h (j + 1) (by omega); simpa using this)]
end Lx
set_option maxHeartbeats 4000000 in
theorem number_any {w : World} {g : Nat} {s : ByteArray} {k mb : Nat} (h : Rdr w g s k mb) :
    Calls Tryd.prog 47 #[.pointer (some ⟨g, 0, none⟩)] w fun e w' => At g w w' ∧
      ((Lx.num (((Lx.bs s).drop k).takeWhile Lx.dig) ≤ 4611686018427387903 ∧ e = .returned (.tuple #[.agg #[.int .i64 1, .int .i64 0, .string ByteArray.empty, .int .i64 (Lx.num (((Lx.bs s).drop k).takeWhile Lx.dig) : Nat)], .bool true]) ∧ Rdr w' g s (k + (((Lx.bs s).drop k).takeWhile Lx.dig).length) mb)
      ∨ (4611686018427387903 < Lx.num (((Lx.bs s).drop k).takeWhile Lx.dig) ∧ e = .returned (.tuple #[.agg #[.int .i64 0, .int .i64 0, .string ByteArray.empty, .int .i64 0], .bool false]))) := by
  have HR := Lib.hid h
  have hf := h.few
  clear h
  go_enter Tryd.func47, Tryd.ntmps47
  go_wp2_with fail
  go_loopw [4] (fun v wr => ∃ i : Nat, v = .int .i64 (Lx.num (((Lx.bs s).drop k).take i) : Nat) ∧ Lx.num (((Lx.bs s).drop k).take i) ≤ 4611686018427387903 ∧ Rdr wr g s (k + i) mb ∧ At g w wr ∧ Blk wr w.heap.size 31 #[.int .i64 0, .int .i64 0, .string ByteArray.empty, .int .i64 0] ∧ w.heap.size < wr.heap.size ∧ ∀ j, j < i → ∃ c, ((Lx.bs s).drop k)[j]? = some c ∧ Lx.dig c = true) (fun v wr => s.size - place wr g)
  case atStart => exact ⟨0, by simp [Lx.num], by simp [Lx.num], HR.out.still ((Still.refl w).alloc _), (Turn.refl _ w).alloc _, Blk.new w _ _, by simp, fun j hj => by omega⟩
  case round =>
    obtain ⟨i, rfl, hmax, hrd, hat, hbx, hsz, hpre⟩ := hrel
    have HH := Lib.hid (And.intro hat (And.intro hbx (And.intro hsz hpre)))
    have HRD := Lib.hid hrd
    have hpl0 := Lib.hid hrd.place
    obtain ⟨m, hm⟩ : ∃ m, k + i = m := ⟨_, rfl⟩
    rw [hm] at hrd
    have HMM := Lib.hid hm
    have hle := hrd.le
    obtain ⟨n, hn⟩ : ∃ n, Lx.num (((Lx.bs s).drop k).take i) = n := ⟨_, rfl⟩
    have HN := Lib.hid hn
    rw [hn] at hmax ⊢
    clear hn hat hbx hsz hpre hm
    cases hd : ((Lx.bs s).drop m).head?.any Lx.dig with
    | false =>
      have HD := Lib.hid hd
      go_wp2_with fail
      refine (next_is hrd Lx.dig _ enters_digit isDigit_any hd).mono ?_; rintro e w1 ⟨rfl, t1, r1⟩
      obtain ⟨c0, c1, c2, c3, c4, c5, c6, c7, c8⟩ := tokBox (t1.blk HH.out.2.1)
      have R1 := Lib.hid r1
      have B1 := Lib.hid (t1.blk HH.out.2.1)
      have T1 := Lib.hid t1
      clear hd r1 t1
      go_wp2_with fail
      have hgn : g ≠ w.heap.size := by have := HR.out.blk.lt; omega
      have hds : ((Lx.bs s).drop k).takeWhile Lx.dig = ((Lx.bs s).drop k).take i := Lx.takeWhile_split _ _ _ HH.out.2.2.2 (by rw [List.drop_drop, HMM.out]; exact HD.out)
      have hil : (((Lx.bs s).drop k).take i).length = i := by
        rw [List.length_take, List.length_drop, Lx.bs_len]
        have := HMM.out
        omega
      rw [hds, HN.out, hil, HMM.out]
      refine bodyPost_ret (results_row_tmp rfl _ _ w.heap.size 31 #[.int .i64 1, .int .i64 0, .string ByteArray.empty, .int .i64 n] (0, 0) _ rfl (tokPut B1.out (.int .i64 1) (.int .i64 0) (.string ByteArray.empty) (.int .i64 n)) Tryd.underlying31 rfl tok_size) rfl ?_
      exact ⟨tokTurn (HH.out.1.trans T1.out.turn) (Nat.le_refl _) _ _ _ _, .inl ⟨hmax, rfl, tokRdr R1.out hgn _ _ _ _⟩⟩
    | true =>
      have hlt : m < s.size := by
        rcases Nat.lt_or_ge m s.size with h | h
        · exact h
        · rw [Lx.drop_ge h] at hd; cases hd
      have hc := Lx.drop_lt hlt
      have hdg : Lx.dig s[m].toNat = true := by rw [hc] at hd; simpa using hd
      have h48 : 48 ≤ s[m].toNat ∧ s[m].toNat ≤ 57 := by simpa [Lx.dig] using hdg
      obtain ⟨dv, hdv, hdv9⟩ : ∃ dv : Nat, s[m].toNat = dv + 48 ∧ dv ≤ 9 := ⟨s[m].toNat - 48, by omega, by omega⟩
      have ed : IntKind.i64.wrap (IntKind.u8.wrap ((s[m].toNat : Int) - 48)) = (dv : Int) := by
        rw [IntKind.wrap_u8, IntKind.wrap_i64, hdv]; omega
      have hp := HH.out.2.2.2
      have hnext : ∀ j, j < i + 1 → ∃ c, ((Lx.bs s).drop k)[j]? = some c ∧ Lx.dig c = true := fun j hj => by
        by_cases hji : j < i
        · exact hp j hji
        · obtain rfl : j = i := by omega
          refine ⟨s[m].toNat, ?_, hdg⟩
          rw [List.getElem?_drop, HMM.out]
          exact Lx.bs_at hlt
      have hnum : Lx.num (((Lx.bs s).drop k).take (i + 1)) = 10 * n + dv := by
        rw [List.take_add_one, show ((Lx.bs s).drop k)[i]? = some s[m].toNat by rw [List.getElem?_drop, HMM.out]; exact Lx.bs_at hlt]
        show Lx.num (_ ++ [s[m].toNat]) = _
        rw [Lx.num_snoc, HN.out]
        omega
      have HX := Lib.hid (And.intro hnext hnum)
      clear hdg h48 hp hnext hnum hc hdv
      by_cases hov : 10 * n + dv ≤ 4611686018427387903
      · go_wp2_with fail
        refine (next_is hrd Lx.dig _ enters_digit isDigit_any hd).mono ?_; rintro e w1 ⟨rfl, t1, r1⟩
        obtain ⟨b0, b1, b2, b3, b4⟩ := r1.box
        obtain ⟨c0, c1, c2, c3, c4, c5, c6, c7, c8⟩ := tokBox (t1.blk HH.out.2.1)
        go_wp2_with fail
        go_quiet (fail)
        go_wp2_with fail
        have hgn : g ≠ w.heap.size := by have := HR.out.blk.lt; omega
        have W1 : Hid (Still wr (w1.drewN nq)) := t1.trans (drewN_still nq)
        have R3 := Lib.hid ((r1.still (drewN_still nq)).set (k' := m + 1) hlt)
        have hpl : place ((w1.drewN nq).setCell ⟨g, 1, none⟩ (.int .i64 ((m : Int) + 1))) g = m + 1 := R3.out.place
        have hp0 := hpl0.out
        have hmm := HMM.out
        refine ⟨⟨i + 1, by rw [HX.out.2]; push_cast; rfl, by rw [HX.out.2]; exact hov, by rw [show k + (i + 1) = m + 1 by omega]; exact R3.out, At.set (HH.out.1.trans W1.out.turn) 1 _, (W1.out.blk HH.out.2.1).far (p := ⟨g, 1, none⟩) (fun e => hgn e.symm) _, ?_, HX.out.1⟩, by omega⟩
        have h1 := W1.out.size
        have h2 := HH.out.2.2.1
        show w.heap.size < ((w1.drewN nq).setCell _ _).heap.size
        rw [World.size_setCell]
        omega
      · have hgt : Lx.num (((Lx.bs s).drop k).takeWhile Lx.dig) > 4611686018427387903 := by
          have h1 := Lx.num_take_le (((Lx.bs s).drop k).takeWhile Lx.dig) (i + 1)
          rw [Lx.takeWhile_pre _ _ _ HX.out.1, HX.out.2] at h1
          omega
        have HGT := Lib.hid hgt
        clear hgt
        go_wp2_with fail
        refine (next_is hrd Lx.dig _ enters_digit isDigit_any hd).mono ?_; rintro e w1 ⟨rfl, t1, r1⟩
        obtain ⟨b0, b1, b2, b3, b4⟩ := r1.box
        obtain ⟨c0, c1, c2, c3, c4, c5, c6, c7, c8⟩ := tokBox (t1.blk HH.out.2.1)
        have B1 := Lib.hid (t1.blk HH.out.2.1)
        have T1 := Lib.hid t1
        clear t1 r1
        go_wp2_with fail
        go_quiet (fail)
        go_wp2_with fail
        have B2 : Hid (Blk (w1.drewN nq) w.heap.size 31 #[.int .i64 0, .int .i64 0, .string ByteArray.empty, .int .i64 0]) := B1.out
        refine bodyPost_ret (results_row_tmp rfl _ _ w.heap.size 31 #[.int .i64 0, .int .i64 0, .string ByteArray.empty, .int .i64 0] (0, 0) _ rfl (tokPut B2.out (.int .i64 0) (.int .i64 0) (.string ByteArray.empty) (.int .i64 0)) Tryd.underlying31 rfl tok_size) rfl ?_
        exact ⟨tokTurn ((HH.out.1.trans T1.out.turn).trans (drewN_still nq).turn) (Nat.le_refl _) _ _ _ _, .inr ⟨HGT.out, rfl⟩⟩
end Go.Proofs.YtpccfimjkffkfaaDoor
