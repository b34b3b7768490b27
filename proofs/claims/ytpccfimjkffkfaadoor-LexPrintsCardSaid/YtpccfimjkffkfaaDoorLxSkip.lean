/- The reader of lex in memory: to where a token should begin. -/
import Derived.Test.YtpccfimjkffkfaaDoorLxSk
namespace Go.Proofs.YtpccfimjkffkfaaDoor
set_option linter.unusedVariables false
set_option linter.unusedSimpArgs false
open Go.ChangeShapes Go.WideShapes Go.ChangeAt Go.RowKit
def shiftE (m : Nat) : Except Nat Nat → Except Nat Nat
  | .ok n => .ok (m + n)
  | .error n => .error (m + n)
theorem shiftE_zero (x : Except Nat Nat) : shiftE 0 x = x := by cases x <;> simp [shiftE]
theorem shiftE_add (a b : Nat) (x : Except Nat Nat) : shiftE a (shiftE b x) = shiftE (a + b) x := by cases x <;> simp [shiftE] <;> omega
theorem skip_blank' {c : Nat} {L : List Nat} (h : Lx.blank c = true) : Lx.skip (c :: L) = shiftE 1 (Lx.skip L) := by
  rw [Lx.skip_blank h]
  cases Lx.skip L <;> simp [shiftE] <;> omega
/-- What was skipped so far. -/
structure Skp (w wr : World) (g : Nat) (s : ByteArray) (k0 mb : Nat) (k : Nat) : Prop where
  rd : Rdr wr g s k mb
  turn : At g w wr
  le : k0 ≤ k
  eq : Lx.skip ((Lx.bs s).drop k0) = shiftE (k - k0) (Lx.skip ((Lx.bs s).drop k))
theorem Skp.step {w wr w1 : World} {g : Nat} {s : ByteArray} {k0 mb k : Nat} (h : Skp w wr g s k0 mb k) (t : At g wr w1) {k' : Nat} (hr : Rdr w1 g s k' mb) (hk : k ≤ k') (he : Lx.skip ((Lx.bs s).drop k) = shiftE (k' - k) (Lx.skip ((Lx.bs s).drop k'))) : Skp w w1 g s k0 mb k' :=
  ⟨hr, h.turn.trans t, Nat.le_trans h.le hk, by rw [h.eq, he, shiftE_add, show k - k0 + (k' - k) = k' - k0 by have := h.le; omega]⟩
set_option maxHeartbeats 4000000 in
theorem skip_any {w : World} {g : Nat} {s : ByteArray} {k mb : Nat} (h : Rdr w g s k mb) :
    Calls Tryd.prog 22 #[.pointer (some ⟨g, 0, none⟩)] w fun e w' => At g w w' ∧ ∃ kk, Rdr w' g s kk mb ∧ k ≤ kk ∧ ((Lx.skip ((Lx.bs s).drop k) = .ok (kk - k) ∧ e = .returned (.bool true)) ∨ (Lx.skip ((Lx.bs s).drop k) = .error (kk - k) ∧ e = .returned (.bool false))) := by
  have HR := Lib.hid h
  have hf := h.few
  clear h
  go_enter Tryd.func22, Tryd.ntmps22
  go_wp2_with fail
  go_loopw [] (fun wr => ∃ kk : Nat, Skp w wr g s k mb kk) (fun wr => s.size - place wr g)
  case atStart => exact ⟨k, HR.out, Turn.refl _ _, Nat.le_refl _, by rw [Nat.sub_self, shiftE_zero]⟩
  case round =>
    obtain ⟨kk, hm⟩ := hrel
    have hrd := hm.rd
    have hle := hrd.le
    have HM := Lib.hid hm
    clear hm
    have hpl0 : place wr g = kk := hrd.place
    have HPL := Lib.hid hpl0
    clear hpl0
    by_cases hk : kk = s.size
    · have hq : Lx.skip ((Lx.bs s).drop kk) = .ok 0 := by rw [Lx.drop_ge (by omega), Lx.skip_nil]
      have HQ := Lib.hid hq
      clear hq
      go_wp2_with fail
      refine (atEnd_is hrd (b := true) (decide_eq_true hk)).mono ?_; rintro e w1 ⟨rfl, t1, r1⟩
      go_wp2_with fail
      go_ret
      exact ⟨HM.out.turn.trans t1.turn, kk, r1, HM.out.le, .inl ⟨by rw [HM.out.eq, HQ.out]; simp [shiftE], rfl⟩⟩
    · have hlt : kk < s.size := by omega
      have hc := Lx.drop_lt hlt
      go_wp2_with fail
      refine (atEnd_is hrd (b := false) (decide_eq_false hk)).mono ?_; rintro e w1 ⟨rfl, t1, r1⟩
      obtain ⟨b0, b1, b2, b3, b4⟩ := r1.box
      have HC := Lib.hid hc
      have HB := Lib.hid (isBlank_any s[kk].toNat)
      have R1 := Lib.hid r1
      have T1 := Lib.hid t1
      clear r1 t1 hrd hc hk
      cases hb : Lx.blank s[kk].toNat with
      | true =>
        rw [hb] at HB
        have hkk : kk + 1 ≤ s.size := by omega
        have HBL := Lib.hid hb
        clear hb
        go_wp2_with fail
        go_quiet ((exact Calls.quiet_of_same (HB.out _)))
        go_wp2_with fail
        have R3 := Lib.hid ((R1.out.still (drewN_still nq)).set (k' := kk + 1) hkk)
        have hpl : place ((w1.drewN nq).setCell ⟨g, 1, none⟩ (.int .i64 ((kk : Int) + 1))) g = kk + 1 := R3.out.place
        have := HPL.out
        refine ⟨⟨kk + 1, HM.out.step (At.set ((T1.out.turn).trans (drewN_still nq).turn) 1 _) R3.out (by omega) ?_⟩, by omega⟩
        rw [HC.out, skip_blank' HBL.out, show kk + 1 - kk = 1 by omega]
      | false =>
        rw [hb] at HB
        cases ho : (Lx.bs ⟨#[40, 42]⟩).isPrefixOf ((Lx.bs s).drop kk) with
        | false =>
          have hno : ¬ ∃ L, (Lx.bs s).drop kk = 40 :: 42 :: L := fun e => by rw [sees_open.2 e] at ho; cases ho
          have hsk : Lx.skip ((Lx.bs s).drop kk) = .ok 0 := by
            rw [HC.out]
            refine Lx.skip_here hb fun e => hno ?_
            obtain ⟨e1, e2⟩ := e
            rw [HC.out, e1]
            cases hq : (Lx.bs s).drop (kk + 1) with
            | nil => rw [hq] at e2; cases e2
            | cons x y => rw [hq] at e2; cases e2; exact ⟨y, rfl⟩
          have HSK := Lib.hid hsk
          clear hb hno hsk
          go_wp2_with fail
          go_quiet ((exact Calls.quiet_of_same (HB.out _)))
          have R2 := Lib.hid (R1.out.still (drewN_still nq))
          go_wp2_with fail
          refine (sees_is R2.out _ ho).mono ?_; rintro e w2 ⟨rfl, t2, r2⟩
          clear ho
          go_wp2_with fail
          go_ret
          refine ⟨(HM.out.turn.trans T1.out.turn).trans ((drewN_still nq).turn.trans t2.turn), kk, r2, HM.out.le, .inl ⟨?_, rfl⟩⟩
          rw [HM.out.eq, HSK.out]; simp [shiftE]
        | true =>
          obtain ⟨L, hL⟩ := sees_open.1 ho
          have HL := Lib.hid hL
          clear hb hL
          go_wp2_with fail
          go_quiet ((exact Calls.quiet_of_same (HB.out _)))
          have R2 := Lib.hid (R1.out.still (drewN_still nq))
          go_wp2_with fail
          refine (sees_is R2.out _ ho).mono ?_; rintro e w2 ⟨rfl, t2, r2⟩
          clear ho
          have HRM := Lib.hid (remark_any r2 HL.out)
          have T2 := Lib.hid t2
          clear t2 r2
          go_wp2_with fail
          refine HRM.out.mono ?_; rintro e w3 ⟨t3, hres⟩
          have T3 : Hid (At g w1 w3) := ((drewN_still nq).turn.trans T2.out.turn).trans t3
          clear t3
          rcases hres with ⟨n, hn, rfl, r3⟩ | ⟨hn, rfl, r3⟩
          · have hsk : Lx.skip ((Lx.bs s).drop kk) = shiftE (2 + n) (Lx.skip ((Lx.bs s).drop (kk + 2 + n))) := by
              have hd : (Lx.bs s).drop (kk + 2 + n) = L.drop n := by rw [← List.drop_drop, drop_next HL.out]
              rw [HL.out, Lx.skip_remark, hn, hd]
              dsimp only
              cases hz : Lx.skip (L.drop n) <;> simp only [shiftE, hz]
            have HSK := Lib.hid hsk
            have R3 := Lib.hid r3
            clear hn r3 hsk HRM
            go_wp2_with fail
            have hpl : place w3 g = kk + 2 + n := R3.out.place
            have hle3 := R3.out.le
            have := HPL.out
            refine ⟨⟨kk + 2 + n, HM.out.step (T1.out.turn.trans T3.out) R3.out (by omega) ?_⟩, by omega⟩
            rw [HSK.out, show kk + 2 + n - kk = 2 + n by omega]
          · have hsk : Lx.skip ((Lx.bs s).drop kk) = .error 0 := by rw [HL.out, Lx.skip_remark, hn]
            have HSK := Lib.hid hsk
            have R3 := Lib.hid r3
            clear hn r3 hsk HRM
            go_wp2_with fail
            go_ret
            refine ⟨(HM.out.turn.trans T1.out.turn).trans T3.out, kk, R3.out, HM.out.le, .inr ⟨?_, rfl⟩⟩
            rw [HM.out.eq, HSK.out]; simp [shiftE]
end Go.Proofs.YtpccfimjkffkfaaDoor
