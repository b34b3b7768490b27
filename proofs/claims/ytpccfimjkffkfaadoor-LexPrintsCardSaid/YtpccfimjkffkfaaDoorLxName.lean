/- The reader of lex in memory: names, type variables. -/
import Derived.Test.YtpccfimjkffkfaaDoorLxTok
import Derived.Test.YtpccfimjkffkfaaDoorLxNum
import Derived.Test.YtpccfimjkffkfaaDoorShelf
namespace Go.Proofs.YtpccfimjkffkfaaDoor
set_option linter.unusedVariables false
set_option linter.unusedSimpArgs false
open Go.ChangeShapes Go.WideShapes Go.ChangeAt Go.RowKit
theorem below_at {g : Nat} {w w' : World} (h : Below w.heap.size w w') : At g w w' := Turn.of_below h fun k h1 h2 => by omega
theorem clone_any (s : ByteArray) (w : World) (hs : s.size ≤ 281474976710656) : Calls Tryd.prog 64 #[.string s] w fun e w' => e = .returned (.string s) ∧ Below w.heap.size w w' := by
  have HC := Lib.hid (fun W => Tryd.stringslite_Clone s W hs)
  go_enter Tryd.func64, Tryd.ntmps64
  go_wp2_with fail
  refine (HC.out _).mono ?_; rintro e w1 ⟨rfl, h1⟩
  go_wp2_with fail
  go_ret
  exact ⟨rfl, h1⟩
set_option maxHeartbeats 4000000 in
theorem nameFrom_any {w : World} {g : Nat} {s : ByteArray} {k mb f : Nat} (h : Rdr w g s k mb) (hfk : f ≤ k) :
    Calls Tryd.prog 61 #[.pointer (some ⟨g, 0, none⟩), .int .i64 (f : Int)] w fun e w' => At g w w' ∧ e = .returned (.string (s.extract f (k + (((Lx.bs s).drop k).takeWhile Lx.inName).length))) ∧ Rdr w' g s (k + (((Lx.bs s).drop k).takeWhile Lx.inName).length) mb := by
  have HR := Lib.hid h
  have hf := h.few
  clear h
  go_enter Tryd.func61, Tryd.ntmps61
  go_wp2_with fail
  go_loopw [] (fun wr => ∃ i : Nat, Rdr wr g s (k + i) mb ∧ At g w wr ∧ ∀ j, j < i → ∃ c, ((Lx.bs s).drop k)[j]? = some c ∧ Lx.inName c = true) (fun wr => s.size - place wr g)
  case atStart => exact ⟨0, HR.out, Turn.refl _ w, fun j hj => by omega⟩
  case round =>
    obtain ⟨i, hrd, hat, hpre⟩ := hrel
    have HH := Lib.hid (And.intro hat hpre)
    have hpl0 := Lib.hid hrd.place
    obtain ⟨m, hm⟩ : ∃ m, k + i = m := ⟨_, rfl⟩
    rw [hm] at hrd
    have HMM := Lib.hid hm
    have hle := hrd.le
    have hkm : k ≤ m := by omega
    clear hat hpre hm
    cases hd : ((Lx.bs s).drop m).head?.any Lx.inName with
    | false =>
      have HD := Lib.hid hd
      have hds : ((Lx.bs s).drop k).takeWhile Lx.inName = ((Lx.bs s).drop k).take i := Lx.takeWhile_split _ _ _ HH.out.2 (by rw [List.drop_drop, HMM.out]; exact hd)
      have hil : (((Lx.bs s).drop k).take i).length = i := by
        rw [List.length_take, List.length_drop, Lx.bs_len]
        have := HMM.out
        omega
      have hfm : f ≤ m := by omega
      have HC := Lib.hid (fun W => clone_any (s.extract f m) W (by rw [ByteArray.size_extract]; omega))
      have HEQ : Hid (k + (((Lx.bs s).drop k).takeWhile Lx.inName).length = m) := by show _ = _; rw [hds, hil]; exact HMM.out
      clear hds hil
      go_wp2_with fail
      refine (next_is hrd Lx.inName _ enters_name inName_any hd).mono ?_; rintro e w1 ⟨rfl, t1, r1⟩
      obtain ⟨b0, b1, b2, b3, b4⟩ := r1.box
      have R1 := Lib.hid r1
      have T1 := Lib.hid t1
      clear hd r1 t1 hrd
      go_wp2_with fail
      refine wp_region_still_tail 10 (by kernel_rfl) (by kernel_rfl) ?_
      simp only [List.take_succ_cons, List.take_zero, List.drop_succ_cons, List.drop_zero]
      change wpStill _ _ w1.drew (fun a' => wpList _ _ _ _ a' w1.drew) _ _
      repeat still_step
      refine wpStill_nil ?_
      go_wp2_with fail
      refine (HC.out _).mono ?_; rintro e w2 ⟨rfl, t2⟩
      have T2 : Hid (At g w1 w2) := (drew_still w1).turn.trans (below_at t2)
      have R2 := Lib.hid ((R1.out.still (drew_still w1)).later t2)
      clear t2
      go_wp2_with fail
      go_ret
      rw [HEQ.out]
      exact ⟨(HH.out.1.trans T1.out.turn).trans T2.out, rfl, R2.out⟩
    | true =>
      have hlt : m < s.size := by
        rcases Nat.lt_or_ge m s.size with h | h
        · exact h
        · rw [Lx.drop_ge h] at hd; cases hd
      have hc := Lx.drop_lt hlt
      have hdg : Lx.inName s[m].toNat = true := by rw [hc] at hd; simpa using hd
      have hp := HH.out.2
      have hnext : ∀ j, j < i + 1 → ∃ c, ((Lx.bs s).drop k)[j]? = some c ∧ Lx.inName c = true := fun j hj => by
        by_cases hji : j < i
        · exact hp j hji
        · obtain rfl : j = i := by omega
          refine ⟨s[m].toNat, ?_, hdg⟩
          rw [List.getElem?_drop, HMM.out]
          exact Lx.bs_at hlt
      have HX := Lib.hid hnext
      clear hdg hp hnext hc
      go_wp2_with fail
      refine (next_is hrd Lx.inName _ enters_name inName_any hd).mono ?_; rintro e w1 ⟨rfl, t1, r1⟩
      obtain ⟨b0, b1, b2, b3, b4⟩ := r1.box
      have R1 := Lib.hid (r1.set (k' := m + 1) hlt)
      have T1 := Lib.hid t1
      clear hd r1 t1 hrd
      go_wp2_with fail
      have hpl : place (w1.setCell ⟨g, 1, none⟩ (.int .i64 ((m : Int) + 1))) g = m + 1 := R1.out.place
      have hp0 := hpl0.out
      have hmm := HMM.out
      exact ⟨⟨i + 1, by rw [show k + (i + 1) = m + 1 by omega]; exact R1.out, At.set (HH.out.1.trans T1.out.turn) 1 _, HX.out⟩, by omega⟩
end Go.Proofs.YtpccfimjkffkfaaDoor
