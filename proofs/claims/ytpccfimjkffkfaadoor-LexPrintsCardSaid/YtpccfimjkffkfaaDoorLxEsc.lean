/- The reader of lex in memory: what stands behind a backslash. -/
import Derived.Test.YtpccfimjkffkfaaDoorLxTake
namespace Go.Proofs.YtpccfimjkffkfaaDoor
set_option linter.unusedVariables false
set_option linter.unusedSimpArgs false
open Go.ChangeShapes Go.WideShapes Go.ChangeAt Go.RowKit
/-- What a way to take one byte does: as the parser over lists says. -/
def ByteR (p : List Nat → Option (Nat × Nat)) (w : World) (g : Nat) (s : ByteArray) (k mb : Nat) (e : Ending) (w' : World) : Prop := At g w w' ∧
  match p ((Lx.bs s).drop k) with
  | some (v, n) => e = .returned (.tuple #[.int .u8 (v : Int), .bool true]) ∧ Rdr w' g s (k + n) mb
  | none => ∃ z : Int, e = .returned (.tuple #[.int .u8 z, .bool false]) ∧ ∃ kk, Rdr w' g s kk mb
/-- Three digits. -/
def three (L : List Nat) : Option (Nat × Nat) := match L with
  | a :: b :: c :: _ => if Lx.dig a = true ∧ Lx.dig b = true ∧ Lx.dig c = true ∧ Lx.num [a, b, c] ≤ 255 then some (Lx.num [a, b, c], 3) else none
  | _ => none
theorem three_none {L : List Nat} {i : Nat} (hi : i < 3) (h : (L.drop i).head?.any Lx.dig = false) : three L = none := by
  unfold three
  split
  · rename_i a b c l
    rw [if_neg]
    rintro ⟨h1, h2, h3, _⟩
    have : i = 0 ∨ i = 1 ∨ i = 2 := by omega
    rcases this with rfl | rfl | rfl <;> simp_all
  · rfl
theorem three_some {L : List Nat} (h : ∀ j, j < 3 → ∃ c, L[j]? = some c ∧ Lx.dig c = true) : three L = if Lx.num (L.take 3) ≤ 255 then some (Lx.num (L.take 3), 3) else none := by
  obtain ⟨a, h1, h2⟩ := h 0 (by omega)
  obtain ⟨b, h3, h4⟩ := h 1 (by omega)
  obtain ⟨c, h5, h6⟩ := h 2 (by omega)
  match L, h1, h3, h5 with
  | x :: y :: z :: l, h1, h3, h5 =>
    obtain rfl : x = a := by simpa using h1
    obtain rfl : y = b := by simpa using h3
    obtain rfl : z = c := by simpa using h5
    show (if Lx.dig x = true ∧ Lx.dig y = true ∧ Lx.dig z = true ∧ Lx.num [x, y, z] ≤ 255 then some (Lx.num [x, y, z], 3) else none) = if Lx.num [x, y, z] ≤ 255 then some (Lx.num [x, y, z], 3) else none
    by_cases hq : Lx.num [x, y, z] ≤ 255
    · rw [if_pos ⟨h2, h4, h6, hq⟩, if_pos hq]
    · rw [if_neg (fun e => hq e.2.2.2), if_neg hq]
set_option maxHeartbeats 4000000 in
theorem byNumber_any {w : World} {g : Nat} {s : ByteArray} {k mb : Nat} (h : Rdr w g s k mb) :
    Calls Tryd.prog 79 #[.pointer (some ⟨g, 0, none⟩)] w (ByteR three w g s k mb) := by
  have HR := Lib.hid h
  have hf := h.few
  clear h
  go_enter Tryd.func79, Tryd.ntmps79
  go_wp2_with fail
  go_loopw [4, 5] (fun v4 v5 wr => ∃ i : Nat, v5 = .int .i64 i ∧ i ≤ 3 ∧ v4 = .int .i64 (Lx.num (((Lx.bs s).drop k).take i) : Nat) ∧ Lx.num (((Lx.bs s).drop k).take i) + 1 ≤ 10 ^ i ∧ Rdr wr g s (k + i) mb ∧ At g w wr ∧ ∀ j, j < i → ∃ c, ((Lx.bs s).drop k)[j]? = some c ∧ Lx.dig c = true) (fun v4 v5 wr => s.size - place wr g)
  case atStart => exact ⟨0, rfl, by omega, by simp [Lx.num], by simp [Lx.num], HR.out, Turn.refl _ w, fun j hj => by omega⟩
  case round =>
    obtain ⟨i, rfl, hi3, rfl, hpow, hrd, hat, hpre⟩ := hrel
    have HH := Lib.hid (And.intro hat hpre)
    have hpl0 := Lib.hid hrd.place
    obtain ⟨m, hm⟩ : ∃ m, k + i = m := ⟨_, rfl⟩
    rw [hm] at hrd
    have HMM := Lib.hid hm
    have hle := hrd.le
    obtain ⟨n, hn⟩ : ∃ n, Lx.num (((Lx.bs s).drop k).take i) = n := ⟨_, rfl⟩
    have HN := Lib.hid hn
    rw [hn] at hpow ⊢
    have hn1000 : n ≤ 1000 := by
      have : i = 0 ∨ i = 1 ∨ i = 2 ∨ i = 3 := by omega
      rcases this with rfl | rfl | rfl | rfl <;> simp at hpow <;> omega
    clear hn hat hpre hm
    by_cases hi : i = 3
    · subst hi
      have hq := three_some HH.out.2
      rw [HN.out] at hq
      have HQ := Lib.hid hq
      have HRD := Lib.hid hrd
      clear hq hrd
      by_cases h255 : n ≤ 255
      · have x0 : decide ((n : Int) ≤ 255) = true := decide_eq_true (by omega)
        have e1 : IntKind.u8.wrap (n : Int) = (n : Int) := by rw [IntKind.wrap_u8]; omega
        go_wp2_with fail
        go_ret2
        refine ⟨HH.out.1, ?_⟩
        rw [HQ.out, if_pos h255]
        exact ⟨rfl, by have := HMM.out; rw [this]; exact HRD.out⟩
      · have x0 : decide ((n : Int) ≤ 255) = false := decide_eq_false (by omega)
        go_wp2_with fail
        go_ret2
        refine ⟨HH.out.1, ?_⟩
        rw [HQ.out, if_neg h255]
        exact ⟨_, rfl, _, HRD.out⟩
    · have hi2 : i < 3 := by omega
      cases hd : ((Lx.bs s).drop m).head?.any Lx.dig with
      | false =>
        have hq : three ((Lx.bs s).drop k) = none := three_none hi2 (by rw [List.drop_drop, HMM.out]; exact hd)
        have HQ := Lib.hid hq
        clear hq
        go_wp2_with fail
        refine (next_is hrd Lx.dig _ enters_digit isDigit_any hd).mono ?_; rintro e w1 ⟨rfl, t1, r1⟩
        clear hd hrd
        go_wp2_with fail
        go_ret2
        refine ⟨HH.out.1.trans t1.turn, ?_⟩
        rw [HQ.out]
        exact ⟨_, rfl, _, r1⟩
      | true =>
        have hlt : m < s.size := by
          rcases Nat.lt_or_ge m s.size with h | h
          · exact h
          · rw [Lx.drop_ge h] at hd; cases hd
        have hc := Lx.drop_lt hlt
        have hdg : Lx.dig s[m].toNat = true := by rw [hc] at hd; simpa using hd
        have h48 : 48 ≤ s[m].toNat ∧ s[m].toNat ≤ 57 := by simpa [Lx.dig] using hdg
        obtain ⟨dv, hdv, hdv9⟩ : ∃ dv : Nat, s[m].toNat = dv + 48 ∧ dv ≤ 9 := ⟨s[m].toNat - 48, by omega, by omega⟩
        have ed : IntKind.i64.wrap (IntKind.u8.wrap ((s[m].toNat : Int) - 48)) = (dv : Int) := by
          rw [IntKind.wrap_u8, IntKind.wrap_i64, hdv]; omega
        have hp := HH.out.2
        have hnext : ∀ j, j < i + 1 → ∃ c, ((Lx.bs s).drop k)[j]? = some c ∧ Lx.dig c = true := fun j hj => by
          by_cases hji : j < i
          · exact hp j hji
          · obtain rfl : j = i := by omega
            refine ⟨s[m].toNat, ?_, hdg⟩
            rw [List.getElem?_drop, HMM.out]
            exact Lx.bs_at hlt
        have hnum : Lx.num (((Lx.bs s).drop k).take (i + 1)) = 10 * n + dv := by
          rw [List.take_add_one, show ((Lx.bs s).drop k)[i]? = some s[m].toNat by rw [List.getElem?_drop, HMM.out]; exact Lx.bs_at hlt]
          show Lx.num (_ ++ [s[m].toNat]) = _
          rw [Lx.num_snoc, HN.out]
          omega
        have hpw : 10 * n + dv + 1 ≤ 10 ^ (i + 1) := by
          rw [Nat.pow_succ]
          omega
        have HX := Lib.hid (And.intro hnext (And.intro hnum hpw))
        clear hdg h48 hp hnext hnum hc hdv hpw hpow
        go_wp2_with fail
        refine (next_is hrd Lx.dig _ enters_digit isDigit_any hd).mono ?_; rintro e w1 ⟨rfl, t1, r1⟩
        obtain ⟨b0, b1, b2, b3, b4⟩ := r1.box
        go_wp2_with fail
        go_quiet (fail)
        go_wp2_with fail
        have en : IntKind.i64.wrap (IntKind.i64.wrap (10 * (n : Int)) + (dv : Int)) = ((10 * n + dv : Nat) : Int) := by
          rw [IntKind.wrap_i64, IntKind.wrap_i64]; omega
        have R3 := Lib.hid ((r1.still (drewN_still nq)).set (k' := m + 1) hlt)
        have hpl : place ((w1.drewN nq).setCell ⟨g, 1, none⟩ (.int .i64 ((m : Int) + 1))) g = m + 1 := R3.out.place
        have hp0 := hpl0.out
        have hmm := HMM.out
        refine ⟨⟨i + 1, by go_num, by omega, by rw [en, HX.out.2.1], by rw [HX.out.2.1]; exact HX.out.2.2, by rw [show k + (i + 1) = m + 1 by omega]; exact R3.out, At.set ((HH.out.1.trans t1.turn).trans (drewN_still nq).turn) 1 _, HX.out.1⟩, by omega⟩
theorem esc_dig {a : Nat} {L : List Nat} (h : Lx.dig a = true) : Lx.esc (a :: L) = three (a :: L) := by
  unfold Lx.esc three
  dsimp only
  rw [if_pos h]
  match L with
  | [] => rfl
  | [b] => rfl
  | b :: c :: l =>
    show (if Lx.dig b = true ∧ Lx.dig c = true ∧ Lx.num [a, b, c] ≤ 255 then some (Lx.num [a, b, c], 3) else none) = if Lx.dig a = true ∧ Lx.dig b = true ∧ Lx.dig c = true ∧ Lx.num [a, b, c] ≤ 255 then some (Lx.num [a, b, c], 3) else none
    by_cases hq : Lx.dig b = true ∧ Lx.dig c = true ∧ Lx.num [a, b, c] ≤ 255
    · rw [if_pos hq, if_pos ⟨h, hq⟩]
    · rw [if_neg hq, if_neg (fun e => hq e.2)]
set_option maxHeartbeats 4000000 in
theorem escaped_any {w : World} {g : Nat} {s : ByteArray} {k mb : Nat} (h : Rdr w g s k mb) :
    Calls Tryd.prog 71 #[.pointer (some ⟨g, 0, none⟩)] w (ByteR Lx.esc w g s k mb) := by
  have hf := h.few
  have hle := h.le
  cases hd : ((Lx.bs s).drop k).head?.any Lx.dig with
  | true =>
    have hlt : k < s.size := by
      rcases Nat.lt_or_ge k s.size with h | h
      · exact h
      · rw [Lx.drop_ge h] at hd; cases hd
    have hc := Lx.drop_lt hlt
    have hdg : Lx.dig s[k].toNat = true := by rw [hc] at hd; simpa using hd
    have he : Lx.esc ((Lx.bs s).drop k) = three ((Lx.bs s).drop k) := by rw [hc]; exact esc_dig hdg
    have HE := Lib.hid he
    clear he hdg hc
    go_enter Tryd.func71, Tryd.ntmps71
    go_wp2_with fail
    refine (next_is h Lx.dig _ enters_digit isDigit_any hd).mono ?_; rintro e w1 ⟨rfl, t1, r1⟩
    have HB := Lib.hid (byNumber_any r1)
    have T1 := Lib.hid t1
    clear h hd t1 r1
    go_wp2_with fail
    refine HB.out.mono ?_; rintro e w2 ⟨t2, hres⟩
    have T2 := Lib.hid (T1.out.turn.trans t2)
    clear t2 HB T1
    cases hq : three ((Lx.bs s).drop k) with
    | some x =>
      obtain ⟨v, n⟩ := x
      rw [hq] at hres HE
      obtain ⟨rfl, r2⟩ := hres
      go_wp2_with fail
      go_ret2
      refine ⟨T2.out, ?_⟩
      rw [HE.out]
      exact ⟨rfl, r2⟩
    | none =>
      rw [hq] at hres HE
      obtain ⟨z, rfl, kk, r2⟩ := hres
      go_wp2_with fail
      go_ret2
      refine ⟨T2.out, ?_⟩
      rw [HE.out]
      exact ⟨z, rfl, kk, r2⟩
  | false =>
    by_cases hk : k = s.size
    · have he : Lx.esc ((Lx.bs s).drop k) = none := by rw [Lx.drop_ge (by omega)]; rfl
      have HE := Lib.hid he
      clear he
      go_enter Tryd.func71, Tryd.ntmps71
      go_wp2_with fail
      refine (next_is h Lx.dig _ enters_digit isDigit_any hd).mono ?_; rintro e w1 ⟨rfl, t1, r1⟩
      clear hd
      go_wp2_with fail
      refine (atEnd_is r1 (b := true) (decide_eq_true hk)).mono ?_; rintro e w2 ⟨rfl, t2, r2⟩
      go_wp2_with fail
      go_ret2
      refine ⟨t1.turn.trans t2.turn, ?_⟩
      rw [HE.out]
      exact ⟨_, rfl, _, r2⟩
    · have hlt : k < s.size := by omega
      have hc0 := Lx.drop_lt hlt
      have hdg : Lx.dig s[k].toNat = false := by rw [hc0] at hd; simpa using hd
      have HD := Lib.hid hc0
      clear hc0
      go_enter Tryd.func71, Tryd.ntmps71
      go_wp2_with fail
      refine (next_is h Lx.dig _ enters_digit isDigit_any hd).mono ?_; rintro e w1 ⟨rfl, t1, r1⟩
      have HT : Hid (At g w w1) := t1.turn
      clear hd h t1
      go_wp2_with fail
      refine (atEnd_is r1 (b := false) (decide_eq_false hk)).mono ?_; rintro e w2 ⟨rfl, t2, r2⟩
      clear r1 hk
      by_cases n110 : s[k].toNat = 110
      · have hc := n110
        have x110 : ((s[k].toNat : Int) == 110) = true := (int_beq s[k].toNat 110).trans (beq_iff_eq.2 hc)
        have he : Lx.esc ((Lx.bs s).drop k) = some (10, 1) := by
          rw [HD.out]
          unfold Lx.esc
          simp only [hdg, Bool.false_eq_true, if_false, hc]
          rfl
        have HE := Lib.hid he
        have R2 := Lib.hid (r2.set (k' := k + 1) hlt)
        have T2 := Lib.hid (HT.out.trans t2.turn)
        obtain ⟨b0, b1, b2, b3, b4⟩ := r2.box
        clear he
        go_wp2_with fail
        go_quiet (fail)
        go_wp2_with fail
        go_ret2
        refine ⟨At.set (T2.out.trans (drewN_still nq).turn) 1 _, ?_⟩
        rw [HE.out]
        exact ⟨rfl, (r2.still (drewN_still nq)).set (k' := k + 1) hlt⟩
      by_cases n116 : s[k].toNat = 116
      · have hc := n116
        have x110 : ((s[k].toNat : Int) == 110) = false := (int_beq s[k].toNat 110).trans (beq_eq_false_iff_ne.2 (by omega))
        have x116 : ((s[k].toNat : Int) == 116) = true := (int_beq s[k].toNat 116).trans (beq_iff_eq.2 hc)
        have he : Lx.esc ((Lx.bs s).drop k) = some (9, 1) := by
          rw [HD.out]
          unfold Lx.esc
          simp only [hdg, Bool.false_eq_true, if_false, hc]
          rfl
        have HE := Lib.hid he
        have R2 := Lib.hid (r2.set (k' := k + 1) hlt)
        have T2 := Lib.hid (HT.out.trans t2.turn)
        obtain ⟨b0, b1, b2, b3, b4⟩ := r2.box
        clear he
        go_wp2_with fail
        go_quiet (fail)
        go_wp2_with fail
        go_ret2
        refine ⟨At.set (T2.out.trans (drewN_still nq).turn) 1 _, ?_⟩
        rw [HE.out]
        exact ⟨rfl, (r2.still (drewN_still nq)).set (k' := k + 1) hlt⟩
      by_cases n92 : s[k].toNat = 92
      · have hc := n92
        have x110 : ((s[k].toNat : Int) == 110) = false := (int_beq s[k].toNat 110).trans (beq_eq_false_iff_ne.2 (by omega))
        have x116 : ((s[k].toNat : Int) == 116) = false := (int_beq s[k].toNat 116).trans (beq_eq_false_iff_ne.2 (by omega))
        have x92 : ((s[k].toNat : Int) == 92) = true := (int_beq s[k].toNat 92).trans (beq_iff_eq.2 hc)
        have he : Lx.esc ((Lx.bs s).drop k) = some (92, 1) := by
          rw [HD.out]
          unfold Lx.esc
          simp only [hdg, Bool.false_eq_true, if_false, hc]
          rfl
        have HE := Lib.hid he
        have R2 := Lib.hid (r2.set (k' := k + 1) hlt)
        have T2 := Lib.hid (HT.out.trans t2.turn)
        obtain ⟨b0, b1, b2, b3, b4⟩ := r2.box
        clear he
        go_wp2_with fail
        go_quiet (fail)
        go_wp2_with fail
        go_ret2
        refine ⟨At.set (T2.out.trans (drewN_still nq).turn) 1 _, ?_⟩
        rw [HE.out]
        exact ⟨rfl, (r2.still (drewN_still nq)).set (k' := k + 1) hlt⟩
      by_cases n34 : s[k].toNat = 34
      · have hc := n34
        have x110 : ((s[k].toNat : Int) == 110) = false := (int_beq s[k].toNat 110).trans (beq_eq_false_iff_ne.2 (by omega))
        have x116 : ((s[k].toNat : Int) == 116) = false := (int_beq s[k].toNat 116).trans (beq_eq_false_iff_ne.2 (by omega))
        have x92 : ((s[k].toNat : Int) == 92) = false := (int_beq s[k].toNat 92).trans (beq_eq_false_iff_ne.2 (by omega))
        have x34 : ((s[k].toNat : Int) == 34) = true := (int_beq s[k].toNat 34).trans (beq_iff_eq.2 hc)
        have he : Lx.esc ((Lx.bs s).drop k) = some (34, 1) := by
          rw [HD.out]
          unfold Lx.esc
          simp only [hdg, Bool.false_eq_true, if_false, hc]
          rfl
        have HE := Lib.hid he
        have R2 := Lib.hid (r2.set (k' := k + 1) hlt)
        have T2 := Lib.hid (HT.out.trans t2.turn)
        obtain ⟨b0, b1, b2, b3, b4⟩ := r2.box
        clear he
        go_wp2_with fail
        go_quiet (fail)
        go_wp2_with fail
        go_ret2
        refine ⟨At.set (T2.out.trans (drewN_still nq).turn) 1 _, ?_⟩
        rw [HE.out]
        exact ⟨rfl, (r2.still (drewN_still nq)).set (k' := k + 1) hlt⟩
      have x110 : ((s[k].toNat : Int) == 110) = false := (int_beq s[k].toNat 110).trans (beq_eq_false_iff_ne.2 (by omega))
      have x116 : ((s[k].toNat : Int) == 116) = false := (int_beq s[k].toNat 116).trans (beq_eq_false_iff_ne.2 (by omega))
      have x92 : ((s[k].toNat : Int) == 92) = false := (int_beq s[k].toNat 92).trans (beq_eq_false_iff_ne.2 (by omega))
      have x34 : ((s[k].toNat : Int) == 34) = false := (int_beq s[k].toNat 34).trans (beq_eq_false_iff_ne.2 (by omega))
      have he : Lx.esc ((Lx.bs s).drop k) = none := by
        rw [HD.out]
        unfold Lx.esc
        simp only [hdg, Bool.false_eq_true, if_false]
        rw [if_neg n110, if_neg n116, if_neg n92, if_neg n34]
      have HE := Lib.hid he
      have R2 := Lib.hid (r2.set (k' := k + 1) hlt)
      have T2 := Lib.hid (HT.out.trans t2.turn)
      obtain ⟨b0, b1, b2, b3, b4⟩ := r2.box
      clear he
      go_wp2_with fail
      go_quiet (fail)
      go_wp2_with fail
      go_ret2
      refine ⟨At.set (T2.out.trans (drewN_still nq).turn) 1 _, ?_⟩
      rw [HE.out]
      exact ⟨_, rfl, _, (r2.still (drewN_still nq)).set (k' := k + 1) hlt⟩
set_option maxHeartbeats 4000000 in
theorem meant_any {w : World} {g : Nat} {s : ByteArray} {k mb : Nat} (h : Rdr w g s k mb) (hlt : k < s.size) :
    Calls Tryd.prog 59 #[.pointer (some ⟨g, 0, none⟩)] w (ByteR Lx.unit w g s k mb) := by
  have hf := h.few
  have hd := Lx.drop_lt hlt
  obtain ⟨b0, b1, b2, b3, b4⟩ := h.box
  by_cases h92 : s[k].toNat = 92
  · have hu : Lx.unit ((Lx.bs s).drop k) = (Lx.esc ((Lx.bs s).drop (k + 1))).map (fun x => (x.1, x.2 + 1)) := by
      rw [hd]; unfold Lx.unit; simp only [h92, if_true]
    have HU := Lib.hid hu
    have HR := Lib.hid h
    clear hu hd h
    go_enter Tryd.func59, Tryd.ntmps59
    go_wp2_with fail
    go_quiet (fail)
    go_wp2_with fail
    have R1 : Hid (Rdr ((w.drewN nq).setCell ⟨g, 1, none⟩ (.int .i64 ((k : Int) + 1))) g s (k + 1) mb) := (HR.out.still (drewN_still nq)).set (k' := k + 1) hlt
    have HE := Lib.hid (escaped_any R1.out)
    refine HE.out.mono ?_; rintro e w2 ⟨t2, hres⟩
    have T2 : Hid (At g w w2) := (At.set (drewN_still nq).turn 1 _).trans t2
    clear t2 HE
    cases hq : Lx.esc ((Lx.bs s).drop (k + 1)) with
    | some x =>
      obtain ⟨v, n⟩ := x
      rw [hq] at hres HU
      obtain ⟨rfl, r2⟩ := hres
      go_wp2_with fail
      go_ret2
      refine ⟨T2.out, ?_⟩
      rw [HU.out]
      exact ⟨rfl, by rw [show k + (n + 1) = k + 1 + n by omega]; exact r2⟩
    | none =>
      rw [hq] at hres HU
      obtain ⟨z, rfl, kk, r2⟩ := hres
      go_wp2_with fail
      go_ret2
      refine ⟨T2.out, ?_⟩
      rw [HU.out]
      exact ⟨z, rfl, kk, r2⟩
  · have x92 : ((s[k].toNat : Int) == 92) = false := (int_beq s[k].toNat 92).trans (beq_eq_false_iff_ne.2 h92)
    by_cases h32 : s[k].toNat < 32
    · have hu : Lx.unit ((Lx.bs s).drop k) = none := by
        rw [hd]; unfold Lx.unit; simp only [h92, if_false, h32, if_true]
      have x32 : decide ((32 : Int) ≤ (s[k].toNat : Int)) = false := decide_eq_false (by omega)
      have HU := Lib.hid hu
      have HR := Lib.hid h
      clear hu hd h
      go_enter Tryd.func59, Tryd.ntmps59
      go_wp2_with fail
      go_quiet (fail)
      go_wp2_with fail
      go_ret2
      refine ⟨At.set (drewN_still nq).turn 1 _, ?_⟩
      rw [HU.out]
      exact ⟨_, rfl, _, (HR.out.still (drewN_still nq)).set (k' := k + 1) hlt⟩
    · have hu : Lx.unit ((Lx.bs s).drop k) = some (s[k].toNat, 1) := by
        rw [hd]; unfold Lx.unit; simp only [h92, if_false, h32]
      have x32 : decide ((32 : Int) ≤ (s[k].toNat : Int)) = true := decide_eq_true (by omega)
      have HU := Lib.hid hu
      have HR := Lib.hid h
      clear hu hd h
      go_enter Tryd.func59, Tryd.ntmps59
      go_wp2_with fail
      go_quiet (fail)
      go_wp2_with fail
      go_ret2
      refine ⟨At.set (drewN_still nq).turn 1 _, ?_⟩
      rw [HU.out]
      exact ⟨rfl, (HR.out.still (drewN_still nq)).set (k' := k + 1) hlt⟩
end Go.Proofs.YtpccfimjkffkfaaDoor
