/- A text's bytes as they are printed. -/
import Derived.Test.YtpccfimjkffkfaaDoorLxPrint
namespace Go.Proofs.YtpccfimjkffkfaaDoor
set_option linter.unusedVariables false
set_option linter.unusedSimpArgs false
open Go.ChangeShapes Go.WideShapes Go.ChangeAt Go.RowKit
namespace Lx
/-- A byte as it is printed in a text. -/
def qb (c : Nat) : List Nat :=
  if c = 10 then [92, 110] else if c = 9 then [92, 116] else if c = 34 ∨ c = 92 then [92, c]
  else if c < 32 ∨ 126 < c then [92, 48 + c / 100, 48 + c / 10 % 10, 48 + c % 10] else [c]
theorem qb_len (c : Nat) : (qb c).length ≤ 4 := by
  unfold qb
  split
  · simp
  · split
    · simp
    · split
      · simp
      · split <;> simp
end Lx
theorem Bs.byteN {b : Nat} {L : List UInt8} {w0 w : World} (h : Bs b L w0 w) {c : Nat} (hc : c < 256) (hl : L.length ≤ 100000000) :
    Calls Tryd.prog 26 #[.pointer (some ⟨b, 0, none⟩), .int .u8 (c : Int)] w fun e w' => e = .returned .nilIface ∧ Bs b (L ++ [UInt8.ofNat c]) w0 w' ∧ Oth b w w' := by
  have := h.byte (UInt8.ofNat c) hl
  rw [show ((UInt8.ofNat c).toNat : Int) = (c : Int) by simp; omega] at this
  exact this
def u8l (L : List Nat) : List UInt8 := L.map UInt8.ofNat
set_option maxHeartbeats 4000000 in
theorem quoteByte_any {b : Nat} {L : List UInt8} {w0 w : World} (h : Bs b L w0 w) {c : Nat} (hc : c < 256) (hl : L.length ≤ 90000000) :
    Calls Tryd.prog 56 #[.pointer (some ⟨b, 0, none⟩), .int .u8 (c : Int)] w fun e w' => (∃ v, e = .returned v) ∧ Bs b (L ++ u8l (Lx.qb c)) w0 w' ∧ Oth b w w' := by
  have H := Lib.hid h
  clear h
  by_cases h10 : c = 10
  · subst h10
    have HS := Lib.hid (H.out.string [92, 110] (by simp; omega))
    go_enter Tryd.func56, Tryd.ntmps56
    go_wp2_with fail
    refine HS.out.mono ?_; rintro e w1 ⟨⟨z, rfl⟩, b1, o1⟩
    have B1 := Lib.hid (And.intro b1 o1)
    clear b1 o1
    go_wp2_with fail
    go_end0
    exact ⟨⟨_, rfl⟩, B1.out⟩
  by_cases h9 : c = 9
  · subst h9
    have HS := Lib.hid (H.out.string [92, 116] (by simp; omega))
    go_enter Tryd.func56, Tryd.ntmps56
    go_wp2_with fail
    refine HS.out.mono ?_; rintro e w1 ⟨⟨z, rfl⟩, b1, o1⟩
    have B1 := Lib.hid (And.intro b1 o1)
    clear b1 o1
    go_wp2_with fail
    go_end0
    exact ⟨⟨_, rfl⟩, B1.out⟩
  have e10 : ((c : Int) == 10) = false := beq_eq_false_iff_ne.2 (by omega)
  have e9 : ((c : Int) == 9) = false := beq_eq_false_iff_ne.2 (by omega)
  by_cases hq : c = 34 ∨ c = 92
  · have hqb : Lx.qb c = [92, c] := by unfold Lx.qb; rw [if_neg h10, if_neg h9, if_pos hq]
    have HQ := Lib.hid hqb
    have HS := Lib.hid (H.out.byteN (c := 92) (by decide) (by omega))
    have HC := Lib.hid hc
    rcases hq with hq | hq
    all_goals
      subst hq
      clear hqb h10 h9 e10 e9 hc
      go_enter Tryd.func56, Tryd.ntmps56
      go_wp2_with fail
      refine HS.out.mono ?_; rintro e w1 ⟨rfl, b1, o1⟩
      have O1 := Lib.hid o1
      have HS2 := Lib.hid (b1.byteN HC.out (by simp; omega))
      clear b1 o1
      go_wp2_with fail
      refine HS2.out.mono ?_; rintro e w2 ⟨rfl, b2, o2⟩
      have B2 := Lib.hid (And.intro b2 (O1.out.trans o2))
      clear b2 o2
      go_wp2_with fail
      go_end0
      refine ⟨⟨_, rfl⟩, ?_, B2.out.2⟩
      have := B2.out.1
      rw [HQ.out]
      simpa [u8l] using this
  have e34 : ((c : Int) == 34) = false := beq_eq_false_iff_ne.2 (by omega)
  have e92 : ((c : Int) == 92) = false := beq_eq_false_iff_ne.2 (by omega)
  by_cases hr : c < 32 ∨ 126 < c
  · have hqb : Lx.qb c = [92, 48 + c / 100, 48 + c / 10 % 10, 48 + c % 10] := by unfold Lx.qb; rw [if_neg h10, if_neg h9, if_neg hq, if_pos hr]
    have HQ := Lib.hid hqb
    have HS := Lib.hid (H.out.byteN (c := 92) (by decide) (by omega))
    obtain ⟨r1, hr1⟩ : ∃ r1 : Nat, 48 + c / 100 = r1 := ⟨_, rfl⟩
    obtain ⟨r2, hr2⟩ : ∃ r2 : Nat, 48 + c / 10 % 10 = r2 := ⟨_, rfl⟩
    obtain ⟨r3, hr3⟩ : ∃ r3 : Nat, 48 + c % 10 = r3 := ⟨_, rfl⟩
    rw [hr1, hr2, hr3] at HQ
    have z1 : (48 : Int) + (c : Int) / 100 = (r1 : Int) := by omega
    have z2 : (48 : Int) + (c : Int) / 10 % 10 = (r2 : Int) := by omega
    have z3 : (48 : Int) + (c : Int) % 10 = (r3 : Int) := by omega
    have Z := Lib.hid (And.intro z1 (And.intro z2 z3))
    have hr4 : r1 < 256 ∧ r2 < 256 ∧ r3 < 256 := by omega
    have HR4 := Lib.hid hr4
    clear hqb h10 h9 hq hr1 hr2 hr3 hr4 z1 z2 z3
    by_cases hr0 : c < 32
    · have x1 : (c : Int) < 32 := by omega
      have x3 : decide ((c : Int) < 32) = true := decide_eq_true x1
      clear hr hr0
      go_enter Tryd.func56, Tryd.ntmps56
      go_wp2_with fail
      refine HS.out.mono ?_; rintro e w1 ⟨rfl, b1, o1⟩
      have O1 := Lib.hid o1
      have HS1 := Lib.hid (b1.byteN HR4.out.1 (by simp; omega))
      clear b1 o1
      go_wp2_with fail
      rw [Z.out.1]
      refine HS1.out.mono ?_; rintro e w2 ⟨rfl, b2, o2⟩
      have O2 := Lib.hid (O1.out.trans o2)
      have HS2 := Lib.hid (b2.byteN HR4.out.2.1 (by simp; omega))
      clear b2 o2
      go_wp2_with fail
      rw [Z.out.2.1]
      refine HS2.out.mono ?_; rintro e w3 ⟨rfl, b3, o3⟩
      have O3 := Lib.hid (O2.out.trans o3)
      have HS3 := Lib.hid (b3.byteN HR4.out.2.2 (by simp; omega))
      clear b3 o3
      go_wp2_with fail
      rw [Z.out.2.2]
      refine HS3.out.mono ?_; rintro e w4 ⟨rfl, b4, o4⟩
      have B4 := Lib.hid (And.intro b4 (O3.out.trans o4))
      clear b4 o4
      go_wp2_with fail
      go_end0
      refine ⟨⟨_, rfl⟩, ?_, B4.out.2⟩
      have := B4.out.1
      rw [HQ.out]
      simpa [u8l] using this
    · have x1 : ¬ (c : Int) < 32 := by omega
      have x3 : decide ((c : Int) < 32) = false := decide_eq_false x1
      have x4 : (126 : Int) < c := by omega
      have x5 : decide ((126 : Int) < c) = true := decide_eq_true x4
      clear hr hr0
      go_enter Tryd.func56, Tryd.ntmps56
      go_wp2_with fail
      refine HS.out.mono ?_; rintro e w1 ⟨rfl, b1, o1⟩
      have O1 := Lib.hid o1
      have HS1 := Lib.hid (b1.byteN HR4.out.1 (by simp; omega))
      clear b1 o1
      go_wp2_with fail
      rw [Z.out.1]
      refine HS1.out.mono ?_; rintro e w2 ⟨rfl, b2, o2⟩
      have O2 := Lib.hid (O1.out.trans o2)
      have HS2 := Lib.hid (b2.byteN HR4.out.2.1 (by simp; omega))
      clear b2 o2
      go_wp2_with fail
      rw [Z.out.2.1]
      refine HS2.out.mono ?_; rintro e w3 ⟨rfl, b3, o3⟩
      have O3 := Lib.hid (O2.out.trans o3)
      have HS3 := Lib.hid (b3.byteN HR4.out.2.2 (by simp; omega))
      clear b3 o3
      go_wp2_with fail
      rw [Z.out.2.2]
      refine HS3.out.mono ?_; rintro e w4 ⟨rfl, b4, o4⟩
      have B4 := Lib.hid (And.intro b4 (O3.out.trans o4))
      clear b4 o4
      go_wp2_with fail
      go_end0
      refine ⟨⟨_, rfl⟩, ?_, B4.out.2⟩
      have := B4.out.1
      rw [HQ.out]
      simpa [u8l] using this
  · have hqb : Lx.qb c = [c] := by unfold Lx.qb; rw [if_neg h10, if_neg h9, if_neg hq, if_neg hr]
    have HQ := Lib.hid hqb
    have HS := Lib.hid (H.out.byteN hc (by omega))
    have x1 : ¬ (c : Int) < 32 := by omega
    have x2 : ¬ (126 : Int) < c := by omega
    have x3 : decide ((c : Int) < 32) = false := decide_eq_false x1
    have x4 : decide ((126 : Int) < c) = false := decide_eq_false x2
    clear hqb h10 h9 hq hr
    go_enter Tryd.func56, Tryd.ntmps56
    go_wp2_with fail
    refine HS.out.mono ?_; rintro e w1 ⟨rfl, b1, o1⟩
    have B1 := Lib.hid (And.intro b1 o1)
    clear b1 o1
    go_wp2_with fail
    go_end0
    refine ⟨⟨_, rfl⟩, ?_⟩
    rw [HQ.out]
    exact B1.out
namespace Lx
def qbs (L : List Nat) : List Nat := L.flatMap qb
theorem qbs_len : ∀ L : List Nat, (qbs L).length ≤ 4 * L.length
  | [] => by simp [qbs]
  | c :: L => by
    have := qb_len c
    have := qbs_len L
    unfold qbs at *
    rw [List.flatMap_cons, List.length_append, List.length_cons]
    omega
end Lx
set_option maxHeartbeats 4000000 in
theorem quote_any {b : Nat} {L : List UInt8} {w0 w : World} (h : Bs b L w0 w) (s : ByteArray) (hs : s.size ≤ 3000) (hl : L.length ≤ 80000000) :
    Calls Tryd.prog 29 #[.pointer (some ⟨b, 0, none⟩), .string s] w fun e w' => (∃ v, e = .returned v) ∧ Bs b (L ++ u8l (34 :: (Lx.qbs (Lx.bs s) ++ [34]))) w0 w' ∧ Oth b w w' := by
  have HS := Lib.hid (h.byteN (c := 34) (by decide) (by omega))
  clear h
  go_enter Tryd.func29, Tryd.ntmps29
  go_wp2_with fail
  refine HS.out.mono ?_; rintro e w1 ⟨rfl, b1, o1⟩
  have B1 := Lib.hid (And.intro b1 o1)
  clear b1 o1
  go_wp2_with fail
  go_loopw [9] (fun v wr => ∃ k : Nat, v = .int .i64 k ∧ k ≤ s.size ∧ Bs b (L ++ [UInt8.ofNat 34] ++ u8l (Lx.qbs ((Lx.bs s).take k))) w0 wr ∧ Oth b w wr) (fun v _ => s.size - (intOf v).toNat)
  case atStart => exact ⟨0, rfl, Nat.zero_le _, by simpa [u8l, Lx.qbs] using B1.out.1, B1.out.2⟩
  case round =>
    obtain ⟨k, rfl, hk, hb, ho⟩ := hrel
    have HB := Lib.hid (And.intro hb ho)
    clear hb ho
    have hlen : (L ++ [UInt8.ofNat 34] ++ u8l (Lx.qbs ((Lx.bs s).take k))).length ≤ 82000000 := by
      have := Lx.qbs_len ((Lx.bs s).take k)
      have h2 : ((Lx.bs s).take k).length ≤ k := by rw [List.length_take]; omega
      simp only [List.length_append, u8l, List.length_map, List.length_singleton]
      omega
    by_cases hlt : k < s.size
    · have x1 : decide ((k : Int) < s.size) = true := decide_eq_true (by omega)
      have hc : s[k].toNat < 256 := s[k].toNat_lt
      have HQ := Lib.hid (quoteByte_any HB.out.1 hc (by omega))
      have HLT := Lib.hid hlt
      have hat := Lx.bs_at hlt
      have HA := Lib.hid hat
      clear hlen hc hat
      go_wp2_with fail
      refine HQ.out.mono ?_; rintro e w2 ⟨⟨v, rfl⟩, b2, o2⟩
      have B2 := Lib.hid (And.intro b2 (HB.out.2.trans o2))
      clear b2 o2 HQ
      go_wp2_with fail
      refine ⟨⟨k + 1, by go_num, HLT.out, ?_, B2.out.2⟩, by simp [intOf]; have := HLT.out; omega⟩
      have := B2.out.1
      rw [List.take_add_one, HA.out]
      simpa [u8l, Lx.qbs, List.append_assoc] using this
    · obtain rfl : k = s.size := by omega
      have x1 : decide ((s.size : Int) < s.size) = false := decide_eq_false (by omega)
      have HS2 := Lib.hid (HB.out.1.byteN (c := 34) (by decide) (by omega))
      clear hlen hlt
      go_wp2_with fail
      refine HS2.out.mono ?_; rintro e w2 ⟨rfl, b2, o2⟩
      have B2 := Lib.hid (And.intro b2 (HB.out.2.trans o2))
      clear b2 o2 HS2
      go_wp2_with fail
      go_end0
      refine ⟨⟨_, rfl⟩, ?_, B2.out.2⟩
      have := B2.out.1
      rw [List.take_of_length_le (by rw [Lx.bs_len]; exact Nat.le_refl _)] at this
      simpa [u8l, List.append_assoc] using this
end Go.Proofs.YtpccfimjkffkfaaDoor
