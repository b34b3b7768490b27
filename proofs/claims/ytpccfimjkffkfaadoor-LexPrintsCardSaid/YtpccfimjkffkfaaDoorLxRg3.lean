/- The document's own Quoted. -/
import Derived.Test.YtpccfimjkffkfaaDoorLxRg2
import Derived.Test.YtpccfimjkffkfaaDoorLxQuote
import Derived.Test.YtpccfimjkffkfaaDoorLxNumN
namespace Go.Proofs.YtpccfimjkffkfaaDoor
set_option linter.unusedVariables false
set_option linter.unusedSimpArgs false
open Go.ChangeShapes Go.WideShapes Go.ChangeAt Go.RowKit
def strLen : Value → Nat
  | .string d => d.size
  | _ => 0
namespace Lx
def tgt (c : Nat) : List Nat := [48 + c / 100, 48 + c / 10 % 10, 48 + c % 10]
theorem tgt_start {c : Nat} (h : c < 256) : ∃ k, k ≤ 2 ∧ dd c = (tgt c).drop k ∧ ∀ j, j < k → (tgt c)[j]? = some 48 := by
  by_cases h1 : c < 10
  · refine ⟨2, by omega, ?_, fun j hj => ?_⟩
    · rw [dd_small h1]; simp [tgt]; omega
    · have : j = 0 ∨ j = 1 := by omega
      rcases this with rfl | rfl <;> simp [tgt] <;> omega
  · by_cases h2 : c < 100
    · refine ⟨1, by omega, ?_, fun j hj => ?_⟩
      · rw [dd_step h1, dd_small (by omega)]; simp [tgt]; omega
      · obtain rfl : j = 0 := by omega
        simp [tgt]; omega
    · refine ⟨0, by omega, ?_, fun j hj => by omega⟩
      rw [dd_step h1, dd_step (by omega), dd_small (by omega)]
      simp [tgt]; omega
theorem tgt_back {c k : Nat} (h : (tgt c)[k]? = some 48) : (tgt c).drop k = 48 :: (tgt c).drop (k + 1) := by
  have hk : k < (tgt c).length := (List.getElem?_eq_some_iff.1 h).1
  rw [List.drop_eq_getElem_cons hk]
  rw [List.getElem?_eq_getElem hk] at h
  rw [Option.some.inj h]
theorem tgt_len (c : Nat) : (tgt c).length = 3 := rfl
theorem qbs_snoc (L : List Nat) (c : Nat) : qbs (L ++ [c]) = qbs L ++ qb c := by unfold qbs; rw [List.flatMap_append]; simp
end Lx
/-- What was quoted so far. -/
structure Quo (w wr : World) (s o : ByteArray) (i : Nat) : Prop where
  le : i ≤ s.size
  eq : Lx.bs o = Lx.qbs ((Lx.bs s).take i)
  few : o.size ≤ 4 * i
  turn : Still w wr
theorem Quo.go {w wr w' : World} {s o o' : ByteArray} {i : Nat} (h : Quo w wr s o i) (hlt : i < s.size) (t : Still wr w') (ho : Lx.bs o' = Lx.bs o ++ Lx.qb s[i].toNat) : Quo w w' s o' (i + 1) := by
  refine ⟨hlt, ?_, ?_, h.turn.trans t⟩
  · rw [ho, h.eq, List.take_add_one, Lx.bs_at hlt, Option.toList_some, Lx.qbs_snoc]
  · have h1 := congrArg List.length ho
    rw [Lx.bs_len, List.length_append, Lx.bs_len] at h1
    have := Lx.qb_len s[i].toNat
    have := h.few
    omega
set_option maxRecDepth 100000 in
set_option maxHeartbeats 8000000 in
theorem quoted_ref (s : ByteArray) (w : World) (hs : s.size ≤ 3000) : Calls Tryd.prog 32 #[.string s] w fun e w' => e = .returned (.string (Lx.str (34 :: (Lx.qbs (Lx.bs s) ++ [34])))) ∧ Still w w' := by
  go_enter Tryd.func32, Tryd.ntmps32
  go_wp2_with fail
  go_loopw [3, 4] (fun v3 v4 wr => ∃ (o : ByteArray) (i : Nat), v3 = .string o ∧ v4 = .int .i64 i ∧ Quo w wr s o i) (fun v3 v4 _ => s.size - (intOf v4).toNat)
  case atStart => exact ⟨_, 0, rfl, rfl, Nat.zero_le _, rfl, by decide, Still.refl _⟩
  case round =>
    obtain ⟨o, i, rfl, rfl, hq⟩ := hrel
    have HQ := Lib.hid hq
    have hi := hq.le
    have hof := hq.few
    clear hq
    by_cases hlt : i < s.size
    · have x0 : (i : Int) < (s.size : Int) := by omega
      have x1 : decide (i < s.size) = true := decide_eq_true hlt
      have eq1 : s[i]! = s[i] := getElem!_pos s i hlt
      obtain ⟨c, hc⟩ : ∃ c : Nat, s[i].toNat = c := ⟨_, rfl⟩
      have hc256 : c < 256 := by rw [← hc]; exact s[i].toNat_lt
      have HS := Lib.hid (bs_push1 (o := o) hlt)
      have HS1 := Lib.hid (show Lx.bs (s.extract i (i + 1)) = [c] by rw [Lx.bs_extract, Lx.drop_lt hlt, show i + 1 - i = 1 by omega, hc]; rfl)
      have x2 : (i : Int) + 1 ≤ (s.size : Int) := by omega
      have x3 : (i : Int) ≤ (i : Int) + 1 := by omega
      have hgo := fun (o' : ByteArray) (W : World) (t : Still wr W) (ho : Lx.bs o' = Lx.bs o ++ Lx.qb c) => HQ.out.go hlt t (by rw [hc]; exact ho)
      have HG := Lib.hid hgo
      have HLT := Lib.hid hlt
      clear hgo
      by_cases h10 : c = 10
      · subst h10
        go_wp2_with fail
        have := HLT.out
        exact ⟨⟨_, i + 1, rfl, by go_num, HG.out _ _ (Still.refl _) (Lx.bs_append _ _)⟩, by simp [intOf]; omega⟩
      · by_cases h9 : c = 9
        · subst h9
          go_wp2_with fail
          have := HLT.out
          exact ⟨⟨_, i + 1, rfl, by go_num, HG.out _ _ (Still.refl _) (Lx.bs_append _ _)⟩, by simp [intOf]; omega⟩
        · by_cases h34 : c = 34 ∨ c = 92
          · have hqb : Lx.qb c = [92, c] := by unfold Lx.qb; rw [if_neg h10, if_neg h9, if_pos h34]
            have HQB := Lib.hid hqb
            clear hqb h10 h9
            have z3 : (s.extract i (i + 1)).size = 1 := by rw [ByteArray.size_extract]; omega
            rcases h34 with rfl | rfl <;>
            · go_wp2_with fail
              have := HLT.out
              exact ⟨⟨_, i + 1, rfl, by go_num, HG.out _ _ (Still.refl _) (by rw [Lx.bs_append, Lx.bs_append, HS1.out, HQB.out]; rfl)⟩, by simp [intOf]; omega⟩
          · have b10 : ((c : Int) == 10) = false := by rw [beq_eq_false_iff_ne]; omega
            have b9 : ((c : Int) == 9) = false := by rw [beq_eq_false_iff_ne]; omega
            have b34 : ((c : Int) == 34) = false := by rw [beq_eq_false_iff_ne]; omega
            have b92 : ((c : Int) == 92) = false := by rw [beq_eq_false_iff_ne]; omega
            by_cases hout : c < 32 ∨ 126 < c
            · have hqb : Lx.qb c = 92 :: Lx.tgt c := by unfold Lx.qb; rw [if_neg h10, if_neg h9, if_neg h34, if_pos hout]; rfl
              have HQB := Lib.hid hqb
              obtain ⟨k0, hk0, hd0, hz0⟩ := Lx.tgt_start hc256
              have HD := Lib.hid (digits_ref (c : Int) (by omega) (by omega))
              have hit : itB (c : Int) = dgB c := by
                unfold itB Lib.itoa dgB
                rw [if_neg (by omega)]; rfl
              rw [hit] at HD
              have HT := Lib.hid (And.intro hd0 (And.intro hz0 hk0))
              clear hqb h10 h9 h34 hd0 hz0 hk0 hit
              have hcase : ((c : Int) < 32 ∧ decide (c < 32) = true) ∨ (¬ (c : Int) < 32 ∧ decide (c < 32) = false ∧ (127 : Int) ≤ (c : Int) ∧ decide (127 ≤ c) = true) := by
                rcases hout with h | h
                · exact .inl ⟨by omega, decide_eq_true h⟩
                · exact .inr ⟨by omega, decide_eq_false (by omega), by omega, decide_eq_true (by omega)⟩
              clear hout
              rcases hcase with ⟨g1, g2⟩ | ⟨g1, g2, g3, g4⟩ <;>
              · go_wp2_with fail
                refine (HD.out _).mono ?_; rintro e w5 ⟨rfl, t5⟩
                have T5 := Lib.hid t5
                clear t5
                go_wp2_with fail
                go_loopw [6] (fun v6 wx => ∃ (D : ByteArray) (k : Nat), v6 = .string D ∧ k ≤ 2 ∧ Lx.bs D = (Lx.tgt c).drop k ∧ wx = w5 ∧ ∀ j, j < k → (Lx.tgt c)[j]? = some 48) (fun v6 _ => 3 - strLen v6)
                case atStart => exact ⟨_, k0, rfl, HT.out.2.2, HT.out.1, rfl, HT.out.2.1⟩
                case round =>
                  obtain ⟨D, k, rfl, hk, hD, hwx, hz⟩ := hrel
                  obtain rfl := hwx.symm
                  have hDs : D.size = 3 - k := by rw [← Lx.bs_len, hD, List.length_drop, Lx.tgt_len]
                  have HDD := Lib.hid (And.intro hD hz)
                  clear hD hz
                  cases k with
                  | zero =>
                    have y0 : ¬ (D.size : Int) < 3 := by omega
                    have y1 : decide (D.size < 3) = false := decide_eq_false (by omega)
                    go_wp2_with fail
                    have := HLT.out
                    exact ⟨⟨_, i + 1, rfl, by go_num, HG.out _ _ T5.out (by rw [Lx.bs_append, Lx.bs_append, HDD.out.1, HQB.out]; rfl)⟩, by simp [intOf]; omega⟩
                  | succ k =>
                    have y0 : (D.size : Int) < 3 := by omega
                    have y1 : decide (D.size < 3) = true := decide_eq_true (by omega)
                    go_wp2_with fail
                    refine ⟨⟨_, k, rfl, by omega, ?_, trivial, fun j hj => HDD.out.2 j (by omega)⟩, ?_⟩
                    · rw [Lx.bs_append, HDD.out.1, Lx.tgt_back (HDD.out.2 k (by omega))]; rfl
                    · show 3 - ({ data := #[48] } ++ D : ByteArray).size < 3 - D.size
                      rw [ByteArray.size_append]
                      show 3 - (1 + D.size) < _
                      omega
            · have hqb : Lx.qb c = [c] := by unfold Lx.qb; rw [if_neg h10, if_neg h9, if_neg h34, if_neg hout]
              have HQB := Lib.hid hqb
              have g1 : ¬ (c : Int) < 32 := by omega
              have g2 : decide (c < 32) = false := decide_eq_false (by omega)
              have g3 : ¬ (127 : Int) ≤ (c : Int) := by omega
              have g4 : decide (127 ≤ c) = false := decide_eq_false (by omega)
              have z3 : (s.extract i (i + 1)).size = 1 := by rw [ByteArray.size_extract]; omega
              clear hqb h10 h9 h34 hout
              go_wp2_with fail
              have := HLT.out
              exact ⟨⟨_, i + 1, rfl, by go_num, HG.out _ _ (Still.refl _) (by rw [HS.out, hc, HQB.out])⟩, by simp [intOf]; omega⟩
    · obtain rfl : i = s.size := by omega
      have x0 : ¬ (s.size : Int) < (s.size : Int) := by omega
      have x1 : decide (s.size < s.size) = false := decide_eq_false (by omega)
      have he := HQ.out.eq
      rw [List.take_of_length_le (by rw [Lx.bs_len]; exact Nat.le_refl _)] at he
      have hfin : ({ data := #[34] } ++ o) ++ { data := #[34] } = Lx.str (34 :: (Lx.qbs (Lx.bs s) ++ [34])) := by
        refine Lx.bs_inj ?_
        rw [Lx.bs_append, Lx.bs_append, he, Lx.bs_str]
        · rfl
        · intro d hd
          rcases List.mem_cons.1 hd with rfl | hd
          · decide
          · rcases List.mem_append.1 hd with hd | hd
            · rw [← he] at hd; exact Lx.byte_lt o d hd
            · rw [List.mem_singleton.1 hd]; decide
      have HF := Lib.hid hfin
      clear hlt he hfin
      go_wp2_with fail
      go_ret
      exact ⟨by rw [← HF.out]; rfl, HQ.out.turn⟩
end Go.Proofs.YtpccfimjkffkfaaDoor
