/- Any tokens, wherever they lie; the document's Print of them. -/
import Derived.Test.YtpccfimjkffkfaaDoorLxRg3
import Derived.Test.YtpccfimjkffkfaaDoorLxTextN
namespace Go.Proofs.YtpccfimjkffkfaaDoor
set_option linter.unusedVariables false
set_option linter.unusedSimpArgs false
open Go.ChangeShapes Go.WideShapes Go.ChangeAt Go.RowKit
structure TA where
  k : Int
  p : Int
  t : ByteArray
  n : Int
/-- n tokens at a. -/
structure ToksA (w : World) (a : Option Addr) (n : Nat) (F : Nat → TA) : Prop where
  at_ : 0 < n → ∃ b off, a = some ⟨b, off, none⟩ ∧ b < w.heap.size ∧ ∀ i, i < n → w.cell? ⟨b, off + i * 4, none⟩ = some (.int .i64 (F i).k) ∧ w.cell? ⟨b, off + i * 4 + 1, none⟩ = some (.int .i64 (F i).p) ∧ w.cell? ⟨b, off + i * 4 + 2, none⟩ = some (.string (F i).t) ∧ w.cell? ⟨b, off + i * 4 + 3, none⟩ = some (.int .i64 (F i).n)
  num : ∀ i, i < n → -9223372036854775808 ≤ (F i).n ∧ (F i).n ≤ 9223372036854775807
theorem ToksA.still {w w' : World} {a : Option Addr} {n : Nat} {F : Nat → TA} (h : ToksA w a n F) (t : Still w w') : ToksA w' a n F :=
  ⟨fun h0 => by
    obtain ⟨b, off, e, hb, hc⟩ := h.at_ h0
    refine ⟨b, off, e, Nat.lt_of_lt_of_le hb t.size, fun i hi => ?_⟩
    obtain ⟨c0, c1, c2, c3⟩ := hc i hi
    exact ⟨(t.cell hb).trans c0, (t.cell hb).trans c1, (t.cell hb).trans c2, (t.cell hb).trans c3⟩, h.num⟩
/-- A token as it is printed. -/
def pcA (x : TA) : List Nat := if x.k = 1 then Lx.bs (itB x.n) else if x.k = 2 then 34 :: (Lx.qbs (Lx.bs x.t) ++ [34]) else Lx.bs x.t
def prA (F : Nat → TA) : Nat → List Nat
  | 0 => []
  | i + 1 => prA F i ++ ((if i = 0 then [] else [32]) ++ pcA (F i))
theorem itB_len {n : Int} (h1 : -9223372036854775808 ≤ n) (h2 : n ≤ 9223372036854775807) : (itB n).size ≤ 20 := by
  unfold itB Lib.itoa
  have hd : ∀ m : Nat, m ≤ 9223372036854775808 → (Lib.decDigits m).length ≤ 19 := fun m hm => by
    have := dgB_len 18 m (by omega)
    unfold dgB at this
    simpa [ByteArray.size] using this
  show (Array.size (List.toArray _)) ≤ 20
  rw [List.size_toArray]
  split
  · have := hd n.natAbs (by omega)
    simp only [List.length_cons]; omega
  · have := hd n.toNat (by omega)
    omega
theorem pcA_len {x : TA} (h1 : -9223372036854775808 ≤ x.n) (h2 : x.n ≤ 9223372036854775807) (ht : x.t.size ≤ 3000) : (pcA x).length ≤ 12002 := by
  unfold pcA
  split
  · rw [Lx.bs_len]; have := itB_len h1 h2; omega
  · split
    · have := Lx.qbs_len (Lx.bs x.t)
      rw [Lx.bs_len] at this
      simp only [List.length_cons, List.length_append, List.length_nil]
      omega
    · rw [Lx.bs_len]; omega
theorem prA_len {F : Nat → TA} : ∀ n, (∀ i, i < n → (pcA (F i)).length ≤ 12002) → (prA F n).length ≤ 12003 * n
  | 0, _ => by simp [prA]
  | n + 1, h => by
    have ih := prA_len n (fun i hi => h i (by omega))
    have := h n (by omega)
    rw [prA, List.length_append, List.length_append]
    have : (if n = 0 then ([] : List Nat) else [32]).length ≤ 1 := by split <;> simp
    omega
set_option maxRecDepth 100000 in
set_option maxHeartbeats 8000000 in
theorem printA_ref {w : World} {a : Option Addr} {n c : Nat} {F : Nat → TA} (h : ToksA w a n F) (hn : n ≤ 200) (ht : ∀ i, i < n → (F i).t.size ≤ 3000) :
    Calls Tryd.prog 18 #[.slice a n c] w fun e w' => (∃ o, e = .returned (.string o) ∧ Lx.bs o = prA F n) ∧ Still w w' := by
  have H := Lib.hid (And.intro h ht)
  clear h ht
  go_enter Tryd.func18, Tryd.ntmps18
  go_wp2_with fail
  go_loopw [3, 8] (fun v3 v8 wr => ∃ (o : ByteArray) (i : Nat), v3 = .string o ∧ v8 = .int .i64 i ∧ i ≤ n ∧ Lx.bs o = prA F i ∧ Still w wr) (fun v3 v8 _ => n - (intOf v8).toNat)
  case atStart => exact ⟨_, 0, rfl, rfl, Nat.zero_le _, rfl, Still.refl _⟩
  case round =>
    obtain ⟨o, i, rfl, rfl, hi, ho, hst⟩ := hrel
    have HS := Lib.hid hst
    have HO := Lib.hid ho
    clear hst
    by_cases hlt : i < n
    · obtain ⟨b, off, rfl, hb, hcs⟩ := (H.out.1.still HS.out).at_ (by omega)
      obtain ⟨c0, c1, c2, c3⟩ := hcs i hlt
      have hnum := H.out.1.num i hlt
      have htx := H.out.2 i hlt
      have hos : o.size ≤ 2400600 := by
        have h1 := prA_len (F := F) i (fun j hj => pcA_len (H.out.1.num j (by omega)).1 (H.out.1.num j (by omega)).2 (H.out.2 j (by omega)))
        rw [← ho, Lx.bs_len] at h1
        omega
      have hpr : prA F (i + 1) = prA F i ++ ((if i = 0 then [] else [32]) ++ pcA (F i)) := rfl
      obtain ⟨x, hx⟩ : ∃ x, F i = x := ⟨_, rfl⟩
      rw [hx] at c0 c1 c2 c3 hnum htx hpr
      obtain ⟨k, p, t, m⟩ := x
      simp only at c0 c1 c2 c3 hnum htx
      have HPR := Lib.hid hpr
      have HLT := Lib.hid hlt
      have y0 : (i : Int) < (n : Int) := by omega
      have y1 : decide (i < n) = true := decide_eq_true hlt
      have HN := Lib.hid hnum
      clear hcs hx hpr hlt ho
      have hpc : pcA ⟨k, p, t, m⟩ = if k = 1 then Lx.bs (itB m) else if k = 2 then 34 :: (Lx.qbs (Lx.bs t) ++ [34]) else Lx.bs t := rfl
      have hDl : (itB m).size ≤ 20 := itB_len HN.out.1 HN.out.2
      have HDG := Lib.hid (digits_ref m HN.out.1 HN.out.2)
      obtain ⟨D, hD⟩ : ∃ D, itB m = D := ⟨_, rfl⟩
      have HQT := Lib.hid (fun W => quoted_ref t W htx)
      obtain ⟨Q, hQ⟩ : ∃ Q, Lx.str (34 :: (Lx.qbs (Lx.bs t) ++ [34])) = Q := ⟨_, rfl⟩
      have hQb : Lx.bs Q = 34 :: (Lx.qbs (Lx.bs t) ++ [34]) := by
        rw [← hQ, Lx.bs_str]
        intro d hd
        rcases List.mem_cons.1 hd with rfl | hd
        · decide
        · rcases List.mem_append.1 hd with hd | hd
          · exact Lx.qbs_small (Lx.byte_lt t) d hd
          · rw [List.mem_singleton.1 hd]; decide
      have hQl : Q.size ≤ 12002 := by
        rw [← Lx.bs_len, hQb]
        have := Lx.qbs_len (Lx.bs t)
        rw [Lx.bs_len] at this
        simp only [List.length_cons, List.length_append, List.length_nil]
        omega
      rw [hD] at hDl HDG hpc
      rw [hQ] at HQT
      rw [← hQb] at hpc
      have HPC := Lib.hid hpc
      clear hpc hD hQ hQb hnum
      rcases Nat.eq_zero_or_pos i with h0 | h0
      · by_cases hk : k = 1
        · have z0 : ¬ (0 : Int) < (i : Int) := by omega
          have z1 : decide (0 < i) = false := decide_eq_false (by omega)
          have HI0 := Lib.hid h0
          clear h0
          subst hk
          go_wp2_with fail
          refine (HDG.out _).mono ?_; rintro e w5 ⟨rfl, t5⟩
          have T5 := Lib.hid (HS.out.trans (((Still.refl wr).alloc _).trans t5))
          clear t5
          go_wp2_with fail
          have hlt := HLT.out
          have hpp := HPC.out
          rw [if_pos trivial] at hpp
          refine ⟨⟨_, i + 1, rfl, by go_num, hlt, ?_, T5.out⟩, by simp [intOf]; omega⟩
          rw [Lx.bs_append, HO.out, HPR.out, hpp, if_pos HI0.out, List.nil_append]
        · by_cases hk2 : k = 2
          · have z0 : ¬ (0 : Int) < (i : Int) := by omega
            have z1 : decide (0 < i) = false := decide_eq_false (by omega)
            have HI0 := Lib.hid h0
            clear h0
            subst hk2
            go_wp2_with fail
            refine (HQT.out _).mono ?_; rintro e w5 ⟨rfl, t5⟩
            have T5 := Lib.hid (HS.out.trans (((Still.refl wr).alloc _).trans t5))
            clear t5
            go_wp2_with fail
            have hlt := HLT.out
            have hpp := HPC.out
            rw [if_neg (by decide), if_pos trivial] at hpp
            refine ⟨⟨_, i + 1, rfl, by go_num, hlt, ?_, T5.out⟩, by simp [intOf]; omega⟩
            rw [Lx.bs_append, HO.out, HPR.out, hpp, if_pos HI0.out, List.nil_append]
          · have z0 : ¬ (0 : Int) < (i : Int) := by omega
            have z1 : decide (0 < i) = false := decide_eq_false (by omega)
            have HI0 := Lib.hid h0
            clear h0
            have b1 : (k == 1) = false := beq_eq_false_iff_ne.2 hk
            have b2 : (k == 2) = false := beq_eq_false_iff_ne.2 hk2
            have HKK := Lib.hid (And.intro hk hk2)
            have T5 := Lib.hid (HS.out.trans ((Still.refl wr).alloc (.cells #[.int .i64 k, .int .i64 p, .string t, .int .i64 m] 31)))
            go_wp2_with fail
            have hlt := HLT.out
            have hpp := HPC.out
            rw [if_neg HKK.out.1, if_neg HKK.out.2] at hpp
            refine ⟨⟨_, i + 1, rfl, by go_num, hlt, ?_, T5.out⟩, by simp [intOf]; omega⟩
            rw [Lx.bs_append, HO.out, HPR.out, hpp, if_pos HI0.out, List.nil_append]
      · by_cases hk : k = 1
        · have z0 : (0 : Int) < (i : Int) := by omega
          have z1 : decide (0 < i) = true := decide_eq_true h0
          have HI0 := Lib.hid (show ¬ i = 0 by omega)
          clear h0
          subst hk
          go_wp2_with fail
          refine (HDG.out _).mono ?_; rintro e w5 ⟨rfl, t5⟩
          have T5 := Lib.hid (HS.out.trans (((Still.refl wr).alloc _).trans t5))
          clear t5
          go_wp2_with fail
          have hlt := HLT.out
          have hpp := HPC.out
          rw [if_pos trivial] at hpp
          refine ⟨⟨_, i + 1, rfl, by go_num, hlt, ?_, T5.out⟩, by simp [intOf]; omega⟩
          rw [Lx.bs_append, Lx.bs_append, HO.out, HPR.out, hpp, if_neg HI0.out, List.append_assoc]
          rfl
        · by_cases hk2 : k = 2
          · have z0 : (0 : Int) < (i : Int) := by omega
            have z1 : decide (0 < i) = true := decide_eq_true h0
            have HI0 := Lib.hid (show ¬ i = 0 by omega)
            clear h0
            subst hk2
            go_wp2_with fail
            refine (HQT.out _).mono ?_; rintro e w5 ⟨rfl, t5⟩
            have T5 := Lib.hid (HS.out.trans (((Still.refl wr).alloc _).trans t5))
            clear t5
            go_wp2_with fail
            have hlt := HLT.out
            have hpp := HPC.out
            rw [if_neg (by decide), if_pos trivial] at hpp
            refine ⟨⟨_, i + 1, rfl, by go_num, hlt, ?_, T5.out⟩, by simp [intOf]; omega⟩
            rw [Lx.bs_append, Lx.bs_append, HO.out, HPR.out, hpp, if_neg HI0.out, List.append_assoc]
            rfl
          · have z0 : (0 : Int) < (i : Int) := by omega
            have z1 : decide (0 < i) = true := decide_eq_true h0
            have HI0 := Lib.hid (show ¬ i = 0 by omega)
            clear h0
            have b1 : (k == 1) = false := beq_eq_false_iff_ne.2 hk
            have b2 : (k == 2) = false := beq_eq_false_iff_ne.2 hk2
            have HKK := Lib.hid (And.intro hk hk2)
            have T5 := Lib.hid (HS.out.trans ((Still.refl wr).alloc (.cells #[.int .i64 k, .int .i64 p, .string t, .int .i64 m] 31)))
            go_wp2_with fail
            have hlt := HLT.out
            have hpp := HPC.out
            rw [if_neg HKK.out.1, if_neg HKK.out.2] at hpp
            refine ⟨⟨_, i + 1, rfl, by go_num, hlt, ?_, T5.out⟩, by simp [intOf]; omega⟩
            rw [Lx.bs_append, Lx.bs_append, HO.out, HPR.out, hpp, if_neg HI0.out, List.append_assoc]
            rfl
    · obtain rfl : i = n := by omega
      have y0 : ¬ (i : Int) < (i : Int) := by omega
      have y1 : decide (i < i) = false := decide_eq_false (by omega)
      clear hlt
      go_wp2_with fail
      go_ret
      exact ⟨⟨o, rfl, HO.out⟩, HS.out⟩
end Go.Proofs.YtpccfimjkffkfaaDoor
