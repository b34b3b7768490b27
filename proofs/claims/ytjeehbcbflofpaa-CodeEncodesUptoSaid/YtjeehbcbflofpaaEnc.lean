/- Numbers as bytes: groups of seven bits. No program in sight. -/
import Derived.Test.YtjeehbcbflofpaaMath
import Derived.Test.YtjeehbcbflofpaaBits
namespace Go.Proofs.Ytjeehbcbflofpaa.M
set_option linter.unusedVariables false
open Go.RowKit

/-- The bytes of a number: groups of seven bits, the lowest first, 128 added to all but the last. -/
def enc (x : Nat) : List Int := if x ≤ 127 then [(x : Int)] else ((x % 128 + 128 : Nat) : Int) :: enc (x / 128)
termination_by x
decreasing_by omega

theorem enc_small {x : Nat} (h : x ≤ 127) : enc x = [(x : Int)] := by rw [enc, if_pos h]
theorem enc_big {x : Nat} (h : ¬ x ≤ 127) : enc x = ((x % 128 + 128 : Nat) : Int) :: enc (x / 128) := by rw [enc, if_neg h]
theorem enc_len : ∀ (k x : Nat), x < 128 ^ (k + 1) → (enc x).length ≤ k + 1
  | 0, x, h => by rw [enc_small (by simpa using Nat.le_of_lt_succ h)]; simp
  | k + 1, x, h => by
    by_cases hx : x ≤ 127
    · rw [enc_small hx]; simp
    · rw [enc_big hx]
      have := enc_len k (x / 128) (by rw [Nat.pow_succ] at h; omega)
      simp; omega
theorem enc_len10 {x : Nat} (h : x < 18446744073709551616) : (enc x).length ≤ 10 := enc_len 9 x (Nat.lt_of_lt_of_le h (by decide))
theorem enc_pos (x : Nat) : 0 < (enc x).length := by
  by_cases h : x ≤ 127
  · rw [enc_small h]; simp
  · rw [enc_big h]; simp

theorem enc_bd : ∀ (x : Nat), ∀ c ∈ enc x, 0 ≤ c ∧ c ≤ 255 := by
  intro x
  induction x using Nat.strongRecOn with
  | _ x ih =>
    intro c hc
    by_cases h : x ≤ 127
    · rw [enc_small h] at hc; simp at hc; omega
    · rw [enc_big h, List.mem_cons] at hc
      rcases hc with rfl | hc
      · omega
      · exact ih (x / 128) (by omega) c hc

/-- A number from bytes. -/
def val : List Int → Nat
  | [] => 0
  | c :: r => c.toNat % 128 + 128 * val r
theorem val_enc : ∀ x, val (enc x) = x := by
  intro x
  induction x using Nat.strongRecOn with
  | _ x ih =>
    by_cases h : x ≤ 127
    · rw [enc_small h]; simp [val]; omega
    · rw [enc_big h]
      have := ih (x / 128) (by omega)
      simp only [val, this]; omega

/-- Where the first byte stands, of the first f ones, behind which there are no more. -/
def stop : Nat → List Int → Option Nat
  | 0, _ => none
  | _ + 1, [] => none
  | f + 1, c :: r => if c < 128 then some 0 else (stop f r).map (· + 1)

/-- The bytes up to there are the shortest ones, and of 64 bits. -/
def fits (p : List Int) : Bool := (decide (p.length ≤ 1) || p.getLast? != some 0) && (decide (p.length ≤ 9) || decide (p.getLast?.getD 0 ≤ 1))

/-- What Get tells: the number, and of how many bytes. -/
def got (l : List Int) : Option (Nat × Nat) := match stop 10 l with
  | none => none
  | some i => if fits (l.take (i + 1)) then some (val (l.take (i + 1)), i + 1) else none

def zig (n : Int) : Nat := if 0 ≤ n then (2 * n).toNat else (-2 * n - 1).toNat
def zag (x : Nat) : Int := if x % 2 = 0 then (x / 2 : Nat) else -((x / 2 : Nat) : Int) - 1
theorem zag_zig (n : Int) : zag (zig n) = n := by unfold zag zig; split <;> split <;> omega
theorem zig_zag (x : Nat) : zig (zag x) = x := by unfold zag zig; split <;> split <;> omega
theorem zig_lt {n : Int} (h0 : -9223372036854775808 ≤ n) (h1 : n ≤ 9223372036854775807) : zig n < 18446744073709551616 := by unfold zig; split <;> omega
theorem zag_bd {x : Nat} (h : x < 18446744073709551616) : -9223372036854775808 ≤ zag x ∧ zag x ≤ 9223372036854775807 := by unfold zag; split <;> omega
theorem zig_inj {a b : Int} (h : zig a = zig b) : a = b := by rw [← zag_zig a, h, zag_zig]
theorem enc_inj {a b : Nat} (h : enc a = enc b) : a = b := by rw [← val_enc a, h, val_enc]

/-! the bytes of a number, read -/
theorem stop_enc : ∀ (x : Nat) (f : Nat) (r : List Int), (enc x).length ≤ f → stop f (enc x ++ r) = some ((enc x).length - 1) := by
  intro x
  induction x using Nat.strongRecOn with
  | _ x ih =>
    intro f r hf
    by_cases h : x ≤ 127
    · rw [enc_small h] at hf ⊢
      obtain ⟨g, rfl⟩ : ∃ g, f = g + 1 := ⟨f - 1, by simp at hf; omega⟩
      simp [stop]; omega
    · rw [enc_big h] at hf ⊢
      obtain ⟨g, rfl⟩ : ∃ g, f = g + 1 := ⟨f - 1, by simp at hf; omega⟩
      have hp := enc_pos (x / 128)
      have := ih (x / 128) (by omega) g r (by simpa using hf)
      have hc : ¬ (((x % 128 + 128 : Nat) : Int) < 128) := by omega
      rw [List.cons_append, stop, if_neg hc, this]
      simp; omega
theorem last_enc (x : Nat) : ∃ c : Nat, (enc x).getLast? = some (c : Int) ∧ c ≤ 127 ∧ (1 < (enc x).length → c ≠ 0) ∧ c * 128 ^ ((enc x).length - 1) ≤ x := by
  induction x using Nat.strongRecOn with
  | _ x ih =>
    by_cases h : x ≤ 127
    · rw [enc_small h]; exact ⟨x, by simp, h, by simp, by simp⟩
    · rw [enc_big h]
      obtain ⟨c, h1, h2, h3, h4⟩ := ih (x / 128) (by omega)
      have hp := enc_pos (x / 128)
      refine ⟨c, ?_, h2, fun _ => ?_, ?_⟩
      · rw [List.getLast?_cons, h1]; rfl
      · by_cases h5 : 1 < (enc (x / 128)).length
        · exact h3 h5
        · have h6 : x / 128 ≤ 127 := by
            apply Classical.byContradiction; intro h7
            rw [enc_big h7] at h5
            have := enc_pos (x / 128 / 128)
            rw [List.length_cons] at h5; omega
          rw [enc_small h6] at h1
          simp at h1; omega
      · have e : (((x % 128 + 128 : Nat) : Int) :: enc (x / 128)).length - 1 = ((enc (x / 128)).length - 1) + 1 := by simp; omega
        rw [e, Nat.pow_succ, ← Nat.mul_assoc]
        omega
theorem fits_enc {x : Nat} (h : x < 18446744073709551616) : fits (enc x) = true := by
  obtain ⟨c, h1, h2, h3, h4⟩ := last_enc x
  have hl := enc_len10 h
  unfold fits
  rw [h1]
  by_cases h5 : 1 < (enc x).length
  · have h6 := h3 h5
    by_cases h7 : (enc x).length ≤ 9
    · simp [h7]; omega
    · have h8 : (enc x).length - 1 = 9 := by omega
      rw [h8] at h4
      have : c ≤ 1 := by
        have e : (128 : Nat) ^ 9 = 9223372036854775808 := by decide
        rw [e] at h4; omega
      simp; omega
  · simp; omega
theorem got_enc {x : Nat} (h : x < 18446744073709551616) (r : List Int) : got (enc x ++ r) = some (x, (enc x).length) := by
  have hp := enc_pos x
  have e : (enc x).length - 1 + 1 = (enc x).length := by omega
  unfold got
  rw [stop_enc x 10 r (enc_len10 h)]
  simp only [e]
  rw [List.take_append_of_le_length (Nat.le_refl _), List.take_length, if_pos (fits_enc h), val_enc]

/-! bytes that are fit are those of their number -/
/-- All but the last say that more follow, the last one doesn't. -/
def form : List Int → Prop
  | [] => False
  | [c] => 0 ≤ c ∧ c < 128
  | c :: d :: r => 128 ≤ c ∧ c ≤ 255 ∧ form (d :: r)
theorem enc_val : ∀ p : List Int, form p → (p.length ≤ 1 ∨ p.getLast? ≠ some 0) → enc (val p) = p
  | [], h, _ => h.elim
  | [c], h, _ => by
    simp only [form] at h
    have e : val [c] = c.toNat := by simp [val]; omega
    rw [e, enc_small (by omega)]; simp; omega
  | c :: d :: r, h, hl => by
    obtain ⟨h1, h2, h3⟩ := h
    have hl' : (d :: r).getLast? ≠ some 0 := by
      rcases hl with hl | hl
      · simp at hl
      · rw [List.getLast?_cons] at hl
        intro e; rw [e] at hl; simp at hl
    have ih := enc_val (d :: r) h3 (.inr hl')
    have hv : 0 < val (d :: r) := by
      apply Nat.pos_of_ne_zero; intro e
      rw [e, enc_small (by omega)] at ih
      rw [← ih] at hl'; simp at hl'
    have e : val (c :: d :: r) = c.toNat % 128 + 128 * val (d :: r) := rfl
    rw [e, enc_big (by omega)]
    have e1 : (c.toNat % 128 + 128 * val (d :: r)) / 128 = val (d :: r) := by omega
    rw [e1, ih]
    congr 1; omega
theorem val_lt : ∀ p : List Int, val p < 128 ^ p.length
  | [] => by simp [val]
  | c :: r => by
    have := val_lt r
    simp only [val, List.length_cons, Nat.pow_succ]; omega
theorem val_append : ∀ (p : List Int) (c : Int), val (p ++ [c]) = val p + c.toNat % 128 * 128 ^ p.length
  | [], c => by simp [val]
  | d :: r, c => by
    have := val_append r c
    simp only [List.cons_append, val, this, List.length_cons, Nat.pow_succ, Nat.mul_add]
    have e : 128 * (c.toNat % 128 * 128 ^ r.length) = c.toNat % 128 * (128 ^ r.length * 128) := by rw [← Nat.mul_assoc, Nat.mul_comm 128, Nat.mul_assoc]; congr 1; exact Nat.mul_comm ..
    omega

/-! reading, byte by byte -/
def all8 (p : List Int) : Prop := ∀ c ∈ p, 128 ≤ c ∧ c ≤ 255
theorem stop_at : ∀ (p : List Int) (f : Nat) (c : Int) (r : List Int), all8 p → p.length < f → c < 128 → stop f (p ++ c :: r) = some p.length
  | [], f, c, r, _, hf, hc => by
    obtain ⟨g, rfl⟩ : ∃ g, f = g + 1 := ⟨f - 1, by simp at hf; omega⟩
    simp [stop, hc]
  | d :: p, f, c, r, hp, hf, hc => by
    obtain ⟨g, rfl⟩ : ∃ g, f = g + 1 := ⟨f - 1, by simp at hf; omega⟩
    have hd := hp d (by simp)
    have := stop_at p g c r (fun x hx => hp x (by simp [hx])) (by simpa using hf) hc
    rw [List.cons_append, stop, if_neg (by omega), this]; simp
theorem stop_none : ∀ (p : List Int) (f : Nat) (r : List Int), all8 p → (p.length = f ∨ r = []) → stop f (p ++ r) = none
  | [], f, r, _, h => by
    rcases h with h | h
    · simp at h; subst h; simp [stop]
    · subst h; cases f <;> simp [stop]
  | d :: p, f, r, hp, h => by
    cases f with
    | zero => simp [stop]
    | succ g =>
      have hd := hp d (by simp)
      have := stop_none p g r (fun x hx => hp x (by simp [hx])) (by rcases h with h | h; · left; simpa using h
                                                                    · right; exact h)
      rw [List.cons_append, stop, if_neg (by omega), this]; rfl
theorem form_snoc : ∀ (p : List Int) (c : Int), all8 p → 0 ≤ c → c < 128 → form (p ++ [c])
  | [], c, _, h0, h1 => ⟨h0, h1⟩
  | [d], c, hp, h0, h1 => by have := hp d (by simp); exact ⟨this.1, this.2, h0, h1⟩
  | d :: e :: p, c, hp, h0, h1 => by
    have := hp d (by simp)
    exact ⟨this.1, this.2, form_snoc (e :: p) c (fun x hx => hp x (by simp [hx])) h0 h1⟩
theorem fits_snoc (p : List Int) (c : Int) : fits (p ++ [c]) = ((decide (p.length = 0) || c != 0) && (decide (p.length < 9) || decide (c ≤ 1))) := by
  unfold fits
  have e1 : (p ++ [c]).getLast? = some c := by simp
  have e2 : (p ++ [c]).length = p.length + 1 := by simp
  have e3 : decide (p.length + 1 ≤ 1) = decide (p.length = 0) := by congr 1; simp
  have e4 : decide (p.length + 1 ≤ 9) = decide (p.length < 9) := by congr 1
  have e5 : (some c != some (0 : Int)) = (c != 0) := by simp [bne]
  rw [e1, e2, e3, e4, e5]; rfl
theorem fits_lt {p : List Int} {c : Int} (hp : p.length ≤ 9) (hc0 : 0 ≤ c) (h : fits (p ++ [c]) = true) : val (p ++ [c]) < 18446744073709551616 := by
  rw [fits_snoc] at h
  rw [val_append]
  have hv := val_lt p
  by_cases h9 : p.length < 9
  · have h1 := val_lt (p ++ [c])
    rw [val_append] at h1
    have h2 : 128 ^ (p ++ [c]).length ≤ 128 ^ 9 := Nat.pow_le_pow_right (by decide) (by simp; omega)
    have e : (128 : Nat) ^ 9 = 9223372036854775808 := by decide
    omega
  · have h10 : p.length = 9 := by omega
    have hc : c ≤ 1 := by simp [h10] at h; exact h.2
    rw [h10] at hv ⊢
    have e : (128 : Nat) ^ 9 = 9223372036854775808 := by decide
    rw [e] at hv ⊢
    have : c.toNat % 128 ≤ 1 := by omega
    have : c.toNat % 128 * 9223372036854775808 ≤ 1 * 9223372036854775808 := Nat.mul_le_mul_right _ this
    omega
theorem fits_iff {p : List Int} {c : Int} (h8 : all8 p) (hp : p.length ≤ 9) (hc0 : 0 ≤ c) (hc : c < 128) :
    fits (p ++ [c]) = true ↔ enc (val (p ++ [c]) % 18446744073709551616) = p ++ [c] := by
  constructor
  · intro h
    rw [Nat.mod_eq_of_lt (fits_lt hp hc0 h)]
    refine enc_val _ (form_snoc p c h8 hc0 hc) ?_
    rw [fits_snoc] at h
    simp at h
    rcases h.1 with h1 | h1
    · left; simp [h1]
    · right; simp [h1]
  · intro h
    have := fits_enc (x := val (p ++ [c]) % 18446744073709551616) (Nat.mod_lt _ (by decide))
    rwa [h] at this
theorem got_yes {p : List Int} {c : Int} {r : List Int} (h8 : all8 p) (hp : p.length ≤ 9) (hc : c < 128) (hf : fits (p ++ [c]) = true) : got (p ++ c :: r) = some (val (p ++ [c]), p.length + 1) := by
  have e : (p ++ c :: r).take (p.length + 1) = p ++ [c] := by rw [List.take_append]; simp [List.take_of_length_le]
  unfold got
  rw [stop_at p 10 c r h8 (by omega) hc]
  simp only [e]; rw [if_pos hf]
theorem got_no {p : List Int} {c : Int} {r : List Int} (h8 : all8 p) (hp : p.length ≤ 9) (hc : c < 128) (hf : fits (p ++ [c]) = false) : got (p ++ c :: r) = none := by
  have e : (p ++ c :: r).take (p.length + 1) = p ++ [c] := by rw [List.take_append]; simp [List.take_of_length_le]
  unfold got
  rw [stop_at p 10 c r h8 (by omega) hc]
  simp only [e]; rw [if_neg (by simp [hf])]
theorem got_end {p r : List Int} (h8 : all8 p) (h : p.length = 10 ∨ r = []) : got (p ++ r) = none := by
  unfold got; rw [stop_none p 10 r h8 h]

/-! the folds -/
theorem xor0 (a : Nat) (h : a < 18446744073709551616) : bits .xor .u64 (a : Int) 0 = a := by
  have := u64_xor_nat a 0 h (by decide); simpa using this
theorem xorAll (a : Nat) (h : a < 18446744073709551616) : bits .xor .u64 (a : Int) 18446744073709551615 = 18446744073709551615 - (a : Int) := by
  show IntKind.u64.wrap ((BitVec.ofInt 64 (a : Int) ^^^ BitVec.ofInt 64 18446744073709551615).toNat : Int) = _
  have h1 : BitVec.ofInt 64 18446744073709551615 = BitVec.allOnes 64 := by decide
  rw [h1, BitVec.xor_allOnes, BitVec.toNat_not, ofInt_u64 a h, IntKind.wrap_u64]
  omega
theorem xori0 (a : Nat) (h : a < 9223372036854775808) : bits .xor .i64 (a : Int) 0 = a := by
  show IntKind.i64.wrap ((BitVec.ofInt 64 (a : Int) ^^^ BitVec.ofInt 64 0).toNat : Int) = _
  have h1 : BitVec.ofInt 64 0 = 0#64 := by decide
  rw [h1, BitVec.xor_zero, ofInt_u64 a (by omega), IntKind.wrap_i64]
  omega
theorem xori1 (a : Nat) (h : a < 9223372036854775808) : bits .xor .i64 (a : Int) (-1) = -(a : Int) - 1 := by
  show IntKind.i64.wrap ((BitVec.ofInt 64 (a : Int) ^^^ BitVec.ofInt 64 (-1)).toNat : Int) = _
  have h1 : BitVec.ofInt 64 (-1) = BitVec.allOnes 64 := by decide
  rw [h1, BitVec.xor_allOnes, BitVec.toNat_not, ofInt_u64 a (by omega), IntKind.wrap_i64]
  omega
theorem fold_p {n : Int} (h0 : 0 ≤ n) (h1 : n ≤ 9223372036854775807) : bits .xor .u64 (n * 2) (n / 9223372036854775808) = zig n := by
  have e : n / 9223372036854775808 = 0 := by omega
  obtain ⟨a, ha⟩ := Int.eq_ofNat_of_zero_le (show 0 ≤ n * 2 by omega)
  rw [e, ha, xor0 a (by omega)]
  unfold zig; rw [if_pos h0]; omega
theorem fold_n {n : Int} (h0 : n < 0) (h1 : -9223372036854775808 ≤ n) : bits .xor .u64 (IntKind.u64.wrap (IntKind.u64.wrap n * 2)) (IntKind.u64.wrap (n / 9223372036854775808)) = zig n := by
  have e : n / 9223372036854775808 = -1 := by omega
  have e1 : IntKind.u64.wrap (-1) = 18446744073709551615 := by rw [IntKind.wrap_u64]; decide
  have e2 : IntKind.u64.wrap (IntKind.u64.wrap n * 2) = n * 2 + 18446744073709551616 := by rw [IntKind.wrap_u64, IntKind.wrap_u64]; omega
  obtain ⟨a, ha⟩ := Int.eq_ofNat_of_zero_le (show 0 ≤ n * 2 + 18446744073709551616 by omega)
  rw [e, e1, e2, ha, xorAll a (by omega)]
  unfold zig; rw [if_neg (by omega)]; omega
theorem unfold_u (u : Nat) (h : u < 18446744073709551616) : bits .xor .i64 ((u : Int) / 2) (wrap64 (-wrap64 (bits .and .u64 (u : Int) 1))) = zag u := by
  have e : bits .and .u64 (u : Int) 1 = (u : Int) % 2 := and1 _ (by omega) (by omega)
  have e2 : (u : Int) / 2 = ((u / 2 : Nat) : Int) := by simp
  rw [e, e2]
  unfold zag
  by_cases hu : u % 2 = 0
  · have e3 : wrap64 (-wrap64 ((u : Int) % 2)) = 0 := by unfold wrap64; omega
    rw [e3, xori0 _ (by omega), if_pos hu]
  · have e3 : wrap64 (-wrap64 ((u : Int) % 2)) = -1 := by unfold wrap64; omega
    rw [e3, xori1 _ (by omega), if_neg hu]
/-- One more group behind s bits. -/
theorem or_group (v c k : Nat) (hv : v < 128 ^ k) (hk : k ≤ 9) : bits .or .u64 (v : Int) (IntKind.u64.wrap ((c : Int) * ((2 ^ (7 * k) : Nat) : Int))) = (((v + c * 128 ^ k) % 18446744073709551616 : Nat) : Int) := by
  have e7 : (2 : Nat) ^ (7 * k) = 128 ^ k := by rw [Nat.pow_mul]
  have hkp : (128 : Nat) ^ k ≤ 128 ^ 9 := Nat.pow_le_pow_right (by decide) hk
  have e9 : (128 : Nat) ^ 9 = 9223372036854775808 := by decide
  obtain ⟨j, hj⟩ : ∃ j, 18446744073709551616 = 128 ^ k * j := by
    have e : 7 * k + (64 - 7 * k) = 64 := by omega
    have e64 : (18446744073709551616 : Nat) = 2 ^ 64 := by decide
    exact ⟨2 ^ (64 - 7 * k), by rw [← e7, ← Nat.pow_add, e, e64]⟩
  have hpos : 0 < 128 ^ k := Nat.pow_pos (by decide)
  have e1 : IntKind.u64.wrap ((c : Int) * ((2 ^ (7 * k) : Nat) : Int)) = ((128 ^ k * (c % j) : Nat) : Int) := by
    rw [IntKind.wrap_u64, e7, Nat.mul_comm (128 ^ k), ← Nat.mul_mod_mul_right, Nat.mul_comm j, ← hj]
    simp
  have hjpos : 0 < j := by apply Nat.pos_of_ne_zero; intro h; subst h; simp at hj
  have hcj : c % j < j := Nat.mod_lt _ hjpos
  have hlt : v + 128 ^ k * (c % j) < 18446744073709551616 := by
    rw [hj]
    have : 128 ^ k * (c % j + 1) ≤ 128 ^ k * j := Nat.mul_le_mul_left _ hcj
    rw [Nat.mul_add] at this; omega
  rw [e1, u64_or_nat v _ (by omega) (by omega), Nat.or_comm]
  have e2 : 128 ^ k * (c % j) ||| v = 128 ^ k * (c % j) + v := by
    rw [← e7] at hv ⊢
    exact (Nat.two_pow_add_eq_or_of_lt hv _).symm
  rw [e2]
  congr 1
  rw [Nat.add_comm (128 ^ k * (c % j)), ← Nat.mod_eq_of_lt hlt]
  have e3 : c * 128 ^ k = 128 ^ k * (c % j) + 18446744073709551616 * (c / j) := by
    have h := Nat.mod_add_div c j
    conv => lhs; rw [← h]
    rw [hj, Nat.add_mul, Nat.mul_comm (c % j), Nat.mul_comm (j * (c / j)), Nat.mul_assoc]
  rw [e3, ← Nat.add_assoc, Nat.add_mul_mod_self_left]
end Go.Proofs.Ytjeehbcbflofpaa.M
