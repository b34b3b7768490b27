/- Plain arithmetic for layer 1 (word): numbers of 63 bits, quotients rounded down, parts of a word. No program in sight. -/
import Derived.IntWalk
namespace Go.Proofs.Ytjeehbcbflofpaa.M
set_option linter.unusedVariables false
open Go.RowKit

/-- The number of 63 bits that differs from n by a multiple of 2^63. -/
def W (n : Int) : Int := (n + 4611686018427387904) % 9223372036854775808 - 4611686018427387904

theorem W_lo (n : Int) : -4611686018427387904 ≤ W n := by unfold W; omega
theorem W_hi (n : Int) : W n ≤ 4611686018427387903 := by unfold W; omega
theorem W_id {n : Int} (h0 : -4611686018427387904 ≤ n) (h1 : n ≤ 4611686018427387903) : W n = n := by unfold W; omega
theorem W_ex (n : Int) : ∃ k, W n = n + 9223372036854775808 * k := ⟨-((n + 4611686018427387904) / 9223372036854775808), by unfold W; omega⟩
theorem W_eq {a b : Int} (k : Int) (h : a = b + 9223372036854775808 * k) : W a = W b := by unfold W; omega
theorem wrap64_ex (n : Int) : ∃ k, wrap64 n = n + 9223372036854775808 * k := ⟨-(2 * ((n + 9223372036854775808) / 18446744073709551616)), by unfold wrap64; omega⟩
theorem W_wrap64 (n : Int) : W (wrap64 n) = W n := by obtain ⟨k, h⟩ := wrap64_ex n; exact W_eq k h
theorem W_W (n : Int) : W (W n) = W n := W_id (W_lo n) (W_hi n)
theorem shl_shr (n : Int) : wrap64 (n * 2) / 2 = W n := by unfold wrap64 W; omega

theorem W_add_l (a b : Int) : W (W a + b) = W (a + b) := by obtain ⟨k, h⟩ := W_ex a; rw [h]; exact W_eq k (by omega)
theorem W_add_r (a b : Int) : W (a + W b) = W (a + b) := by obtain ⟨k, h⟩ := W_ex b; rw [h]; exact W_eq k (by omega)
theorem W_mul_l (a b : Int) : W (W a * b) = W (a * b) := by
  obtain ⟨k, h⟩ := W_ex a; rw [h]; exact W_eq (k * b) (by grind)
theorem W_mul_r (a b : Int) : W (a * W b) = W (a * b) := by
  obtain ⟨k, h⟩ := W_ex b; rw [h]; exact W_eq (a * k) (by grind)
theorem W_neg (a : Int) : W (-W a) = W (-a) := by obtain ⟨k, h⟩ := W_ex a; rw [h]; exact W_eq (-k) (by omega)
theorem W_sub (a b : Int) : W (a + W (-W b)) = W (a - b) := by rw [W_neg, W_add_r]; congr 1

theorem ring_assoc_add (a b c : Int) : W (W (a + b) + c) = W (a + W (b + c)) := by rw [W_add_l, W_add_r, Int.add_assoc]
theorem ring_assoc_mul (a b c : Int) : W (W (a * b) * c) = W (a * W (b * c)) := by rw [W_mul_l, W_mul_r, Int.mul_assoc]
theorem ring_dist (a b c : Int) : W (a * W (b + c)) = W (W (a * b) + W (a * c)) := by rw [W_mul_r, W_add_l, W_add_r, Int.mul_add]
theorem ring_back (a b : Int) : W (W (a + b) - b) = W a := by
  have h := W_add_l (a + b) (-b)
  rw [show W (a + b) - b = W (a + b) + -b from by omega, h]; congr 1; omega

/-! quotients rounded down -/
/-- Is Go's quotient, which is rounded towards 0, above the one that is rounded down? -/
def dd (a b : Int) : Bool := a.tmod b != 0 && (decide (a.tmod b < 0) != decide (b < 0))
def dq (a b : Int) : Int := if dd a b then a.tdiv b - 1 else a.tdiv b
def dr (a b : Int) : Int := if dd a b then a.tmod b + b else a.tmod b
theorem tmod_bd (a b : Int) (hb : b ≠ 0) : (0 < b → -b < a.tmod b ∧ a.tmod b < b) ∧ (b < 0 → b < a.tmod b ∧ a.tmod b < -b) := by
  have h1 := Int.tmod_lt_of_pos a (b := b)
  have h2 := Int.lt_tmod_of_pos a (b := b)
  have h3 := Int.tmod_lt_of_pos a (b := -b)
  have h4 := Int.lt_tmod_of_pos a (b := -b)
  rw [Int.tmod_neg] at h3 h4
  exact ⟨fun h => ⟨h2 h, h1 h⟩, fun h => ⟨by have := h4 (by omega); omega, h3 (by omega)⟩⟩
theorem dq_dr (a b : Int) : dq a b * b + dr a b = a := by
  have h := Int.tmod_add_mul_tdiv a b
  unfold dq dr
  split <;> grind
theorem dr_pos (a b : Int) (hb : 0 < b) : 0 ≤ dr a b ∧ dr a b < b := by
  have h := (tmod_bd a b (by omega)).1 hb
  unfold dr dd
  by_cases h0 : a.tmod b < 0
  · have e : decide (b < 0) = false := by simp; omega
    have e2 : (a.tmod b != 0) = true := by simp; omega
    simp [h0, e, e2]; omega
  · have e : decide (b < 0) = false := by simp; omega
    simp [h0, e]; omega
theorem dr_neg (a b : Int) (hb : b < 0) : dr a b ≤ 0 ∧ b < dr a b := by
  have h := (tmod_bd a b (by omega)).2 hb
  unfold dr dd
  by_cases h0 : a.tmod b < 0
  · simp [h0, hb]; omega
  · by_cases h1 : a.tmod b = 0
    · simp [h1, hb]
    · simp [h0, h1, hb]; omega
theorem tmod_i64 (a b : Int) (hb : b ≠ 0) (hb0 : -9223372036854775808 ≤ b) (hb1 : b ≤ 9223372036854775807) : -9223372036854775808 ≤ a.tmod b ∧ a.tmod b ≤ 9223372036854775807 := by
  have h := tmod_bd a b hb
  rcases Int.lt_or_gt_of_ne hb with h0 | h0
  · have := h.2 h0; omega
  · have := h.1 h0; omega
/-- a - q * b, all wrapped, is what is left. -/
theorem rest64 (a b : Int) (hb : b ≠ 0) (hb0 : -9223372036854775808 ≤ b) (hb1 : b ≤ 9223372036854775807) : wrap64 (a - wrap64 (wrap64 (a.tdiv b) * b)) = a.tmod b := by
  have h := Int.tmod_add_mul_tdiv a b
  have hr := tmod_i64 a b hb hb0 hb1
  obtain ⟨k, hk⟩ : ∃ k, wrap64 (a.tdiv b) = a.tdiv b + 18446744073709551616 * k := ⟨-((a.tdiv b + 9223372036854775808) / 18446744073709551616), by unfold wrap64; omega⟩
  obtain ⟨j, hj⟩ : ∃ j, wrap64 (wrap64 (a.tdiv b) * b) = wrap64 (a.tdiv b) * b + 18446744073709551616 * j := ⟨-((wrap64 (a.tdiv b) * b + 9223372036854775808) / 18446744073709551616), by generalize wrap64 (a.tdiv b) * b = x; unfold wrap64; omega⟩
  rw [hj, hk]
  have e : a - ((a.tdiv b + 18446744073709551616 * k) * b + 18446744073709551616 * j) = a.tmod b + 18446744073709551616 * (-(k * b) - j) := by grind
  rw [e]
  generalize -(k * b) - j = m
  unfold wrap64; omega
theorem dr_i64 (a b : Int) (hb : b ≠ 0) (hb0 : -9223372036854775808 ≤ b) (hb1 : b ≤ 9223372036854775807) : wrap64 (dr a b) = dr a b := by
  rcases Int.lt_or_gt_of_ne hb with h0 | h0
  · have := dr_neg a b h0; unfold wrap64; omega
  · have := dr_pos a b h0; unfold wrap64; omega
theorem W_dq (a b : Int) : W (wrap64 (wrap64 (a.tdiv b) - 1)) = W (a.tdiv b - 1) := by
  rw [W_wrap64]; obtain ⟨k, h⟩ := wrap64_ex (a.tdiv b); rw [h]; exact W_eq k (by omega)

theorem W_dq' (a b : Int) : W (wrap64 (a.tdiv b) - 1) = W (a.tdiv b - 1) := by rw [← W_dq, W_wrap64]
theorem dd_y {a b : Int} (h0 : ¬ a.tmod b = 0) (h : (!decide (a.tmod b < 0) == decide (b < 0)) = true) : dd a b = true := by
  unfold dd; revert h; cases decide (a.tmod b < 0) <;> cases decide (b < 0) <;> simp [h0]
theorem dd_n {a b : Int} (h : (a.tmod b != 0) = false ∨ (!decide (a.tmod b < 0) == decide (b < 0)) = false) : dd a b = false := by
  unfold dd
  rcases h with h | h
  · rw [h]; rfl
  · revert h; cases decide (a.tmod b < 0) <;> cases decide (b < 0) <;> simp
theorem dd_z {a b : Int} (h : a.tmod b = 0) : dd a b = false := by unfold dd; simp [h]

theorem prod_even {x y o : Int} (h : y % 2 = 0) : W (o + W (x + x) * (y / 2)) = W (o + x * y) := by
  rw [← W_add_r, W_mul_l, W_add_r]
  have : y = 2 * (y / 2) := by omega
  congr 1; generalize y / 2 = z at *; subst this; grind
theorem prod_odd {x y o : Int} (h : y % 2 = 1) : W (W (o + x) + W (x + x) * (y / 2)) = W (o + x * y) := by
  rw [W_add_l, ← W_add_r, W_mul_l, W_add_r]
  have : y = 2 * (y / 2) + 1 := by omega
  congr 1; generalize y / 2 = z at *; subst this; grind
theorem prodn_even {x y o : Int} (h : y % 2 = 0) (ht : y.tdiv 2 = -(-y / 2)) : W (-o + W (x + x) * (y.tdiv 2)) = W (-o + x * y) := by
  rw [← W_add_r, W_mul_l, W_add_r]
  have : y = 2 * y.tdiv 2 := by omega
  congr 1; generalize y.tdiv 2 = z at *; subst this; grind
theorem prodn_odd {x y o : Int} (h : y % 2 = 1) (ht : y.tdiv 2 = -(-y / 2)) : W (-W (o + x) + W (x + x) * (y.tdiv 2)) = W (-o + x * y) := by
  rw [← W_add_r, W_mul_l, W_add_r, ← W_add_l, W_neg, W_add_l]
  have : y = 2 * y.tdiv 2 - 1 := by omega
  congr 1; generalize y.tdiv 2 = z at *; subst this; grind
theorem tdiv2_neg {y : Int} (h : y ≤ 0) : y.tdiv 2 = -(-y / 2) ∧ y.tmod 2 = -(y % 2) := by
  obtain ⟨z, rfl⟩ : ∃ z, y = -z := ⟨-y, by omega⟩
  rw [Int.neg_tdiv, Int.neg_tmod, Int.tdiv_eq_ediv_of_nonneg (by omega), Int.tmod_eq_emod_of_nonneg (by omega)]
  constructor <;> omega

/-- A place as a pointer. -/
def ptr (n : Int) : Int := 2 * n % 18446744073709551616
theorem ptr_lo (n : Int) : 0 ≤ ptr n := by unfold ptr; omega
theorem ptr_hi (n : Int) : ptr n < 18446744073709551616 := by unfold ptr; omega
theorem ptr_even (n : Int) : (ptr n % 2 == 1) = false := by unfold ptr; have h : 2 * n % 18446744073709551616 % 2 = 0 := by omega
                                                            rw [h]; rfl

/-! powers of two -/
theorem pow_step (k : Nat) : (2 : Int) ^ k * 2 = 2 ^ (k + 1) := (Int.pow_succ 2 k).symm
end Go.Proofs.Ytjeehbcbflofpaa.M
