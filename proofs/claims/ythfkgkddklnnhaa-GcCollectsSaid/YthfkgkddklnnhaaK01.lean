/- Lemmas, put together: Math Bits HWords. -/
import Derived.IntWalk
import Derived.Laws.BitsAllLaws
import Derived.Test.YthfkgkddklnnhaaRows
import Derived.WalkKit
import Derived.ProofKit
import Derived.OpenShut
import Derived.Deep.QuietTactic
import Derived.BigQuiet
import Derived.Lib.Hide
import Derived.Outline
/- Plain arithmetic for layer 1 (word): numbers of 63 bits, quotients rounded down, parts of a word. No program in sight. -/
namespace Go.Proofs.Ythfkgkddklnnhaa.M
set_option linter.unusedVariables false
open Go.RowKit

/-- The number of 63 bits that differs from n by a multiple of 2^63. -/
def W (n : Int) : Int := (n + 4611686018427387904) % 9223372036854775808 - 4611686018427387904

theorem W_lo (n : Int) : -4611686018427387904 ≤ W n := by unfold W; omega
theorem W_hi (n : Int) : W n ≤ 4611686018427387903 := by unfold W; omega
theorem W_id {n : Int} (h0 : -4611686018427387904 ≤ n) (h1 : n ≤ 4611686018427387903) : W n = n := by unfold W; omega
theorem W_ex (n : Int) : ∃ k, W n = n + 9223372036854775808 * k := ⟨-((n + 4611686018427387904) / 9223372036854775808), by unfold W; omega⟩
theorem W_eq {a b : Int} (k : Int) (h : a = b + 9223372036854775808 * k) : W a = W b := by unfold W; omega
theorem wrap64_ex (n : Int) : ∃ k, wrap64 n = n + 9223372036854775808 * k := ⟨-(2 * ((n + 9223372036854775808) / 18446744073709551616)), by unfold wrap64; omega⟩
theorem W_wrap64 (n : Int) : W (wrap64 n) = W n := by obtain ⟨k, h⟩ := wrap64_ex n; exact W_eq k h
theorem W_W (n : Int) : W (W n) = W n := W_id (W_lo n) (W_hi n)
theorem shl_shr (n : Int) : wrap64 (n * 2) / 2 = W n := by unfold wrap64 W; omega

theorem W_add_l (a b : Int) : W (W a + b) = W (a + b) := by obtain ⟨k, h⟩ := W_ex a; rw [h]; exact W_eq k (by omega)
theorem W_add_r (a b : Int) : W (a + W b) = W (a + b) := by obtain ⟨k, h⟩ := W_ex b; rw [h]; exact W_eq k (by omega)
theorem W_mul_l (a b : Int) : W (W a * b) = W (a * b) := by
  obtain ⟨k, h⟩ := W_ex a; rw [h]; exact W_eq (k * b) (by grind)
theorem W_mul_r (a b : Int) : W (a * W b) = W (a * b) := by
  obtain ⟨k, h⟩ := W_ex b; rw [h]; exact W_eq (a * k) (by grind)
theorem W_neg (a : Int) : W (-W a) = W (-a) := by obtain ⟨k, h⟩ := W_ex a; rw [h]; exact W_eq (-k) (by omega)
theorem W_sub (a b : Int) : W (a + W (-W b)) = W (a - b) := by rw [W_neg, W_add_r]; congr 1

theorem ring_assoc_add (a b c : Int) : W (W (a + b) + c) = W (a + W (b + c)) := by rw [W_add_l, W_add_r, Int.add_assoc]
theorem ring_assoc_mul (a b c : Int) : W (W (a * b) * c) = W (a * W (b * c)) := by rw [W_mul_l, W_mul_r, Int.mul_assoc]
theorem ring_dist (a b c : Int) : W (a * W (b + c)) = W (W (a * b) + W (a * c)) := by rw [W_mul_r, W_add_l, W_add_r, Int.mul_add]
theorem ring_back (a b : Int) : W (W (a + b) - b) = W a := by
  have h := W_add_l (a + b) (-b)
  rw [show W (a + b) - b = W (a + b) + -b from by omega, h]; congr 1; omega

/-! quotients rounded down -/
/-- Is Go's quotient, which is rounded towards 0, above the one that is rounded down? -/
def dd (a b : Int) : Bool := a.tmod b != 0 && (decide (a.tmod b < 0) != decide (b < 0))
def dq (a b : Int) : Int := if dd a b then a.tdiv b - 1 else a.tdiv b
def dr (a b : Int) : Int := if dd a b then a.tmod b + b else a.tmod b
theorem tmod_bd (a b : Int) (hb : b ≠ 0) : (0 < b → -b < a.tmod b ∧ a.tmod b < b) ∧ (b < 0 → b < a.tmod b ∧ a.tmod b < -b) := by
  have h1 := Int.tmod_lt_of_pos a (b := b)
  have h2 := Int.lt_tmod_of_pos a (b := b)
  have h3 := Int.tmod_lt_of_pos a (b := -b)
  have h4 := Int.lt_tmod_of_pos a (b := -b)
  rw [Int.tmod_neg] at h3 h4
  exact ⟨fun h => ⟨h2 h, h1 h⟩, fun h => ⟨by have := h4 (by omega); omega, h3 (by omega)⟩⟩
theorem dq_dr (a b : Int) : dq a b * b + dr a b = a := by
  have h := Int.tmod_add_mul_tdiv a b
  unfold dq dr
  split <;> grind
theorem dr_pos (a b : Int) (hb : 0 < b) : 0 ≤ dr a b ∧ dr a b < b := by
  have h := (tmod_bd a b (by omega)).1 hb
  unfold dr dd
  by_cases h0 : a.tmod b < 0
  · have e : decide (b < 0) = false := by simp; omega
    have e2 : (a.tmod b != 0) = true := by simp; omega
    simp [h0, e, e2]; omega
  · have e : decide (b < 0) = false := by simp; omega
    simp [h0, e]; omega
theorem dr_neg (a b : Int) (hb : b < 0) : dr a b ≤ 0 ∧ b < dr a b := by
  have h := (tmod_bd a b (by omega)).2 hb
  unfold dr dd
  by_cases h0 : a.tmod b < 0
  · simp [h0, hb]; omega
  · by_cases h1 : a.tmod b = 0
    · simp [h1, hb]
    · simp [h0, h1, hb]; omega
theorem tmod_i64 (a b : Int) (hb : b ≠ 0) (hb0 : -9223372036854775808 ≤ b) (hb1 : b ≤ 9223372036854775807) : -9223372036854775808 ≤ a.tmod b ∧ a.tmod b ≤ 9223372036854775807 := by
  have h := tmod_bd a b hb
  rcases Int.lt_or_gt_of_ne hb with h0 | h0
  · have := h.2 h0; omega
  · have := h.1 h0; omega
/-- a - q * b, all wrapped, is what is left. -/
theorem rest64 (a b : Int) (hb : b ≠ 0) (hb0 : -9223372036854775808 ≤ b) (hb1 : b ≤ 9223372036854775807) : wrap64 (a - wrap64 (wrap64 (a.tdiv b) * b)) = a.tmod b := by
  have h := Int.tmod_add_mul_tdiv a b
  have hr := tmod_i64 a b hb hb0 hb1
  obtain ⟨k, hk⟩ : ∃ k, wrap64 (a.tdiv b) = a.tdiv b + 18446744073709551616 * k := ⟨-((a.tdiv b + 9223372036854775808) / 18446744073709551616), by unfold wrap64; omega⟩
  obtain ⟨j, hj⟩ : ∃ j, wrap64 (wrap64 (a.tdiv b) * b) = wrap64 (a.tdiv b) * b + 18446744073709551616 * j := ⟨-((wrap64 (a.tdiv b) * b + 9223372036854775808) / 18446744073709551616), by generalize wrap64 (a.tdiv b) * b = x; unfold wrap64; omega⟩
  rw [hj, hk]
  have e : a - ((a.tdiv b + 18446744073709551616 * k) * b + 18446744073709551616 * j) = a.tmod b + 18446744073709551616 * (-(k * b) - j) := by grind
  rw [e]
  generalize -(k * b) - j = m
  unfold wrap64; omega
theorem dr_i64 (a b : Int) (hb : b ≠ 0) (hb0 : -9223372036854775808 ≤ b) (hb1 : b ≤ 9223372036854775807) : wrap64 (dr a b) = dr a b := by
  rcases Int.lt_or_gt_of_ne hb with h0 | h0
  · have := dr_neg a b h0; unfold wrap64; omega
  · have := dr_pos a b h0; unfold wrap64; omega
theorem W_dq (a b : Int) : W (wrap64 (wrap64 (a.tdiv b) - 1)) = W (a.tdiv b - 1) := by
  rw [W_wrap64]; obtain ⟨k, h⟩ := wrap64_ex (a.tdiv b); rw [h]; exact W_eq k (by omega)

theorem W_dq' (a b : Int) : W (wrap64 (a.tdiv b) - 1) = W (a.tdiv b - 1) := by rw [← W_dq, W_wrap64]
theorem dd_y {a b : Int} (h0 : ¬ a.tmod b = 0) (h : (!decide (a.tmod b < 0) == decide (b < 0)) = true) : dd a b = true := by
  unfold dd; revert h; cases decide (a.tmod b < 0) <;> cases decide (b < 0) <;> simp [h0]
theorem dd_n {a b : Int} (h : (a.tmod b != 0) = false ∨ (!decide (a.tmod b < 0) == decide (b < 0)) = false) : dd a b = false := by
  unfold dd
  rcases h with h | h
  · rw [h]; rfl
  · revert h; cases decide (a.tmod b < 0) <;> cases decide (b < 0) <;> simp
theorem dd_z {a b : Int} (h : a.tmod b = 0) : dd a b = false := by unfold dd; simp [h]

theorem prod_even {x y o : Int} (h : y % 2 = 0) : W (o + W (x + x) * (y / 2)) = W (o + x * y) := by
  rw [← W_add_r, W_mul_l, W_add_r]
  have : y = 2 * (y / 2) := by omega
  congr 1; generalize y / 2 = z at *; subst this; grind
theorem prod_odd {x y o : Int} (h : y % 2 = 1) : W (W (o + x) + W (x + x) * (y / 2)) = W (o + x * y) := by
  rw [W_add_l, ← W_add_r, W_mul_l, W_add_r]
  have : y = 2 * (y / 2) + 1 := by omega
  congr 1; generalize y / 2 = z at *; subst this; grind
theorem prodn_even {x y o : Int} (h : y % 2 = 0) (ht : y.tdiv 2 = -(-y / 2)) : W (-o + W (x + x) * (y.tdiv 2)) = W (-o + x * y) := by
  rw [← W_add_r, W_mul_l, W_add_r]
  have : y = 2 * y.tdiv 2 := by omega
  congr 1; generalize y.tdiv 2 = z at *; subst this; grind
theorem prodn_odd {x y o : Int} (h : y % 2 = 1) (ht : y.tdiv 2 = -(-y / 2)) : W (-W (o + x) + W (x + x) * (y.tdiv 2)) = W (-o + x * y) := by
  rw [← W_add_r, W_mul_l, W_add_r, ← W_add_l, W_neg, W_add_l]
  have : y = 2 * y.tdiv 2 - 1 := by omega
  congr 1; generalize y.tdiv 2 = z at *; subst this; grind
theorem tdiv2_neg {y : Int} (h : y ≤ 0) : y.tdiv 2 = -(-y / 2) ∧ y.tmod 2 = -(y % 2) := by
  obtain ⟨z, rfl⟩ : ∃ z, y = -z := ⟨-y, by omega⟩
  rw [Int.neg_tdiv, Int.neg_tmod, Int.tdiv_eq_ediv_of_nonneg (by omega), Int.tmod_eq_emod_of_nonneg (by omega)]
  constructor <;> omega

/-- A place as a pointer. -/
def ptr (n : Int) : Int := 2 * n % 18446744073709551616
theorem ptr_lo (n : Int) : 0 ≤ ptr n := by unfold ptr; omega
theorem ptr_hi (n : Int) : ptr n < 18446744073709551616 := by unfold ptr; omega
theorem ptr_even (n : Int) : (ptr n % 2 == 1) = false := by unfold ptr; have h : 2 * n % 18446744073709551616 % 2 = 0 := by omega
                                                            rw [h]; rfl

/-! powers of two -/
theorem pow_step (k : Nat) : (2 : Int) ^ k * 2 = 2 ^ (k + 1) := (Int.pow_succ 2 k).symm
end Go.Proofs.Ythfkgkddklnnhaa.M
/- Parts of a word of 64 bits: masks, shifts and joins as quotients, rests and sums. No program in sight. -/
namespace Go.Proofs.Ythfkgkddklnnhaa.M
set_option linter.unusedVariables false
open Go.RowKit

theorem split3 (h s k : Nat) : h = 2 ^ (s + k) * (h / 2 ^ (s + k)) + (2 ^ s * (h / 2 ^ s % 2 ^ k) + h % 2 ^ s) := by
  have h1 := Nat.div_add_mod h (2 ^ s)
  have h2 := Nat.div_add_mod (h / 2 ^ s) (2 ^ k)
  rw [Nat.div_div_eq_div_mul, ← Nat.pow_add] at h2
  have h3 : 2 ^ (s + k) * (h / 2 ^ (s + k)) = 2 ^ s * (2 ^ k * (h / 2 ^ (s + k))) := by rw [Nat.pow_add, Nat.mul_assoc]
  rw [h3, ← Nat.add_assoc, ← Nat.mul_add, h2, h1]

theorem lo_lt (m l s k : Nat) (hm : m < 2 ^ k) (hl : l < 2 ^ s) : 2 ^ s * m + l < 2 ^ (s + k) := by
  have : 2 ^ s * (m + 1) ≤ 2 ^ s * 2 ^ k := Nat.mul_le_mul_left _ hm
  rw [Nat.pow_add]; rw [Nat.mul_add] at this; omega

theorem with_nat (h s k m : Nat) (hk : s + k ≤ 64) (hm : m < 2 ^ k) (hh : h < 2 ^ 64) :
    (h &&& (2 ^ 64 - ((2 ^ k - 1) * 2 ^ s + 1))) ||| (2 ^ s * m) = h - 2 ^ s * (h / 2 ^ s % 2 ^ k) + 2 ^ s * m := by
  have hs := split3 h s k
  have hl : h % 2 ^ s < 2 ^ s := Nat.mod_lt _ (Nat.two_pow_pos s)
  have hmid : h / 2 ^ s % 2 ^ k < 2 ^ k := Nat.mod_lt _ (Nat.two_pow_pos k)
  have hr : h - 2 ^ s * (h / 2 ^ s % 2 ^ k) + 2 ^ s * m = 2 ^ (s + k) * (h / 2 ^ (s + k)) + (2 ^ s * m + h % 2 ^ s) := by omega
  have hmask : (2 ^ k - 1) * 2 ^ s < 2 ^ 64 := by
    have h1 : (2 ^ k - 1) * 2 ^ s < 2 ^ k * 2 ^ s := Nat.mul_lt_mul_of_pos_right (Nat.sub_lt (Nat.two_pow_pos k) (by decide)) (Nat.two_pow_pos s)
    rw [← Nat.pow_add] at h1
    exact Nat.lt_of_lt_of_le h1 (Nat.pow_le_pow_right (by decide) (by omega))
  rw [hr]
  apply Nat.eq_of_testBit_eq
  intro j
  rw [Nat.testBit_or, Nat.testBit_and, Nat.testBit_two_pow_sub_succ hmask, Nat.testBit_two_pow_mul, Nat.testBit_mul_two_pow, Nat.testBit_two_pow_sub_one,
    Nat.testBit_two_pow_mul_add _ (lo_lt _ _ _ _ hm hl), Nat.testBit_two_pow_mul_add _ hl]
  have hb : h.testBit j = if j < s + k then (if j < s then (h % 2 ^ s).testBit j else (h / 2 ^ s % 2 ^ k).testBit (j - s)) else (h / 2 ^ (s + k)).testBit (j - (s + k)) := by
    conv => lhs; rw [hs]
    rw [Nat.testBit_two_pow_mul_add _ (lo_lt _ _ _ _ hmid hl), Nat.testBit_two_pow_mul_add _ hl]
  by_cases h1 : j < s
  · have a1 : ¬ s ≤ j := by omega
    have a2 : j < s + k := by omega
    have a3 : j < 64 := by omega
    rw [hb, if_pos a2, if_pos h1, if_pos a2, if_pos h1]; simp [a1, a3]
  · have a1 : s ≤ j := by omega
    by_cases h2 : j < s + k
    · have a2 : j - s < k := by omega
      have a3 : j < 64 := by omega
      simp [h1, h2, a1, a2, a3]
    · have a2 : ¬ j - s < k := by omega
      have a3 : m.testBit (j - s) = false := Nat.testBit_lt_two_pow (Nat.lt_of_lt_of_le hm (Nat.pow_le_pow_right (by decide) (by omega)))
      by_cases a4 : j < 64
      · rw [hb]; simp [h2, a1, a2, a3, a4]
      · have a5 : h.testBit j = false := Nat.testBit_lt_two_pow (Nat.lt_of_lt_of_le hh (Nat.pow_le_pow_right (by decide) (by omega)))
        have a6 := a5; rw [hb] at a6; simp [h2] at a6
        simp [h2, a1, a2, a3, a4, a6]

theorem wraps_u64 (n : Int) (h₀ : 0 ≤ n) (h₁ : n < 2 ^ 64) : IntKind.u64.wrap n = n := by rw [IntKind.wrap_u64]; omega
theorem u64_lt (n : Int) : IntKind.u64.wrap n < 18446744073709551616 := by rw [IntKind.wrap_u64]; omega
theorem u64_nn (n : Int) : 0 ≤ IntKind.u64.wrap n := by rw [IntKind.wrap_u64]; omega
theorem and20 (x : Int) (h0 : 0 ≤ x) (h1 : x < 18446744073709551616) : bits .and .u64 x 1048575 = x % 1048576 :=
  bits_mask .u64 64 (by decide) wraps_u64 20 (by decide) x h0 (by omega)
theorem and1 (x : Int) (h0 : 0 ≤ x) (h1 : x < 18446744073709551616) : bits .and .u64 x 1 = x % 2 :=
  bits_mask .u64 64 (by decide) wraps_u64 1 (by decide) x h0 (by omega)
theorem or1 (x : Int) (h0 : 0 ≤ x) (h1 : x < 18446744073709551616) (h2 : x % 2 = 0) : bits .or .u64 x 1 = x + 1 :=
  bits_join .u64 64 (by decide) wraps_u64 1 x 1 h0 (by simpa using h2) (by omega) (by decide) (by decide) (by decide)

/-- A field of h, and h with another one in its place. -/
def fld (h s k : Int) : Int := h / s % k
def put (h s k m : Int) : Int := h - s * (h / s % k) + s * (m % k)

theorem with_int (h m : Int) (s k : Nat) (hk : s + k ≤ 64) (h0 : 0 ≤ h) (h1 : h < 18446744073709551616) :
    bits .or .u64 (bits .andNot .u64 h (((2 ^ k - 1) * 2 ^ s : Nat) : Int)) (((2 ^ s : Nat) : Int) * (m % ((2 ^ k : Nat) : Int))) = put h ((2 ^ s : Nat) : Int) ((2 ^ k : Nat) : Int) m := by
  obtain ⟨H, rfl⟩ := Int.eq_ofNat_of_zero_le h0
  have hkp : 0 < 2 ^ k := Nat.two_pow_pos k
  obtain ⟨M, hM⟩ := Int.eq_ofNat_of_zero_le (Int.emod_nonneg m (b := ((2 ^ k : Nat) : Int)) (by omega))
  have hM2 : M < 2 ^ k := by have := Int.emod_lt_of_pos m (b := ((2 ^ k : Nat) : Int)) (by omega); omega
  have hmask : (2 ^ k - 1) * 2 ^ s < 2 ^ 64 := by
    have h1 : (2 ^ k - 1) * 2 ^ s < 2 ^ k * 2 ^ s := Nat.mul_lt_mul_of_pos_right (Nat.sub_lt (Nat.two_pow_pos k) (by decide)) (Nat.two_pow_pos s)
    rw [← Nat.pow_add] at h1
    exact Nat.lt_of_lt_of_le h1 (Nat.pow_le_pow_right (by decide) (by omega))
  have hfin := with_nat H s k M hk hM2 (by omega)
  have hsm : 2 ^ s * M < 2 ^ 64 := by
    have := lo_lt M 0 s k hM2 (Nat.two_pow_pos s)
    exact Nat.lt_of_lt_of_le this (Nat.pow_le_pow_right (by decide) hk)
  have hle : 2 ^ s * (H / 2 ^ s % 2 ^ k) ≤ H := by have := split3 H s k; omega
  rw [hM, u64_andNot_nat H _ (by omega) (by omega)]
  have e1 : ((2 ^ s : Nat) : Int) * (M : Int) = ((2 ^ s * M : Nat) : Int) := by simp
  have e2 : 18446744073709551615 - (2 ^ k - 1) * 2 ^ s = 2 ^ 64 - ((2 ^ k - 1) * 2 ^ s + 1) := by omega
  rw [e1, u64_or_nat _ _ (by have := Nat.and_le_left (n := H) (m := 18446744073709551615 - (2 ^ k - 1) * 2 ^ s); omega) (by omega), e2, hfin]
  unfold put
  rw [hM, Int.natCast_add, Int.natCast_sub hle]
  simp

theorem fld_lo (h s k : Int) (hk : 0 < k) : 0 ≤ fld h s k := Int.emod_nonneg _ (by omega)
theorem fld_hi (h s k : Int) (hk : 0 < k) : fld h s k < k := Int.emod_lt_of_pos _ hk
theorem and20s (x : Int) : bits .and .i64 x 1048575 = x % 1048576 := by
  show IntKind.i64.wrap ((BitVec.ofInt 64 x &&& BitVec.ofInt 64 1048575).toNat : Int) = _
  have h1 : (BitVec.ofInt 64 x).toNat = (x % 18446744073709551616).toNat := by simp [BitVec.toNat_ofInt]
  have h2 : (BitVec.ofInt 64 1048575).toNat = 2 ^ 20 - 1 := by decide
  rw [BitVec.toNat_and, h1, h2, Nat.and_two_pow_sub_one_eq_mod, IntKind.wrap_i64]
  omega
/-- A head with all its parts. -/
def hd (a n o k : Int) : Int := 1 + 2 * (a % 1048576) + 2097152 * (n % 1048576) + 2199023255552 * (o % 2) + 4398046511104 * (k % 1048576)
theorem hd_lo (a n o k : Int) : 0 ≤ hd a n o k := by unfold hd; omega
theorem hd_hi (a n o k : Int) : hd a n o k < 18446744073709551616 := by unfold hd; omega
theorem hd_head (a n : Int) : put (put 1 2 1048576 a) 2097152 1048576 n = hd a n 0 0 := by unfold put hd; omega
theorem hd_mark (a n o k p : Int) : put (hd a n o k) 2199023255552 2 p = hd a n p k := by unfold put hd; omega
theorem hd_turn (a n o k j : Int) : put (hd a n o k) 4398046511104 1048576 j = hd a n o j := by unfold put hd; omega
theorem hd_shape (a n o k : Int) : fld (hd a n o k) 2 1048576 = a % 1048576 := by unfold fld hd; omega
theorem hd_len (a n o k : Int) : fld (hd a n o k) 2097152 1048576 = n % 1048576 := by unfold fld hd; omega
theorem hd_marked (a n o k : Int) : fld (hd a n o k) 2199023255552 2 = o % 2 := by unfold fld hd; omega
theorem hd_turned (a n o k : Int) : fld (hd a n o k) 4398046511104 1048576 = k % 1048576 := by unfold fld hd; omega
theorem hd_odd (a n o k : Int) : hd a n o k % 2 = 1 := by unfold hd; omega
theorem put_wrap (h k : Int) : put h 4398046511104 1048576 (IntKind.u64.wrap k) = put h 4398046511104 1048576 k := by rw [IntKind.wrap_u64]; unfold put; omega

def pw (n : Nat) : Nat := 2 ^ n
theorem pw_succ (n : Nat) : pw (n + 1) = pw n * 2 := Nat.pow_succ ..
theorem pw_lt (n : Nat) (h : n < 64) : pw n < 18446744073709551616 := Nat.pow_lt_pow_right (m := n) (n := 64) (by decide) h

theorem mark_on_nat (h s : Nat) (hs : s < 64) (hh : h < 2 ^ 64) : h ||| 2 ^ s = h - 2 ^ s * (h / 2 ^ s % 2) + 2 ^ s := by
  have e := with_nat h s 1 1 (by omega) (by decide) hh
  simp only [Nat.mul_one, Nat.pow_one] at e
  rw [← e]
  have hp : 2 ^ s < 2 ^ 64 := Nat.pow_lt_pow_right (by decide) hs
  apply Nat.eq_of_testBit_eq
  intro j
  rw [Nat.testBit_or, Nat.testBit_or, Nat.testBit_and, Nat.testBit_two_pow_sub_succ (by omega)]
  have e1 : (2 - 1) * 2 ^ s = 2 ^ s := by omega
  rw [e1]
  by_cases h1 : j < 64
  · cases h.testBit j <;> cases (2 ^ s).testBit j <;> simp [h1]
  · have a5 : h.testBit j = false := Nat.testBit_lt_two_pow (Nat.lt_of_lt_of_le hh (Nat.pow_le_pow_right (by decide) (by omega)))
    rw [a5]; simp
theorem mark_on_int (h : Int) (h0 : 0 ≤ h) (h1 : h < 18446744073709551616) : bits .or .u64 h 2199023255552 = put h 2199023255552 2 1 := by
  obtain ⟨H, rfl⟩ := Int.eq_ofNat_of_zero_le h0
  have e := u64_or_nat H 2199023255552 (by omega) (by omega)
  have e2 := mark_on_nat H 41 (by decide) (by omega)
  simp only [Nat.reducePow] at e2
  rw [e2] at e
  have e3 : (2199023255552 : Int) = ((2199023255552 : Nat) : Int) := rfl
  rw [e3, e]
  unfold put
  omega
theorem mark_off_int (h : Int) (h0 : 0 ≤ h) (h1 : h < 18446744073709551616) : bits .andNot .u64 h 2199023255552 = put h 2199023255552 2 0 := by
  obtain ⟨H, rfl⟩ := Int.eq_ofNat_of_zero_le h0
  have e := u64_andNot_nat H 2199023255552 (by omega) (by omega)
  have e2 := with_nat H 41 1 0 (by decide) (by decide) (by omega)
  simp only [Nat.reducePow, Nat.reduceSub, Nat.reduceMul, Nat.mul_zero, Nat.or_zero, Nat.reduceAdd] at e2
  have e3 : (2199023255552 : Int) = ((2199023255552 : Nat) : Int) := rfl
  rw [e3, e]
  simp only [Nat.reduceSub]
  rw [e2]
  unfold put
  omega
end Go.Proofs.Ythfkgkddklnnhaa.M
/- Contracts of layer 1's words and heads, as far as layer 2 uses them, and of the document's own ones. -/
namespace Go.Proofs.Ythfkgkddklnnhaa
set_option linter.unusedVariables false
open Go.ChangeShapes Go.WideShapes Go.ChangeAt Go.RowKit
open M (W)

theorem ret_int {k : IntKind} {a b : Int} (h : a = b) : Ending.returned (.int k a) = .returned (.int k b) := by rw [h]
theorem ret_u {k : IntKind} {a b : Int} {w : World} (h : a = b) : Ending.returned (.int k a) = .returned (.int k b) ∧ w = w := ⟨by rw [h], rfl⟩
theorem ret_b {a b : Bool} {w : World} (h : a = b) : Ending.returned (.bool a) = .returned (.bool b) ∧ w = w := ⟨by rw [h], rfl⟩

theorem part1_any (h : Int) (w : World) (h0 : 0 ≤ h) (h1 : h < 18446744073709551616) : Calls Try.prog 102 #[.int .u64 h, .int .i64 1] w fun e w' => e = .returned (.int .i64 (M.fld h 2 1048576)) ∧ w' = w := by
  go_enter Try.func102, Try.ntmps102
  go_wp2
  go_ret
  exact ret_u (by rw [M.and20 _ (by omega) (by omega)]; unfold M.fld wrap64; omega)
theorem with1_any (h n : Int) (w : World) (h0 : 0 ≤ h) (h1 : h < 18446744073709551616) : Calls Try.prog 87 #[.int .u64 h, .int .i64 1, .int .i64 n] w fun e w' => e = .returned (.int .u64 (M.put h 2 1048576 n)) ∧ ∃ n, w' = w.drewN n := by
  have u0 := M.u64_nn n
  have u1 := M.u64_lt n
  have hm := M.and20 _ u0 u1
  have hj := M.with_int h n 1 20 (by decide) h0 h1
  have HM := Lib.hid hm; clear hm
  have HJ := Lib.hid hj; clear hj
  go_enter Try.func87, Try.ntmps87
  go_wp2
  go_quiet (fail)
  go_wp2
  go_ret
  refine ⟨ret_int ?_, _, rfl⟩
  rw [HM.out, IntKind.wrap_u64, IntKind.wrap_u64]
  have := HJ.out
  simp only [Nat.reducePow, Nat.reduceSub, Nat.reduceMul, Int.cast_ofNat_Int] at this
  rw [← this]
  congr 1; omega

theorem part21_any (h : Int) (w : World) (h0 : 0 ≤ h) (h1 : h < 18446744073709551616) : Calls Try.prog 102 #[.int .u64 h, .int .i64 21] w fun e w' => e = .returned (.int .i64 (M.fld h 2097152 1048576)) ∧ w' = w := by
  go_enter Try.func102, Try.ntmps102
  go_wp2
  go_ret
  exact ret_u (by rw [M.and20 _ (by omega) (by omega)]; unfold M.fld wrap64; omega)
theorem with21_any (h n : Int) (w : World) (h0 : 0 ≤ h) (h1 : h < 18446744073709551616) : Calls Try.prog 87 #[.int .u64 h, .int .i64 21, .int .i64 n] w fun e w' => e = .returned (.int .u64 (M.put h 2097152 1048576 n)) ∧ ∃ n, w' = w.drewN n := by
  have u0 := M.u64_nn n
  have u1 := M.u64_lt n
  have hm := M.and20 _ u0 u1
  have hj := M.with_int h n 21 20 (by decide) h0 h1
  have HM := Lib.hid hm; clear hm
  have HJ := Lib.hid hj; clear hj
  go_enter Try.func87, Try.ntmps87
  go_wp2
  go_quiet (fail)
  go_wp2
  go_ret
  refine ⟨ret_int ?_, _, rfl⟩
  rw [HM.out, IntKind.wrap_u64, IntKind.wrap_u64]
  have := HJ.out
  simp only [Nat.reducePow, Nat.reduceSub, Nat.reduceMul, Int.cast_ofNat_Int] at this
  rw [← this]
  congr 1; omega

theorem part42_any (h : Int) (w : World) (h0 : 0 ≤ h) (h1 : h < 18446744073709551616) : Calls Try.prog 102 #[.int .u64 h, .int .i64 42] w fun e w' => e = .returned (.int .i64 (M.fld h 4398046511104 1048576)) ∧ w' = w := by
  go_enter Try.func102, Try.ntmps102
  go_wp2
  go_ret
  exact ret_u (by rw [M.and20 _ (by omega) (by omega)]; unfold M.fld wrap64; omega)
theorem with42_any (h n : Int) (w : World) (h0 : 0 ≤ h) (h1 : h < 18446744073709551616) : Calls Try.prog 87 #[.int .u64 h, .int .i64 42, .int .i64 n] w fun e w' => e = .returned (.int .u64 (M.put h 4398046511104 1048576 n)) ∧ ∃ n, w' = w.drewN n := by
  have u0 := M.u64_nn n
  have u1 := M.u64_lt n
  have hm := M.and20 _ u0 u1
  have hj := M.with_int h n 42 20 (by decide) h0 h1
  have HM := Lib.hid hm; clear hm
  have HJ := Lib.hid hj; clear hj
  go_enter Try.func87, Try.ntmps87
  go_wp2
  go_quiet (fail)
  go_wp2
  go_ret
  refine ⟨ret_int ?_, _, rfl⟩
  rw [HM.out, IntKind.wrap_u64, IntKind.wrap_u64]
  have := HJ.out
  simp only [Nat.reducePow, Nat.reduceSub, Nat.reduceMul, Int.cast_ofNat_Int] at this
  rw [← this]
  congr 1; omega

theorem head_any (a n : Int) (w : World) : Calls Try.prog 61 #[.int .i64 a, .int .i64 n] w fun e w' => e = .returned (.int .u64 (M.put (M.put 1 2 1048576 a) 2097152 1048576 n)) ∧ ∃ n, w' = w.drewN n := by
  have p0 : 0 ≤ M.put 1 2 1048576 a ∧ M.put 1 2 1048576 a < 18446744073709551616 := by unfold M.put; omega
  obtain ⟨p0, p1⟩ := p0
  go_enter Try.func61, Try.ntmps61
  go_wp2_with fail
  refine (with1_any _ _ _ (by omega) (by omega)).mono ?_; rintro e w' ⟨rfl, k, rfl⟩
  go_wp2_with fail
  refine (with21_any _ _ _ p0 p1).mono ?_; rintro e w' ⟨rfl, j, rfl⟩
  go_wp2_with fail
  go_ret
  exact ⟨rfl, k + j, by simp⟩
theorem shape_any (h : Int) (w : World) (h0 : 0 ≤ h) (h1 : h < 18446744073709551616) : Calls Try.prog 100 #[.int .u64 h] w fun e w' => e = .returned (.int .i64 (M.fld h 2 1048576)) ∧ w' = w := by
  go_enter Try.func100, Try.ntmps100
  go_wp2_with fail
  refine (part1_any _ _ h0 h1).mono ?_; rintro e w' ⟨rfl, rfl⟩
  go_wp2_with fail
  go_ret
  exact ⟨rfl, rfl⟩
theorem len_any (h : Int) (w : World) (h0 : 0 ≤ h) (h1 : h < 18446744073709551616) : Calls Try.prog 101 #[.int .u64 h] w fun e w' => e = .returned (.int .i64 (M.fld h 2097152 1048576)) ∧ w' = w := by
  go_enter Try.func101, Try.ntmps101
  go_wp2_with fail
  refine (part21_any _ _ h0 h1).mono ?_; rintro e w' ⟨rfl, rfl⟩
  go_wp2_with fail
  go_ret
  exact ⟨rfl, rfl⟩
theorem turned_any (h : Int) (w : World) (h0 : 0 ≤ h) (h1 : h < 18446744073709551616) : Calls Try.prog 94 #[.int .u64 h] w fun e w' => e = .returned (.int .i64 (M.fld h 4398046511104 1048576)) ∧ w' = w := by
  go_enter Try.func94, Try.ntmps94
  go_wp2_with fail
  refine (part42_any _ _ h0 h1).mono ?_; rintro e w' ⟨rfl, rfl⟩
  go_wp2_with fail
  go_ret
  exact ⟨rfl, rfl⟩
theorem turn_any (h k : Int) (w : World) (h0 : 0 ≤ h) (h1 : h < 18446744073709551616) : Calls Try.prog 95 #[.int .u64 h, .int .i64 k] w fun e w' => e = .returned (.int .u64 (M.put h 4398046511104 1048576 k)) ∧ ∃ n, w' = w.drewN n := by
  go_enter Try.func95, Try.ntmps95
  go_wp2_with fail
  refine (with42_any _ _ _ h0 h1).mono ?_; rintro e w' ⟨rfl, n, rfl⟩
  go_wp2_with fail
  go_ret
  exact ⟨rfl, n, rfl⟩
theorem marked_any (h : Int) (w : World) (h0 : 0 ≤ h) (h1 : h < 18446744073709551616) : Calls Try.prog 93 #[.int .u64 h] w fun e w' => e = .returned (.bool (M.fld h 2199023255552 2 == 1)) ∧ w' = w := by
  go_enter Try.func93, Try.ntmps93
  go_wp2
  go_ret
  exact ret_b (by rw [M.and1 _ (by omega) (by omega)]; rfl)
theorem mark_on (h : Int) (w : World) (h0 : 0 ≤ h) (h1 : h < 18446744073709551616) : Calls Try.prog 83 #[.int .u64 h, .bool true] w fun e w' => e = .returned (.int .u64 (M.put h 2199023255552 2 1)) ∧ w' = w := by
  go_enter Try.func83, Try.ntmps83
  go_wp2
  go_ret
  exact ret_u (M.mark_on_int h h0 h1)
theorem mark_off (h : Int) (w : World) (h0 : 0 ≤ h) (h1 : h < 18446744073709551616) : Calls Try.prog 83 #[.int .u64 h, .bool false] w fun e w' => e = .returned (.int .u64 (M.put h 2199023255552 2 0)) ∧ w' = w := by
  go_enter Try.func83, Try.ntmps83
  go_wp2
  go_ret
  exact ret_u (M.mark_off_int h h0 h1)
theorem imm_any (n : Int) (w : World) : Calls Try.prog 42 #[.int .i64 n] w fun e w' => e = .returned (.int .u64 ((2 * n + 1) % 18446744073709551616)) ∧ w' = w := by
  go_enter Try.func42, Try.ntmps42
  go_wp2
  go_ret
  exact ret_u (by rw [M.or1 _ (M.u64_nn _) (M.u64_lt _) (by rw [IntKind.wrap_u64]; omega), IntKind.wrap_u64, IntKind.wrap_u64]; omega)
theorem isImm_any (h : Int) (w : World) (h0 : 0 ≤ h) (h1 : h < 18446744073709551616) : Calls Try.prog 49 #[.int .u64 h] w fun e w' => e = .returned (.bool (h % 2 == 1)) ∧ w' = w := by
  go_enter Try.func49, Try.ntmps49
  go_wp2
  go_ret
  exact ret_b (by rw [M.and1 _ (by omega) (by omega)])
theorem ptr_wrap (n : Int) : IntKind.u64.wrap (IntKind.u64.wrap n * 2) = M.ptr n := by rw [IntKind.wrap_u64, IntKind.wrap_u64]; unfold M.ptr; omega
theorem ptr_any (n : Int) (w : World) : Calls Try.prog 29 #[.int .i64 n] w fun e w' => e = .returned (.int .u64 (M.ptr n)) ∧ w' = w := by
  go_enter Try.func29, Try.ntmps29
  go_wp2
  go_ret
  exact ret_u (ptr_wrap n)
theorem at_any (h : Int) (w : World) (h0 : 0 ≤ h) (h1 : h < 18446744073709551616) : Calls Try.prog 51 #[.int .u64 h] w fun e w' => e = .returned (.int .i64 (h / 2)) ∧ w' = w := by
  go_enter Try.func51, Try.ntmps51
  go_wp2
  go_ret
  exact ret_u (by first | rfl | (unfold wrap64; omega))

theorem power_any (n : Nat) (w : World) (hn : n < 64) : Calls Try.prog 66 #[.int .i64 n] w fun e w' => e = .returned (.int .u64 (M.pw n)) ∧ w' = w := by
  go_enter Try.func66, Try.ntmps66
  go_wp2
  go_loop [3, 4] (fun x i => ∃ k : Nat, k ≤ n ∧ i = .int .i64 k ∧ x = .int .u64 (M.pw k)) (fun _ i => n - (intOf i).toNat)
  case atStart => exact ⟨0, by omega, rfl, rfl⟩
  case round =>
    obtain ⟨k, hk, rfl, rfl⟩ := hrel
    by_cases hlt : k < n
    · have hp := M.pw_lt (k + 1) (by omega)
      have hp2 := M.pw_succ k
      have hq : M.pw k * 2 < 18446744073709551616 := by omega
      have HP := Lib.hid hp2; clear hp2 hp
      go_wp2
      go_round
      case rel => exact ⟨k + 1, by omega, by go_num, by rw [HP.out]; go_num⟩
      case measure => simp [intOf]; omega
    · have : k = n := by omega
      subst this
      go_wp2
      go_ret
      exact ⟨rfl, rfl⟩
theorem power1 (w : World) : Calls Try.prog 66 #[.int .i64 1] w fun e w' => e = .returned (.int .u64 2) ∧ w' = w := power_any 1 w (by decide)
theorem power20 (w : World) : Calls Try.prog 66 #[.int .i64 20] w fun e w' => e = .returned (.int .u64 1048576) ∧ w' = w := power_any 20 w (by decide)
theorem power21 (w : World) : Calls Try.prog 66 #[.int .i64 21] w fun e w' => e = .returned (.int .u64 2097152) ∧ w' = w := power_any 21 w (by decide)
theorem power41 (w : World) : Calls Try.prog 66 #[.int .i64 41] w fun e w' => e = .returned (.int .u64 2199023255552) ∧ w' = w := power_any 41 w (by decide)
theorem power42 (w : World) : Calls Try.prog 66 #[.int .i64 42] w fun e w' => e = .returned (.int .u64 4398046511104) ∧ w' = w := power_any 42 w (by decide)
theorem power62 (w : World) : Calls Try.prog 66 #[.int .i64 62] w fun e w' => e = .returned (.int .u64 4611686018427387904) ∧ w' = w := power_any 62 w (by decide)

theorem refField1 (h : Int) (w : World) (h0 : 0 ≤ h) (h1 : h < 18446744073709551616) : Calls Try.prog 32 #[.int .u64 h, .int .i64 1, .int .i64 20] w fun e w' => e = .returned (.int .u64 (h / 2 % 1048576)) ∧ ∃ n, w' = w.drewN n := by
  go_enter Try.func32, Try.ntmps32
  go_wp2_with fail
  go_quiet ((go_at_call 66; (first | (with_reducible exact Calls.quiet_of_same (power1 _)) | (with_reducible exact Calls.quiet_of_same (power20 _)) | (with_reducible exact Calls.quiet_of_same (power21 _)) | (with_reducible exact Calls.quiet_of_same (power41 _)) | (with_reducible exact Calls.quiet_of_same (power42 _)))))
  go_wp2
  go_ret
  exact ⟨ret_int (by first | rfl | (simp only [IntKind.wrap_u64]; omega)), _, rfl⟩
theorem refWith1 (h x : Int) (w : World) (h0 : 0 ≤ h) (h1 : h < 18446744073709551616) (x0 : 0 ≤ x) (x1 : x < 18446744073709551616) : Calls Try.prog 65 #[.int .u64 h, .int .i64 1, .int .i64 20, .int .u64 x] w fun e w' => e = .returned (.int .u64 (M.put h 2 1048576 x)) ∧ ∃ n, w' = w.drewN n := by
  go_enter Try.func65, Try.ntmps65
  go_wp2_with fail
  go_quiet (first | (go_at_call 32; exact Calls.quiet_of (refField1 _ _ h0 h1)) | (go_at_call 66; (first | (with_reducible exact Calls.quiet_of_same (power1 _)) | (with_reducible exact Calls.quiet_of_same (power20 _)) | (with_reducible exact Calls.quiet_of_same (power21 _)) | (with_reducible exact Calls.quiet_of_same (power41 _)) | (with_reducible exact Calls.quiet_of_same (power42 _)))))
  go_wp2
  go_ret
  exact ⟨ret_int (by unfold M.put; omega), _, rfl⟩

theorem refField21 (h : Int) (w : World) (h0 : 0 ≤ h) (h1 : h < 18446744073709551616) : Calls Try.prog 32 #[.int .u64 h, .int .i64 21, .int .i64 20] w fun e w' => e = .returned (.int .u64 (h / 2097152 % 1048576)) ∧ ∃ n, w' = w.drewN n := by
  go_enter Try.func32, Try.ntmps32
  go_wp2_with fail
  go_quiet ((go_at_call 66; (first | (with_reducible exact Calls.quiet_of_same (power1 _)) | (with_reducible exact Calls.quiet_of_same (power20 _)) | (with_reducible exact Calls.quiet_of_same (power21 _)) | (with_reducible exact Calls.quiet_of_same (power41 _)) | (with_reducible exact Calls.quiet_of_same (power42 _)))))
  go_wp2
  go_ret
  exact ⟨ret_int (by first | rfl | (simp only [IntKind.wrap_u64]; omega)), _, rfl⟩
theorem refWith21 (h x : Int) (w : World) (h0 : 0 ≤ h) (h1 : h < 18446744073709551616) (x0 : 0 ≤ x) (x1 : x < 18446744073709551616) : Calls Try.prog 65 #[.int .u64 h, .int .i64 21, .int .i64 20, .int .u64 x] w fun e w' => e = .returned (.int .u64 (M.put h 2097152 1048576 x)) ∧ ∃ n, w' = w.drewN n := by
  go_enter Try.func65, Try.ntmps65
  go_wp2_with fail
  go_quiet (first | (go_at_call 32; exact Calls.quiet_of (refField21 _ _ h0 h1)) | (go_at_call 66; (first | (with_reducible exact Calls.quiet_of_same (power1 _)) | (with_reducible exact Calls.quiet_of_same (power20 _)) | (with_reducible exact Calls.quiet_of_same (power21 _)) | (with_reducible exact Calls.quiet_of_same (power41 _)) | (with_reducible exact Calls.quiet_of_same (power42 _)))))
  go_wp2
  go_ret
  exact ⟨ret_int (by unfold M.put; omega), _, rfl⟩

theorem refField42 (h : Int) (w : World) (h0 : 0 ≤ h) (h1 : h < 18446744073709551616) : Calls Try.prog 32 #[.int .u64 h, .int .i64 42, .int .i64 20] w fun e w' => e = .returned (.int .u64 (h / 4398046511104 % 1048576)) ∧ ∃ n, w' = w.drewN n := by
  go_enter Try.func32, Try.ntmps32
  go_wp2_with fail
  go_quiet ((go_at_call 66; (first | (with_reducible exact Calls.quiet_of_same (power1 _)) | (with_reducible exact Calls.quiet_of_same (power20 _)) | (with_reducible exact Calls.quiet_of_same (power21 _)) | (with_reducible exact Calls.quiet_of_same (power41 _)) | (with_reducible exact Calls.quiet_of_same (power42 _)))))
  go_wp2
  go_ret
  exact ⟨ret_int (by first | rfl | (simp only [IntKind.wrap_u64]; omega)), _, rfl⟩
theorem refWith42 (h x : Int) (w : World) (h0 : 0 ≤ h) (h1 : h < 18446744073709551616) (x0 : 0 ≤ x) (x1 : x < 18446744073709551616) : Calls Try.prog 65 #[.int .u64 h, .int .i64 42, .int .i64 20, .int .u64 x] w fun e w' => e = .returned (.int .u64 (M.put h 4398046511104 1048576 x)) ∧ ∃ n, w' = w.drewN n := by
  go_enter Try.func65, Try.ntmps65
  go_wp2_with fail
  go_quiet (first | (go_at_call 32; exact Calls.quiet_of (refField42 _ _ h0 h1)) | (go_at_call 66; (first | (with_reducible exact Calls.quiet_of_same (power1 _)) | (with_reducible exact Calls.quiet_of_same (power20 _)) | (with_reducible exact Calls.quiet_of_same (power21 _)) | (with_reducible exact Calls.quiet_of_same (power41 _)) | (with_reducible exact Calls.quiet_of_same (power42 _)))))
  go_wp2
  go_ret
  exact ⟨ret_int (by unfold M.put; omega), _, rfl⟩

theorem refField41 (h : Int) (w : World) (h0 : 0 ≤ h) (h1 : h < 18446744073709551616) : Calls Try.prog 32 #[.int .u64 h, .int .i64 41, .int .i64 1] w fun e w' => e = .returned (.int .u64 (h / 2199023255552 % 2)) ∧ ∃ n, w' = w.drewN n := by
  go_enter Try.func32, Try.ntmps32
  go_wp2_with fail
  go_quiet ((go_at_call 66; (first | (with_reducible exact Calls.quiet_of_same (power1 _)) | (with_reducible exact Calls.quiet_of_same (power20 _)) | (with_reducible exact Calls.quiet_of_same (power21 _)) | (with_reducible exact Calls.quiet_of_same (power41 _)) | (with_reducible exact Calls.quiet_of_same (power42 _)))))
  go_wp2
  go_ret
  exact ⟨ret_int (by first | rfl | (simp only [IntKind.wrap_u64]; omega)), _, rfl⟩
theorem refWith41 (h x : Int) (w : World) (h0 : 0 ≤ h) (h1 : h < 18446744073709551616) (x0 : 0 ≤ x) (x1 : x < 18446744073709551616) : Calls Try.prog 65 #[.int .u64 h, .int .i64 41, .int .i64 1, .int .u64 x] w fun e w' => e = .returned (.int .u64 (M.put h 2199023255552 2 x)) ∧ ∃ n, w' = w.drewN n := by
  go_enter Try.func65, Try.ntmps65
  go_wp2_with fail
  go_quiet (first | (go_at_call 32; exact Calls.quiet_of (refField41 _ _ h0 h1)) | (go_at_call 66; (first | (with_reducible exact Calls.quiet_of_same (power1 _)) | (with_reducible exact Calls.quiet_of_same (power20 _)) | (with_reducible exact Calls.quiet_of_same (power21 _)) | (with_reducible exact Calls.quiet_of_same (power41 _)) | (with_reducible exact Calls.quiet_of_same (power42 _)))))
  go_wp2
  go_ret
  exact ⟨ret_int (by unfold M.put; omega), _, rfl⟩

theorem refHead_any (a n : Int) (w : World) : Calls Try.prog 30 #[.int .i64 a, .int .i64 n] w fun e w' => e = .returned (.int .u64 (M.put (M.put 1 2 1048576 a) 2097152 1048576 n)) ∧ ∃ n, w' = w.drewN n := by
  have p0 : 0 ≤ M.put 1 2 1048576 (IntKind.u64.wrap a) ∧ M.put 1 2 1048576 (IntKind.u64.wrap a) < 18446744073709551616 := by unfold M.put; omega
  obtain ⟨p0, p1⟩ := p0
  go_enter Try.func30, Try.ntmps30
  go_wp2_with fail
  refine (refWith1 _ _ _ (by omega) (by omega) (M.u64_nn _) (M.u64_lt _)).mono ?_; rintro e w' ⟨rfl, k, rfl⟩
  go_wp2_with fail
  refine (refWith21 _ _ _ p0 p1 (M.u64_nn _) (M.u64_lt _)).mono ?_; rintro e w' ⟨rfl, j, rfl⟩
  go_wp2_with fail
  go_ret
  exact ⟨ret_int (by rw [IntKind.wrap_u64, IntKind.wrap_u64]; unfold M.put; omega), k + j, by simp⟩
theorem refFld1 (h : Int) (w : World) (h0 : 0 ≤ h) (h1 : h < 18446744073709551616) : Calls Try.prog 32 #[.int .u64 h, .int .i64 1, .int .i64 20] w fun e w' => e = .returned (.int .u64 (M.fld h 2 1048576)) ∧ ∃ n, w' = w.drewN n := refField1 h w h0 h1
theorem refFld21 (h : Int) (w : World) (h0 : 0 ≤ h) (h1 : h < 18446744073709551616) : Calls Try.prog 32 #[.int .u64 h, .int .i64 21, .int .i64 20] w fun e w' => e = .returned (.int .u64 (M.fld h 2097152 1048576)) ∧ ∃ n, w' = w.drewN n := refField21 h w h0 h1
theorem refFld42 (h : Int) (w : World) (h0 : 0 ≤ h) (h1 : h < 18446744073709551616) : Calls Try.prog 32 #[.int .u64 h, .int .i64 42, .int .i64 20] w fun e w' => e = .returned (.int .u64 (M.fld h 4398046511104 1048576)) ∧ ∃ n, w' = w.drewN n := refField42 h w h0 h1
theorem refFld41 (h : Int) (w : World) (h0 : 0 ≤ h) (h1 : h < 18446744073709551616) : Calls Try.prog 32 #[.int .u64 h, .int .i64 41, .int .i64 1] w fun e w' => e = .returned (.int .u64 (M.fld h 2199023255552 2)) ∧ ∃ n, w' = w.drewN n := refField41 h w h0 h1
theorem refTurn (h k : Int) (w : World) (h0 : 0 ≤ h) (h1 : h < 18446744073709551616) : Calls Try.prog 65 #[.int .u64 h, .int .i64 42, .int .i64 20, .int .u64 (IntKind.u64.wrap k)] w fun e w' => e = .returned (.int .u64 (M.put h 4398046511104 1048576 k)) ∧ ∃ n, w' = w.drewN n :=
  M.put_wrap h k ▸ refWith42 h _ w h0 h1 (M.u64_nn _) (M.u64_lt _)
/-! heads, all parts told -/
theorem head_hd (a n : Int) (w : World) : Calls Try.prog 61 #[.int .i64 a, .int .i64 n] w fun e w' => e = .returned (.int .u64 (M.hd a n 0 0)) ∧ ∃ n, w' = w.drewN n := M.hd_head a n ▸ head_any a n w
theorem mark_hd (a n o k : Int) (b : Bool) (p : Int) (hp : p = if b then 1 else 0) (w : World) : Calls Try.prog 83 #[.int .u64 (M.hd a n o k), .bool b] w fun e w' => e = .returned (.int .u64 (M.hd a n p k)) ∧ w' = w := by
  subst hp
  cases b
  · exact M.hd_mark a n o k 0 ▸ mark_off _ w (M.hd_lo ..) (M.hd_hi ..)
  · exact M.hd_mark a n o k 1 ▸ mark_on _ w (M.hd_lo ..) (M.hd_hi ..)
theorem turn_hd (a n o k j : Int) (w : World) : Calls Try.prog 95 #[.int .u64 (M.hd a n o k), .int .i64 j] w fun e w' => e = .returned (.int .u64 (M.hd a n o j)) ∧ ∃ n, w' = w.drewN n := M.hd_turn a n o k j ▸ turn_any _ j w (M.hd_lo ..) (M.hd_hi ..)
theorem shape_hd (a n o k : Int) (w : World) : Calls Try.prog 100 #[.int .u64 (M.hd a n o k)] w fun e w' => e = .returned (.int .i64 (a % 1048576)) ∧ w' = w := M.hd_shape a n o k ▸ shape_any _ w (M.hd_lo ..) (M.hd_hi ..)
theorem len_hd (a n o k : Int) (w : World) : Calls Try.prog 101 #[.int .u64 (M.hd a n o k)] w fun e w' => e = .returned (.int .i64 (n % 1048576)) ∧ w' = w := M.hd_len a n o k ▸ len_any _ w (M.hd_lo ..) (M.hd_hi ..)
theorem turned_hd (a n o k : Int) (w : World) : Calls Try.prog 94 #[.int .u64 (M.hd a n o k)] w fun e w' => e = .returned (.int .i64 (k % 1048576)) ∧ w' = w := M.hd_turned a n o k ▸ turned_any _ w (M.hd_lo ..) (M.hd_hi ..)
theorem marked_hd (a n o k : Int) (b : Bool) (hb : o = if b then 1 else 0) (w : World) : Calls Try.prog 93 #[.int .u64 (M.hd a n o k)] w fun e w' => e = .returned (.bool b) ∧ w' = w :=
  (marked_any _ w (M.hd_lo a n o k) (M.hd_hi a n o k)).mono fun _ _ ⟨he, hw⟩ => ⟨by rw [he, M.hd_marked, hb]; cases b <;> rfl, hw⟩
theorem isImm_hd (a n o k : Int) (w : World) : Calls Try.prog 49 #[.int .u64 (M.hd a n o k)] w fun e w' => e = .returned (.bool true) ∧ w' = w :=
  (isImm_any _ w (M.hd_lo a n o k) (M.hd_hi a n o k)).mono fun _ _ ⟨he, hw⟩ => ⟨by rw [he, M.hd_odd]; rfl, hw⟩


end Go.Proofs.Ythfkgkddklnnhaa
