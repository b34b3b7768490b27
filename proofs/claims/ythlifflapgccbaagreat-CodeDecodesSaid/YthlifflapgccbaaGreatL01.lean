/- Lemmas, put together: Math Bits Arith Words Enc Put Get. -/
import Derived.IntWalk
import Derived.Laws.BitsAllLaws
import Derived.Test.YthlifflapgccbaaGreatRows
import Derived.WalkKit
import Derived.ProofKit
import Derived.OpenShut
import Derived.Deep.QuietTactic
import Derived.BigQuiet
import Derived.Lib.Hide
import Derived.Outline
import Derived.Maps.AppendAt
/- Plain arithmetic for layer 1 (word): numbers of 63 bits, quotients rounded down, parts of a word. No program in sight. -/
namespace Go.Proofs.YthlifflapgccbaaGreat.M
set_option linter.unusedVariables false
open Go.RowKit

/-- The number of 63 bits that differs from n by a multiple of 2^63. -/
def W (n : Int) : Int := (n + 4611686018427387904) % 9223372036854775808 - 4611686018427387904

theorem W_lo (n : Int) : -4611686018427387904 ≤ W n := by unfold W; omega
theorem W_hi (n : Int) : W n ≤ 4611686018427387903 := by unfold W; omega
theorem W_id {n : Int} (h0 : -4611686018427387904 ≤ n) (h1 : n ≤ 4611686018427387903) : W n = n := by unfold W; omega
theorem W_ex (n : Int) : ∃ k, W n = n + 9223372036854775808 * k := ⟨-((n + 4611686018427387904) / 9223372036854775808), by unfold W; omega⟩
theorem W_eq {a b : Int} (k : Int) (h : a = b + 9223372036854775808 * k) : W a = W b := by unfold W; omega
theorem wrap64_ex (n : Int) : ∃ k, wrap64 n = n + 9223372036854775808 * k := ⟨-(2 * ((n + 9223372036854775808) / 18446744073709551616)), by unfold wrap64; omega⟩
theorem W_wrap64 (n : Int) : W (wrap64 n) = W n := by obtain ⟨k, h⟩ := wrap64_ex n; exact W_eq k h
theorem W_W (n : Int) : W (W n) = W n := W_id (W_lo n) (W_hi n)
theorem shl_shr (n : Int) : wrap64 (n * 2) / 2 = W n := by unfold wrap64 W; omega

theorem W_add_l (a b : Int) : W (W a + b) = W (a + b) := by obtain ⟨k, h⟩ := W_ex a; rw [h]; exact W_eq k (by omega)
theorem W_add_r (a b : Int) : W (a + W b) = W (a + b) := by obtain ⟨k, h⟩ := W_ex b; rw [h]; exact W_eq k (by omega)
theorem W_mul_l (a b : Int) : W (W a * b) = W (a * b) := by
  obtain ⟨k, h⟩ := W_ex a; rw [h]; exact W_eq (k * b) (by grind)
theorem W_mul_r (a b : Int) : W (a * W b) = W (a * b) := by
  obtain ⟨k, h⟩ := W_ex b; rw [h]; exact W_eq (a * k) (by grind)
theorem W_neg (a : Int) : W (-W a) = W (-a) := by obtain ⟨k, h⟩ := W_ex a; rw [h]; exact W_eq (-k) (by omega)
theorem W_sub (a b : Int) : W (a + W (-W b)) = W (a - b) := by rw [W_neg, W_add_r]; congr 1

theorem ring_assoc_add (a b c : Int) : W (W (a + b) + c) = W (a + W (b + c)) := by rw [W_add_l, W_add_r, Int.add_assoc]
theorem ring_assoc_mul (a b c : Int) : W (W (a * b) * c) = W (a * W (b * c)) := by rw [W_mul_l, W_mul_r, Int.mul_assoc]
theorem ring_dist (a b c : Int) : W (a * W (b + c)) = W (W (a * b) + W (a * c)) := by rw [W_mul_r, W_add_l, W_add_r, Int.mul_add]
theorem ring_back (a b : Int) : W (W (a + b) - b) = W a := by
  have h := W_add_l (a + b) (-b)
  rw [show W (a + b) - b = W (a + b) + -b from by omega, h]; congr 1; omega

/-! quotients rounded down -/
/-- Is Go's quotient, which is rounded towards 0, above the one that is rounded down? -/
def dd (a b : Int) : Bool := a.tmod b != 0 && (decide (a.tmod b < 0) != decide (b < 0))
def dq (a b : Int) : Int := if dd a b then a.tdiv b - 1 else a.tdiv b
def dr (a b : Int) : Int := if dd a b then a.tmod b + b else a.tmod b
theorem tmod_bd (a b : Int) (hb : b ≠ 0) : (0 < b → -b < a.tmod b ∧ a.tmod b < b) ∧ (b < 0 → b < a.tmod b ∧ a.tmod b < -b) := by
  have h1 := Int.tmod_lt_of_pos a (b := b)
  have h2 := Int.lt_tmod_of_pos a (b := b)
  have h3 := Int.tmod_lt_of_pos a (b := -b)
  have h4 := Int.lt_tmod_of_pos a (b := -b)
  rw [Int.tmod_neg] at h3 h4
  exact ⟨fun h => ⟨h2 h, h1 h⟩, fun h => ⟨by have := h4 (by omega); omega, h3 (by omega)⟩⟩
theorem dq_dr (a b : Int) : dq a b * b + dr a b = a := by
  have h := Int.tmod_add_mul_tdiv a b
  unfold dq dr
  split <;> grind
theorem dr_pos (a b : Int) (hb : 0 < b) : 0 ≤ dr a b ∧ dr a b < b := by
  have h := (tmod_bd a b (by omega)).1 hb
  unfold dr dd
  by_cases h0 : a.tmod b < 0
  · have e : decide (b < 0) = false := by simp; omega
    have e2 : (a.tmod b != 0) = true := by simp; omega
    simp [h0, e, e2]; omega
  · have e : decide (b < 0) = false := by simp; omega
    simp [h0, e]; omega
theorem dr_neg (a b : Int) (hb : b < 0) : dr a b ≤ 0 ∧ b < dr a b := by
  have h := (tmod_bd a b (by omega)).2 hb
  unfold dr dd
  by_cases h0 : a.tmod b < 0
  · simp [h0, hb]; omega
  · by_cases h1 : a.tmod b = 0
    · simp [h1, hb]
    · simp [h0, h1, hb]; omega
theorem tmod_i64 (a b : Int) (hb : b ≠ 0) (hb0 : -9223372036854775808 ≤ b) (hb1 : b ≤ 9223372036854775807) : -9223372036854775808 ≤ a.tmod b ∧ a.tmod b ≤ 9223372036854775807 := by
  have h := tmod_bd a b hb
  rcases Int.lt_or_gt_of_ne hb with h0 | h0
  · have := h.2 h0; omega
  · have := h.1 h0; omega
/-- a - q * b, all wrapped, is what is left. -/
theorem rest64 (a b : Int) (hb : b ≠ 0) (hb0 : -9223372036854775808 ≤ b) (hb1 : b ≤ 9223372036854775807) : wrap64 (a - wrap64 (wrap64 (a.tdiv b) * b)) = a.tmod b := by
  have h := Int.tmod_add_mul_tdiv a b
  have hr := tmod_i64 a b hb hb0 hb1
  obtain ⟨k, hk⟩ : ∃ k, wrap64 (a.tdiv b) = a.tdiv b + 18446744073709551616 * k := ⟨-((a.tdiv b + 9223372036854775808) / 18446744073709551616), by unfold wrap64; omega⟩
  obtain ⟨j, hj⟩ : ∃ j, wrap64 (wrap64 (a.tdiv b) * b) = wrap64 (a.tdiv b) * b + 18446744073709551616 * j := ⟨-((wrap64 (a.tdiv b) * b + 9223372036854775808) / 18446744073709551616), by generalize wrap64 (a.tdiv b) * b = x; unfold wrap64; omega⟩
  rw [hj, hk]
  have e : a - ((a.tdiv b + 18446744073709551616 * k) * b + 18446744073709551616 * j) = a.tmod b + 18446744073709551616 * (-(k * b) - j) := by grind
  rw [e]
  generalize -(k * b) - j = m
  unfold wrap64; omega
theorem dr_i64 (a b : Int) (hb : b ≠ 0) (hb0 : -9223372036854775808 ≤ b) (hb1 : b ≤ 9223372036854775807) : wrap64 (dr a b) = dr a b := by
  rcases Int.lt_or_gt_of_ne hb with h0 | h0
  · have := dr_neg a b h0; unfold wrap64; omega
  · have := dr_pos a b h0; unfold wrap64; omega
theorem W_dq (a b : Int) : W (wrap64 (wrap64 (a.tdiv b) - 1)) = W (a.tdiv b - 1) := by
  rw [W_wrap64]; obtain ⟨k, h⟩ := wrap64_ex (a.tdiv b); rw [h]; exact W_eq k (by omega)

theorem W_dq' (a b : Int) : W (wrap64 (a.tdiv b) - 1) = W (a.tdiv b - 1) := by rw [← W_dq, W_wrap64]
theorem dd_y {a b : Int} (h0 : ¬ a.tmod b = 0) (h : (!decide (a.tmod b < 0) == decide (b < 0)) = true) : dd a b = true := by
  unfold dd; revert h; cases decide (a.tmod b < 0) <;> cases decide (b < 0) <;> simp [h0]
theorem dd_n {a b : Int} (h : (a.tmod b != 0) = false ∨ (!decide (a.tmod b < 0) == decide (b < 0)) = false) : dd a b = false := by
  unfold dd
  rcases h with h | h
  · rw [h]; rfl
  · revert h; cases decide (a.tmod b < 0) <;> cases decide (b < 0) <;> simp
theorem dd_z {a b : Int} (h : a.tmod b = 0) : dd a b = false := by unfold dd; simp [h]

theorem prod_even {x y o : Int} (h : y % 2 = 0) : W (o + W (x + x) * (y / 2)) = W (o + x * y) := by
  rw [← W_add_r, W_mul_l, W_add_r]
  have : y = 2 * (y / 2) := by omega
  congr 1; generalize y / 2 = z at *; subst this; grind
theorem prod_odd {x y o : Int} (h : y % 2 = 1) : W (W (o + x) + W (x + x) * (y / 2)) = W (o + x * y) := by
  rw [W_add_l, ← W_add_r, W_mul_l, W_add_r]
  have : y = 2 * (y / 2) + 1 := by omega
  congr 1; generalize y / 2 = z at *; subst this; grind
theorem prodn_even {x y o : Int} (h : y % 2 = 0) (ht : y.tdiv 2 = -(-y / 2)) : W (-o + W (x + x) * (y.tdiv 2)) = W (-o + x * y) := by
  rw [← W_add_r, W_mul_l, W_add_r]
  have : y = 2 * y.tdiv 2 := by omega
  congr 1; generalize y.tdiv 2 = z at *; subst this; grind
theorem prodn_odd {x y o : Int} (h : y % 2 = 1) (ht : y.tdiv 2 = -(-y / 2)) : W (-W (o + x) + W (x + x) * (y.tdiv 2)) = W (-o + x * y) := by
  rw [← W_add_r, W_mul_l, W_add_r, ← W_add_l, W_neg, W_add_l]
  have : y = 2 * y.tdiv 2 - 1 := by omega
  congr 1; generalize y.tdiv 2 = z at *; subst this; grind
theorem tdiv2_neg {y : Int} (h : y ≤ 0) : y.tdiv 2 = -(-y / 2) ∧ y.tmod 2 = -(y % 2) := by
  obtain ⟨z, rfl⟩ : ∃ z, y = -z := ⟨-y, by omega⟩
  rw [Int.neg_tdiv, Int.neg_tmod, Int.tdiv_eq_ediv_of_nonneg (by omega), Int.tmod_eq_emod_of_nonneg (by omega)]
  constructor <;> omega

/-- A place as a pointer. -/
def ptr (n : Int) : Int := 2 * n % 18446744073709551616
theorem ptr_lo (n : Int) : 0 ≤ ptr n := by unfold ptr; omega
theorem ptr_hi (n : Int) : ptr n < 18446744073709551616 := by unfold ptr; omega
theorem ptr_even (n : Int) : (ptr n % 2 == 1) = false := by unfold ptr; have h : 2 * n % 18446744073709551616 % 2 = 0 := by omega
                                                            rw [h]; rfl

/-! powers of two -/
theorem pow_step (k : Nat) : (2 : Int) ^ k * 2 = 2 ^ (k + 1) := (Int.pow_succ 2 k).symm
end Go.Proofs.YthlifflapgccbaaGreat.M
/- Parts of a word of 64 bits: masks, shifts and joins as quotients, rests and sums. No program in sight. -/
namespace Go.Proofs.YthlifflapgccbaaGreat.M
set_option linter.unusedVariables false
open Go.RowKit

theorem split3 (h s k : Nat) : h = 2 ^ (s + k) * (h / 2 ^ (s + k)) + (2 ^ s * (h / 2 ^ s % 2 ^ k) + h % 2 ^ s) := by
  have h1 := Nat.div_add_mod h (2 ^ s)
  have h2 := Nat.div_add_mod (h / 2 ^ s) (2 ^ k)
  rw [Nat.div_div_eq_div_mul, ← Nat.pow_add] at h2
  have h3 : 2 ^ (s + k) * (h / 2 ^ (s + k)) = 2 ^ s * (2 ^ k * (h / 2 ^ (s + k))) := by rw [Nat.pow_add, Nat.mul_assoc]
  rw [h3, ← Nat.add_assoc, ← Nat.mul_add, h2, h1]

theorem lo_lt (m l s k : Nat) (hm : m < 2 ^ k) (hl : l < 2 ^ s) : 2 ^ s * m + l < 2 ^ (s + k) := by
  have : 2 ^ s * (m + 1) ≤ 2 ^ s * 2 ^ k := Nat.mul_le_mul_left _ hm
  rw [Nat.pow_add]; rw [Nat.mul_add] at this; omega

theorem with_nat (h s k m : Nat) (hk : s + k ≤ 64) (hm : m < 2 ^ k) (hh : h < 2 ^ 64) :
    (h &&& (2 ^ 64 - ((2 ^ k - 1) * 2 ^ s + 1))) ||| (2 ^ s * m) = h - 2 ^ s * (h / 2 ^ s % 2 ^ k) + 2 ^ s * m := by
  have hs := split3 h s k
  have hl : h % 2 ^ s < 2 ^ s := Nat.mod_lt _ (Nat.two_pow_pos s)
  have hmid : h / 2 ^ s % 2 ^ k < 2 ^ k := Nat.mod_lt _ (Nat.two_pow_pos k)
  have hr : h - 2 ^ s * (h / 2 ^ s % 2 ^ k) + 2 ^ s * m = 2 ^ (s + k) * (h / 2 ^ (s + k)) + (2 ^ s * m + h % 2 ^ s) := by omega
  have hmask : (2 ^ k - 1) * 2 ^ s < 2 ^ 64 := by
    have h1 : (2 ^ k - 1) * 2 ^ s < 2 ^ k * 2 ^ s := Nat.mul_lt_mul_of_pos_right (Nat.sub_lt (Nat.two_pow_pos k) (by decide)) (Nat.two_pow_pos s)
    rw [← Nat.pow_add] at h1
    exact Nat.lt_of_lt_of_le h1 (Nat.pow_le_pow_right (by decide) (by omega))
  rw [hr]
  apply Nat.eq_of_testBit_eq
  intro j
  rw [Nat.testBit_or, Nat.testBit_and, Nat.testBit_two_pow_sub_succ hmask, Nat.testBit_two_pow_mul, Nat.testBit_mul_two_pow, Nat.testBit_two_pow_sub_one,
    Nat.testBit_two_pow_mul_add _ (lo_lt _ _ _ _ hm hl), Nat.testBit_two_pow_mul_add _ hl]
  have hb : h.testBit j = if j < s + k then (if j < s then (h % 2 ^ s).testBit j else (h / 2 ^ s % 2 ^ k).testBit (j - s)) else (h / 2 ^ (s + k)).testBit (j - (s + k)) := by
    conv => lhs; rw [hs]
    rw [Nat.testBit_two_pow_mul_add _ (lo_lt _ _ _ _ hmid hl), Nat.testBit_two_pow_mul_add _ hl]
  by_cases h1 : j < s
  · have a1 : ¬ s ≤ j := by omega
    have a2 : j < s + k := by omega
    have a3 : j < 64 := by omega
    rw [hb, if_pos a2, if_pos h1, if_pos a2, if_pos h1]; simp [a1, a3]
  · have a1 : s ≤ j := by omega
    by_cases h2 : j < s + k
    · have a2 : j - s < k := by omega
      have a3 : j < 64 := by omega
      simp [h1, h2, a1, a2, a3]
    · have a2 : ¬ j - s < k := by omega
      have a3 : m.testBit (j - s) = false := Nat.testBit_lt_two_pow (Nat.lt_of_lt_of_le hm (Nat.pow_le_pow_right (by decide) (by omega)))
      by_cases a4 : j < 64
      · rw [hb]; simp [h2, a1, a2, a3, a4]
      · have a5 : h.testBit j = false := Nat.testBit_lt_two_pow (Nat.lt_of_lt_of_le hh (Nat.pow_le_pow_right (by decide) (by omega)))
        have a6 := a5; rw [hb] at a6; simp [h2] at a6
        simp [h2, a1, a2, a3, a4, a6]

theorem wraps_u64 (n : Int) (h₀ : 0 ≤ n) (h₁ : n < 2 ^ 64) : IntKind.u64.wrap n = n := by rw [IntKind.wrap_u64]; omega
theorem u64_lt (n : Int) : IntKind.u64.wrap n < 18446744073709551616 := by rw [IntKind.wrap_u64]; omega
theorem u64_nn (n : Int) : 0 ≤ IntKind.u64.wrap n := by rw [IntKind.wrap_u64]; omega
theorem and20 (x : Int) (h0 : 0 ≤ x) (h1 : x < 18446744073709551616) : bits .and .u64 x 1048575 = x % 1048576 :=
  bits_mask .u64 64 (by decide) wraps_u64 20 (by decide) x h0 (by omega)
theorem and1 (x : Int) (h0 : 0 ≤ x) (h1 : x < 18446744073709551616) : bits .and .u64 x 1 = x % 2 :=
  bits_mask .u64 64 (by decide) wraps_u64 1 (by decide) x h0 (by omega)
theorem or1 (x : Int) (h0 : 0 ≤ x) (h1 : x < 18446744073709551616) (h2 : x % 2 = 0) : bits .or .u64 x 1 = x + 1 :=
  bits_join .u64 64 (by decide) wraps_u64 1 x 1 h0 (by simpa using h2) (by omega) (by decide) (by decide) (by decide)

/-- A field of h, and h with another one in its place. -/
def fld (h s k : Int) : Int := h / s % k
def put (h s k m : Int) : Int := h - s * (h / s % k) + s * (m % k)

theorem with_int (h m : Int) (s k : Nat) (hk : s + k ≤ 64) (h0 : 0 ≤ h) (h1 : h < 18446744073709551616) :
    bits .or .u64 (bits .andNot .u64 h (((2 ^ k - 1) * 2 ^ s : Nat) : Int)) (((2 ^ s : Nat) : Int) * (m % ((2 ^ k : Nat) : Int))) = put h ((2 ^ s : Nat) : Int) ((2 ^ k : Nat) : Int) m := by
  obtain ⟨H, rfl⟩ := Int.eq_ofNat_of_zero_le h0
  have hkp : 0 < 2 ^ k := Nat.two_pow_pos k
  obtain ⟨M, hM⟩ := Int.eq_ofNat_of_zero_le (Int.emod_nonneg m (b := ((2 ^ k : Nat) : Int)) (by omega))
  have hM2 : M < 2 ^ k := by have := Int.emod_lt_of_pos m (b := ((2 ^ k : Nat) : Int)) (by omega); omega
  have hmask : (2 ^ k - 1) * 2 ^ s < 2 ^ 64 := by
    have h1 : (2 ^ k - 1) * 2 ^ s < 2 ^ k * 2 ^ s := Nat.mul_lt_mul_of_pos_right (Nat.sub_lt (Nat.two_pow_pos k) (by decide)) (Nat.two_pow_pos s)
    rw [← Nat.pow_add] at h1
    exact Nat.lt_of_lt_of_le h1 (Nat.pow_le_pow_right (by decide) (by omega))
  have hfin := with_nat H s k M hk hM2 (by omega)
  have hsm : 2 ^ s * M < 2 ^ 64 := by
    have := lo_lt M 0 s k hM2 (Nat.two_pow_pos s)
    exact Nat.lt_of_lt_of_le this (Nat.pow_le_pow_right (by decide) hk)
  have hle : 2 ^ s * (H / 2 ^ s % 2 ^ k) ≤ H := by have := split3 H s k; omega
  rw [hM, u64_andNot_nat H _ (by omega) (by omega)]
  have e1 : ((2 ^ s : Nat) : Int) * (M : Int) = ((2 ^ s * M : Nat) : Int) := by simp
  have e2 : 18446744073709551615 - (2 ^ k - 1) * 2 ^ s = 2 ^ 64 - ((2 ^ k - 1) * 2 ^ s + 1) := by omega
  rw [e1, u64_or_nat _ _ (by have := Nat.and_le_left (n := H) (m := 18446744073709551615 - (2 ^ k - 1) * 2 ^ s); omega) (by omega), e2, hfin]
  unfold put
  rw [hM, Int.natCast_add, Int.natCast_sub hle]
  simp

theorem fld_lo (h s k : Int) (hk : 0 < k) : 0 ≤ fld h s k := Int.emod_nonneg _ (by omega)
theorem fld_hi (h s k : Int) (hk : 0 < k) : fld h s k < k := Int.emod_lt_of_pos _ hk
theorem and20s (x : Int) : bits .and .i64 x 1048575 = x % 1048576 := by
  show IntKind.i64.wrap ((BitVec.ofInt 64 x &&& BitVec.ofInt 64 1048575).toNat : Int) = _
  have h1 : (BitVec.ofInt 64 x).toNat = (x % 18446744073709551616).toNat := by simp [BitVec.toNat_ofInt]
  have h2 : (BitVec.ofInt 64 1048575).toNat = 2 ^ 20 - 1 := by decide
  rw [BitVec.toNat_and, h1, h2, Nat.and_two_pow_sub_one_eq_mod, IntKind.wrap_i64]
  omega
/-- A head with all its parts. -/
def hd (a n o k : Int) : Int := 1 + 2 * (a % 1048576) + 2097152 * (n % 1048576) + 2199023255552 * (o % 2) + 4398046511104 * (k % 1048576)
theorem hd_lo (a n o k : Int) : 0 ≤ hd a n o k := by unfold hd; omega
theorem hd_hi (a n o k : Int) : hd a n o k < 18446744073709551616 := by unfold hd; omega
theorem hd_head (a n : Int) : put (put 1 2 1048576 a) 2097152 1048576 n = hd a n 0 0 := by unfold put hd; omega
theorem hd_mark (a n o k p : Int) : put (hd a n o k) 2199023255552 2 p = hd a n p k := by unfold put hd; omega
theorem hd_turn (a n o k j : Int) : put (hd a n o k) 4398046511104 1048576 j = hd a n o j := by unfold put hd; omega
theorem hd_shape (a n o k : Int) : fld (hd a n o k) 2 1048576 = a % 1048576 := by unfold fld hd; omega
theorem hd_len (a n o k : Int) : fld (hd a n o k) 2097152 1048576 = n % 1048576 := by unfold fld hd; omega
theorem hd_marked (a n o k : Int) : fld (hd a n o k) 2199023255552 2 = o % 2 := by unfold fld hd; omega
theorem hd_turned (a n o k : Int) : fld (hd a n o k) 4398046511104 1048576 = k % 1048576 := by unfold fld hd; omega
theorem hd_odd (a n o k : Int) : hd a n o k % 2 = 1 := by unfold hd; omega
theorem put_wrap (h k : Int) : put h 4398046511104 1048576 (IntKind.u64.wrap k) = put h 4398046511104 1048576 k := by rw [IntKind.wrap_u64]; unfold put; omega

def pw (n : Nat) : Nat := 2 ^ n
theorem pw_succ (n : Nat) : pw (n + 1) = pw n * 2 := Nat.pow_succ ..
theorem pw_lt (n : Nat) (h : n < 64) : pw n < 18446744073709551616 := Nat.pow_lt_pow_right (m := n) (n := 64) (by decide) h

theorem mark_on_nat (h s : Nat) (hs : s < 64) (hh : h < 2 ^ 64) : h ||| 2 ^ s = h - 2 ^ s * (h / 2 ^ s % 2) + 2 ^ s := by
  have e := with_nat h s 1 1 (by omega) (by decide) hh
  simp only [Nat.mul_one, Nat.pow_one] at e
  rw [← e]
  have hp : 2 ^ s < 2 ^ 64 := Nat.pow_lt_pow_right (by decide) hs
  apply Nat.eq_of_testBit_eq
  intro j
  rw [Nat.testBit_or, Nat.testBit_or, Nat.testBit_and, Nat.testBit_two_pow_sub_succ (by omega)]
  have e1 : (2 - 1) * 2 ^ s = 2 ^ s := by omega
  rw [e1]
  by_cases h1 : j < 64
  · cases h.testBit j <;> cases (2 ^ s).testBit j <;> simp [h1]
  · have a5 : h.testBit j = false := Nat.testBit_lt_two_pow (Nat.lt_of_lt_of_le hh (Nat.pow_le_pow_right (by decide) (by omega)))
    rw [a5]; simp
theorem mark_on_int (h : Int) (h0 : 0 ≤ h) (h1 : h < 18446744073709551616) : bits .or .u64 h 2199023255552 = put h 2199023255552 2 1 := by
  obtain ⟨H, rfl⟩ := Int.eq_ofNat_of_zero_le h0
  have e := u64_or_nat H 2199023255552 (by omega) (by omega)
  have e2 := mark_on_nat H 41 (by decide) (by omega)
  simp only [Nat.reducePow] at e2
  rw [e2] at e
  have e3 : (2199023255552 : Int) = ((2199023255552 : Nat) : Int) := rfl
  rw [e3, e]
  unfold put
  omega
theorem mark_off_int (h : Int) (h0 : 0 ≤ h) (h1 : h < 18446744073709551616) : bits .andNot .u64 h 2199023255552 = put h 2199023255552 2 0 := by
  obtain ⟨H, rfl⟩ := Int.eq_ofNat_of_zero_le h0
  have e := u64_andNot_nat H 2199023255552 (by omega) (by omega)
  have e2 := with_nat H 41 1 0 (by decide) (by decide) (by omega)
  simp only [Nat.reducePow, Nat.reduceSub, Nat.reduceMul, Nat.mul_zero, Nat.or_zero, Nat.reduceAdd] at e2
  have e3 : (2199023255552 : Int) = ((2199023255552 : Nat) : Int) := rfl
  rw [e3, e]
  simp only [Nat.reduceSub]
  rw [e2]
  unfold put
  omega
end Go.Proofs.YthlifflapgccbaaGreat.M
/- Contracts of layer 1's reckonings: word.Wrap, Add, Sub, Mul, Div, Mod, and the document's own Wrap, Sum, Product, Div. -/
namespace Go.Proofs.YthlifflapgccbaaGreat
set_option linter.unusedVariables false
open Go.ChangeShapes Go.WideShapes Go.ChangeAt Go.RowKit
open M (W)

theorem ret_int {k : IntKind} {a b : Int} (h : a = b) : Ending.returned (.int k a) = .returned (.int k b) := by rw [h]

end Go.Proofs.YthlifflapgccbaaGreat
/- Contracts of layer 1's words and heads, and of the document's own ones. -/
namespace Go.Proofs.YthlifflapgccbaaGreat
set_option linter.unusedVariables false
open Go.ChangeShapes Go.WideShapes Go.ChangeAt Go.RowKit
open M (W)

theorem ret_u {k : IntKind} {a b : Int} {w : World} (h : a = b) : Ending.returned (.int k a) = .returned (.int k b) ∧ w = w := ⟨by rw [h], rfl⟩
theorem ret_b {a b : Bool} {w : World} (h : a = b) : Ending.returned (.bool a) = .returned (.bool b) ∧ w = w := ⟨by rw [h], rfl⟩

theorem ptr_wrap (n : Int) : IntKind.u64.wrap (IntKind.u64.wrap n * 2) = M.ptr n := by rw [IntKind.wrap_u64, IntKind.wrap_u64]; unfold M.ptr; omega
/-! heads, all parts told -/
end Go.Proofs.YthlifflapgccbaaGreat
/- Numbers as bytes: groups of seven bits. No program in sight. -/
namespace Go.Proofs.YthlifflapgccbaaGreat.M
set_option linter.unusedVariables false
open Go.RowKit

/-- The bytes of a number: groups of seven bits, the lowest first, 128 added to all but the last. -/
def enc (x : Nat) : List Int := if x ≤ 127 then [(x : Int)] else ((x % 128 + 128 : Nat) : Int) :: enc (x / 128)
termination_by x
decreasing_by omega

theorem enc_small {x : Nat} (h : x ≤ 127) : enc x = [(x : Int)] := by rw [enc, if_pos h]
theorem enc_big {x : Nat} (h : ¬ x ≤ 127) : enc x = ((x % 128 + 128 : Nat) : Int) :: enc (x / 128) := by rw [enc, if_neg h]
theorem enc_len : ∀ (k x : Nat), x < 128 ^ (k + 1) → (enc x).length ≤ k + 1
  | 0, x, h => by rw [enc_small (by simpa using Nat.le_of_lt_succ h)]; simp
  | k + 1, x, h => by
    by_cases hx : x ≤ 127
    · rw [enc_small hx]; simp
    · rw [enc_big hx]
      have := enc_len k (x / 128) (by rw [Nat.pow_succ] at h; omega)
      simp; omega
theorem enc_len10 {x : Nat} (h : x < 18446744073709551616) : (enc x).length ≤ 10 := enc_len 9 x (Nat.lt_of_lt_of_le h (by decide))
theorem enc_pos (x : Nat) : 0 < (enc x).length := by
  by_cases h : x ≤ 127
  · rw [enc_small h]; simp
  · rw [enc_big h]; simp

theorem enc_bd : ∀ (x : Nat), ∀ c ∈ enc x, 0 ≤ c ∧ c ≤ 255 := by
  intro x
  induction x using Nat.strongRecOn with
  | _ x ih =>
    intro c hc
    by_cases h : x ≤ 127
    · rw [enc_small h] at hc; simp at hc; omega
    · rw [enc_big h, List.mem_cons] at hc
      rcases hc with rfl | hc
      · omega
      · exact ih (x / 128) (by omega) c hc

/-- A number from bytes. -/
def val : List Int → Nat
  | [] => 0
  | c :: r => c.toNat % 128 + 128 * val r
theorem val_enc : ∀ x, val (enc x) = x := by
  intro x
  induction x using Nat.strongRecOn with
  | _ x ih =>
    by_cases h : x ≤ 127
    · rw [enc_small h]; simp [val]; omega
    · rw [enc_big h]
      have := ih (x / 128) (by omega)
      simp only [val, this]; omega

/-- Where the first byte stands, of the first f ones, behind which there are no more. -/
def stop : Nat → List Int → Option Nat
  | 0, _ => none
  | _ + 1, [] => none
  | f + 1, c :: r => if c < 128 then some 0 else (stop f r).map (· + 1)

/-- The bytes up to there are the shortest ones, and of 64 bits. -/
def fits (p : List Int) : Bool := (decide (p.length ≤ 1) || p.getLast? != some 0) && (decide (p.length ≤ 9) || decide (p.getLast?.getD 0 ≤ 1))

/-- What Get tells: the number, and of how many bytes. -/
def got (l : List Int) : Option (Nat × Nat) := match stop 10 l with
  | none => none
  | some i => if fits (l.take (i + 1)) then some (val (l.take (i + 1)), i + 1) else none

def zig (n : Int) : Nat := if 0 ≤ n then (2 * n).toNat else (-2 * n - 1).toNat
def zag (x : Nat) : Int := if x % 2 = 0 then (x / 2 : Nat) else -((x / 2 : Nat) : Int) - 1
theorem zag_zig (n : Int) : zag (zig n) = n := by unfold zag zig; split <;> split <;> omega
theorem zig_zag (x : Nat) : zig (zag x) = x := by unfold zag zig; split <;> split <;> omega
theorem zig_lt {n : Int} (h0 : -9223372036854775808 ≤ n) (h1 : n ≤ 9223372036854775807) : zig n < 18446744073709551616 := by unfold zig; split <;> omega
theorem zag_bd {x : Nat} (h : x < 18446744073709551616) : -9223372036854775808 ≤ zag x ∧ zag x ≤ 9223372036854775807 := by unfold zag; split <;> omega
theorem zig_inj {a b : Int} (h : zig a = zig b) : a = b := by rw [← zag_zig a, h, zag_zig]
theorem enc_inj {a b : Nat} (h : enc a = enc b) : a = b := by rw [← val_enc a, h, val_enc]

/-! the bytes of a number, read -/
theorem stop_enc : ∀ (x : Nat) (f : Nat) (r : List Int), (enc x).length ≤ f → stop f (enc x ++ r) = some ((enc x).length - 1) := by
  intro x
  induction x using Nat.strongRecOn with
  | _ x ih =>
    intro f r hf
    by_cases h : x ≤ 127
    · rw [enc_small h] at hf ⊢
      obtain ⟨g, rfl⟩ : ∃ g, f = g + 1 := ⟨f - 1, by simp at hf; omega⟩
      simp [stop]; omega
    · rw [enc_big h] at hf ⊢
      obtain ⟨g, rfl⟩ : ∃ g, f = g + 1 := ⟨f - 1, by simp at hf; omega⟩
      have hp := enc_pos (x / 128)
      have := ih (x / 128) (by omega) g r (by simpa using hf)
      have hc : ¬ (((x % 128 + 128 : Nat) : Int) < 128) := by omega
      rw [List.cons_append, stop, if_neg hc, this]
      simp; omega
theorem last_enc (x : Nat) : ∃ c : Nat, (enc x).getLast? = some (c : Int) ∧ c ≤ 127 ∧ (1 < (enc x).length → c ≠ 0) ∧ c * 128 ^ ((enc x).length - 1) ≤ x := by
  induction x using Nat.strongRecOn with
  | _ x ih =>
    by_cases h : x ≤ 127
    · rw [enc_small h]; exact ⟨x, by simp, h, by simp, by simp⟩
    · rw [enc_big h]
      obtain ⟨c, h1, h2, h3, h4⟩ := ih (x / 128) (by omega)
      have hp := enc_pos (x / 128)
      refine ⟨c, ?_, h2, fun _ => ?_, ?_⟩
      · rw [List.getLast?_cons, h1]; rfl
      · by_cases h5 : 1 < (enc (x / 128)).length
        · exact h3 h5
        · have h6 : x / 128 ≤ 127 := by
            apply Classical.byContradiction; intro h7
            rw [enc_big h7] at h5
            have := enc_pos (x / 128 / 128)
            rw [List.length_cons] at h5; omega
          rw [enc_small h6] at h1
          simp at h1; omega
      · have e : (((x % 128 + 128 : Nat) : Int) :: enc (x / 128)).length - 1 = ((enc (x / 128)).length - 1) + 1 := by simp; omega
        rw [e, Nat.pow_succ, ← Nat.mul_assoc]
        omega
theorem fits_enc {x : Nat} (h : x < 18446744073709551616) : fits (enc x) = true := by
  obtain ⟨c, h1, h2, h3, h4⟩ := last_enc x
  have hl := enc_len10 h
  unfold fits
  rw [h1]
  by_cases h5 : 1 < (enc x).length
  · have h6 := h3 h5
    by_cases h7 : (enc x).length ≤ 9
    · simp [h7]; omega
    · have h8 : (enc x).length - 1 = 9 := by omega
      rw [h8] at h4
      have : c ≤ 1 := by
        have e : (128 : Nat) ^ 9 = 9223372036854775808 := by decide
        rw [e] at h4; omega
      simp; omega
  · simp; omega
theorem got_enc {x : Nat} (h : x < 18446744073709551616) (r : List Int) : got (enc x ++ r) = some (x, (enc x).length) := by
  have hp := enc_pos x
  have e : (enc x).length - 1 + 1 = (enc x).length := by omega
  unfold got
  rw [stop_enc x 10 r (enc_len10 h)]
  simp only [e]
  rw [List.take_append_of_le_length (Nat.le_refl _), List.take_length, if_pos (fits_enc h), val_enc]

/-! bytes that are fit are those of their number -/
/-- All but the last say that more follow, the last one doesn't. -/
def form : List Int → Prop
  | [] => False
  | [c] => 0 ≤ c ∧ c < 128
  | c :: d :: r => 128 ≤ c ∧ c ≤ 255 ∧ form (d :: r)
theorem enc_val : ∀ p : List Int, form p → (p.length ≤ 1 ∨ p.getLast? ≠ some 0) → enc (val p) = p
  | [], h, _ => h.elim
  | [c], h, _ => by
    simp only [form] at h
    have e : val [c] = c.toNat := by simp [val]; omega
    rw [e, enc_small (by omega)]; simp; omega
  | c :: d :: r, h, hl => by
    obtain ⟨h1, h2, h3⟩ := h
    have hl' : (d :: r).getLast? ≠ some 0 := by
      rcases hl with hl | hl
      · simp at hl
      · rw [List.getLast?_cons] at hl
        intro e; rw [e] at hl; simp at hl
    have ih := enc_val (d :: r) h3 (.inr hl')
    have hv : 0 < val (d :: r) := by
      apply Nat.pos_of_ne_zero; intro e
      rw [e, enc_small (by omega)] at ih
      rw [← ih] at hl'; simp at hl'
    have e : val (c :: d :: r) = c.toNat % 128 + 128 * val (d :: r) := rfl
    rw [e, enc_big (by omega)]
    have e1 : (c.toNat % 128 + 128 * val (d :: r)) / 128 = val (d :: r) := by omega
    rw [e1, ih]
    congr 1; omega
theorem val_lt : ∀ p : List Int, val p < 128 ^ p.length
  | [] => by simp [val]
  | c :: r => by
    have := val_lt r
    simp only [val, List.length_cons, Nat.pow_succ]; omega
theorem val_append : ∀ (p : List Int) (c : Int), val (p ++ [c]) = val p + c.toNat % 128 * 128 ^ p.length
  | [], c => by simp [val]
  | d :: r, c => by
    have := val_append r c
    simp only [List.cons_append, val, this, List.length_cons, Nat.pow_succ, Nat.mul_add]
    have e : 128 * (c.toNat % 128 * 128 ^ r.length) = c.toNat % 128 * (128 ^ r.length * 128) := by rw [← Nat.mul_assoc, Nat.mul_comm 128, Nat.mul_assoc]; congr 1; exact Nat.mul_comm ..
    omega

/-! reading, byte by byte -/
def all8 (p : List Int) : Prop := ∀ c ∈ p, 128 ≤ c ∧ c ≤ 255
theorem stop_at : ∀ (p : List Int) (f : Nat) (c : Int) (r : List Int), all8 p → p.length < f → c < 128 → stop f (p ++ c :: r) = some p.length
  | [], f, c, r, _, hf, hc => by
    obtain ⟨g, rfl⟩ : ∃ g, f = g + 1 := ⟨f - 1, by simp at hf; omega⟩
    simp [stop, hc]
  | d :: p, f, c, r, hp, hf, hc => by
    obtain ⟨g, rfl⟩ : ∃ g, f = g + 1 := ⟨f - 1, by simp at hf; omega⟩
    have hd := hp d (by simp)
    have := stop_at p g c r (fun x hx => hp x (by simp [hx])) (by simpa using hf) hc
    rw [List.cons_append, stop, if_neg (by omega), this]; simp
theorem stop_none : ∀ (p : List Int) (f : Nat) (r : List Int), all8 p → (p.length = f ∨ r = []) → stop f (p ++ r) = none
  | [], f, r, _, h => by
    rcases h with h | h
    · simp at h; subst h; simp [stop]
    · subst h; cases f <;> simp [stop]
  | d :: p, f, r, hp, h => by
    cases f with
    | zero => simp [stop]
    | succ g =>
      have hd := hp d (by simp)
      have := stop_none p g r (fun x hx => hp x (by simp [hx])) (by rcases h with h | h; · left; simpa using h
                                                                    · right; exact h)
      rw [List.cons_append, stop, if_neg (by omega), this]; rfl
theorem form_snoc : ∀ (p : List Int) (c : Int), all8 p → 0 ≤ c → c < 128 → form (p ++ [c])
  | [], c, _, h0, h1 => ⟨h0, h1⟩
  | [d], c, hp, h0, h1 => by have := hp d (by simp); exact ⟨this.1, this.2, h0, h1⟩
  | d :: e :: p, c, hp, h0, h1 => by
    have := hp d (by simp)
    exact ⟨this.1, this.2, form_snoc (e :: p) c (fun x hx => hp x (by simp [hx])) h0 h1⟩
theorem fits_snoc (p : List Int) (c : Int) : fits (p ++ [c]) = ((decide (p.length = 0) || c != 0) && (decide (p.length < 9) || decide (c ≤ 1))) := by
  unfold fits
  have e1 : (p ++ [c]).getLast? = some c := by simp
  have e2 : (p ++ [c]).length = p.length + 1 := by simp
  have e3 : decide (p.length + 1 ≤ 1) = decide (p.length = 0) := by congr 1; simp
  have e4 : decide (p.length + 1 ≤ 9) = decide (p.length < 9) := by congr 1
  have e5 : (some c != some (0 : Int)) = (c != 0) := by simp [bne]
  rw [e1, e2, e3, e4, e5]; rfl
theorem fits_lt {p : List Int} {c : Int} (hp : p.length ≤ 9) (hc0 : 0 ≤ c) (h : fits (p ++ [c]) = true) : val (p ++ [c]) < 18446744073709551616 := by
  rw [fits_snoc] at h
  rw [val_append]
  have hv := val_lt p
  by_cases h9 : p.length < 9
  · have h1 := val_lt (p ++ [c])
    rw [val_append] at h1
    have h2 : 128 ^ (p ++ [c]).length ≤ 128 ^ 9 := Nat.pow_le_pow_right (by decide) (by simp; omega)
    have e : (128 : Nat) ^ 9 = 9223372036854775808 := by decide
    omega
  · have h10 : p.length = 9 := by omega
    have hc : c ≤ 1 := by simp [h10] at h; exact h.2
    rw [h10] at hv ⊢
    have e : (128 : Nat) ^ 9 = 9223372036854775808 := by decide
    rw [e] at hv ⊢
    have : c.toNat % 128 ≤ 1 := by omega
    have : c.toNat % 128 * 9223372036854775808 ≤ 1 * 9223372036854775808 := Nat.mul_le_mul_right _ this
    omega
theorem fits_iff {p : List Int} {c : Int} (h8 : all8 p) (hp : p.length ≤ 9) (hc0 : 0 ≤ c) (hc : c < 128) :
    fits (p ++ [c]) = true ↔ enc (val (p ++ [c]) % 18446744073709551616) = p ++ [c] := by
  constructor
  · intro h
    rw [Nat.mod_eq_of_lt (fits_lt hp hc0 h)]
    refine enc_val _ (form_snoc p c h8 hc0 hc) ?_
    rw [fits_snoc] at h
    simp at h
    rcases h.1 with h1 | h1
    · left; simp [h1]
    · right; simp [h1]
  · intro h
    have := fits_enc (x := val (p ++ [c]) % 18446744073709551616) (Nat.mod_lt _ (by decide))
    rwa [h] at this
theorem got_yes {p : List Int} {c : Int} {r : List Int} (h8 : all8 p) (hp : p.length ≤ 9) (hc : c < 128) (hf : fits (p ++ [c]) = true) : got (p ++ c :: r) = some (val (p ++ [c]), p.length + 1) := by
  have e : (p ++ c :: r).take (p.length + 1) = p ++ [c] := by rw [List.take_append]; simp [List.take_of_length_le]
  unfold got
  rw [stop_at p 10 c r h8 (by omega) hc]
  simp only [e]; rw [if_pos hf]
theorem got_no {p : List Int} {c : Int} {r : List Int} (h8 : all8 p) (hp : p.length ≤ 9) (hc : c < 128) (hf : fits (p ++ [c]) = false) : got (p ++ c :: r) = none := by
  have e : (p ++ c :: r).take (p.length + 1) = p ++ [c] := by rw [List.take_append]; simp [List.take_of_length_le]
  unfold got
  rw [stop_at p 10 c r h8 (by omega) hc]
  simp only [e]; rw [if_neg (by simp [hf])]
theorem got_end {p r : List Int} (h8 : all8 p) (h : p.length = 10 ∨ r = []) : got (p ++ r) = none := by
  unfold got; rw [stop_none p 10 r h8 h]

/-! the folds -/
theorem xor0 (a : Nat) (h : a < 18446744073709551616) : bits .xor .u64 (a : Int) 0 = a := by
  have := u64_xor_nat a 0 h (by decide); simpa using this
theorem xorAll (a : Nat) (h : a < 18446744073709551616) : bits .xor .u64 (a : Int) 18446744073709551615 = 18446744073709551615 - (a : Int) := by
  show IntKind.u64.wrap ((BitVec.ofInt 64 (a : Int) ^^^ BitVec.ofInt 64 18446744073709551615).toNat : Int) = _
  have h1 : BitVec.ofInt 64 18446744073709551615 = BitVec.allOnes 64 := by decide
  rw [h1, BitVec.xor_allOnes, BitVec.toNat_not, ofInt_u64 a h, IntKind.wrap_u64]
  omega
theorem xori0 (a : Nat) (h : a < 9223372036854775808) : bits .xor .i64 (a : Int) 0 = a := by
  show IntKind.i64.wrap ((BitVec.ofInt 64 (a : Int) ^^^ BitVec.ofInt 64 0).toNat : Int) = _
  have h1 : BitVec.ofInt 64 0 = 0#64 := by decide
  rw [h1, BitVec.xor_zero, ofInt_u64 a (by omega), IntKind.wrap_i64]
  omega
theorem xori1 (a : Nat) (h : a < 9223372036854775808) : bits .xor .i64 (a : Int) (-1) = -(a : Int) - 1 := by
  show IntKind.i64.wrap ((BitVec.ofInt 64 (a : Int) ^^^ BitVec.ofInt 64 (-1)).toNat : Int) = _
  have h1 : BitVec.ofInt 64 (-1) = BitVec.allOnes 64 := by decide
  rw [h1, BitVec.xor_allOnes, BitVec.toNat_not, ofInt_u64 a (by omega), IntKind.wrap_i64]
  omega
theorem fold_p {n : Int} (h0 : 0 ≤ n) (h1 : n ≤ 9223372036854775807) : bits .xor .u64 (n * 2) (n / 9223372036854775808) = zig n := by
  have e : n / 9223372036854775808 = 0 := by omega
  obtain ⟨a, ha⟩ := Int.eq_ofNat_of_zero_le (show 0 ≤ n * 2 by omega)
  rw [e, ha, xor0 a (by omega)]
  unfold zig; rw [if_pos h0]; omega
theorem fold_n {n : Int} (h0 : n < 0) (h1 : -9223372036854775808 ≤ n) : bits .xor .u64 (IntKind.u64.wrap (IntKind.u64.wrap n * 2)) (IntKind.u64.wrap (n / 9223372036854775808)) = zig n := by
  have e : n / 9223372036854775808 = -1 := by omega
  have e1 : IntKind.u64.wrap (-1) = 18446744073709551615 := by rw [IntKind.wrap_u64]; decide
  have e2 : IntKind.u64.wrap (IntKind.u64.wrap n * 2) = n * 2 + 18446744073709551616 := by rw [IntKind.wrap_u64, IntKind.wrap_u64]; omega
  obtain ⟨a, ha⟩ := Int.eq_ofNat_of_zero_le (show 0 ≤ n * 2 + 18446744073709551616 by omega)
  rw [e, e1, e2, ha, xorAll a (by omega)]
  unfold zig; rw [if_neg (by omega)]; omega
theorem unfold_u (u : Nat) (h : u < 18446744073709551616) : bits .xor .i64 ((u : Int) / 2) (wrap64 (-wrap64 (bits .and .u64 (u : Int) 1))) = zag u := by
  have e : bits .and .u64 (u : Int) 1 = (u : Int) % 2 := and1 _ (by omega) (by omega)
  have e2 : (u : Int) / 2 = ((u / 2 : Nat) : Int) := by simp
  rw [e, e2]
  unfold zag
  by_cases hu : u % 2 = 0
  · have e3 : wrap64 (-wrap64 ((u : Int) % 2)) = 0 := by unfold wrap64; omega
    rw [e3, xori0 _ (by omega), if_pos hu]
  · have e3 : wrap64 (-wrap64 ((u : Int) % 2)) = -1 := by unfold wrap64; omega
    rw [e3, xori1 _ (by omega), if_neg hu]
/-- One more group behind s bits. -/
theorem or_group (v c k : Nat) (hv : v < 128 ^ k) (hk : k ≤ 9) : bits .or .u64 (v : Int) (IntKind.u64.wrap ((c : Int) * ((2 ^ (7 * k) : Nat) : Int))) = (((v + c * 128 ^ k) % 18446744073709551616 : Nat) : Int) := by
  have e7 : (2 : Nat) ^ (7 * k) = 128 ^ k := by rw [Nat.pow_mul]
  have hkp : (128 : Nat) ^ k ≤ 128 ^ 9 := Nat.pow_le_pow_right (by decide) hk
  have e9 : (128 : Nat) ^ 9 = 9223372036854775808 := by decide
  obtain ⟨j, hj⟩ : ∃ j, 18446744073709551616 = 128 ^ k * j := by
    have e : 7 * k + (64 - 7 * k) = 64 := by omega
    have e64 : (18446744073709551616 : Nat) = 2 ^ 64 := by decide
    exact ⟨2 ^ (64 - 7 * k), by rw [← e7, ← Nat.pow_add, e, e64]⟩
  have hpos : 0 < 128 ^ k := Nat.pow_pos (by decide)
  have e1 : IntKind.u64.wrap ((c : Int) * ((2 ^ (7 * k) : Nat) : Int)) = ((128 ^ k * (c % j) : Nat) : Int) := by
    rw [IntKind.wrap_u64, e7, Nat.mul_comm (128 ^ k), ← Nat.mul_mod_mul_right, Nat.mul_comm j, ← hj]
    simp
  have hjpos : 0 < j := by apply Nat.pos_of_ne_zero; intro h; subst h; simp at hj
  have hcj : c % j < j := Nat.mod_lt _ hjpos
  have hlt : v + 128 ^ k * (c % j) < 18446744073709551616 := by
    rw [hj]
    have : 128 ^ k * (c % j + 1) ≤ 128 ^ k * j := Nat.mul_le_mul_left _ hcj
    rw [Nat.mul_add] at this; omega
  rw [e1, u64_or_nat v _ (by omega) (by omega), Nat.or_comm]
  have e2 : 128 ^ k * (c % j) ||| v = 128 ^ k * (c % j) + v := by
    rw [← e7] at hv ⊢
    exact (Nat.two_pow_add_eq_or_of_lt hv _).symm
  rw [e2]
  congr 1
  rw [Nat.add_comm (128 ^ k * (c % j)), ← Nat.mod_eq_of_lt hlt]
  have e3 : c * 128 ^ k = 128 ^ k * (c % j) + 18446744073709551616 * (c / j) := by
    have h := Nat.mod_add_div c j
    conv => lhs; rw [← h]
    rw [hj, Nat.add_mul, Nat.mul_comm (c % j), Nat.mul_comm (j * (c / j)), Nat.mul_assoc]
  rw [e3, ← Nat.add_assoc, Nat.add_mul_mod_self_left]
end Go.Proofs.YthlifflapgccbaaGreat.M
/- Contracts of layer 1's bytes: word.Put and the document's own Put. -/
namespace Go.Proofs.YthlifflapgccbaaGreat
set_option linter.unusedVariables false
set_option maxRecDepth 100000
open Go.ChangeShapes Go.WideShapes Go.ChangeAt Go.RowKit
open M (W)

theorem infoU8 : (Tryz.prog.info? 5).map (fun i => (i.zero, i.size, i.bytes)) = some (some (.int .u8 0), 1, 1) := by kernel_rfl

theorem fold_any (n : Int) (w : World) (h0 : -9223372036854775808 ≤ n) (h1 : n ≤ 9223372036854775807) : Calls Tryz.prog 117 #[.int .i64 n] w fun e w' => e = .returned (.int .u64 (M.zig n)) ∧ w' = w := by
  by_cases hn : n < 0
  · go_enter Tryz.func117, Tryz.ntmps117
    go_wp2
    go_ret
    exact ret_u (M.fold_n hn h0)
  · have h2 : 0 ≤ n := by omega
    clear hn
    go_enter Tryz.func117, Tryz.ntmps117
    go_wp2
    go_ret
    exact ret_u (M.fold_p h2 h1)
theorem unfold_any (u : Nat) (w : World) (h1 : u < 18446744073709551616) : Calls Tryz.prog 107 #[.int .u64 u] w fun e w' => e = .returned (.int .i64 (M.zag u)) ∧ w' = w := by
  go_enter Tryz.func107, Tryz.ntmps107
  go_wp2
  go_ret
  exact ret_u (M.unfold_u u h1)
theorem mayEnd_any (i : Nat) (c : Int) (w : World) (h0 : 0 ≤ c) (h1 : c < 256) : Calls Tryz.prog 106 #[.int .i64 i, .int .u8 c] w fun e w' => e = .returned (.bool ((decide (i = 0) || c != 0) && (decide (i < 9) || decide (c ≤ 1)))) ∧ w' = w := by
  by_cases hi : 0 < i
  · by_cases hc : c = 0
    · subst hc
      go_enter Tryz.func106, Tryz.ntmps106
      go_wp2
      go_ret
      exact ret_b (by simp; omega)
    · have hz : ((c : Int) == 0) = false := by simpa using hc
      by_cases h9 : (i : Int) < 9
      · go_enter Tryz.func106, Tryz.ntmps106
        go_wp2
        go_ret
        exact ret_b (by simp; omega)
      · go_enter Tryz.func106, Tryz.ntmps106
        go_wp2
        go_ret
        exact ret_b (by have e : decide (i < 9) = false := by simp; omega
                        have e2 : (c != 0) = true := by simpa using hc
                        rw [e, e2]; simp)
  · have hi0 : i = 0 := by omega
    subst hi0
    go_enter Tryz.func106, Tryz.ntmps106
    go_wp2
    go_ret
    exact ret_b (by simp)

theorem and127 (x : Int) (h0 : 0 ≤ x) (h1 : x < 18446744073709551616) : bits .and .u64 x 127 = x % 128 :=
  bits_mask .u64 64 (by decide) M.wraps_u64 7 (by decide) x h0 (by omega)
theorem or128 (x : Int) (h0 : 0 ≤ x) (h1 : x < 128) : bits .or .u64 x 128 = x + 128 := by
  obtain ⟨a, rfl⟩ := Int.eq_ofNat_of_zero_le h0
  have e := u64_or_nat a 128 (by omega) (by decide)
  have e2 := Nat.two_pow_add_eq_or_of_lt (i := 7) (b := a) (by omega) 1
  rw [Nat.or_comm] at e2
  simp only [Nat.reducePow, Nat.mul_one] at e2
  rw [← e2] at e
  have e3 : (128 : Int) = ((128 : Nat) : Int) := rfl
  rw [e3, e]; simp; omega
theorem group_u8 (x : Nat) (h : x < 18446744073709551616) : bits .or .u64 (bits .and .u64 (x : Int) 127) 128 % 256 = (x : Int) % 128 + 128 := by
  rw [and127 _ (by omega) (by omega), or128 _ (by omega) (by omega)]; omega

set_option maxHeartbeats 1000000 in
theorem put_any (n : Int) (w : World) (h0 : -9223372036854775808 ≤ n) (h1 : n ≤ 9223372036854775807) : Calls Tryz.prog 111 #[.int .i64 n] w fun e w' =>
    ∃ v, e = .returned v ∧ w'.ownsRow w.heap.size 5 1 v (M.enc (M.zig n)).length ((M.enc (M.zig n)).map (Value.int .u8)) ∧ Below w.heap.size w w' := by
  obtain ⟨i0, hi, hz0, hz1, hz2⟩ := info_parts infoU8
  have hZ := M.zig_lt h0 h1
  have hL := M.enc_len10 hZ
  generalize hz : M.zig n = Z at *
  have HZ := Lib.hid hz; clear hz
  go_enter Tryz.func111, Tryz.ntmps111
  go_wp2_with fail
  refine (fold_any n _ h0 h1).mono ?_; rintro e w ⟨rfl, rfl⟩
  rw [HZ.out]
  clear h0 h1
  go_wp2_with fail
  go_loopw [3, 4] (fun v x wr => ∃ (acc : List Int) (X : Nat), x = .int .u64 X ∧ X < 18446744073709551616 ∧ wr.ownsRow w.heap.size 5 1 v acc.length (acc.map (Value.int .u8)) ∧ acc ++ M.enc X = M.enc Z ∧ Below w.heap.size w wr)
    (fun _ x _ => (intOf x).toNat)
  case atStart => exact ⟨[], Z, rfl, hZ, World.ownsRow_nil _ _ _ _, rfl, Below.refl _ _⟩
  case round =>
    obtain ⟨acc, X, rfl, hX, hown, hacc, hb⟩ := hrel
    have hal : acc.length + (M.enc X).length ≤ 10 := by rw [← List.length_append, hacc]; exact hL
    have hHL : acc.length ≤ 10 := by omega
    have HA := Lib.hid hacc; clear hacc
    have hbs := hb.size
    by_cases hc : 127 < X
    · have hg := M.enc_big (x := X) (by omega)
      have hu := group_u8 X hX
      have HG := Lib.hid hg; clear hg
      clear hal
      go_wp2_with (at_builtin; refine wpList_append_own _ rfl _ _ 22 rfl w.heap.size 5 i0 (.int .u8 0) 1 1 Tryz.underlying22 hi hz0 hz1 hz2 rfl (by decide) _ _ _ rfl (hown.alloc _) ⟨wr.heap.size, 0, none⟩ 1 1 [.int .u8 ((X : Int) % 128 + 128)] rfl rfl ?c1 ?c2 ?c3 ?c4 ?c5 ?_)
      case c1 => exact cell_one_new _ _ _
      case c2 => simp [Value.oneCell']
      case c3 => unfold maxLen; omega
      case c4 => omega
      case c5 => simp; omega
      intro v' w1 hown1 hgrow _
      have hb1 : Below w.heap.size w w1 := (hb.alloc hbs _).grown hgrow (by simp; omega) (fun k hk => (hown.lt k hk).1)
      have HO := Lib.hid hown1; clear hown1 hown hb hgrow
      go_wp2
      go_roundw
      case rel =>
        refine ⟨acc ++ [(X : Int) % 128 + 128], X / 128, by simp, by omega, ?_, ?_, hb1⟩
        · have := HO.out; simpa using this
        · rw [← HA.out, HG.out, List.append_assoc]; simp
      case measure => simp [intOf]; omega
    · have hg := M.enc_small (x := X) (by omega)
      have hu : (X : Int) % 256 = X := by omega
      have HG := Lib.hid hg; clear hg
      clear hal
      go_wp2_with (at_builtin; refine wpList_append_own _ rfl _ _ 22 rfl w.heap.size 5 i0 (.int .u8 0) 1 1 Tryz.underlying22 hi hz0 hz1 hz2 rfl (by decide) _ _ _ rfl (hown.alloc _) ⟨wr.heap.size, 0, none⟩ 1 1 [.int .u8 (X : Int)] rfl rfl ?c1 ?c2 ?c3 ?c4 ?c5 ?_)
      case c1 => exact cell_one_new _ _ _
      case c2 => simp [Value.oneCell']
      case c3 => unfold maxLen; omega
      case c4 => omega
      case c5 => simp; omega
      intro v' w1 hown1 hgrow _
      have hb1 : Below w.heap.size w w1 := (hb.alloc hbs _).grown hgrow (by simp; omega) (fun k hk => (hown.lt k hk).1)
      have HO := Lib.hid hown1; clear hown1 hown hb hgrow
      go_wp2
      go_ret
      refine ⟨_, rfl, ?_, hb1⟩
      have := HO.out
      rw [← HA.out, HG.out]
      simpa using this

set_option maxHeartbeats 1000000 in
theorem refPut_neg (n : Int) (w : World) (h0 : -9223372036854775808 ≤ n) (h1 : n ≤ 9223372036854775807) (hn : n < 0) : Calls Tryz.prog 74 #[.int .i64 n] w fun e w' =>
    ∃ v, e = .returned v ∧ w'.ownsRow w.heap.size 5 1 v (M.enc (M.zig n)).length ((M.enc (M.zig n)).map (Value.int .u8)) ∧ Below w.heap.size w w' := by
  obtain ⟨i0, hi, hz0, hz1, hz2⟩ := info_parts infoU8
  have hZ := M.zig_lt h0 h1
  have hL := M.enc_len10 hZ
  have hzz : (-(n + 1)) * 2 + 1 = (M.zig n : Int) := by unfold M.zig; split <;> omega
  generalize hz : M.zig n = Z at *
  clear hz
  go_enter Tryz.func74, Tryz.ntmps74
  go_wp2_with fail
  clear hzz h0 h1 hn
  go_loopw [4, 3] (fun v x wr => ∃ (acc : List Int) (X : Nat), x = .int .u64 X ∧ X < 18446744073709551616 ∧ wr.ownsRow w.heap.size 5 1 v acc.length (acc.map (Value.int .u8)) ∧ acc ++ M.enc X = M.enc Z ∧ Below w.heap.size w wr)
    (fun _ x _ => (intOf x).toNat)
  case atStart => exact ⟨[], Z, rfl, hZ, World.ownsRow_nil _ _ _ _, rfl, Below.refl _ _⟩
  case round =>
    obtain ⟨acc, X, rfl, hX, hown, hacc, hb⟩ := hrel
    have hal : acc.length + (M.enc X).length ≤ 10 := by rw [← List.length_append, hacc]; exact hL
    have hHL : acc.length ≤ 10 := by omega
    have HA := Lib.hid hacc; clear hacc
    have hbs := hb.size
    by_cases hc : 127 < X
    · have hg := M.enc_big (x := X) (by omega)
      have HG := Lib.hid hg; clear hg
      clear hal
      go_wp2_with (at_builtin; refine wpList_append_own _ rfl _ _ 22 rfl w.heap.size 5 i0 (.int .u8 0) 1 1 Tryz.underlying22 hi hz0 hz1 hz2 rfl (by decide) _ _ _ rfl (hown.alloc _) ⟨wr.heap.size, 0, none⟩ 1 1 [.int .u8 ((X : Int) % 128 + 128)] rfl rfl ?c1 ?c2 ?c3 ?c4 ?c5 ?_)
      case c1 => exact cell_one_new _ _ _
      case c2 => simp [Value.oneCell']
      case c3 => unfold maxLen; omega
      case c4 => omega
      case c5 => simp; omega
      intro v' w1 hown1 hgrow _
      have hb1 : Below w.heap.size w w1 := (hb.alloc hbs _).grown hgrow (by simp; omega) (fun k hk => (hown.lt k hk).1)
      have HO := Lib.hid hown1; clear hown1 hown hb hgrow
      go_wp2
      go_roundw
      case rel =>
        refine ⟨acc ++ [(X : Int) % 128 + 128], X / 128, by simp, by omega, ?_, ?_, hb1⟩
        · have := HO.out; simpa using this
        · rw [← HA.out, HG.out, List.append_assoc]; simp
      case measure => simp [intOf]; omega
    · have hg := M.enc_small (x := X) (by omega)
      have hu : (X : Int) % 256 = X := by omega
      have HG := Lib.hid hg; clear hg
      clear hal
      go_wp2_with (at_builtin; refine wpList_append_own _ rfl _ _ 22 rfl w.heap.size 5 i0 (.int .u8 0) 1 1 Tryz.underlying22 hi hz0 hz1 hz2 rfl (by decide) _ _ _ rfl (hown.alloc _) ⟨wr.heap.size, 0, none⟩ 1 1 [.int .u8 (X : Int)] rfl rfl ?c1 ?c2 ?c3 ?c4 ?c5 ?_)
      case c1 => exact cell_one_new _ _ _
      case c2 => simp [Value.oneCell']
      case c3 => unfold maxLen; omega
      case c4 => omega
      case c5 => simp; omega
      intro v' w1 hown1 hgrow _
      have hb1 : Below w.heap.size w w1 := (hb.alloc hbs _).grown hgrow (by simp; omega) (fun k hk => (hown.lt k hk).1)
      have HO := Lib.hid hown1; clear hown1 hown hb hgrow
      go_wp2
      go_ret
      refine ⟨_, rfl, ?_, hb1⟩
      have := HO.out
      rw [← HA.out, HG.out]
      simpa using this

set_option maxHeartbeats 1000000 in
theorem refPut_pos (n : Int) (w : World) (h0 : -9223372036854775808 ≤ n) (h1 : n ≤ 9223372036854775807) (hn : ¬ n < 0) : Calls Tryz.prog 74 #[.int .i64 n] w fun e w' =>
    ∃ v, e = .returned v ∧ w'.ownsRow w.heap.size 5 1 v (M.enc (M.zig n)).length ((M.enc (M.zig n)).map (Value.int .u8)) ∧ Below w.heap.size w w' := by
  obtain ⟨i0, hi, hz0, hz1, hz2⟩ := info_parts infoU8
  have hZ := M.zig_lt h0 h1
  have hL := M.enc_len10 hZ
  have hzz : n * 2 = (M.zig n : Int) := by unfold M.zig; split <;> omega
  generalize hz : M.zig n = Z at *
  clear hz
  go_enter Tryz.func74, Tryz.ntmps74
  go_wp2_with fail
  clear hzz h0 h1 hn
  go_loopw [4, 3] (fun v x wr => ∃ (acc : List Int) (X : Nat), x = .int .u64 X ∧ X < 18446744073709551616 ∧ wr.ownsRow w.heap.size 5 1 v acc.length (acc.map (Value.int .u8)) ∧ acc ++ M.enc X = M.enc Z ∧ Below w.heap.size w wr)
    (fun _ x _ => (intOf x).toNat)
  case atStart => exact ⟨[], Z, rfl, hZ, World.ownsRow_nil _ _ _ _, rfl, Below.refl _ _⟩
  case round =>
    obtain ⟨acc, X, rfl, hX, hown, hacc, hb⟩ := hrel
    have hal : acc.length + (M.enc X).length ≤ 10 := by rw [← List.length_append, hacc]; exact hL
    have hHL : acc.length ≤ 10 := by omega
    have HA := Lib.hid hacc; clear hacc
    have hbs := hb.size
    by_cases hc : 127 < X
    · have hg := M.enc_big (x := X) (by omega)
      have HG := Lib.hid hg; clear hg
      clear hal
      go_wp2_with (at_builtin; refine wpList_append_own _ rfl _ _ 22 rfl w.heap.size 5 i0 (.int .u8 0) 1 1 Tryz.underlying22 hi hz0 hz1 hz2 rfl (by decide) _ _ _ rfl (hown.alloc _) ⟨wr.heap.size, 0, none⟩ 1 1 [.int .u8 ((X : Int) % 128 + 128)] rfl rfl ?c1 ?c2 ?c3 ?c4 ?c5 ?_)
      case c1 => exact cell_one_new _ _ _
      case c2 => simp [Value.oneCell']
      case c3 => unfold maxLen; omega
      case c4 => omega
      case c5 => simp; omega
      intro v' w1 hown1 hgrow _
      have hb1 : Below w.heap.size w w1 := (hb.alloc hbs _).grown hgrow (by simp; omega) (fun k hk => (hown.lt k hk).1)
      have HO := Lib.hid hown1; clear hown1 hown hb hgrow
      go_wp2
      go_roundw
      case rel =>
        refine ⟨acc ++ [(X : Int) % 128 + 128], X / 128, by simp, by omega, ?_, ?_, hb1⟩
        · have := HO.out; simpa using this
        · rw [← HA.out, HG.out, List.append_assoc]; simp
      case measure => simp [intOf]; omega
    · have hg := M.enc_small (x := X) (by omega)
      have hu : (X : Int) % 256 = X := by omega
      have HG := Lib.hid hg; clear hg
      clear hal
      go_wp2_with (at_builtin; refine wpList_append_own _ rfl _ _ 22 rfl w.heap.size 5 i0 (.int .u8 0) 1 1 Tryz.underlying22 hi hz0 hz1 hz2 rfl (by decide) _ _ _ rfl (hown.alloc _) ⟨wr.heap.size, 0, none⟩ 1 1 [.int .u8 (X : Int)] rfl rfl ?c1 ?c2 ?c3 ?c4 ?c5 ?_)
      case c1 => exact cell_one_new _ _ _
      case c2 => simp [Value.oneCell']
      case c3 => unfold maxLen; omega
      case c4 => omega
      case c5 => simp; omega
      intro v' w1 hown1 hgrow _
      have hb1 : Below w.heap.size w w1 := (hb.alloc hbs _).grown hgrow (by simp; omega) (fun k hk => (hown.lt k hk).1)
      have HO := Lib.hid hown1; clear hown1 hown hb hgrow
      go_wp2
      go_ret
      refine ⟨_, rfl, ?_, hb1⟩
      have := HO.out
      rw [← HA.out, HG.out]
      simpa using this
theorem refPut_any (n : Int) (w : World) (h0 : -9223372036854775808 ≤ n) (h1 : n ≤ 9223372036854775807) : Calls Tryz.prog 74 #[.int .i64 n] w fun e w' =>
    ∃ v, e = .returned v ∧ w'.ownsRow w.heap.size 5 1 v (M.enc (M.zig n)).length ((M.enc (M.zig n)).map (Value.int .u8)) ∧ Below w.heap.size w w' := by
  by_cases hn : n < 0
  · exact refPut_neg n w h0 h1 hn
  · exact refPut_pos n w h0 h1 hn
end Go.Proofs.YthlifflapgccbaaGreat
/- Contracts of layer 1's bytes: word.Get and the document's own Get. -/
namespace Go.Proofs.YthlifflapgccbaaGreat
set_option linter.unusedVariables false
set_option maxRecDepth 100000
open Go.ChangeShapes Go.WideShapes Go.ChangeAt Go.RowKit
open M (W)

/-- What Get answers: the number, where it ends, and true; or nothing. -/
def getRes (L : List Int) (i : Int) : Value :=
  if i < 0 ∨ (L.length : Int) ≤ i then .tuple #[.int .i64 0, .int .i64 0, .bool false]
  else match M.got (L.drop i.toNat) with
    | none => .tuple #[.int .i64 0, .int .i64 0, .bool false]
    | some (x, k) => .tuple #[.int .i64 (M.zag x), .int .i64 (i + k), .bool true]
theorem getRes_neg {L : List Int} {i : Int} (h : i < 0) : getRes L i = .tuple #[.int .i64 0, .int .i64 0, .bool false] := by unfold getRes; rw [if_pos (.inl h)]
theorem getRes_far {L : List Int} {i : Int} (h : (L.length : Int) ≤ i) : getRes L i = .tuple #[.int .i64 0, .int .i64 0, .bool false] := by unfold getRes; rw [if_pos (.inr h)]
theorem getRes_none {L : List Int} {k : Nat} (h : k < L.length) (hg : M.got (L.drop k) = none) : getRes L k = .tuple #[.int .i64 0, .int .i64 0, .bool false] := by
  unfold getRes; rw [if_neg (by omega)]; simp [hg]
theorem getRes_some {L : List Int} {k x n : Nat} (h : k < L.length) (hg : M.got (L.drop k) = some (x, n)) : getRes L k = .tuple #[.int .i64 (M.zag x), .int .i64 ((k : Int) + n), .bool true] := by
  unfold getRes; rw [if_neg (by omega)]; simp [hg]

theorem mayEnd_yes (p : List Int) (i : Nat) (c : Int) (w : World) (h0 : 0 ≤ c) (h1 : c < 256) (hl : p.length = i) (hf : M.fits (p ++ [c]) = true) : Calls Tryz.prog 106 #[.int .i64 i, .int .u8 c] w fun e w' => e = .returned (.bool true) ∧ w' = w :=
  (mayEnd_any i c w h0 h1).mono fun _ _ ⟨he, hw⟩ => ⟨by rw [he, ← hl, ← M.fits_snoc, hf], hw⟩
theorem mayEnd_no (p : List Int) (i : Nat) (c : Int) (w : World) (h0 : 0 ≤ c) (h1 : c < 256) (hl : p.length = i) (hf : M.fits (p ++ [c]) = false) : Calls Tryz.prog 106 #[.int .i64 i, .int .u8 c] w fun e w' => e = .returned (.bool false) ∧ w' = w :=
  (mayEnd_any i c w h0 h1).mono fun _ _ ⟨he, hw⟩ => ⟨by rw [he, ← hl, ← M.fits_snoc, hf], hw⟩

/-- Below 0. -/
theorem get_neg (a : Option Addr) (len cap : Nat) (i : Int) (w : World) (h : i < 0) : Calls Tryz.prog 91 #[.slice a len cap, .int .i64 i] w fun e w' => e = .returned (.tuple #[.int .i64 0, .int .i64 0, .bool false]) ∧ w' = w := by
  go_enter Tryz.func91, Tryz.ntmps91
  go_wp2
  go_ret3
  exact ⟨rfl, rfl⟩
theorem get_far (a : Option Addr) (len cap : Nat) (i : Int) (w : World) (h0 : 0 ≤ i) (h : (len : Int) ≤ i) : Calls Tryz.prog 91 #[.slice a len cap, .int .i64 i] w fun e w' => e = .returned (.tuple #[.int .i64 0, .int .i64 0, .bool false]) ∧ w' = w := by
  go_enter Tryz.func91, Tryz.ntmps91
  go_wp2
  go_ret3
  exact ⟨rfl, rfl⟩
/-- The i-th byte behind k, and what lies ahead of it. -/
theorem at_byte {L : List Int} {k i : Nat} (h : k + i < L.length) : ∃ (p r : List Int) (c : Int), L.drop k = p ++ c :: r ∧ p = (L.drop k).take i ∧ p.length = i ∧ c = L.getD (k + i) 0 ∧ c ∈ L ∧ p ++ [c] = (L.drop k).take (i + 1) := by
  have hd : i < (L.drop k).length := by simp; omega
  have e : (L.drop k)[i] = L[k + i] := by simp
  refine ⟨(L.drop k).take i, (L.drop k).drop (i + 1), L[k + i], ?_, rfl, by simp; omega, by simp [List.getD, h], List.getElem_mem _, ?_⟩
  · rw [← e, List.getElem_cons_drop, List.take_append_drop]
  · rw [← e, List.take_succ_eq_append_getElem hd]
theorem or_step {p : List Int} {c : Int} {i : Nat} (hp : p.length = i) (hi : i ≤ 9) (c0 : 0 ≤ c) :
    bits .or .u64 (M.val p : Int) (IntKind.u64.wrap (c % 128 * 2 ^ (7 * i))) = ((M.val (p ++ [c]) % 18446744073709551616 : Nat) : Int) := by
  have hv : M.val p < 128 ^ i := by rw [← hp]; exact M.val_lt p
  have h := M.or_group (M.val p) (c.toNat % 128) i hv hi
  have e : ((c.toNat % 128 : Nat) : Int) * ((2 ^ (7 * i) : Nat) : Int) = c % 128 * 2 ^ (7 * i) := by
    have : ((c.toNat % 128 : Nat) : Int) = c % 128 := by omega
    rw [this]; simp
  rw [e] at h
  rw [h, M.val_append, hp]
theorem all8_snoc {p : List Int} {c : Int} (h : M.all8 p) (h0 : 128 ≤ c) (h1 : c ≤ 255) : M.all8 (p ++ [c]) := by
  intro x hx; rw [List.mem_append] at hx
  rcases hx with hx | hx
  · exact h x hx
  · simp at hx; omega
set_option maxRecDepth 100000 in
theorem and128 {c : Int} (h0 : 0 ≤ c) (h1 : c ≤ 255) : bits .and .u8 c 128 = if 128 ≤ c then 128 else 0 := by
  obtain ⟨a, rfl⟩ := Int.eq_ofNat_of_zero_le h0
  have : ∀ a : Fin 256, bits .and .u8 ((a.val : Nat) : Int) 128 = if 128 ≤ ((a.val : Nat) : Int) then 128 else 0 := by decide
  exact this ⟨a, by omega⟩
set_option maxRecDepth 100000 in
theorem and127u8 {c : Int} (h0 : 0 ≤ c) (h1 : c ≤ 255) : bits .and .u8 c 127 = c % 128 := by
  obtain ⟨a, rfl⟩ := Int.eq_ofNat_of_zero_le h0
  have : ∀ a : Fin 256, bits .and .u8 ((a.val : Nat) : Int) 127 = ((a.val : Nat) : Int) % 128 := by decide
  exact this ⟨a, by omega⟩
theorem get_in (b off cap : Nat) (L : List Int) (k : Nat) (w : World) (hm : L.length ≤ 140737488351232) (hk : k < L.length)
    (hc : ∀ j, j < L.length → w.cell? ⟨b, off + j, none⟩ = some (.int .u8 (L.getD j 0))) (hr : ∀ c ∈ L, 0 ≤ c ∧ c ≤ 255) :
    Calls Tryz.prog 91 #[.slice (some ⟨b, off, none⟩) L.length cap, .int .i64 k] w fun e w' => e = .returned (getRes L k) ∧ w' = w := by
  by_cases h10 : (10 : Int) ≤ L.length - k
  · have hlim : 10 ≤ L.length - k := by omega
    go_enter Tryz.func91, Tryz.ntmps91
    go_wp2_with fail
    go_loop [7, 23] (fun v x => ∃ i : Nat, i ≤ 10 ∧ k + i ≤ L.length ∧ x = .int .i64 i ∧ v = .int .u64 ((M.val ((L.drop k).take i) % 18446744073709551616 : Nat) : Int) ∧ M.all8 ((L.drop k).take i)) (fun _ x => 10 - (intOf x).toNat)
    case atStart => exact ⟨0, by omega, by omega, rfl, rfl, by intro c hc; simp at hc⟩
    case round =>
      obtain ⟨i, hi, hi2, rfl, rfl, h8⟩ := hrel
      by_cases hlt : i < 10 ∧ k + i < L.length
      · obtain ⟨hlt, hlt2⟩ := hlt
        obtain ⟨p, r, c, hD, hp, hpl, hcv, hcm, hsn⟩ := at_byte (L := L) (k := k) (i := i) hlt2
        have hcell := hc (k + i) (by omega)
        rw [← hcv] at hcell
        obtain ⟨c0, c1⟩ := hr c hcm
        rw [← hp] at h8 ⊢
        have hv : M.val p < 128 ^ i := by rw [← hpl]; exact M.val_lt p
        have hv9 : M.val p < 18446744073709551616 := by
          have h1 : 128 ^ i ≤ 128 ^ 9 := Nat.pow_le_pow_right (by decide) (by omega)
          have h2 : (128 : Nat) ^ 9 = 9223372036854775808 := by decide
          omega
        rw [Nat.mod_eq_of_lt hv9]
        have h127 := and127u8 c0 c1
        have HO := Lib.hid (or_step (c := c) hpl (by omega) c0)
        have HC := Lib.hid hc; have HR := Lib.hid hr; have HD := Lib.hid hD; have HP := Lib.hid hp; have HL := Lib.hid hpl; have HS := Lib.hid hsn; have HV := Lib.hid hcv; have H8 := Lib.hid h8
        clear hc hr hD hp hpl hsn hcv h8 hv hcm
        by_cases hcont : 128 ≤ c
        · have hbit : bits .and .u8 c 128 = 128 := by rw [and128 c0 c1, if_pos hcont]
          go_wp2_with fail
          go_round
          case rel => exact ⟨i + 1, by omega, by omega, by go_num, by rw [HO.out, HS.out], by rw [← HS.out]; exact all8_snoc H8.out hcont c1⟩
          case measure => simp [intOf]; omega
        · have hbit : bits .and .u8 c 128 = 0 := by rw [and128 c0 c1, if_neg hcont]
          cases hf : M.fits (p ++ [c]) with
          | false =>
            have HF := Lib.hid hf; clear hf
            go_wp2_with (go_at_call 106; (with_reducible refine (mayEnd_no p i c _ c0 (by omega) HL.out HF.out).mono ?_); rintro e w ⟨rfl, rfl⟩)
            go_ret3
            refine ⟨?_, rfl⟩
            rw [getRes_none hk (by rw [HD.out]; exact M.got_no H8.out (by have := HL.out; omega) (by omega) HF.out)]; rfl
          | true =>
            have HF := Lib.hid hf; clear hf
            have HT := Lib.hid (M.fits_lt (c := c) (by have := HL.out; omega) c0 HF.out)
            go_wp2_with (go_at_call 106; (with_reducible refine (mayEnd_yes p i c _ c0 (by omega) HL.out HF.out).mono ?_); rintro e w ⟨rfl, rfl⟩)
            rw [HO.out, Nat.mod_eq_of_lt HT.out]
            refine (unfold_any _ _ HT.out).mono ?_; rintro e w ⟨rfl, rfl⟩
            go_wp2_with fail
            go_ret3
            refine ⟨?_, rfl⟩
            rw [getRes_some hk (by rw [HD.out]; exact M.got_yes H8.out (by have := HL.out; omega) (by omega) HF.out), HL.out]
            go_num
      · have HE := Lib.hid (show M.got (L.drop k) = none by
          have h := M.got_end (r := (L.drop k).drop i) h8 (by left; rw [List.length_take]; simp; omega)
          rwa [List.take_append_drop] at h)
        clear hc hr h8
        go_wp2_with fail
        go_ret3
        refine ⟨?_, rfl⟩
        rw [getRes_none hk HE.out]; rfl
  · have hlim : L.length - k < 10 := by omega
    go_enter Tryz.func91, Tryz.ntmps91
    go_wp2_with fail
    go_loop [7, 23] (fun v x => ∃ i : Nat, i ≤ 10 ∧ k + i ≤ L.length ∧ x = .int .i64 i ∧ v = .int .u64 ((M.val ((L.drop k).take i) % 18446744073709551616 : Nat) : Int) ∧ M.all8 ((L.drop k).take i)) (fun _ x => 10 - (intOf x).toNat)
    case atStart => exact ⟨0, by omega, by omega, rfl, rfl, by intro c hc; simp at hc⟩
    case round =>
      obtain ⟨i, hi, hi2, rfl, rfl, h8⟩ := hrel
      by_cases hlt : i < 10 ∧ k + i < L.length
      · obtain ⟨hlt, hlt2⟩ := hlt
        obtain ⟨p, r, c, hD, hp, hpl, hcv, hcm, hsn⟩ := at_byte (L := L) (k := k) (i := i) hlt2
        have hcell := hc (k + i) (by omega)
        rw [← hcv] at hcell
        obtain ⟨c0, c1⟩ := hr c hcm
        rw [← hp] at h8 ⊢
        have hv : M.val p < 128 ^ i := by rw [← hpl]; exact M.val_lt p
        have hv9 : M.val p < 18446744073709551616 := by
          have h1 : 128 ^ i ≤ 128 ^ 9 := Nat.pow_le_pow_right (by decide) (by omega)
          have h2 : (128 : Nat) ^ 9 = 9223372036854775808 := by decide
          omega
        rw [Nat.mod_eq_of_lt hv9]
        have h127 := and127u8 c0 c1
        have HO := Lib.hid (or_step (c := c) hpl (by omega) c0)
        have HC := Lib.hid hc; have HR := Lib.hid hr; have HD := Lib.hid hD; have HP := Lib.hid hp; have HL := Lib.hid hpl; have HS := Lib.hid hsn; have HV := Lib.hid hcv; have H8 := Lib.hid h8
        clear hc hr hD hp hpl hsn hcv h8 hv hcm
        by_cases hcont : 128 ≤ c
        · have hbit : bits .and .u8 c 128 = 128 := by rw [and128 c0 c1, if_pos hcont]
          go_wp2_with fail
          go_round
          case rel => exact ⟨i + 1, by omega, by omega, by go_num, by rw [HO.out, HS.out], by rw [← HS.out]; exact all8_snoc H8.out hcont c1⟩
          case measure => simp [intOf]; omega
        · have hbit : bits .and .u8 c 128 = 0 := by rw [and128 c0 c1, if_neg hcont]
          cases hf : M.fits (p ++ [c]) with
          | false =>
            have HF := Lib.hid hf; clear hf
            go_wp2_with (go_at_call 106; (with_reducible refine (mayEnd_no p i c _ c0 (by omega) HL.out HF.out).mono ?_); rintro e w ⟨rfl, rfl⟩)
            go_ret3
            refine ⟨?_, rfl⟩
            rw [getRes_none hk (by rw [HD.out]; exact M.got_no H8.out (by have := HL.out; omega) (by omega) HF.out)]; rfl
          | true =>
            have HF := Lib.hid hf; clear hf
            have HT := Lib.hid (M.fits_lt (c := c) (by have := HL.out; omega) c0 HF.out)
            go_wp2_with (go_at_call 106; (with_reducible refine (mayEnd_yes p i c _ c0 (by omega) HL.out HF.out).mono ?_); rintro e w ⟨rfl, rfl⟩)
            rw [HO.out, Nat.mod_eq_of_lt HT.out]
            refine (unfold_any _ _ HT.out).mono ?_; rintro e w ⟨rfl, rfl⟩
            go_wp2_with fail
            go_ret3
            refine ⟨?_, rfl⟩
            rw [getRes_some hk (by rw [HD.out]; exact M.got_yes H8.out (by have := HL.out; omega) (by omega) HF.out), HL.out]
            go_num
      · have HE := Lib.hid (show M.got (L.drop k) = none by
          have h := M.got_end (r := (L.drop k).drop i) h8 (by right; simp; omega)
          rwa [List.take_append_drop] at h)
        clear hc hr h8
        go_wp2_with fail
        go_ret3
        refine ⟨?_, rfl⟩
        rw [getRes_none hk HE.out]; rfl
end Go.Proofs.YthlifflapgccbaaGreat
