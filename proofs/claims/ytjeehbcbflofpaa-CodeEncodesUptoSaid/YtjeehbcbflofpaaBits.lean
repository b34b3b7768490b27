/- Parts of a word of 64 bits: masks, shifts and joins as quotients, rests and sums. No program in sight. -/
import Derived.IntWalk
import Derived.Laws.BitsAllLaws
namespace Go.Proofs.Ytjeehbcbflofpaa.M
set_option linter.unusedVariables false
open Go.RowKit

theorem split3 (h s k : Nat) : h = 2 ^ (s + k) * (h / 2 ^ (s + k)) + (2 ^ s * (h / 2 ^ s % 2 ^ k) + h % 2 ^ s) := by
  have h1 := Nat.div_add_mod h (2 ^ s)
  have h2 := Nat.div_add_mod (h / 2 ^ s) (2 ^ k)
  rw [Nat.div_div_eq_div_mul, ← Nat.pow_add] at h2
  have h3 : 2 ^ (s + k) * (h / 2 ^ (s + k)) = 2 ^ s * (2 ^ k * (h / 2 ^ (s + k))) := by rw [Nat.pow_add, Nat.mul_assoc]
  rw [h3, ← Nat.add_assoc, ← Nat.mul_add, h2, h1]

theorem lo_lt (m l s k : Nat) (hm : m < 2 ^ k) (hl : l < 2 ^ s) : 2 ^ s * m + l < 2 ^ (s + k) := by
  have : 2 ^ s * (m + 1) ≤ 2 ^ s * 2 ^ k := Nat.mul_le_mul_left _ hm
  rw [Nat.pow_add]; rw [Nat.mul_add] at this; omega

theorem with_nat (h s k m : Nat) (hk : s + k ≤ 64) (hm : m < 2 ^ k) (hh : h < 2 ^ 64) :
    (h &&& (2 ^ 64 - ((2 ^ k - 1) * 2 ^ s + 1))) ||| (2 ^ s * m) = h - 2 ^ s * (h / 2 ^ s % 2 ^ k) + 2 ^ s * m := by
  have hs := split3 h s k
  have hl : h % 2 ^ s < 2 ^ s := Nat.mod_lt _ (Nat.two_pow_pos s)
  have hmid : h / 2 ^ s % 2 ^ k < 2 ^ k := Nat.mod_lt _ (Nat.two_pow_pos k)
  have hr : h - 2 ^ s * (h / 2 ^ s % 2 ^ k) + 2 ^ s * m = 2 ^ (s + k) * (h / 2 ^ (s + k)) + (2 ^ s * m + h % 2 ^ s) := by omega
  have hmask : (2 ^ k - 1) * 2 ^ s < 2 ^ 64 := by
    have h1 : (2 ^ k - 1) * 2 ^ s < 2 ^ k * 2 ^ s := Nat.mul_lt_mul_of_pos_right (Nat.sub_lt (Nat.two_pow_pos k) (by decide)) (Nat.two_pow_pos s)
    rw [← Nat.pow_add] at h1
    exact Nat.lt_of_lt_of_le h1 (Nat.pow_le_pow_right (by decide) (by omega))
  rw [hr]
  apply Nat.eq_of_testBit_eq
  intro j
  rw [Nat.testBit_or, Nat.testBit_and, Nat.testBit_two_pow_sub_succ hmask, Nat.testBit_two_pow_mul, Nat.testBit_mul_two_pow, Nat.testBit_two_pow_sub_one,
    Nat.testBit_two_pow_mul_add _ (lo_lt _ _ _ _ hm hl), Nat.testBit_two_pow_mul_add _ hl]
  have hb : h.testBit j = if j < s + k then (if j < s then (h % 2 ^ s).testBit j else (h / 2 ^ s % 2 ^ k).testBit (j - s)) else (h / 2 ^ (s + k)).testBit (j - (s + k)) := by
    conv => lhs; rw [hs]
    rw [Nat.testBit_two_pow_mul_add _ (lo_lt _ _ _ _ hmid hl), Nat.testBit_two_pow_mul_add _ hl]
  by_cases h1 : j < s
  · have a1 : ¬ s ≤ j := by omega
    have a2 : j < s + k := by omega
    have a3 : j < 64 := by omega
    rw [hb, if_pos a2, if_pos h1, if_pos a2, if_pos h1]; simp [a1, a3]
  · have a1 : s ≤ j := by omega
    by_cases h2 : j < s + k
    · have a2 : j - s < k := by omega
      have a3 : j < 64 := by omega
      simp [h1, h2, a1, a2, a3]
    · have a2 : ¬ j - s < k := by omega
      have a3 : m.testBit (j - s) = false := Nat.testBit_lt_two_pow (Nat.lt_of_lt_of_le hm (Nat.pow_le_pow_right (by decide) (by omega)))
      by_cases a4 : j < 64
      · rw [hb]; simp [h2, a1, a2, a3, a4]
      · have a5 : h.testBit j = false := Nat.testBit_lt_two_pow (Nat.lt_of_lt_of_le hh (Nat.pow_le_pow_right (by decide) (by omega)))
        have a6 := a5; rw [hb] at a6; simp [h2] at a6
        simp [h2, a1, a2, a3, a4, a6]

theorem wraps_u64 (n : Int) (h₀ : 0 ≤ n) (h₁ : n < 2 ^ 64) : IntKind.u64.wrap n = n := by rw [IntKind.wrap_u64]; omega
theorem u64_lt (n : Int) : IntKind.u64.wrap n < 18446744073709551616 := by rw [IntKind.wrap_u64]; omega
theorem u64_nn (n : Int) : 0 ≤ IntKind.u64.wrap n := by rw [IntKind.wrap_u64]; omega
theorem and20 (x : Int) (h0 : 0 ≤ x) (h1 : x < 18446744073709551616) : bits .and .u64 x 1048575 = x % 1048576 :=
  bits_mask .u64 64 (by decide) wraps_u64 20 (by decide) x h0 (by omega)
theorem and1 (x : Int) (h0 : 0 ≤ x) (h1 : x < 18446744073709551616) : bits .and .u64 x 1 = x % 2 :=
  bits_mask .u64 64 (by decide) wraps_u64 1 (by decide) x h0 (by omega)
theorem or1 (x : Int) (h0 : 0 ≤ x) (h1 : x < 18446744073709551616) (h2 : x % 2 = 0) : bits .or .u64 x 1 = x + 1 :=
  bits_join .u64 64 (by decide) wraps_u64 1 x 1 h0 (by simpa using h2) (by omega) (by decide) (by decide) (by decide)

/-- A field of h, and h with another one in its place. -/
def fld (h s k : Int) : Int := h / s % k
def put (h s k m : Int) : Int := h - s * (h / s % k) + s * (m % k)

theorem with_int (h m : Int) (s k : Nat) (hk : s + k ≤ 64) (h0 : 0 ≤ h) (h1 : h < 18446744073709551616) :
    bits .or .u64 (bits .andNot .u64 h (((2 ^ k - 1) * 2 ^ s : Nat) : Int)) (((2 ^ s : Nat) : Int) * (m % ((2 ^ k : Nat) : Int))) = put h ((2 ^ s : Nat) : Int) ((2 ^ k : Nat) : Int) m := by
  obtain ⟨H, rfl⟩ := Int.eq_ofNat_of_zero_le h0
  have hkp : 0 < 2 ^ k := Nat.two_pow_pos k
  obtain ⟨M, hM⟩ := Int.eq_ofNat_of_zero_le (Int.emod_nonneg m (b := ((2 ^ k : Nat) : Int)) (by omega))
  have hM2 : M < 2 ^ k := by have := Int.emod_lt_of_pos m (b := ((2 ^ k : Nat) : Int)) (by omega); omega
  have hmask : (2 ^ k - 1) * 2 ^ s < 2 ^ 64 := by
    have h1 : (2 ^ k - 1) * 2 ^ s < 2 ^ k * 2 ^ s := Nat.mul_lt_mul_of_pos_right (Nat.sub_lt (Nat.two_pow_pos k) (by decide)) (Nat.two_pow_pos s)
    rw [← Nat.pow_add] at h1
    exact Nat.lt_of_lt_of_le h1 (Nat.pow_le_pow_right (by decide) (by omega))
  have hfin := with_nat H s k M hk hM2 (by omega)
  have hsm : 2 ^ s * M < 2 ^ 64 := by
    have := lo_lt M 0 s k hM2 (Nat.two_pow_pos s)
    exact Nat.lt_of_lt_of_le this (Nat.pow_le_pow_right (by decide) hk)
  have hle : 2 ^ s * (H / 2 ^ s % 2 ^ k) ≤ H := by have := split3 H s k; omega
  rw [hM, u64_andNot_nat H _ (by omega) (by omega)]
  have e1 : ((2 ^ s : Nat) : Int) * (M : Int) = ((2 ^ s * M : Nat) : Int) := by simp
  have e2 : 18446744073709551615 - (2 ^ k - 1) * 2 ^ s = 2 ^ 64 - ((2 ^ k - 1) * 2 ^ s + 1) := by omega
  rw [e1, u64_or_nat _ _ (by have := Nat.and_le_left (n := H) (m := 18446744073709551615 - (2 ^ k - 1) * 2 ^ s); omega) (by omega), e2, hfin]
  unfold put
  rw [hM, Int.natCast_add, Int.natCast_sub hle]
  simp

theorem fld_lo (h s k : Int) (hk : 0 < k) : 0 ≤ fld h s k := Int.emod_nonneg _ (by omega)
theorem fld_hi (h s k : Int) (hk : 0 < k) : fld h s k < k := Int.emod_lt_of_pos _ hk
theorem and20s (x : Int) : bits .and .i64 x 1048575 = x % 1048576 := by
  show IntKind.i64.wrap ((BitVec.ofInt 64 x &&& BitVec.ofInt 64 1048575).toNat : Int) = _
  have h1 : (BitVec.ofInt 64 x).toNat = (x % 18446744073709551616).toNat := by simp [BitVec.toNat_ofInt]
  have h2 : (BitVec.ofInt 64 1048575).toNat = 2 ^ 20 - 1 := by decide
  rw [BitVec.toNat_and, h1, h2, Nat.and_two_pow_sub_one_eq_mod, IntKind.wrap_i64]
  omega
/-- A head with all its parts. -/
def hd (a n o k : Int) : Int := 1 + 2 * (a % 1048576) + 2097152 * (n % 1048576) + 2199023255552 * (o % 2) + 4398046511104 * (k % 1048576)
theorem hd_lo (a n o k : Int) : 0 ≤ hd a n o k := by unfold hd; omega
theorem hd_hi (a n o k : Int) : hd a n o k < 18446744073709551616 := by unfold hd; omega
theorem hd_head (a n : Int) : put (put 1 2 1048576 a) 2097152 1048576 n = hd a n 0 0 := by unfold put hd; omega
theorem hd_mark (a n o k p : Int) : put (hd a n o k) 2199023255552 2 p = hd a n p k := by unfold put hd; omega
theorem hd_turn (a n o k j : Int) : put (hd a n o k) 4398046511104 1048576 j = hd a n o j := by unfold put hd; omega
theorem hd_shape (a n o k : Int) : fld (hd a n o k) 2 1048576 = a % 1048576 := by unfold fld hd; omega
theorem hd_len (a n o k : Int) : fld (hd a n o k) 2097152 1048576 = n % 1048576 := by unfold fld hd; omega
theorem hd_marked (a n o k : Int) : fld (hd a n o k) 2199023255552 2 = o % 2 := by unfold fld hd; omega
theorem hd_turned (a n o k : Int) : fld (hd a n o k) 4398046511104 1048576 = k % 1048576 := by unfold fld hd; omega
theorem hd_odd (a n o k : Int) : hd a n o k % 2 = 1 := by unfold hd; omega
theorem put_wrap (h k : Int) : put h 4398046511104 1048576 (IntKind.u64.wrap k) = put h 4398046511104 1048576 k := by rw [IntKind.wrap_u64]; unfold put; omega

def pw (n : Nat) : Nat := 2 ^ n
theorem pw_succ (n : Nat) : pw (n + 1) = pw n * 2 := Nat.pow_succ ..
theorem pw_lt (n : Nat) (h : n < 64) : pw n < 18446744073709551616 := Nat.pow_lt_pow_right (m := n) (n := 64) (by decide) h

theorem mark_on_nat (h s : Nat) (hs : s < 64) (hh : h < 2 ^ 64) : h ||| 2 ^ s = h - 2 ^ s * (h / 2 ^ s % 2) + 2 ^ s := by
  have e := with_nat h s 1 1 (by omega) (by decide) hh
  simp only [Nat.mul_one, Nat.pow_one] at e
  rw [← e]
  have hp : 2 ^ s < 2 ^ 64 := Nat.pow_lt_pow_right (by decide) hs
  apply Nat.eq_of_testBit_eq
  intro j
  rw [Nat.testBit_or, Nat.testBit_or, Nat.testBit_and, Nat.testBit_two_pow_sub_succ (by omega)]
  have e1 : (2 - 1) * 2 ^ s = 2 ^ s := by omega
  rw [e1]
  by_cases h1 : j < 64
  · cases h.testBit j <;> cases (2 ^ s).testBit j <;> simp [h1]
  · have a5 : h.testBit j = false := Nat.testBit_lt_two_pow (Nat.lt_of_lt_of_le hh (Nat.pow_le_pow_right (by decide) (by omega)))
    rw [a5]; simp
theorem mark_on_int (h : Int) (h0 : 0 ≤ h) (h1 : h < 18446744073709551616) : bits .or .u64 h 2199023255552 = put h 2199023255552 2 1 := by
  obtain ⟨H, rfl⟩ := Int.eq_ofNat_of_zero_le h0
  have e := u64_or_nat H 2199023255552 (by omega) (by omega)
  have e2 := mark_on_nat H 41 (by decide) (by omega)
  simp only [Nat.reducePow] at e2
  rw [e2] at e
  have e3 : (2199023255552 : Int) = ((2199023255552 : Nat) : Int) := rfl
  rw [e3, e]
  unfold put
  omega
theorem mark_off_int (h : Int) (h0 : 0 ≤ h) (h1 : h < 18446744073709551616) : bits .andNot .u64 h 2199023255552 = put h 2199023255552 2 0 := by
  obtain ⟨H, rfl⟩ := Int.eq_ofNat_of_zero_le h0
  have e := u64_andNot_nat H 2199023255552 (by omega) (by omega)
  have e2 := with_nat H 41 1 0 (by decide) (by decide) (by omega)
  simp only [Nat.reducePow, Nat.reduceSub, Nat.reduceMul, Nat.mul_zero, Nat.or_zero, Nat.reduceAdd] at e2
  have e3 : (2199023255552 : Int) = ((2199023255552 : Nat) : Int) := rfl
  rw [e3, e]
  simp only [Nat.reduceSub]
  rw [e2]
  unfold put
  omega
end Go.Proofs.Ytjeehbcbflofpaa.M
