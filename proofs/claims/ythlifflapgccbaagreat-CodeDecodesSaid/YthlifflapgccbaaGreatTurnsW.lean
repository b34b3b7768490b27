/- CodeTurns, for any image, place and byte. -/
import Derived.Test.YthlifflapgccbaaGreatL15
import Derived.Test.YthlifflapgccbaaGreatL09
namespace Go.Proofs.YthlifflapgccbaaGreat
set_option linter.unusedVariables false
set_option linter.unusedSimpArgs false
open Go.ChangeShapes Go.WideShapes Go.ChangeAt Go.RowKit
open M (W)
theorem xor8 (a b : Nat) (ha : a < 256) (hb : b < 256) : bits .xor .u8 (a : Int) (b : Int) = ((a ^^^ b : Nat) : Int) := by
  have hx : a ^^^ b < 2 ^ 8 := Nat.xor_lt_two_pow (by omega) (by omega)
  have h1 : (BitVec.ofInt 8 (a : Int)).toNat = a := by
    rw [BitVec.ofInt_natCast, BitVec.toNat_ofNat]; exact Nat.mod_eq_of_lt (by omega)
  have h2 : (BitVec.ofInt 8 (b : Int)).toNat = b := by
    rw [BitVec.ofInt_natCast, BitVec.toNat_ofNat]; exact Nat.mod_eq_of_lt (by omega)
  show IntKind.u8.wrap ((BitVec.ofInt 8 (a : Int) ^^^ BitVec.ofInt 8 (b : Int)).toNat : Int) = _
  rw [BitVec.toNat_xor, h1, h2, IntKind.wrap_u8]
  omega
theorem xor_turn {x wi : Int} (hx : 0 ≤ x ∧ x ≤ 255) (hw : 0 ≤ wi ∧ wi ≤ 255) (h0 : ¬ wi = 0) : ∃ b : Int, bits .xor .u8 x wi = b ∧ 0 ≤ b ∧ b ≤ 255 ∧ b ≠ x := by
  obtain ⟨a, rfl⟩ := Int.eq_ofNat_of_zero_le hx.1
  obtain ⟨c, rfl⟩ := Int.eq_ofNat_of_zero_le hw.1
  refine ⟨_, xor8 a c (by omega) (by omega), by omega, ?_, fun e => ?_⟩
  · have : a ^^^ c < 2 ^ 8 := Nat.xor_lt_two_pow (by omega) (by omega)
    omega
  · have h1 : a ^^^ c = a := by omega
    have h2 : a ^^^ (a ^^^ c) = a ^^^ a := by rw [h1]
    rw [← Nat.xor_assoc, Nat.xor_self, Nat.zero_xor] at h2
    omega
theorem good_turn {m m' : M.Img} {XS : List Int} {k : Nat} {x b : Int} (h : M.Good XS m) (hx : XS[k]? = some x) (hb : b ≠ x) (h' : M.Good (XS.set k b) m') : m' ≠ m := fun e => by
  subst e
  have := h'.1.trans h.1.symm
  have h2 : (XS.set k b)[k]? = some b := by
    rw [List.getElem?_set_self (by exact (List.getElem?_eq_some_iff.1 hx).1)]
  rw [this, hx] at h2
  exact hb (Option.some.inj h2).symm
theorem nilImg {w : World} : ImgIs w.heap.size w ⟨none, 0, 0, none, 0, 0, none, 0, 0, none, 0, 0, none, 0, 0, 0, 0⟩ ⟨[], [], [], [], [], 0, 0⟩ :=
  ⟨rfl, rfl, by constructor <;> decide, by constructor <;> decide, ⟨Nat.zero_le _, Nat.zero_le _, Nat.zero_le _, Nat.zero_le _, Nat.zero_le _⟩, ⟨rfl, fun h => absurd h (by decide)⟩, ⟨rfl, fun h => absurd h (by decide)⟩, ⟨rfl, fun h => absurd h (by decide)⟩, ⟨rfl, fun h => absurd h (by decide)⟩, ⟨rfl, fun h => absurd h (by decide)⟩⟩
end Go.Proofs.YthlifflapgccbaaGreat
