/- A word of bytes, byte after byte from the highest down (as the document's Row adds it up). -/
import Derived.Test.YteanlncnhncpbaaSimOps
namespace Go.Proofs.Yteanlncnhncpbaa
set_option linter.unusedVariables false

/-- What stands when m bytes of the word number q have been taken. -/
def M.wordFrom (bs : List Nat) (q : Nat) : Nat → Nat
  | 0 => 0
  | m + 1 => M.wordFrom bs q m * 256 + bs.getD (q * 8 + (7 - m)) 0
theorem wordFrom_8 (bs : List Nat) (q : Nat) : M.wordFrom bs q 8 = M.wordOf bs q := by
  simp only [M.wordFrom, M.wordOf, Nat.reduceSub, Nat.add_zero, Nat.sub_zero]
  generalize bs.getD (q * 8) 0 = b0
  generalize bs.getD (q * 8 + 1) 0 = b1
  generalize bs.getD (q * 8 + 2) 0 = b2
  generalize bs.getD (q * 8 + 3) 0 = b3
  generalize bs.getD (q * 8 + 4) 0 = b4
  generalize bs.getD (q * 8 + 5) 0 = b5
  generalize bs.getD (q * 8 + 6) 0 = b6
  generalize bs.getD (q * 8 + 7) 0 = b7
  omega
theorem wordFrom_lt (bs : List Nat) (hb : ∀ v ∈ bs, v < 256) (q : Nat) : ∀ m, m ≤ 8 → M.wordFrom bs q m < 256 ^ m
  | 0, _ => by simp [M.wordFrom]
  | m + 1, hm => by
    have h1 := wordFrom_lt bs hb q m (by omega)
    have h2 := getD_lt hb (q * 8 + (7 - m))
    simp only [M.wordFrom]
    rw [Nat.pow_succ]
    omega
theorem wordFrom_64 (bs : List Nat) (hb : ∀ v ∈ bs, v < 256) (q m : Nat) (hm : m ≤ 8) : M.wordFrom bs q m < 18446744073709551616 :=
  Nat.lt_of_lt_of_le (wordFrom_lt bs hb q m hm) (Nat.le_trans (Nat.pow_le_pow_right (by decide) hm) (by decide))
end Go.Proofs.Yteanlncnhncpbaa
