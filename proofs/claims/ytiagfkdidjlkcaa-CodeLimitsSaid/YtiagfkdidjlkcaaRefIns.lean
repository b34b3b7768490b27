/- The document's instruction, as bytes. -/
import Derived.Test.YtiagfkdidjlkcaaL10
import Derived.Test.YtiagfkdidjlkcaaWrInstr
namespace Go.Proofs.Ytiagfkdidjlkcaa
set_option linter.unusedVariables false
open Go.ChangeShapes Go.WideShapes Go.ChangeAt Go.RowKit
open M (W)
theorem Holds8.long {B : Nat} {w w' : World} {v v' : Value} {xs : List Int} (h : Holds8 B w v xs) (k : Grew B w w' v v') (hB : B ≤ w.heap.size) : B ≤ w'.heap.size := Nat.le_trans hB k.below.size
/-- A row that was appended to by another row. -/
theorem Grew.row {B : Nat} {a : Option Addr} {k c : Nat} {xs ys : List Int} {w wp w4 : World} {a' : Option Addr} {m cap : Nat} (h : w.ownsRow B 5 1 (.slice a k c) k (xs.map (Value.int .u8))) (hk : xs.length = k) (hB : B ≤ w.heap.size) (hy : ys.length = m) (hbp : Below w.heap.size w wp)
    (r2 : w4.ownsRow B 5 1 (.slice a' (k + m) cap) (k + m) (xs.map (Value.int .u8) ++ ys.map (Value.int .u8))) (r3 : Turn (fun j => (Value.slice a k c).ownBlock = some j) wp w4) (r4 : (Value.slice a' (k + m) cap).ownBlock = (Value.slice a k c).ownBlock ∨ ∃ g, a' = some ⟨g, 0, none⟩ ∧ wp.heap.size ≤ g) :
    Holds8 B w4 (.slice a' (k + m) cap) (xs ++ ys) ∧ Grew B w w4 (.slice a k c) (.slice a' (k + m) cap) := by
  have hkk : (xs ++ ys).length = k + m := by rw [List.length_append, hk, hy]
  refine ⟨⟨a', cap, by rw [hkk], ?_⟩, (hbp.mono hB).trans (r3.below (Nat.le_trans hB hbp.size) (fun b hb => (h.lt b hb).1)), (Turn.of_below hbp (fun k h1 h2 => by omega)).trans r3, fun b hb => ?_⟩
  · rw [hkk, List.map_append]; exact r2
  · rcases r4 with e | ⟨g, e, hg⟩
    · exact .inl (e ▸ hb)
    · subst e
      have : g = b := by simpa [Value.ownBlock] using hb
      have := hbp.size
      exact .inr (by omega)
end Go.Proofs.Ytiagfkdidjlkcaa
