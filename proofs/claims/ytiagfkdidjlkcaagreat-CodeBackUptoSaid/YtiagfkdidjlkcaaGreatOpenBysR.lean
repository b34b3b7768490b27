/- Bytes that a law is given, and where they lie. -/
import Derived.Test.YtiagfkdidjlkcaaGreatOpenBys
import Derived.Test.YtiagfkdidjlkcaaGreatCBackW
namespace Go.Proofs.YtiagfkdidjlkcaaGreat
set_option linter.unusedVariables false
set_option linter.unusedSimpArgs false
open Go.ChangeShapes Go.WideShapes Go.ChangeAt Go.RowKit Go.Deep
theorem imgBysR {H : Type} {enc : TypeId × Value → H} {w : World} {fuel : Nat} {v : Value} {x : DataW H × List MemPlace} (h : DataW.trod enc Tryz.prog w 0 (fun _ => true) true fuel 22 [v] = some x) (hs : Rows.uptoBulk x.1 ≤ 1048576) : ∃ a n c xs, v = .slice a n c ∧ BysR w.heap.size w a n c xs := by
  obtain ⟨a, n, c, xs, rfl, hn, hb⟩ := imgBys h hs
  refine ⟨a, n, c, xs, rfl, hb.len, hb.bytes, fun h4 => ?_⟩
  obtain ⟨b, off, ha, hB, hx⟩ := hb.at_ (by omega)
  subst ha
  have hc : n ≤ c ∧ c ≤ maxLen := by
    rcases open_slice Tryz.underlying22 h with ⟨hcs, _⟩ | ⟨ad, l, c', m, n', D, Pl, hcs, _, hl, hm, hmm, hxx, hx⟩
    · simp [Value.cells] at hcs
    · simp [Value.cells] at hcs hmm
      obtain ⟨_, rfl, rfl⟩ := hcs
      omega
  exact ⟨b, off, rfl, hB, Nat.lt_of_lt_of_le hB (Nat.le_refl _), by rw [hb.len]; exact hc, fun j hj => by
    rw [hx j (.int .u8 (xs.getD j 0)) (by rw [List.getElem?_map, List.getElem?_eq_getElem hj]; simp [List.getD, List.getElem?_eq_getElem hj])]⟩
end Go.Proofs.YtiagfkdidjlkcaaGreat
