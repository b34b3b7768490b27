/- Bytes that a law is given; CodeCuts over them. -/
import Derived.Test.YtiagfkdidjlkcaaGreatOpenImg
import Derived.Test.YtiagfkdidjlkcaaGreatL15
namespace Go.Proofs.YtiagfkdidjlkcaaGreat
set_option linter.unusedVariables false
set_option linter.unusedSimpArgs false
open Go.ChangeShapes Go.WideShapes Go.ChangeAt Go.RowKit
open M (W)
section
variable {H : Type} {enc : TypeId × Value → H} {w : World} {fuel : Nat} {v : Value} {cs : List Value} {x : DataW H × List MemPlace}
theorem open_u8 {t : TypeId} (ht : Tryz.prog.underlying t = some (.int .u8)) (h : DataW.trod enc Tryz.prog w 0 (fun _ => true) true fuel t cs = some x) : ∃ z : Int, cs = [.int .u8 z] ∧ 0 ≤ z ∧ z ≤ 255 := by
  obtain ⟨z, e, _, hw⟩ := DataW.trod_int ht h
  refine ⟨z, e, ?_⟩
  have h1 : IntKind.u8.min = 0 := rfl
  have h2 : IntKind.u8.max = 255 := rfl
  simp [Lit.wf, h1, h2] at hw
  exact hw
theorem imgBys (h : DataW.trod enc Tryz.prog w 0 (fun _ => true) true fuel 22 [v] = some x) (hs : Rows.uptoBulk x.1 ≤ 1048576) : ∃ a n c xs, v = .slice a n c ∧ n ≤ maxLen ∧ Bys w.heap.size w a n xs := by
  obtain ⟨a, n, c, xs, h1, h2, h3, h4, h5⟩ := open_lies (k := 1) (P := fun cs (z : Int) => cs = [.int .u8 z]) (q := fun z => 0 ≤ z ∧ z ≤ 255) Tryz.underlying22 (by kernel_rfl) (by decide) h hs fun _ _ _ h _ => by
    obtain ⟨z, h1, h2⟩ := open_u8 Tryz.underlying5 h
    exact ⟨z, h1, h2⟩
  refine ⟨a, n, c, xs, h1, h2, h4.len, h5, fun hn => ?_⟩
  obtain ⟨b, off, ha, hB, hx⟩ := h4.at_ hn
  refine ⟨b, off, ha, hB, fun j u hj => ?_⟩
  rw [List.getElem?_map] at hj
  obtain ⟨z, hz, rfl⟩ := Option.map_eq_some_iff.1 hj
  obtain ⟨cs, e1, rfl, e3⟩ := hx j z hz
  simpa using e3 0 (by decide)
end
end Go.Proofs.YtiagfkdidjlkcaaGreat
