/- The law's Light: how much an image holds. -/
import Derived.Test.YthlifflapgccbaaGreatRefBig
import Derived.Test.YthlifflapgccbaaGreatOpenImg
import Derived.Test.YthlifflapgccbaaGreatL02
import Derived.Deep.RegionHeld3
namespace Go.Proofs.YthlifflapgccbaaGreat
set_option linter.unusedVariables false
set_option linter.unusedSimpArgs false
open Go.ChangeShapes Go.WideShapes Go.ChangeAt Go.RowKit
open M (W)
theorem infoStr : (Tryz.prog.info? 9).map (fun i => (i.zero, i.size, i.bytes)) = some (some (.string ⟨#[]⟩), 1, 16) := by kernel_rfl
/-- What an image may weigh. -/
def M.light (m : M.Img) : Bool := decide (M.wImg m ≤ 40000)
theorem text_cells {B : Nat} {w : World} {a : Option Addr} {n : Nat} {xs : List ByteArray} (h : Txts B w a n xs) {W : World} (hW : Below B w W) : 0 < n → ∃ ad, a = some ad ∧ ∀ j u, (xs.map Value.string)[j]? = some u → W.cell? (ad.add j) = some u := fun hn => by
  obtain ⟨b, off, rfl, hb, hx⟩ := h.at_ hn
  refine ⟨_, rfl, fun j u hu => ?_⟩
  rw [List.getElem?_map] at hu
  obtain ⟨s, hs, rfl⟩ := Option.map_eq_some_iff.1 hu
  obtain ⟨cs, h1, ⟨rfl, _⟩, h3⟩ := hx j s hs
  have := h3 0 (by decide)
  rw [Go.WideShapes.add_plain]
  rw [World.cell?_of_block (w := w) (hW.block b hb)]
  simpa using this
end Go.Proofs.YthlifflapgccbaaGreat
