/- The table out of what a row lays. -/
import Derived.Test.YtglalgjffkoneaaGreatDoorV9
import Derived.Test.YtglalgjffkoneaaGreatDoorRows
import Derived.LaidMore
import Derived.Lib.LaidTab
namespace Go.Proofs.YtglalgjffkoneaaGreatDoor
set_option linter.unusedVariables false
open Go.ChangeShapes Go.WideShapes Go.ChangeAt Go.RowKit
def tabI : List Int := Lib.deBruijn64tab.map fun z : Nat => (z : Int)
theorem tabI_at : ∀ j, j < 64 → tabI[j]? = some ((Lib.deBruijn64tab.getD j 0 : Nat) : Int) := by decide +kernel
theorem tz_of {w : World} (h : laidMetH Tryz.prog Rows.verifyLiveRow.laid w) : Tz w := by
  rw [MakeChecks.laidMetH_plain _ _ _ (by kernel_rfl)] at h
  obtain ⟨ps, ⟨g0, t0, cs0, f0, p0, q0, hg0, ht0, hv0, hd0, _, _⟩, _, _⟩ := h
  obtain rfl := Option.some.inj ((show Tryz.prog.globalNamed "math/bits.deBruijn64tab" = some 1 by kernel_rfl).symm.trans hg0)
  obtain rfl := Option.some.inj ((show (Tryz.prog.globals[1]?).map (·.type) = some 193 by kernel_rfl).symm.trans ht0)
  have e := Lib.cells_of_tab (zs := tabI) (k := .u8) Tryz.underlying193 Tryz.underlying5 (by kernel_rfl) (by kernel_rfl) hd0
  intro j hj
  unfold World.var? at hv0
  obtain ⟨g, hg, hc⟩ := Option.bind_eq_some_iff.1 hv0
  obtain rfl := Option.some.inj (hg0.symm.trans hg)
  have hcell : w.cell? ⟨1, j, none⟩ = cs0[j]? := by
    cases hh : w.heap[1]? with
    | none => rw [hh] at hc; cases hc
    | some o =>
      rw [hh] at hc
      cases o with
      | cells cs t f =>
        obtain rfl : cs = cs0 := by simpa using hc
        simp [World.cell?, hh]
      | _ => cases hc
  rw [hcell, ← Array.getElem?_toList, e, List.getElem?_map, tabI_at j hj]
  rfl
end Go.Proofs.YtglalgjffkoneaaGreatDoor
