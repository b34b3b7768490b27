/- A slice of layouts that comes in as an argument: its cells. -/
import Derived.Test.YteanlncnhncpbaaRows
import Derived.ProofKit
import Derived.OpenShut
import Derived.Deep.SlicePairs
import Derived.Deep.Fields
import Derived.ChangeSame
namespace Go.Proofs.Yteanlncnhncpbaa
set_option linter.unusedVariables false
open Go.ChangeShapes Go.WideShapes Go.ChangeAt Go.RowKit Go.Deep

/-- What a walk is told of a slice of layouts that came in: nil, or a row of cap of them. -/
structure IsLays (w : World) (a : Option Addr) (len cap : Nat) (K N : Nat → Int) : Prop where
  le : len ≤ cap
  cap_le : cap ≤ maxLen
  at_ : 0 < cap → ∃ b off, a = some ⟨b, off, none⟩ ∧ b < w.heap.size ∧ ∀ i, i < cap → w.cell? ⟨b, off + i * 2, none⟩ = some (.int .i64 (K i)) ∧ w.cell? ⟨b, off + i * 2 + 1, none⟩ = some (.int .i64 (N i)) ∧ (Lit.int .i64 (K i)).wf = true ∧ (Lit.int .i64 (N i)).wf = true
theorem open_lays {H : Type} {enc : TypeId × Value → H} {w : World} {fuel : Nat} {a : Option Addr} {len cap : Nat} {x : DataW H × List MemPlace}
    (h : DataW.trod enc Try.prog w 0 (fun _ => true) true fuel 22 [.slice a len cap] = some x) : ∃ K N, IsLays w a len cap K N := by
  rcases open_slice_pairs Try.underlying22 Try.underlying83 (by kernel_rfl) rfl rfl (by kernel_rfl) (by kernel_rfl) h with ⟨hcs, _⟩ | ⟨ad, l, c, m, n, V0, V1, D0, D1, P0, P1, hcs, _, hl, hm, hmm, hx, hcell⟩
  · simp at hcs
    obtain ⟨rfl, rfl, rfl⟩ := hcs
    exact ⟨fun _ => 0, fun _ => 0, Nat.le_refl _, Nat.zero_le _, fun h => absurd h (Nat.lt_irrefl _)⟩
  · simp at hcs
    obtain ⟨rfl, rfl, rfl⟩ := hcs
    simp at hmm
    subst hmm
    have hk : ∀ i, ∃ k n : Int, i < m → V0 i = .int .i64 k ∧ V1 i = .int .i64 n ∧ (Lit.int .i64 k).wf = true ∧ (Lit.int .i64 n).wf = true := by
      intro i
      by_cases hi : i < m
      · obtain ⟨_, _, t0, t1⟩ := hcell i hi
        obtain ⟨k, e0, _, w0⟩ := DataW.trod_int Try.underlying3 t0
        obtain ⟨n, e1, _, w1⟩ := DataW.trod_int Try.underlying3 t1
        simp at e0 e1
        exact ⟨k, n, fun _ => ⟨e0, e1, w0, w1⟩⟩
      · exact ⟨0, 0, fun h => absurd h hi⟩
    refine ⟨fun i => Classical.choose (hk i), fun i => Classical.choose (Classical.choose_spec (hk i)), hl, hm, fun h0 => ?_⟩
    have hs := fun i => Classical.choose_spec (Classical.choose_spec (hk i))
    obtain ⟨b, off, spot⟩ := ad
    have c0 := (hcell 0 h0).1
    have hspot : spot = none := by simpa [Addr.add] using World.cell?_spot c0
    subst hspot
    refine ⟨b, off, rfl, World.block_lt_of_cell? w ⟨b, off + 0 * 2, none⟩ (by rw [← Go.WideShapes.add_plain]; exact c0), fun i hi => ?_⟩
    obtain ⟨g0, g1, g2, g3⟩ := hs i hi
    obtain ⟨c0, c1, _, _⟩ := hcell i hi
    rw [Go.WideShapes.add_plain] at c0 c1
    exact ⟨c0.trans (congrArg some g0), by rw [Nat.add_assoc]; exact c1.trans (congrArg some g1), g2, g3⟩
end Go.Proofs.Yteanlncnhncpbaa
