/- A slice of tokens that comes in as an argument: its cells. -/
import Derived.Test.YtpccfimjkffkfaaDoorLxPrA
import Derived.Test.YtpccfimjkffkfaaDoorRows
import Derived.ProofKit
import Derived.OpenShut
import Derived.Deep.SlicePairs
import Derived.Deep.Fields
import Derived.ChangeSame
namespace Go.Proofs.YtpccfimjkffkfaaDoor
set_option linter.unusedVariables false
open Go.ChangeShapes Go.WideShapes Go.ChangeAt Go.RowKit Go.Deep
def TA.cells (x : TA) : List Value := [.int .i64 x.k, .int .i64 x.p, .string x.t, .int .i64 x.n]
theorem cellsInt : Tryd.prog.cellsOf 3 = 1 := by kernel_rfl
theorem cellsI64 : Tryd.prog.cellsOf 2 = 1 := by kernel_rfl
theorem cellsStr : Tryd.prog.cellsOf 9 = 1 := by kernel_rfl
theorem cellsTok : Tryd.prog.cellsOf 31 = 4 := by kernel_rfl
theorem list4 {α : Type} : ∀ (l : List α), l.length = 4 → ∃ a b c d, l = [a, b, c, d]
  | [a, b, c, d], _ => ⟨a, b, c, d, rfl⟩
theorem tok_cells {H : Type} {enc : TypeId × Value → H} {w : World} {base : Nat} {spare : Nat → Bool} {held : Bool} {fuel : Nat} {cs : List Value} {x : DataW H × List MemPlace}
    (h : DataW.trod enc Tryd.prog w base spare held fuel 31 cs = some x) : ∃ o : TA, (-9223372036854775808 ≤ o.n ∧ o.n ≤ 9223372036854775807) ∧ cs = o.cells := by
  obtain ⟨xs, n, _, _, hlen, hxl, hg⟩ := DataW.trod_struct Tryd.underlying31 h
  rw [cellsTok] at hlen
  obtain ⟨c0, c1, c2, c3, rfl⟩ := list4 cs hlen
  have hx : ∀ i, i < 4 → ∃ y, xs[i]? = some y := fun i hi => ⟨_, List.getElem?_eq_getElem (by rw [hxl]; exact hi)⟩
  obtain ⟨y0, g0⟩ := hx 0 (by decide)
  obtain ⟨y1, g1⟩ := hx 1 (by decide)
  obtain ⟨y2, g2⟩ := hx 2 (by decide)
  obtain ⟨y3, g3⟩ := hx 3 (by decide)
  have h0 := (hg 0 _ rfl).trans g0
  have h1 := (hg 1 _ rfl).trans g1
  have h2 := (hg 2 _ rfl).trans g2
  have h3 := (hg 3 _ rfl).trans g3
  simp only [List.getElem_toArray, List.getElem_cons_zero, List.getElem_cons_succ, cellsInt, cellsI64, cellsStr, List.drop_zero, List.drop_succ_cons, List.take_succ_cons, List.take_zero] at h0 h1 h2 h3
  obtain ⟨k, e0, _, _⟩ := DataW.trod_int Tryd.underlying3 h0
  obtain ⟨p, e1, _, _⟩ := DataW.trod_int Tryd.underlying3 h1
  obtain ⟨t, e2, _, _⟩ := DataW.trod_string Tryd.underlying9 h2
  obtain ⟨m, e3, _, w3⟩ := DataW.trod_int Tryd.underlying2 h3
  simp only [List.cons.injEq, and_true] at e0 e1 e2 e3
  have w3' : -9223372036854775808 ≤ m ∧ m ≤ 9223372036854775807 := by simpa [Lit.wf, IntKind.min, IntKind.max, IntKind.signed, IntKind.bits] using w3
  exact ⟨⟨k, p, t, m⟩, w3', by rw [e0, e1, e2, e3]; rfl⟩
structure IsToks (w : World) (a : Option Addr) (len cap : Nat) (F : Nat → TA) : Prop where
  le : len ≤ cap
  cap_le : cap ≤ maxLen
  toks : ToksA w a len F
theorem open_toks {H : Type} {enc : TypeId × Value → H} {w : World} {fuel : Nat} {a : Option Addr} {len cap : Nat} {x : DataW H × List MemPlace}
    (h : DataW.trod enc Tryd.prog w 0 (fun _ => true) true fuel 23 [.slice a len cap] = some x) : ∃ F, IsToks w a len cap F := by
  rcases open_slice Tryd.underlying23 h with ⟨hcs, _⟩ | ⟨ad, l, c, m, n, D, Pl, hcs, _, hl, hm, hmm, hx, hi⟩
  · simp at hcs
    obtain ⟨rfl, rfl, rfl⟩ := hcs
    exact ⟨fun _ => ⟨0, 0, ByteArray.empty, 0⟩, Nat.le_refl _, Nat.zero_le _, ⟨fun h => absurd h (Nat.lt_irrefl _), fun i hi => absurd hi (Nat.not_lt_zero _)⟩⟩
  · simp at hcs
    obtain ⟨rfl, rfl, rfl⟩ := hcs
    simp at hmm
    subst hmm
    have hk : ∀ i, ∃ o : TA, i < m → (-9223372036854775808 ≤ o.n ∧ o.n ≤ 9223372036854775807) ∧ ∀ j, j < 4 → w.cell? (ad.add (i * 4 + j)) = o.cells[j]? := by
      intro i
      by_cases him : i < m
      · obtain ⟨cs', hc, ht⟩ := hi i him
        obtain ⟨o, hok, rfl⟩ := tok_cells ht
        rw [cellsTok] at hc
        obtain ⟨_, _, hat⟩ := World.cells?_some hc
        refine ⟨o, fun _ => ⟨hok, fun j hj => ?_⟩⟩
        rw [← add_add]
        exact hat j hj
      · exact ⟨⟨0, 0, ByteArray.empty, 0⟩, fun h => absurd h him⟩
    have hs := fun i => Classical.choose_spec (hk i)
    refine ⟨fun i => Classical.choose (hk i), hl, hm, ⟨fun h0 => ?_, fun i hil => (hs i (by omega)).1⟩⟩
    obtain ⟨b, off, spot⟩ := ad
    have c0 := (hs 0 (by omega)).2 0 (by decide)
    have hspot : spot = none := by
      have c0' : w.cell? ((⟨b, off, spot⟩ : Addr).add (0 * 4 + 0)) = some (.int .i64 (Classical.choose (hk 0)).k) := c0
      simpa [Addr.add] using World.cell?_spot c0'
    subst hspot
    refine ⟨b, off, rfl, World.block_lt_of_cell? w ⟨b, off + (0 * 4 + 0), none⟩ (u := .int .i64 (Classical.choose (hk 0)).k) (by rw [← Go.WideShapes.add_plain]; exact c0), fun i him => ?_⟩
    obtain ⟨hok, hc⟩ := hs i (by omega)
    have key := fun j hj => by
      have := hc j hj
      rw [Go.WideShapes.add_plain, ← Nat.add_assoc] at this
      exact this
    exact ⟨key 0 (by decide), key 1 (by decide), key 2 (by decide), key 3 (by decide)⟩
end Go.Proofs.YtpccfimjkffkfaaDoor
