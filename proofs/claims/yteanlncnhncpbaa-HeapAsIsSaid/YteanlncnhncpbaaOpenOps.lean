/- The laws' calls as arguments: a slice of them, one by value. -/
import Derived.Test.YteanlncnhncpbaaMade
import Derived.Test.YteanlncnhncpbaaOpenLays
namespace Go.Proofs.Yteanlncnhncpbaa
set_option linter.unusedVariables false
open Go.ChangeShapes Go.WideShapes Go.ChangeAt Go.RowKit Go.Deep

def OpR.cells (o : OpR) : List Value := [.int .i64 o.k, .int .i64 o.a, .int .i64 o.b, .int .u64 o.v, .bool o.near]
theorem cells3 : Try.prog.cellsOf 3 = 1 := by kernel_rfl
theorem cells47 : Try.prog.cellsOf 30 = 1 := by kernel_rfl
theorem cells4 : Try.prog.cellsOf 4 = 1 := by kernel_rfl
theorem cells49 : Try.prog.cellsOf 32 = 5 := by kernel_rfl
theorem list5 {α : Type} : ∀ (l : List α), l.length = 5 → ∃ a b c d e, l = [a, b, c, d, e]
  | [a, b, c, d, e], _ => ⟨a, b, c, d, e, rfl⟩
theorem op_cells {H : Type} {enc : TypeId × Value → H} {w : World} {base : Nat} {spare : Nat → Bool} {held : Bool} {fuel : Nat} {cs : List Value} {x : DataW H × List MemPlace}
    (h : DataW.trod enc Try.prog w base spare held fuel 32 cs = some x) : ∃ o : OpR, o.ok ∧ cs = o.cells := by
  obtain ⟨xs, n, _, _, hlen, hxl, hg⟩ := DataW.trod_struct Try.underlying32 h
  rw [cells49] at hlen
  obtain ⟨c0, c1, c2, c3, c4, rfl⟩ := list5 cs hlen
  have hx : ∀ i, i < 5 → ∃ y, xs[i]? = some y := fun i hi => ⟨_, List.getElem?_eq_getElem (by rw [hxl]; exact hi)⟩
  obtain ⟨y0, g0⟩ := hx 0 (by decide)
  obtain ⟨y1, g1⟩ := hx 1 (by decide)
  obtain ⟨y2, g2⟩ := hx 2 (by decide)
  obtain ⟨y3, g3⟩ := hx 3 (by decide)
  obtain ⟨y4, g4⟩ := hx 4 (by decide)
  have h0 := (hg 0 _ rfl).trans g0
  have h1 := (hg 1 _ rfl).trans g1
  have h2 := (hg 2 _ rfl).trans g2
  have h3 := (hg 3 _ rfl).trans g3
  have h4 := (hg 4 _ rfl).trans g4
  simp only [List.getElem_toArray, List.getElem_cons_zero, List.getElem_cons_succ, cells3, cells47, cells4, List.drop_zero, List.drop_succ_cons, List.take_succ_cons, List.take_zero] at h0 h1 h2 h3 h4
  obtain ⟨k, e0, _, _⟩ := DataW.trod_int Try.underlying3 h0
  obtain ⟨a, e1, _, w1⟩ := DataW.trod_int Try.underlying3 h1
  obtain ⟨b, e2, _, _⟩ := DataW.trod_int Try.underlying3 h2
  obtain ⟨v, e3, _, w3⟩ := DataW.trod_int Try.underlying30 h3
  obtain ⟨near, e4, _⟩ := DataW.trod_bool Try.underlying4 h4
  simp only [List.cons.injEq, and_true] at e0 e1 e2 e3 e4
  have w1' : -9223372036854775808 ≤ a ∧ a ≤ 9223372036854775807 := by simpa [Lit.wf, IntKind.min, IntKind.max, IntKind.signed, IntKind.bits] using w1
  have w3' : 0 ≤ v ∧ v ≤ 18446744073709551615 := by simpa [Lit.wf, IntKind.min, IntKind.max, IntKind.signed, IntKind.bits] using w3
  obtain ⟨u, rfl⟩ := Int.eq_ofNat_of_zero_le w3'.1
  exact ⟨⟨k, a, b, u, near⟩, ⟨w1'.1, by show u < _; omega⟩, by rw [e0, e1, e2, e3, e4]; rfl⟩
structure IsOps (w : World) (a : Option Addr) (len cap : Nat) (F : Nat → OpR) : Prop where
  le : len ≤ cap
  cap_le : cap ≤ maxLen
  ops : Ops w a len F
theorem open_ops {H : Type} {enc : TypeId × Value → H} {w : World} {fuel : Nat} {a : Option Addr} {len cap : Nat} {x : DataW H × List MemPlace}
    (h : DataW.trod enc Try.prog w 0 (fun _ => true) true fuel 23 [.slice a len cap] = some x) : ∃ F, IsOps w a len cap F := by
  rcases open_slice Try.underlying23 h with ⟨hcs, _⟩ | ⟨ad, l, c, m, n, D, Pl, hcs, _, hl, hm, hmm, hx, hi⟩
  · simp at hcs
    obtain ⟨rfl, rfl, rfl⟩ := hcs
    exact ⟨fun _ => ⟨0, 0, 0, 0, false⟩, Nat.le_refl _, Nat.zero_le _, ⟨fun h => absurd h (Nat.lt_irrefl _)⟩⟩
  · simp at hcs
    obtain ⟨rfl, rfl, rfl⟩ := hcs
    simp at hmm
    subst hmm
    have hk : ∀ i, ∃ o : OpR, i < m → o.ok ∧ ∀ j, j < 5 → w.cell? (ad.add (i * 5 + j)) = o.cells[j]? := by
      intro i
      by_cases him : i < m
      · obtain ⟨cs', hc, ht⟩ := hi i him
        obtain ⟨o, hok, rfl⟩ := op_cells ht
        rw [cells49] at hc
        obtain ⟨_, _, hat⟩ := World.cells?_some hc
        refine ⟨o, fun _ => ⟨hok, fun j hj => ?_⟩⟩
        rw [← add_add]
        exact hat j hj
      · exact ⟨⟨0, 0, 0, 0, false⟩, fun h => absurd h him⟩
    refine ⟨fun i => Classical.choose (hk i), hl, hm, ⟨fun h0 => ?_⟩⟩
    have hs := fun i => Classical.choose_spec (hk i)
    obtain ⟨b, off, spot⟩ := ad
    have c0 := (hs 0 (by omega)).2 0 (by decide)
    have hspot : spot = none := by
      have c0' : w.cell? ((⟨b, off, spot⟩ : Addr).add (0 * 5 + 0)) = some (.int .i64 (Classical.choose (hk 0)).k) := c0
      simpa [Addr.add] using World.cell?_spot c0'
    subst hspot
    refine ⟨b, off, rfl, World.block_lt_of_cell? w ⟨b, off + (0 * 5 + 0), none⟩ (u := .int .i64 (Classical.choose (hk 0)).k) (by rw [← Go.WideShapes.add_plain]; exact c0), fun i him => ?_⟩
    obtain ⟨hok, hc⟩ := hs i (by omega)
    have key := fun j hj => by
      have := hc j hj
      rw [Go.WideShapes.add_plain, ← Nat.add_assoc] at this
      exact this
    exact ⟨hok, key 0 (by decide), key 1 (by decide), key 2 (by decide), key 3 (by decide), key 4 (by decide)⟩
end Go.Proofs.Yteanlncnhncpbaa
