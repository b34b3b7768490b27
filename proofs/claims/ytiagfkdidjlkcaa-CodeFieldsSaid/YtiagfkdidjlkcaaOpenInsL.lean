/- An instruction as an argument, with its lists, of whatever length. -/
import Derived.Test.YtiagfkdidjlkcaaOpenImg
import Derived.Test.YtiagfkdidjlkcaaFieldsW
namespace Go.Proofs.Ytiagfkdidjlkcaa
set_option linter.unusedVariables false
set_option linter.unusedSimpArgs false
open Go.ChangeShapes Go.WideShapes Go.ChangeAt Go.RowKit Go.Deep
section
variable {H : Type} {enc : TypeId × Value → H} {w : World} {fuel : Nat} {v : Value} {cs : List Value} {x : DataW H × List MemPlace}
theorem ints_open (h : DataW.trod enc Try.prog w 0 (fun _ => true) true fuel 28 [v] = some x) : ∃ a n c xs, v = .slice a n c ∧ n ≤ maxLen ∧ Ints w.heap.size w a n xs := by
  rcases open_slice Try.underlying28 h with ⟨hcs, _⟩ | ⟨ad, l, c, m, n, D, Pl, hcs, _, hl, hm, hmm, hxx, hx⟩
  · simp at hcs
    exact ⟨_, _, _, [], hcs, Nat.zero_le _, ⟨rfl, fun h => absurd h (Nat.lt_irrefl _)⟩⟩
  · simp at hcs hmm
    subst hmm
    rw [show Try.prog.cellsOf 3 = 1 by kernel_rfl] at hx
    obtain ⟨b, off, spot⟩ := ad
    have hcell : ∀ i, i < l → ∃ z : Int, In64 z ∧ w.cell? ((⟨b, off, spot⟩ : Addr).add i) = some (.int .i64 z) := fun i hi => by
      obtain ⟨cs', h1, h2⟩ := hx i (by omega)
      obtain ⟨_, h3, h4⟩ := World.cells?_some h1
      obtain ⟨z, hz, hzw⟩ := open_num Try.underlying3 h2
      subst hz
      have := h4 0 (by decide)
      simp [Addr.add] at this
      exact ⟨z, hzw, by simpa [Addr.add] using this⟩
    obtain ⟨xs, hxl, hxs⟩ := many_list (p := fun i (z : Int) => In64 z ∧ w.cell? ((⟨b, off, spot⟩ : Addr).add i) = some (.int .i64 z)) l hcell
    refine ⟨_, l, m, xs, hcs, by omega, hxl, fun hn => ?_⟩
    obtain ⟨z0, _, c0⟩ := hcell 0 (by omega)
    have hspot : spot = none := by simpa [Addr.add] using World.cell?_spot c0
    subst hspot
    refine ⟨b, off, rfl, ?_, fun i z hi => ?_⟩
    · have := World.block_lt_of_cell? w _ c0
      simpa [Go.WideShapes.add_plain] using this
    · obtain ⟨g1, g2⟩ := hxs i z hi
      refine ⟨[.int .i64 z], rfl, ⟨rfl, g1⟩, fun j hj => ?_⟩
      obtain rfl : j = 0 := by omega
      rw [Go.WideShapes.add_plain] at g2
      simpa using g2
theorem ins_open (h : DataW.trod enc Try.prog w 0 (fun _ => true) true fuel 30 cs = some x) : ∃ t, InsIs w.heap.size w cs t := by
  obtain ⟨xs, n, _, hxe, hlen, hxl, hg⟩ := DataW.trod_struct Try.underlying30 h
  rw [dIns] at hlen
  obtain ⟨v0, v1, v2, v3, v4, v5, v6, v7, v8, rfl⟩ := cells9 cs hlen
  have hx : ∀ i, i < 9 → ∃ y, xs[i]? = some y := fun i hi => ⟨_, List.getElem?_eq_getElem (by rw [hxl]; exact hi)⟩
  subst hxe
  obtain ⟨y0, g0⟩ := hx 0 (by decide)
  obtain ⟨y1, g1⟩ := hx 1 (by decide)
  obtain ⟨y2, g2⟩ := hx 2 (by decide)
  obtain ⟨y3, g3⟩ := hx 3 (by decide)
  obtain ⟨y4, g4⟩ := hx 4 (by decide)
  obtain ⟨y5, g5⟩ := hx 5 (by decide)
  obtain ⟨y6, g6⟩ := hx 6 (by decide)
  obtain ⟨y7, g7⟩ := hx 7 (by decide)
  obtain ⟨y8, g8⟩ := hx 8 (by decide)
  have h0 := (hg 0 _ rfl).trans g0
  have h1 := (hg 1 _ rfl).trans g1
  have h2 := (hg 2 _ rfl).trans g2
  have h3 := (hg 3 _ rfl).trans g3
  have h4 := (hg 4 _ rfl).trans g4
  have h5 := (hg 5 _ rfl).trans g5
  have h6 := (hg 6 _ rfl).trans g6
  have h7 := (hg 7 _ rfl).trans g7
  have h8 := (hg 8 _ rfl).trans g8
  simp only [List.getElem_toArray, List.getElem_cons_zero, List.getElem_cons_succ, dBool, dInt, dI64, dInts, dStr, dInss, dBks, List.drop_zero, List.drop_succ_cons, List.take_succ_cons, List.take_zero] at h0 h1 h2 h3 h4 h5 h6 h7 h8
  obtain ⟨i0, e0, k0⟩ := open_num Try.underlying3 h0
  obtain ⟨i1, e1, k1⟩ := open_num Try.underlying3 h1
  obtain ⟨i2, e2, k2⟩ := open_num Try.underlying3 h2
  obtain ⟨i3, e3, k3⟩ := open_num Try.underlying3 h3
  obtain ⟨i4, e4, k4⟩ := open_num Try.underlying3 h4
  obtain ⟨i5, e5, k5⟩ := open_num Try.underlying2 h5
  obtain ⟨a6, n6, c6, z6, rfl, l6, p6⟩ := ints_open h6
  obtain ⟨a7, n7, c7, z7, rfl, l7, p7⟩ := ints_open h7
  obtain ⟨a8, n8, c8, z8, rfl, l8, p8⟩ := ints_open h8
  simp only [List.cons.injEq, and_true] at e0 e1 e2 e3 e4 e5
  exact ⟨⟨i0, i1, i2, i3, i4, i5, z6, z7, z8⟩, ⟨a6, n6, c6, a7, n7, c7, a8, n8, c8, by rw [e0, e1, e2, e3, e4, e5], l6, l7, l8, ⟨k0, k1, k2, k3, k4, k5⟩, p6, p7, p8⟩⟩
end
theorem codeFields_z {cs : Array Value} {x : M.Ins} {w : World} (hp : InsIs w.heap.size w cs.toList x) :
    Calls Try.prog 4 #[.agg cs] w fun e w' => e = .returned (.bool true) ∧ Below w.heap.size w w' := by
  obtain ⟨la, ln, lc, ma, mn, mc, va, vn, vc, h1, h2, h3, h4, h5, h6, h7, h8⟩ := hp
  obtain rfl : cs = #[.int .i64 x.op, .int .i64 x.d, .int .i64 x.a, .int .i64 x.b, .int .i64 x.c, .int .i64 x.n, .slice la ln lc, .slice ma mn mc, .slice va vn vc] := by cases cs; simp_all
  exact codeFields_w (LL := x.l) (MM := x.m) (VV := x.v) ⟨la, ln, lc, ma, mn, mc, va, vn, vc, rfl, h2, h3, h4, h5, h6, h7, h8⟩ h6.len h7.len h8.len
end Go.Proofs.Ytiagfkdidjlkcaa
