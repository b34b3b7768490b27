/- An instruction as an argument. -/
import Derived.Test.YtfbedcnibkkpmaaInstrsW
import Derived.Test.YtfbedcnibkkpmaaRows
import Derived.WalkKit
import Derived.Deep.SlicePairs
import Derived.Deep.Fields
import Derived.ChangeSame
import Derived.ProofKit
import Derived.OpenShut
import Derived.ShutString
import Derived.ChangeOld
import Derived.Lib.SmallJoins
import Derived.SizedLaws
namespace Go.Proofs.Ytfbedcnibkkpmaa
set_option linter.unusedVariables false
open Go.ChangeShapes Go.WideShapes Go.ChangeAt Go.RowKit Go.Deep
theorem insSlice {H : Type} {enc : TypeId × Value → H} {w : World} {base : Nat} {spare : Nat → Bool} {held : Bool} {t e : TypeId} {fuel : Nat} {v : Value} {x : DataW H × List MemPlace} (ht : Try.prog.underlying t = some (.slice e))
    (h : DataW.trod enc Try.prog w base spare held fuel t [v] = some x) : ∃ a n c, v = .slice a n c := by
  rcases open_slice ht h with ⟨hcs, _⟩ | ⟨ad, l, c, m, n, D, Pl, hcs, _⟩
  · simp at hcs; exact ⟨_, _, _, hcs⟩
  · simp at hcs; exact ⟨_, _, _, hcs⟩
theorem cInt : Try.prog.cellsOf 3 = 1 := by kernel_rfl
theorem cI64 : Try.prog.cellsOf 2 = 1 := by kernel_rfl
theorem cInts : Try.prog.cellsOf 22 = 1 := by kernel_rfl
theorem cIns : Try.prog.cellsOf 24 = 9 := by kernel_rfl
theorem list9 {α : Type} : ∀ (l : List α), l.length = 9 → ∃ a b c d e f g h i, l = [a, b, c, d, e, f, g, h, i]
  | [a, b, c, d, e, f, g, h, i], _ => ⟨a, b, c, d, e, f, g, h, i, rfl⟩
theorem ins_cells {H : Type} {enc : TypeId × Value → H} {w : World} {fuel : Nat} {cs : List Value} {x : DataW H × List MemPlace}
    (h : DataW.trod enc Try.prog w 0 (fun _ => true) true fuel 24 cs = some x) : ∃ (op d a b c n : Int) (la : Option Addr) (ll lc : Nat) (ma : Option Addr) (ml mc : Nat) (va : Option Addr) (vl vc : Nat), cs = [.int .i64 op, .int .i64 d, .int .i64 a, .int .i64 b, .int .i64 c, .int .i64 n, .slice la ll lc, .slice ma ml mc, .slice va vl vc] := by
  obtain ⟨xs, n, _, _, hlen, hxl, hg⟩ := DataW.trod_struct Try.underlying24 h
  rw [cIns] at hlen
  obtain ⟨v0, v1, v2, v3, v4, v5, v6, v7, v8, rfl⟩ := list9 cs hlen
  have hx : ∀ i, i < 9 → ∃ y, xs[i]? = some y := fun i hi => ⟨_, List.getElem?_eq_getElem (by rw [hxl]; exact hi)⟩
  obtain ⟨y0, g0⟩ := hx 0 (by decide)
  obtain ⟨y1, g1⟩ := hx 1 (by decide)
  obtain ⟨y2, g2⟩ := hx 2 (by decide)
  obtain ⟨y3, g3⟩ := hx 3 (by decide)
  obtain ⟨y4, g4⟩ := hx 4 (by decide)
  obtain ⟨y5, g5⟩ := hx 5 (by decide)
  obtain ⟨y6, g6⟩ := hx 6 (by decide)
  obtain ⟨y7, g7⟩ := hx 7 (by decide)
  obtain ⟨y8, g8⟩ := hx 8 (by decide)
  have h0 := (hg 0 _ rfl).trans g0
  have h1 := (hg 1 _ rfl).trans g1
  have h2 := (hg 2 _ rfl).trans g2
  have h3 := (hg 3 _ rfl).trans g3
  have h4 := (hg 4 _ rfl).trans g4
  have h5 := (hg 5 _ rfl).trans g5
  have h6 := (hg 6 _ rfl).trans g6
  have h7 := (hg 7 _ rfl).trans g7
  have h8 := (hg 8 _ rfl).trans g8
  simp only [List.getElem_toArray, List.getElem_cons_zero, List.getElem_cons_succ, cInt, cI64, cInts, List.drop_zero, List.drop_succ_cons, List.take_succ_cons, List.take_zero] at h0 h1 h2 h3 h4 h5 h6 h7 h8
  obtain ⟨i0, e0, _, _⟩ := DataW.trod_int Try.underlying3 h0
  obtain ⟨i1, e1, _, _⟩ := DataW.trod_int Try.underlying3 h1
  obtain ⟨i2, e2, _, _⟩ := DataW.trod_int Try.underlying3 h2
  obtain ⟨i3, e3, _, _⟩ := DataW.trod_int Try.underlying3 h3
  obtain ⟨i4, e4, _, _⟩ := DataW.trod_int Try.underlying3 h4
  obtain ⟨i5, e5, _, _⟩ := DataW.trod_int Try.underlying2 h5
  obtain ⟨la, ll, lc, rfl⟩ := insSlice Try.underlying22 h6
  obtain ⟨ma, ml, mc, rfl⟩ := insSlice Try.underlying22 h7
  obtain ⟨va, vl, vc, rfl⟩ := insSlice Try.underlying22 h8
  simp only [List.cons.injEq, and_true] at e0 e1 e2 e3 e4 e5
  exact ⟨i0, i1, i2, i3, i4, i5, la, ll, lc, ma, ml, mc, va, vl, vc, by rw [e0, e1, e2, e3, e4, e5]⟩
end Go.Proofs.Ytfbedcnibkkpmaa
