/- The document's bytes of any image. -/
import Derived.Test.YtiagfkdidjlkcaaRefIns
import Derived.Test.YtiagfkdidjlkcaaL08
import Derived.Test.YtiagfkdidjlkcaaL03
import Derived.Deep.RegionHeld3
namespace Go.Proofs.Ytiagfkdidjlkcaa
set_option linter.unusedVariables false
set_option linter.unusedSimpArgs false
open Go.ChangeShapes Go.WideShapes Go.ChangeAt Go.RowKit
open M (W)
def M.bel4 : List Int := [66, 69, 76, 49]
/-- Where the document's writer stands: the row that it holds, what stands, the image's box. -/
structure Doc (B : Nat) (w : World) (bx : Nat) (cs : Array Value) (z : Value) (ys : List Int) (W : World) : Prop where
  has : Holds8 B W z ys
  below : Below B w W
  box : Blk W bx 27 cs
theorem Doc.next {B bx : Nat} {cs : Array Value} {z z' : Value} {ys ys' : List Int} {w W W' : World} (h : Doc B w bx cs z ys W) (hh : Holds8 B W' z' ys') (hg : Grew B W W' z z') : Doc B w bx cs z' ys' W' :=
  ⟨hh, h.below.trans hg.below, hg.blk h.has h.box (by decide)⟩
theorem Doc.still {B bx : Nat} {cs : Array Value} {z : Value} {ys : List Int} {w W W' : World} (h : Doc B w bx cs z ys W) (hB : B ≤ w.heap.size) (t : Still W W') : Doc B w bx cs z ys W' :=
  ⟨h.has.keep t, h.below.trans ((Still.below t).mono (Nat.le_trans hB h.below.size)), t.blk h.box⟩
theorem Holds8.base {B B2 : Nat} {w : World} {v : Value} {xs : List Int} (h : Holds8 B w v xs) (hb : B2 ≤ B) : Holds8 B2 w v xs := by
  obtain ⟨a, c, rfl, ho⟩ := h
  exact ⟨a, c, rfl, ownsRow_base ho hb⟩
theorem ShIs.parts {B : Nat} {w : World} {k : Int} {s : ByteArray} {a2 : Option Addr} {n2 c2 : Nat} {x : M.Sh} (h : ShIs B w [.int .i64 k, .slice a2 n2 c2, .string s] x) : In64 x.kind ∧ x.name.size ≤ maxLen := by
  obtain ⟨a, n, c, he, hn, h1, h2, hi⟩ := h
  exact ⟨h1, h2⟩
theorem flat_step {α : Type} (f : α → List Int) {l : List α} {i : Nat} {x : α} (hx : l[i]? = some x) : (l.take (i + 1)).flatMap f = (l.take i).flatMap f ++ f x := by
  rw [List.take_add_one, hx, List.flatMap_append]; simp
theorem flat_take_le {α : Type} (f : α → List Int) (l : List α) (i : Nat) : ((l.take i).flatMap f).length ≤ (l.flatMap f).length := by
  have h1 : (l.flatMap f).length = ((l.take i).flatMap f).length + ((l.drop i).flatMap f).length := by
    rw [← List.length_append, ← List.flatMap_append, List.take_append_drop]
  omega
theorem many_end {α : Type} (f : α → List Int) {l : List α} {n : Nat} (hn : l.length = n) (xs : List Int) : xs ++ M.num n ++ (l.take n).flatMap f = xs ++ M.many f l := by
  rw [← hn, List.take_length]; unfold M.many; simp [List.append_assoc]
end Go.Proofs.Ytiagfkdidjlkcaa
