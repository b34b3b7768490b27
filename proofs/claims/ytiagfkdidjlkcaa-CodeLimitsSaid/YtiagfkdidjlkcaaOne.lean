/- An image of one instruction, in memory; rows of the same thing many times. -/
import Derived.Test.YtiagfkdidjlkcaaL08
import Derived.Test.YtiagfkdidjlkcaaL07
import Derived.Test.YtiagfkdidjlkcaaOpenImg
namespace Go.Proofs.Ytiagfkdidjlkcaa
set_option linter.unusedVariables false
set_option linter.unusedSimpArgs false
open Go.ChangeShapes Go.WideShapes Go.ChangeAt Go.RowKit
open M (W)
theorem Lies.one {α : Type} {B k : Nat} {w : World} {P : List Value → α → Prop} {b : Nat} {x : α} (cs : List Value) (hb : b < B) (hl : cs.length = k) (hP : P cs x) (hc : ∀ j, j < k → w.cell? ⟨b, j, none⟩ = cs[j]?) : Lies B w k P (some ⟨b, 0, none⟩) 1 [x] :=
  ⟨rfl, fun _ => ⟨b, 0, rfl, hb, fun i y hi => by
    have hi0 : i = 0 := by
      have := (List.getElem?_eq_some_iff.1 hi).1
      simp at this; omega
    subst hi0
    obtain rfl : x = y := by simpa using hi
    exact ⟨cs, hl, hP, fun j hj => by rw [Nat.zero_mul, Nat.add_zero, Nat.zero_add]; exact hc j hj⟩⟩⟩
theorem Lies.no {α : Type} {B k : Nat} {w : World} {P : List Value → α → Prop} : Lies B w k P none 0 ([] : List α) := ⟨rfl, fun h => absurd h (by decide)⟩
/-- What lies there, if it is one thing. -/
theorem Lies.just {α : Type} {B k : Nat} {w : World} {P : List Value → α → Prop} {a : Option Addr} {n : Nat} {x : α} (h : Lies B w k P a n [x]) : n = 1 ∧ ∃ b off cs, a = some ⟨b, off, none⟩ ∧ b < B ∧ cs.length = k ∧ P cs x ∧ ∀ j, j < k → w.cell? ⟨b, off + j, none⟩ = cs[j]? := by
  have hn : n = 1 := h.len.symm
  subst hn
  obtain ⟨b, off, y, cs, h1, h2, h3, h4, h5, h6⟩ := h.here (i := 0) (by decide)
  obtain rfl : x = y := by simpa using h3
  exact ⟨rfl, b, off, cs, h1, h2, h4, h5, fun j hj => by have := h6 j hj; rwa [Nat.zero_mul, Nat.add_zero] at this⟩
theorem cells_blk {w : World} {b : Nat} {t : TypeId} {cs : Array Value} (h : Blk w b t cs) (j : Nat) : w.cell? ⟨b, j, none⟩ = cs.toList[j]? := by
  rw [h.cell j]; simp
theorem size_next {w : World} {n : Nat} (h : w.heap.size = n) (o : Obj) : (w.alloc o).heap.size = n + 1 := by subst h; simp
theorem blk_next {w : World} {n : Nat} (h : w.heap.size = n) (t : TypeId) (cs : Array Value) : Blk (w.alloc (.cells cs t)) n t cs := by subst h; exact Blk.new w t cs
def M.one (x : M.Ins) : M.Img := ⟨[], [], [], [], [⟨[], 0, 0, [⟨[], [x]⟩]⟩], 0, 0⟩
theorem in0 : In64 0 := by unfold In64; omega
theorem one_img {B : Nat} {w : World} {x : M.Ins} {cs : Array Value} {b1 b2 b3 : Nat} {t1 t2 t3 : TypeId} (hp : InsIs B w cs.toList x) (hl : cs.size = 9) (g1 : b1 < B) (g2 : b2 < B) (g3 : b3 < B) (h1 : Blk w b1 t1 cs)
    (h2 : Blk w b2 t2 #[.slice none 0 0, .slice (some ⟨b1, 0, none⟩) 1 1]) (h3 : Blk w b3 t3 #[.slice none 0 0, .int .i64 0, .int .i64 0, .slice (some ⟨b2, 0, none⟩) 1 1]) :
    ImgIs B w ⟨none, 0, 0, none, 0, 0, none, 0, 0, none, 0, 0, some ⟨b3, 0, none⟩, 1, 1, 0, 0⟩ (M.one x) := by
  have k1 : Lies B w 9 (InsIs B w) (some ⟨b1, 0, none⟩) 1 [x] := Lies.one _ g1 (by simpa using hl) hp fun j _ => cells_blk h1 j
  have k2 : Lies B w 2 (BkIs B w) (some ⟨b2, 0, none⟩) 1 [⟨[], [x]⟩] := Lies.one _ g2 rfl ⟨none, 0, 0, some ⟨b1, 0, none⟩, 1, 1, rfl, by decide, by decide, Lies.no, k1⟩ fun j _ => cells_blk h2 j
  have k3 : Lies B w 4 (FnIs B w) (some ⟨b3, 0, none⟩) 1 [⟨[], 0, 0, [⟨[], [x]⟩]⟩] := Lies.one _ g3 rfl ⟨none, 0, 0, some ⟨b2, 0, none⟩, 1, 1, rfl, by decide, by decide, in0, in0, Lies.no, k2⟩ fun j _ => cells_blk h3 j
  exact ⟨rfl, rfl, in0, in0, ⟨Nat.zero_le _, Nat.zero_le _, Nat.zero_le _, Nat.zero_le _, (by decide : 1 ≤ maxLen)⟩, Lies.no, Lies.no, Lies.no, Lies.no, k3⟩
theorem M.check_one {x : M.Ins} (h1 : x.l.length ≤ 200) (h2 : x.m.length ≤ 200) (h3 : x.v.length ≤ 200) : M.check (M.one x) = if M.plainIns x then 0 else 1 := by
  have g1 : decide (1024 < x.l.length) = false := decide_eq_false (by omega)
  have g2 : decide (1024 < x.m.length) = false := decide_eq_false (by omega)
  have g3 : decide (200 < x.v.length) = false := decide_eq_false (by omega)
  have hb : M.big (M.one x) = false := by simp [M.big, M.one, M.bigFn, M.bigBk, M.size, M.anyIns, M.bigIns, g1, g2, g3]
  unfold M.check
  rw [hb]
  cases hq : M.plainIns x <;> simp [M.anyIns, M.one, hq]
theorem M.one_small {x : M.Ins} (h1 : x.l.length ≤ 200) (h2 : x.m.length ≤ 200) (h3 : x.v.length ≤ 200) : M.wImg (M.one x) ≤ 1000 ∧ M.size (M.one x) = 1 := by
  constructor
  · simp [M.wImg, M.one, M.wFn, M.wBk, M.wIns]; omega
  · simp [M.size, M.one]
end Go.Proofs.Ytiagfkdidjlkcaa
