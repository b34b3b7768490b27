/- A heap and the document's heap that say the same, wherever they were made; rows of words. -/
import Derived.Test.YteanlncnhncpbaaBoth
import Derived.Test.YteanlncnhncpbaaHeads
import Derived.Test.YteanlncnhncpbaaWordFrom
import Derived.Test.YteanlncnhncpbaaAppend2
namespace Go.Proofs.Yteanlncnhncpbaa
set_option linter.unusedVariables false
open Go.ChangeShapes Go.WideShapes Go.ChangeAt Go.RowKit
open M (W)

structure Agree (B : Nat) (w : World) (s : St) (x : Rf) : Prop where
  hp : HpIs w s
  rf : RfIs B w x
  n : x.n = s.n
  len : x.len = s.m
  K : x.K = s.lk
  N : x.N = s.ln
  sim : Sim s x.L
theorem Both.agree {w0 w : World} {s : St} {x : Rf} (h : Both w0 w s x) : Agree w0.heap.size w s x := ⟨h.hp, h.rf, h.n, h.len, h.K, h.N, h.sim⟩
theorem Agree.still {B : Nat} {w w' : World} {s : St} {x : Rf} (h : Agree B w s x) (t : Still w w') : Agree B w' s x := { h with hp := h.hp.still t, rf := h.rf.still t }
theorem Agree.kd {B : Nat} {w : World} {s : St} {x : Rf} (h : Agree B w s x) (i : Int) : M.kd x.len x.K i = s.kind i ∧ M.kd x.len x.N i = s.len i := by
  rw [h.len, h.K, h.N]; exact ⟨rfl, rfl⟩
theorem Agree.valid {B : Nat} {w : World} {s : St} {x : Rf} (h : Agree B w s x) : ∀ j, j < x.len → x.K j = 1 ∨ x.K j = 2 ∨ x.K j = 3 := by
  rw [h.len, h.K]; exact h.hp.kinds
theorem Agree.sum {B : Nat} {w : World} {s : St} {x : Rf} (h : Agree B w s x) : x.sum x.L = s.top := by
  have := Tile.sum (s := s) (x := x) (fun o ho => by
    have hg := (h.sim.good o ho).sz.2.1
    unfold Rf.need
    rw [(h.kd o.sh).1, (h.kd o.sh).2]
    exact hg) x.L 0 (fun o ho => ho) h.sim.tile
  simpa using this
theorem Tile.le {s : St} : ∀ {L : List RO} {p : Nat}, Tile s p L → p ≤ s.top
  | [], p, h => Nat.le_of_eq h
  | o :: L, p, h => by have := Tile.le h.2; omega
theorem Tile.drop {s : St} {L : List RO} {j p : Nat} {o : RO} (h : Tile s p (L.drop j)) (hj : L[j]? = some o) : o.at_ = p ∧ Tile s (p + s.sz o) (L.drop (j + 1)) := by
  have e : L.drop j = o :: L.drop (j + 1) := by
    obtain ⟨hl, he⟩ := List.getElem?_eq_some_iff.1 hj
    rw [List.drop_eq_getElem_cons hl, he]
  rw [e] at h; exact h
theorem Good.flat {s : St} {o : RO} (h : Good s o) : s.sz o = 1 + o.fs.length + (o.bs.length + 7) / 8 ∧ (∀ i, i < o.fs.length → s.ws (o.at_ + 1 + i) = o.fs.getD i 0) ∧
    (∀ q, q < (o.bs.length + 7) / 8 → s.ws (o.at_ + 1 + o.fs.length + q) = M.wordOf o.bs q) ∧ o.fs.length ≤ 65536 ∧ o.bs.length ≤ 65536 := by
  have z := h.sz.1
  have k := h.kd.2.1
  by_cases hk : s.kind o.sh = 3
  · obtain ⟨f1, f2, f3⟩ := h.b hk
    rw [if_pos hk] at z
    have hl : o.fs.length = 0 := by rw [f1]; rfl
    refine ⟨by omega, fun i hi => by omega, fun q hq => ?_, by omega, by omega⟩
    rw [hl, Nat.add_zero]; exact f3 q (by omega)
  · obtain ⟨f1, f2, f3⟩ := h.f hk
    rw [if_neg hk] at z
    have hl : o.bs.length = 0 := by rw [f1]; rfl
    exact ⟨by omega, fun i hi => f3 i (by omega), fun q hq => by omega, by omega, by omega⟩

/-- The first words of a heap, as a row of values. -/
def M.u64s (f : Nat → Nat) (k : Nat) : List Value := (List.range k).map fun i => Value.int .u64 (f i : Int)
theorem u64s_len (f : Nat → Nat) (k : Nat) : (M.u64s f k).length = k := by simp [M.u64s]
theorem u64s_succ (f : Nat → Nat) (k : Nat) : M.u64s f (k + 1) = M.u64s f k ++ [.int .u64 (f k : Int)] := by
  unfold M.u64s; rw [List.range_succ, List.map_append]; rfl
theorem u64s_get (f : Nat → Nat) (k i : Nat) (h : i < k) : (M.u64s f k)[i]? = some (.int .u64 (f i : Int)) := by
  unfold M.u64s; rw [List.getElem?_map, List.getElem?_range h]; rfl
theorem u64s_row (f : Nat → Nat) (k : Nat) (l : List Nat) (h : ∀ i, i < l.length → f (k + i) = l.getD i 0) : M.u64s f k ++ l.map (fun v : Nat => Value.int .u64 (v : Int)) = M.u64s f (k + l.length) := by
  apply List.ext_getElem?
  intro i
  by_cases h1 : i < k
  · rw [List.getElem?_append_left (by rw [u64s_len]; exact h1), u64s_get f k i h1, u64s_get f _ i (by omega)]
  · rw [List.getElem?_append_right (by rw [u64s_len]; omega), u64s_len]
    by_cases h2 : i < k + l.length
    · rw [u64s_get f _ i h2, List.getElem?_map, List.getElem?_eq_getElem (show i - k < l.length by omega)]
      have := h (i - k) (by omega)
      rw [show k + (i - k) = i by omega, List.getD_eq_getElem?_getD, List.getElem?_eq_getElem (show i - k < l.length by omega)] at this
      rw [this]; rfl
    · rw [List.getElem?_eq_none (show (l.map fun v : Nat => Value.int .u64 (v : Int)).length ≤ i - k by simp; omega), List.getElem?_eq_none (show (M.u64s f (k + l.length)).length ≤ i by rw [u64s_len]; omega)]
theorem u64s_one (f : Nat → Nat) (k : Nat) : ∀ u ∈ M.u64s f k, u.oneCell' = true := by
  intro u hu
  unfold M.u64s at hu
  obtain ⟨i, _, rfl⟩ := List.mem_map.1 hu
  rfl
theorem nats_one (l : List Nat) : ∀ u ∈ l.map (fun v : Nat => Value.int .u64 (v : Int)), u.oneCell' = true := by
  intro u hu
  obtain ⟨i, _, rfl⟩ := List.mem_map.1 hu
  rfl
theorem infoU : (Try.prog.info? 30).map (fun i => (i.zero, i.size, i.bytes)) = some (some (.int .u64 0), 1, 8) := by kernel_rfl
end Go.Proofs.Yteanlncnhncpbaa
