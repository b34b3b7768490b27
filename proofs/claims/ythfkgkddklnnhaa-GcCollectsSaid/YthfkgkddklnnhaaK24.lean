/- Lemmas, put together: TwiceW. -/
import Derived.Test.YthfkgkddklnnhaaK22
/- A second collection changes nothing. -/
namespace Go.Proofs.Ythfkgkddklnnhaa
set_option linter.unusedVariables false
open Go.ChangeShapes Go.WideShapes Go.ChangeAt Go.RowKit
open M (W)

theorem tile_cover {s : St} {top : Nat} : ∀ {L : List RO} {p i : Nat}, TileTo s top p L → p ≤ i → i < top → ∃ o ∈ L, o.at_ ≤ i ∧ i < o.at_ + s.sz o
  | [], p, i, h, h1, h2 => by have : p = top := h; omega
  | o :: L, p, i, h, h1, h2 => by
    have hp := h.1
    by_cases hi : i < p + s.sz o
    · exact ⟨o, List.mem_cons_self, by omega, by omega⟩
    · obtain ⟨q, hq, e⟩ := tile_cover h.2 (i := i) (by omega) h2
      exact ⟨q, List.mem_cons_of_mem _ hq, e⟩
/-- Two heaps with the same objects have the same words. -/
theorem sim_ws {s s' : St} {L : List RO} (h : Sim s L) (h' : Sim s' L) (ht : s'.top = s.top) (i : Nat) : s'.ws i = s.ws i := by
  by_cases hi : i < s.top
  · obtain ⟨o, ho, h1, h2⟩ := tile_cover h.tile.to (Nat.zero_le _) hi
    have hg := h.good o ho
    have hg' := h'.good o ho
    obtain ⟨z1, z2, z3, _⟩ := hg.flat
    obtain ⟨_, y2, y3, _⟩ := hg'.flat
    by_cases e : i = o.at_
    · rw [e, hg.hd, hg'.hd]
    · by_cases e2 : i < o.at_ + 1 + o.fs.length
      · obtain ⟨k, rfl⟩ : ∃ k, i = o.at_ + 1 + k := ⟨i - (o.at_ + 1), by omega⟩
        rw [z2 k (by omega), y2 k (by omega)]
      · obtain ⟨k, rfl⟩ : ∃ k, i = o.at_ + 1 + o.fs.length + k := ⟨i - (o.at_ + 1 + o.fs.length), by omega⟩
        rw [z3 k (by omega), y3 k (by omega)]
  · rw [h.zero i (by omega), h'.zero i (by omega)]
/-- What was reached is reached from the roots' new pointers. -/
theorem rch_slid {s : St} {L : List RO} {rl : List Nat} {mk : Nat → Bool} {t : Nat → Nat} (hmk : ∀ b, mk b = true ↔ M.Rch L rl b) {b : Nat} (h : M.Rch L rl b) : M.Rch (M.slid mk t L) (rl.map (M.ren t)) (t b) := by
  induction h with
  | @root v hv he =>
    have := M.Rch.root (L := M.slid mk t L) (rl := rl.map (M.ren t)) (v := M.ren t v) (List.mem_map_of_mem hv) (by unfold M.ren; rw [if_pos he]; omega)
    rwa [show M.ren t v / 2 = t (v / 2) by unfold M.ren; rw [if_pos he]; omega] at this
  | @field o v ho hr hv he ih =>
    have hom : o.goes t ∈ M.slid mk t L := mem_slid.2 ⟨o, ho, (hmk _).2 hr, rfl⟩
    have := M.Rch.field (L := M.slid mk t L) (rl := rl.map (M.ren t)) (o := o.goes t) (v := M.ren t v) hom ih (List.mem_map_of_mem (f := M.ren t) hv) (by unfold M.ren; rw [if_pos he]; omega)
    rwa [show M.ren t v / 2 = t (v / 2) by unfold M.ren; rw [if_pos he]; omega] at this
/-- The new pointers of roots fit. -/
theorem ren_fits {w w' : World} {s s' : St} {L : List RO} {rl : List Nat} {mk : Nat → Bool} {t : Nat → Nat} (h : Right w s L) (h' : Right w' s' (M.slid mk t L)) (hmk : ∀ b, mk b = true ↔ M.Rch L rl b) (hfit : ∀ v ∈ rl, s.fits (v : Nat) = true) : ∀ v ∈ rl.map (M.ren t), s'.fits (v : Nat) = true := fun u hu => by
  obtain ⟨v, hv, rfl⟩ := List.mem_map.1 hu
  by_cases he : v % 2 = 0
  · obtain ⟨p, hp, e⟩ := h.root (hfit v hv) he
    have hr : M.Rch L rl (v / 2) := .root hv he
    have hpm : p.goes t ∈ M.slid mk t L := mem_slid.2 ⟨p, hp, by rw [show p.at_ = v / 2 by omega]; exact (hmk _).2 hr, rfl⟩
    refine h'.fits_at hpm ?_
    unfold M.ren
    rw [if_pos he]
    show ((2 * t (v / 2) : Nat) : Int) / 2 = ((t p.at_ : Nat) : Int)
    rw [show p.at_ = v / 2 by omega]; omega
  · refine fits_odd _ ?_
    unfold M.ren
    rw [if_neg he]; omega
theorem ren_lt {w : World} {s : St} {L : List RO} {rl : List Nat} {mk : Nat → Bool} (h : Right w s L) (hlt : ∀ v ∈ rl, v < 18446744073709551616) (hfit : ∀ v ∈ rl, s.fits (v : Nat) = true) : ∀ v ∈ rl.map (M.ren (M.tof s mk L)), v < 18446744073709551616 := fun u hu => by
  obtain ⟨v, hv, rfl⟩ := List.mem_map.1 hu
  have h1 := hlt v hv
  unfold M.ren
  by_cases he : v % 2 = 0
  · obtain ⟨p, hp, e⟩ := h.root (hfit v hv) he
    have h2 := tof_below (mk := mk) h hp
    have h3 := (h.at_le hp).2
    rw [if_pos he, show v / 2 = p.at_ by omega]; omega
  · rw [if_neg he]; exact h1
theorem getD_map (f : Nat → Nat) (l : List Nat) (i : Nat) (hi : i < l.length) : (l.map f).getD i 0 = f (l.getD i 0) := by
  rw [List.getD_eq_getElem?_getD, List.getD_eq_getElem?_getD, List.getElem?_map, List.getElem?_eq_getElem hi]; rfl
end Go.Proofs.Ythfkgkddklnnhaa
