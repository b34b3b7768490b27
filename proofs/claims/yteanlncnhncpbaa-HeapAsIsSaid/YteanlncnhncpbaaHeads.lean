/- The places that Objects tells are those of the document's list, in its order. -/
import Derived.Test.YteanlncnhncpbaaObjects
namespace Go.Proofs.Yteanlncnhncpbaa
set_option linter.unusedVariables false

theorem sorted_eq : ∀ (l m : List Nat), l.Pairwise (· < ·) → m.Pairwise (· < ·) → (∀ a, a ∈ l ↔ a ∈ m) → l = m
  | [], m, _, _, h => by
    cases m with
    | nil => rfl
    | cons b m => exact absurd ((h b).2 (by simp)) (by simp)
  | a :: l, [], _, _, h => absurd ((h a).1 (by simp)) (by simp)
  | a :: l, b :: m, hl, hm, h => by
    rw [List.pairwise_cons] at hl hm
    have e : a = b := by
      have h1 := (h a).1 (by simp)
      have h2 := (h b).2 (by simp)
      rw [List.mem_cons] at h1 h2
      rcases h1 with h1 | h1
      · exact h1
      · rcases h2 with h2 | h2
        · exact h2.symm
        · have := hm.1 a h1
          have := hl.1 b h2
          omega
    subst e
    congr 1
    refine sorted_eq l m hl.2 hm.2 fun x => ?_
    have hx := h x
    rw [List.mem_cons, List.mem_cons] at hx
    constructor
    · intro hxl
      rcases hx.1 (.inr hxl) with e | e
      · have := hl.1 x hxl; omega
      · exact e
    · intro hxm
      rcases hx.2 (.inr hxm) with e | e
      · have := hm.1 x hxm; omega
      · exact e
theorem Sim.places {s : St} {L : List RO} (h : Sim s L) : s.hl s.top = L.map RO.at_ := by
  refine sorted_eq _ _ ?_ ?_ fun a => ?_
  · unfold St.hl
    exact List.Pairwise.filter _ List.pairwise_lt_range
  · rw [List.pairwise_map, List.pairwise_iff_getElem]
    intro i j hi hj hij
    have h1 := h.tile.order hij (List.getElem?_eq_getElem hi) (List.getElem?_eq_getElem hj)
    have h2 := (h.good _ (List.getElem_mem hi)).sz.2.2
    omega
  · unfold St.hl
    rw [List.mem_filter, List.mem_range, List.mem_map]
    constructor
    · rintro ⟨_, h2⟩
      rw [h.heads, List.any_eq_true] at h2
      obtain ⟨o, ho, he⟩ := h2
      have := of_decide_eq_true he
      exact ⟨o, ho, by omega⟩
    · rintro ⟨o, ho, rfl⟩
      obtain ⟨k, hk⟩ := List.mem_iff_getElem?.1 ho
      have h1 := h.tile.get hk
      have h2 := (h.good o ho).sz.2.2
      refine ⟨by omega, ?_⟩
      rw [h.heads, List.any_eq_true]
      exact ⟨o, ho, by simp⟩
end Go.Proofs.Yteanlncnhncpbaa
