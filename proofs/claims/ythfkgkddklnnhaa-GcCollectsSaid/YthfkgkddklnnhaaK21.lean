/- Lemmas, put together: OrderW. -/
import Derived.Test.YthfkgkddklnnhaaK20
import Derived.Test.YthfkgkddklnnhaaK18
/- Objects keep their order, and none moves up. -/
namespace Go.Proofs.Ythfkgkddklnnhaa
set_option linter.unusedVariables false
open Go.ChangeShapes Go.WideShapes Go.ChangeAt Go.RowKit
open M (W)

theorem right_shape {w : World} {s : St} {L : List RO} (h : Right w s L) {o : RO} (ho : o ∈ L) : Calls Try.prog 40 #[s.ptr, .int .i64 o.at_] w fun e w' => e = .returned (.tuple #[.int .i64 o.sh, .int .i64 0]) ∧ Still w w' :=
  shape_ok s o.at_ _ w h.hp (h.sim.obAt h.hp ho)
theorem right_objects {w : World} {s : St} {L : List RO} (h : Right w s L) : Calls Try.prog 38 #[s.ptr] w fun e w' => (∃ a c, e = .returned (.slice a L.length c) ∧ w'.ownsRow w.heap.size 3 1 (.slice a L.length c) L.length (M.ints (L.map RO.at_))) ∧ Still w w' := by
  refine (objects_any s w h.hp (by have := h.hp.top_le; have := h.hp.n_le; omega)).mono ?_
  rintro e w' ⟨⟨a, c, rfl, ho⟩, t⟩
  have hpl := h.sim.places
  unfold St.owns at ho
  rw [hpl, List.length_map] at ho
  rw [hpl, List.length_map]
  exact ⟨⟨a, c, rfl, ho⟩, t⟩
/-- A row of ints of the call's own stays, whatever a collection turns. -/
theorem Right.own_keep {w w' : World} {s : St} {L : List RO} (h : Right w s L) (t : Turn (fun b => b = s.g ∨ b = s.gw) w w') {B : Nat} {v : Value} {n : Nat} {xs : List Value} (ho : w.ownsRow B 3 1 v n xs) : w'.ownsRow B 3 1 v n xs :=
  Go.Proofs.Ythfkgkddklnnhaa.own_keep ho t fun k hk e => e.elim (fun e => own_type ho h.hp.blk (by decide) (by rw [hk, e])) (fun e => own_type ho h.hp.words (by decide) (by rw [hk, e]))
/-- Cells of a row of ints. -/
theorem ints_at {w : World} {B n c : Nat} {a : Option Addr} {l : List Nat} (h : w.ownsRow B 3 1 (.slice a n c) n (M.ints l)) (hn : l.length = n) {j : Nat} (hj : j < n) : ∃ b, a = some ⟨b, 0, none⟩ ∧ b < w.heap.size ∧ n ≤ c ∧ c ≤ maxLen ∧ w.cell? ⟨b, j, none⟩ = some (.int .i64 (l.getD j 0 : Nat)) := by
  obtain ⟨g, hra, hg, h1, h2, h3, _⟩ := own_form h (by omega)
  refine ⟨g, hra, hg, h1, h2, h3 j _ ?_⟩
  unfold M.ints
  rw [List.getElem?_map, List.getElem?_eq_getElem (by omega), List.getD_eq_getElem?_getD, List.getElem?_eq_getElem (by omega)]; rfl
theorem tof_below {w : World} {s : St} {L : List RO} {mk : Nat → Bool} (h : Right w s L) {o : RO} (ho : o ∈ L) : M.tof s mk L o.at_ ≤ o.at_ := by
  have htile := h.laid.tile
  have hz : ∀ q ∈ L, 1 ≤ s.sz q := fun q hq => (h.sim.good q hq).sz.2.2
  have hfar := htile.far hz
  have := tof_le (mk := mk) (a := o.at_) htile (fun q hq hlt => by
    rcases hfar q hq o ho with x | x | x
    · rw [x] at hlt; omega
    · exact x
    · have := hz o ho; omega) (Nat.zero_le _)
  omega
theorem Right.as_again {w w' : World} {s : St} {L : List RO} (h : Right w' (s.as L) L) : Right w' (s.as L) L := h
/-- A row of which a number more than that is laid. -/
theorem map_take_succ {α : Type} (f : α → Nat) (l : List α) (j : Nat) (o : α) (h : l[j]? = some o) : (l.take (j + 1)).map f = (l.take j).map f ++ [f o] := by
  rw [List.take_add_one, h]; simp
theorem slid_at {s : St} {L : List RO} {mk : Nat → Bool} {j : Nat} {o : RO} (h : (L.filter fun o => mk o.at_)[j]? = some o) : (M.slid mk (M.tof s mk L) L)[j]? = some (o.goes (M.tof s mk L)) := by
  unfold M.slid
  rw [List.getElem?_map, h]; rfl
end Go.Proofs.Ythfkgkddklnnhaa
