/- Lemmas, put together: Vro. -/
import Derived.Test.YtglalgjffkoneaaGreatDoorV19
/- Many rows at once. -/
namespace Go.Proofs.YtglalgjffkoneaaGreatDoor
set_option linter.unusedVariables false
set_option linter.unusedSimpArgs false
open Go.ChangeShapes Go.WideShapes Go.ChangeAt Go.RowKit
abbrev RL := List (Nat × TypeId × List Value)
/-- These rows lie there, in blocks of their own. -/
structure Rws (w : World) (L : RL) : Prop where
  each : ∀ x ∈ L, Row w x.1 x.2.1 x.2.2
  nd : L.Pairwise fun x y => x.1 ≠ y.1
theorem Rws.at {w : World} {L : RL} (h : Rws w L) (n : Nat) {b : Nat} {e : TypeId} {xs : List Value} (hn : L[n]? = some (b, e, xs)) : Row w b e xs := h.each _ (List.mem_of_getElem? hn)
theorem Rws.nil (w : World) : Rws w [] := ⟨(fun x hx => by cases hx), List.Pairwise.nil⟩
theorem Rws.still {w w' : World} {L : RL} (h : Rws w L) (t : Still w w') : Rws w' L := ⟨fun x hx => (h.each x hx).still t, h.nd⟩
/-- A row that is new. -/
theorem Rws.new {w w' : World} {L : RL} (h : Rws w L) (t : Still w w') {b : Nat} {e : TypeId} {xs : List Value} (hr : Row w' b e xs) (hb : w.heap.size ≤ b) : Rws w' (L ++ [(b, e, xs)]) := by
  refine ⟨fun x hx => ?_, ?_⟩
  · rcases List.mem_append.1 hx with e1 | e1
    · exact (h.each x e1).still t
    · rw [List.mem_singleton.1 e1]; exact hr
  · refine List.pairwise_append.2 ⟨h.nd, List.pairwise_singleton _ _, fun x hx y hy => ?_⟩
    rw [List.mem_singleton.1 hy]
    have := (h.each x hx).lt
    show x.1 ≠ b
    omega
/-- A row just made. -/
theorem Rws.made {w : World} {L : RL} (h : Rws w L) {b : Nat} {e : TypeId} {cs : Array Value} (hb : w.heap.size = b) : Rws (w.alloc (.cells cs e)) (L ++ [(b, e, cs.toList)]) := h.new ((Still.refl w).alloc _) (blk_at' hb).row' (by omega)
theorem Rws.alloc {w : World} {L : RL} (h : Rws w L) (o : Obj) : Rws (w.alloc o) L := h.still ((Still.refl w).alloc o)
theorem Rws.ne {w : World} {L : RL} (h : Rws w L) (a c : Nat) {b b' : Nat} {e e' : TypeId} {xs xs' : List Value} (ha : L[a]? = some (b, e, xs)) (hc : L[c]? = some (b', e', xs')) (hac : a ≠ c) : b ≠ b' := by
  have hp := List.pairwise_iff_getElem.1 h.nd
  obtain ⟨la, ea⟩ := List.getElem?_eq_some_iff.1 ha
  obtain ⟨lc, ec⟩ := List.getElem?_eq_some_iff.1 hc
  rcases Nat.lt_or_ge a c with e1 | e1
  · have := hp a c la lc e1
    rwa [ea, ec] at this
  · have := hp c a lc la (by omega)
    rw [ea, ec] at this
    exact fun e => this e.symm
/-- A cell of the n-th row is another one. -/
theorem Rws.set {w : World} {L : RL} (h : Rws w L) (n : Nat) {b : Nat} {e : TypeId} {xs : List Value} (hn : L[n]? = some (b, e, xs)) (i : Nat) (hi : i < xs.length) (v : Value) : Rws (w.setCell ⟨b, i, none⟩ v) (L.set n (b, e, xs.set i v)) := by
  have hnl := (List.getElem?_eq_some_iff.1 hn).1
  have hnd : ∀ (a c : Nat) (x y : Nat × TypeId × List Value), L[a]? = some x → L[c]? = some y → a ≠ c → x.1 ≠ y.1 := fun a c x y ha hc hac => by
    have hp := List.pairwise_iff_getElem.1 h.nd
    obtain ⟨la, ea⟩ := List.getElem?_eq_some_iff.1 ha
    obtain ⟨lc, ec⟩ := List.getElem?_eq_some_iff.1 hc
    rcases Nat.lt_or_ge a c with e1 | e1
    · have := hp a c la lc e1
      rwa [ea, ec] at this
    · have := hp c a lc la (by omega)
      rw [ea, ec] at this
      exact fun e => this e.symm
  refine ⟨fun x hx => ?_, ?_⟩
  · obtain ⟨a, ha⟩ := List.getElem?_of_mem hx
    by_cases e : n = a
    · subst e
      rw [List.getElem?_set_self hnl] at ha
      obtain rfl := Option.some.inj ha
      exact (h.at n hn).set hi v
    · rw [List.getElem?_set_ne e] at ha
      exact (h.each x (List.mem_of_getElem? ha)).far (hnd a n x _ ha hn (fun e2 => e e2.symm)) v
  · rw [List.pairwise_iff_getElem]
    intro a c ha hc hac
    have key : ∀ (k : Nat) (hk : k < (L.set n (b, e, xs.set i v)).length), ((L.set n (b, e, xs.set i v))[k]).1 = (L[k]'(by simpa using hk)).1 := fun k hk => by
      rw [List.getElem_set]
      split
      · rename_i e1
        subst e1
        rw [(List.getElem?_eq_some_iff.1 hn).2]
      · rfl
    rw [key a ha, key c hc]
    exact List.pairwise_iff_getElem.1 h.nd a c _ _ hac
theorem least_rws {w : World} {p : LeastP} (h : LeastAt w p 0 2) : Rws w [(p.p1, 3, [.int .i64 0]), (p.p3, 42, [.int .i64 3, .slice none 0 0, .string ⟨#[]⟩]), (p.p4, 3, [.int .i64 (-1)]), (p.p5, 36, insCells 1 5 ++ insCells 22 0), (p.p6, 48, [.slice (some ⟨p.p4, 0, none⟩) 1 1, .slice (some ⟨p.p5, 0, none⟩) 2 2])] := by
  have r1 := h.a1.row'
  have r3 := h.a3.row'
  have r4 := h.a4.row'
  have r5 := h.a5.row'
  have r6 := h.a6.row'
  have h14 : p.p1 ≠ p.p4 := fun e => by
    have h1 := h.a1
    rw [e] at h1
    have := (h1.inj h.a4).2
    simp at this
  refine ⟨fun x hx => ?_, ?_⟩
  · simp only [List.mem_cons, List.not_mem_nil, or_false] at hx
    rcases hx with rfl | rfl | rfl | rfl | rfl
    · exact r1
    · exact r3
    · exact r4
    · exact r5
    · exact r6
  · simp only [List.pairwise_cons, List.mem_cons, List.not_mem_nil, or_false, forall_eq_or_imp, forall_eq, List.Pairwise.nil, and_true, false_implies, implies_true]
    exact ⟨⟨r1.ne r3 (by decide), h14, r1.ne r5 (by decide), r1.ne r6 (by decide)⟩, ⟨r3.ne r4 (by decide), r3.ne r5 (by decide), r3.ne r6 (by decide)⟩, ⟨r4.ne r5 (by decide), r4.ne r6 (by decide)⟩, r5.ne r6 (by decide)⟩
theorem own_row2 {w : World} {base : Nat} {e : TypeId} {size g n cap : Nat} {xs : List Value} (h : w.ownsRow base e size (.slice (some ⟨g, 0, none⟩) n cap) n xs) : Row w g e xs := by
  rcases h.2 with ⟨h1, _⟩ | ⟨g', cap', cur, hv, _, hc, _, _, _, ht⟩
  · cases h1
  · injection hv with hv
    injection hv with hv
    injection hv with hv
    subst hv
    refine ⟨cur.toList.drop (n * size), ?_⟩
    have : (xs ++ cur.toList.drop (n * size)).toArray = cur := by rw [← ht, List.take_append_drop]
    rw [this]
    exact hc
/-- A row that grew, where it lay or elsewhere. -/
theorem Rws.grew {w w' : World} {L : RL} (h : Rws w L) (n : Nat) {g g' : Nat} {e : TypeId} {xs ys : List Value} (hn : L[n]? = some (g, e, xs)) (t : Turn (fun k => k = g) w w') (hr : Row w' g' e ys) (hg : g' = g ∨ w.heap.size ≤ g') : Rws w' (L.set n (g', e, ys)) := by
  have hnl := (List.getElem?_eq_some_iff.1 hn).1
  have far : ∀ (a : Nat) (x : Nat × TypeId × List Value), L[a]? = some x → n ≠ a → x.1 ≠ g ∧ x.1 ≠ g' ∧ Row w' x.1 x.2.1 x.2.2 := fun a x ha hna => by
    have h1 : x.1 ≠ g := h.ne (b := x.1) (e := x.2.1) (xs := x.2.2) a n ha hn (fun e => hna e.symm)
    have h2 := h.each x (List.mem_of_getElem? ha)
    refine ⟨h1, ?_, h2.keep t h1⟩
    rcases hg with e1 | e1
    · rw [e1]; exact h1
    · have := h2.lt; omega
  refine ⟨fun x hx => ?_, ?_⟩
  · obtain ⟨a, ha⟩ := List.getElem?_of_mem hx
    by_cases e1 : n = a
    · subst e1
      rw [List.getElem?_set_self hnl] at ha
      obtain rfl := Option.some.inj ha
      exact hr
    · rw [List.getElem?_set_ne e1] at ha
      exact (far a x ha e1).2.2
  · rw [List.pairwise_iff_getElem]
    intro a c ha hc hac
    have la : a < L.length := by simpa using ha
    have lc : c < L.length := by simpa using hc
    rw [List.getElem_set, List.getElem_set]
    by_cases e1 : n = a
    · subst e1
      rw [if_pos rfl, if_neg (by omega)]
      exact fun e => (far c _ (List.getElem?_eq_getElem lc) (by omega)).2.1 e.symm
    · rw [if_neg e1]
      by_cases e2 : n = c
      · subst e2
        rw [if_pos rfl]
        exact (far a _ (List.getElem?_eq_getElem la) e1).2.1
      · rw [if_neg e2]
        exact List.pairwise_iff_getElem.1 h.nd a c la lc hac
theorem own_of_row {w : World} {g : Nat} {e : TypeId} {cs : Array Value} {n size : Nat} (h : Blk w g e cs) (hs : cs.size = n * size) (hn : n ≤ maxLen) : w.ownsRow 0 e size (.slice (some ⟨g, 0, none⟩) n n) n cs.toList := by
  refine ⟨by rw [← hs]; simp, .inr ⟨g, n, cs, rfl, Nat.zero_le _, h, Nat.le_refl _, hn, hs, ?_⟩⟩
  rw [← hs]
  exact List.take_of_length_le (by simp)
def rho (L : RL) (i : Nat) : Nat := (L[i]?.map (·.1)).getD 0
theorem Rws.holds {w : World} {L : RL} (h : Rws w L) {D : Bm.Mem} (hd : L.map (fun x => x.2.2) = D.map (List.map (Bm.C.val (rho L)))) : Bm.Holds w (rho L) D := ⟨fun i cs hi => by
  have h1 : (L.map fun x => x.2.2)[i]? = some (cs.map (Bm.C.val (rho L))) := by rw [hd, List.getElem?_map, hi]; rfl
  rw [List.getElem?_map] at h1
  obtain ⟨x, hx, he⟩ := Option.map_eq_some_iff.1 h1
  have hr := h.each x (List.mem_of_getElem? hx)
  have hb : rho L i = x.1 := by unfold rho; rw [hx]; rfl
  rw [hb]
  refine ⟨hr.lt, fun j c hj => hr.cell ?_⟩
  have he : x.2.2 = cs.map (Bm.C.val (rho L)) := he
  rw [he, List.getElem?_map, hj]
  rfl⟩
end Go.Proofs.YtglalgjffkoneaaGreatDoor
