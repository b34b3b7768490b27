/- Lemmas, put together: SlideN2 SlideN3 Rounds Slide Right. -/
import Derived.Test.YthfkgkddklnnhaaK12
import Derived.Test.YthfkgkddklnnhaaK13
import Derived.Test.YthfkgkddklnnhaaK10
/- Moving by threads, in numbers alone: the second round. No program in sight. -/
namespace Go.Proofs.Ythfkgkddklnnhaa
set_option linter.unusedVariables false
open M (W)

/-- Where the marked objects go: one behind the other, never up. -/
structure Goes (s : St) (L : List RO) (mk : Nat → Bool) (tof : Nat → Nat) : Prop where
  le : ∀ o ∈ L, tof o.at_ ≤ o.at_
  mono : ∀ q ∈ L, ∀ o ∈ L, mk q.at_ = true → q.at_ < o.at_ → tof q.at_ + s.sz q ≤ tof o.at_
/-- An object's word once it stands at its new place. -/
def M.fin (s : St) (m0 tof : Nat → Nat) (o : RO) (k : Nat) : Nat := if 1 ≤ k ∧ k ≤ s.nf o ∧ m0 (o.at_ + k) % 2 = 0 then 2 * tof (m0 (o.at_ + k) / 2) else m0 (o.at_ + k)
/-- In the second round, at the place pos. -/
structure Rd2 (s : St) (L : List RO) (m0 hd tof : Nat → Nat) (mk : Nat → Bool) (r pos : Nat) (tied : List Nat) (res : Nat → Bool) (m : Nat → Nat) : Prop where
  ties : Ties L m0 hd tof pos tied res m
  a : ∀ p ∈ tied, pos ≤ m0 p / 2 ∧ m0 p / 2 < p
  b : ∀ p, PP s L m0 mk r p → pos ≤ p → p ∈ tied ∨ res p = true
  d : ∀ p, (p ∈ tied ∨ res p = true) → PP s L m0 mk r p
  done : ∀ o ∈ L, mk o.at_ = true → o.at_ < pos → ∀ k, k < s.sz o → m (tof o.at_ + k) = M.fin s m0 tof o k
variable {s : St} {L : List RO} {m0 hd tof : Nat → Nat} {mk : Nat → Bool} {r : Nat} {tied : List Nat} {res : Nat → Bool} {m : Nat → Nat}
theorem TileTo.in {s : St} {top : Nat} : ∀ {L : List RO} {p : Nat}, TileTo s top p L → p ≤ top ∧ ∀ o ∈ L, o.at_ + s.sz o ≤ top
  | [], p, h => ⟨Nat.le_of_eq h, fun o ho => by simp at ho⟩
  | o :: L, p, h => by
    obtain ⟨h1, h2⟩ := TileTo.in h.2
    have := h.1
    refine ⟨by omega, fun q hq => ?_⟩
    rcases List.mem_cons.1 hq with rfl | hq
    · omega
    · exact h2 q hq
theorem Rd1.second (hF : Field s L m0 mk r) (h : Rd1 s L m0 hd tof mk r s.top s.top tied res m) : Rd2 s L m0 hd tof mk r 0 tied res m := by
  refine ⟨h.ties, fun p hp => ⟨Nat.zero_le _, ?_⟩, fun p hp _ => h.b p hp ?_, h.d, fun o _ _ x => by omega⟩
  · rcases h.a p hp with x | x
    · obtain ⟨q, hq, e⟩ := (h.d p (.inl hp)).tgt hF
      have := hF.tile.in.2 q hq
      have := hF.ground.nf q hq
      omega
    · exact x.1
  · obtain ⟨_, ⟨i, hi, rfl⟩ | ⟨o, ho, _, i, hi, rfl⟩⟩ := hp
    · exact .inr (by omega)
    · have := hF.tile.in.2 o ho
      have := hF.ground.nf o ho
      exact .inl (by omega)
theorem Rd2.step (hF : Field s L m0 mk r) (hG : Goes s L mk tof) {o : RO} (ho : o ∈ L) (h : Rd2 s L m0 hd tof mk r o.at_ tied res m) {m' : Nat → Nat}
    (hup : ∀ j, o.at_ + s.sz o ≤ j → m' j = M.upd (M.all m (M.thr m0 tied o.at_) (2 * tof o.at_)) o.at_ (hd o.at_) j)
    (hlow : ∀ j, j < tof o.at_ → m' j = M.upd (M.all m (M.thr m0 tied o.at_) (2 * tof o.at_)) o.at_ (hd o.at_) j)
    (hmv : mk o.at_ = true → m' (tof o.at_) = m0 o.at_ ∧ ∀ k, 1 ≤ k → k < s.sz o → m' (tof o.at_ + k) = M.upd (M.all m (M.thr m0 tied o.at_) (2 * tof o.at_)) o.at_ (hd o.at_) (o.at_ + k)) :
    Rd2 s L m0 hd tof mk r (o.at_ + s.sz o) (M.rest m0 tied o.at_) (M.got m0 tied res o.at_) m' := by
  have hnf := hF.ground.nf o ho
  have hU := h.ties.untie ho (Nat.le_refl _)
  have hrest : ∀ p ∈ M.rest m0 tied o.at_, o.at_ + s.sz o ≤ m0 p / 2 ∧ m0 p / 2 < p := fun p hp => by
    obtain ⟨hpt, hne⟩ := mem_rest.1 hp
    have ha := h.a p hpt
    obtain ⟨q, hq, e⟩ := (h.d p (.inl hpt)).tgt hF
    have e2 : m0 p / 2 = q.at_ := by omega
    have := hF.ground.far ho hq (by omega)
    omega
  have hd' : ∀ p, (p ∈ M.rest m0 tied o.at_ ∨ M.got m0 tied res o.at_ p = true) → PP s L m0 mk r p := fun p hp => by
    rcases hp with hp | hp
    · exact h.d p (.inl (mem_rest.1 hp).1)
    · rcases got_cases hp with x | x
      · exact h.d p (.inr x)
      · exact h.d p (.inl x)
  have hbelow : ∀ j, j < o.at_ → M.upd (M.all m (M.thr m0 tied o.at_) (2 * tof o.at_)) o.at_ (hd o.at_) j = m j := fun j hj => by
    show (if j = o.at_ then hd o.at_ else if j ∈ M.thr m0 tied o.at_ then 2 * tof o.at_ else m j) = m j
    rw [if_neg (by omega), if_neg fun x => ?_]
    have := h.ties.low j (mem_thr x).1
    omega
  refine ⟨hU.raise (by omega) (fun p hp => ?_) hup, hrest, fun p hp hpl => rest_or_got (h.b p hp (by omega)), hd', fun q hq hmk hlt k hk => ?_⟩
  · have := hrest p hp
    omega
  · by_cases hqo : q.at_ < o.at_
    · have h1 := hG.mono q hq o ho hmk hqo
      have h2 := hG.le o ho
      rw [hlow _ (by omega), hbelow _ (by omega)]
      exact h.done q hq hmk hqo k hk
    · have he : q.at_ = o.at_ := by
        rcases Nat.lt_or_ge o.at_ q.at_ with x | x
        · have := hF.ground.far ho hq x
          omega
        · omega
      have hqe := hF.ground.un q hq o ho he
      subst hqe
      obtain ⟨w1, w2⟩ := hmv hmk
      by_cases hk0 : k = 0
      · subst hk0
        unfold M.fin
        rw [if_neg (by omega)]
        exact w1
      · rw [w2 k (by omega) hk]
        have hoff : ∀ p ∈ L, q.at_ + k ≠ p.at_ := fun p hp e => by
          have hsz := hF.ground.nf p hp
          have := hF.ground.ap q hq p hp k 0 hk (by omega) (by omega)
          omega
        have hnr : q.at_ + k ∉ M.rest m0 tied q.at_ := fun x => by
          have := hrest _ x
          omega
        rw [hU.rest _ (by omega) hoff hnr]
        unfold M.fin
        by_cases hc : 1 ≤ k ∧ k ≤ s.nf q ∧ m0 (q.at_ + k) % 2 = 0
        · have hpp : PP s L m0 mk r (q.at_ + k) := ⟨hc.2.2, .inr ⟨q, hq, hmk, k - 1, by omega, by omega⟩⟩
          rcases rest_or_got (a := q.at_) (h.b _ hpp (by omega)) with x | x
          · exact absurd x hnr
          · rw [if_pos x, if_pos hc]
        · have hng : M.got m0 tied res q.at_ (q.at_ + k) ≠ true := fun x => by
            have hpp := hd' _ (.inr x)
            obtain ⟨_, i, hi, e⟩ := hpp.within hF hq (by omega) (by omega)
            exact hc ⟨by omega, by omega, hpp.1⟩
          rw [if_neg hng, if_neg hc]
/-- A marked object moved: what the step asks of the memory. -/
theorem Rd2.moved (hF : Field s L m0 mk r) (hG : Goes s L mk tof) {o : RO} (ho : o ∈ L) (h : Rd2 s L m0 hd tof mk r o.at_ tied res m) : Rd2 s L m0 hd tof mk r (o.at_ + s.sz o) (M.rest m0 tied o.at_) (M.got m0 tied res o.at_) (M.moved (M.upd (M.all m (M.thr m0 tied o.at_) (2 * tof o.at_)) o.at_ (hd o.at_)) o.at_ (tof o.at_) (s.sz o) (m0 o.at_)) := by
  have hle := hG.le o ho
  have hnf := hF.ground.nf o ho
  refine h.step hF hG ho (fun j hj => ?_) (fun j hj => ?_) fun _ => ⟨?_, fun k h1 h2 => ?_⟩
  · unfold M.moved
    rw [if_neg (by omega), if_neg (by omega)]
  · unfold M.moved
    rw [if_neg (by omega), if_neg (by omega)]
  · unfold M.moved
    rw [if_pos rfl]
  · unfold M.moved
    rw [if_neg (by omega), if_pos (by omega), show tof o.at_ + k - tof o.at_ + o.at_ = o.at_ + k by omega]
/-- An object that isn't marked stays behind. -/
theorem Rd2.left (hF : Field s L m0 mk r) (hG : Goes s L mk tof) {o : RO} (ho : o ∈ L) (hmk : mk o.at_ = false) (h : Rd2 s L m0 hd tof mk r o.at_ tied res m) : Rd2 s L m0 hd tof mk r (o.at_ + s.sz o) (M.rest m0 tied o.at_) (M.got m0 tied res o.at_) (M.upd (M.all m (M.thr m0 tied o.at_) (2 * tof o.at_)) o.at_ (hd o.at_)) :=
  h.step hF hG ho (fun _ _ => rfl) (fun _ _ => rfl) fun x => by rw [hmk] at x; simp at x
/-- At the end: each marked object stands at its new place, the roots point there. -/
theorem Rd2.over (hF : Field s L m0 mk r) (h : Rd2 s L m0 hd tof mk r s.top tied res m) :
    (∀ o ∈ L, mk o.at_ = true → ∀ k, k < s.sz o → m (tof o.at_ + k) = M.fin s m0 tof o k) ∧ ∀ i, i < r → m (s.n + i) = if m0 (s.n + i) % 2 = 0 then 2 * tof (m0 (s.n + i) / 2) else m0 (s.n + i) := by
  have hin := hF.tile.in.2
  have htop := hF.top
  have hnil : ∀ p, p ∉ tied := fun p hp => by
    have ha := h.a p hp
    obtain ⟨q, hq, e⟩ := (h.d p (.inl hp)).tgt hF
    have := hin q hq
    have := hF.ground.nf q hq
    omega
  refine ⟨fun o ho hmk k hk => h.done o ho hmk ?_ k hk, fun i hi => ?_⟩
  · have := hin o ho
    omega
  · rw [h.ties.rest _ (by omega) (fun o ho e => ?_) (hnil _)]
    · by_cases he : m0 (s.n + i) % 2 = 0
      · rcases h.b (s.n + i) ⟨he, .inl ⟨i, hi, rfl⟩⟩ (by omega) with x | x
        · exact absurd x (hnil _)
        · rw [if_pos x, if_pos he]
      · rw [if_neg he, if_neg fun x => he (h.d _ (.inr x)).1]
    · have := hF.ground.le o ho
      have := hF.ground.nf o ho
      omega
end Go.Proofs.Ythfkgkddklnnhaa
/- Moving by threads, in numbers alone: where the marked objects go, and what lies there at the end. No program in sight. -/
namespace Go.Proofs.Ythfkgkddklnnhaa
set_option linter.unusedVariables false
open M (W)

/-- How many words the marked objects before a need. -/
def M.tof (s : St) (mk : Nat → Bool) : List RO → Nat → Nat
  | [], _ => 0
  | o :: L, a => (if mk o.at_ = true ∧ o.at_ < a then s.sz o else 0) + M.tof s mk L a
theorem TileTo.ge {s : St} {top : Nat} : ∀ {L : List RO} {p : Nat}, TileTo s top p L → ∀ o ∈ L, p ≤ o.at_
  | [], p, h, o, ho => by simp at ho
  | a :: L, p, h, o, ho => by
    have h1 := h.1
    rcases List.mem_cons.1 ho with rfl | ho
    · omega
    · have := TileTo.ge h.2 o ho
      omega
theorem tof_zero {s : St} {mk : Nat → Bool} {top a : Nat} : ∀ {L : List RO} {p : Nat}, TileTo s top p L → a ≤ p → M.tof s mk L a = 0
  | [], p, h, ha => rfl
  | o :: L, p, h, ha => by
    have h1 := h.1
    show (if mk o.at_ = true ∧ o.at_ < a then s.sz o else 0) + M.tof s mk L a = 0
    rw [tof_zero h.2 (by omega), if_neg (by omega)]
theorem tof_mono {s : St} {mk : Nat → Bool} {a b : Nat} (hab : a ≤ b) : ∀ L : List RO, M.tof s mk L a ≤ M.tof s mk L b
  | [] => Nat.le_refl _
  | o :: L => by
    have h1 := tof_mono (s := s) (mk := mk) hab L
    show (if mk o.at_ = true ∧ o.at_ < a then s.sz o else 0) + M.tof s mk L a ≤ (if mk o.at_ = true ∧ o.at_ < b then s.sz o else 0) + M.tof s mk L b
    by_cases c1 : mk o.at_ = true ∧ o.at_ < a
    · rw [if_pos c1, if_pos ⟨c1.1, by omega⟩]; omega
    · rw [if_neg c1]
      omega
theorem tof_le {s : St} {mk : Nat → Bool} {top a : Nat} : ∀ {L : List RO} {p : Nat}, TileTo s top p L → (∀ o ∈ L, o.at_ < a → o.at_ + s.sz o ≤ a) → p ≤ a → p + M.tof s mk L a ≤ a
  | [], p, h, hs, ha => ha
  | o :: L, p, h, hs, ha => by
    have h1 := h.1
    by_cases c : o.at_ < a
    · have h2 := hs o List.mem_cons_self c
      have h3 := tof_le (mk := mk) h.2 (fun q hq => hs q (List.mem_cons_of_mem _ hq)) (by omega)
      show p + ((if mk o.at_ = true ∧ o.at_ < a then s.sz o else 0) + M.tof s mk L a) ≤ a
      split <;> omega
    · rw [tof_zero h (by omega)]; omega
theorem tof_step {s : St} {mk : Nat → Bool} {top : Nat} : ∀ {L : List RO} {p : Nat}, TileTo s top p L → (∀ o ∈ L, 1 ≤ s.sz o) → ∀ q ∈ L, M.tof s mk L (q.at_ + s.sz q) = M.tof s mk L q.at_ + if mk q.at_ = true then s.sz q else 0
  | [], p, h, hz, q, hq => by simp at hq
  | o :: L, p, h, hz, q, hq => by
    have h1 := h.1
    have hzo := hz o List.mem_cons_self
    show (if mk o.at_ = true ∧ o.at_ < q.at_ + s.sz q then s.sz o else 0) + M.tof s mk L (q.at_ + s.sz q) = (if mk o.at_ = true ∧ o.at_ < q.at_ then s.sz o else 0) + M.tof s mk L q.at_ + if mk q.at_ = true then s.sz q else 0
    rcases List.mem_cons.1 hq with rfl | hq
    · rw [tof_zero h.2 (show q.at_ + s.sz q ≤ p + s.sz q by omega), tof_zero h.2 (show q.at_ ≤ p + s.sz q by omega), if_neg (show ¬(mk q.at_ = true ∧ q.at_ < q.at_) by omega)]
      by_cases c : mk q.at_ = true
      · rw [if_pos ⟨c, by omega⟩, if_pos c]; omega
      · rw [if_neg (fun x => c x.1), if_neg c]
    · have hg := h.2.ge q hq
      rw [tof_step h.2 (fun q hq => hz q (List.mem_cons_of_mem _ hq)) q hq]
      by_cases c : mk o.at_ = true
      · rw [if_pos (show mk o.at_ = true ∧ o.at_ < q.at_ + s.sz q from ⟨c, by omega⟩), if_pos (show mk o.at_ = true ∧ o.at_ < q.at_ from ⟨c, by omega⟩)]; omega
      · rw [if_neg (show ¬(mk o.at_ = true ∧ o.at_ < q.at_ + s.sz q) from fun x => c x.1), if_neg (show ¬(mk o.at_ = true ∧ o.at_ < q.at_) from fun x => c x.1)]; omega
theorem Field.goes {s : St} {L : List RO} {m0 : Nat → Nat} {mk : Nat → Bool} {r : Nat} (hF : Field s L m0 mk r) : Goes s L mk (M.tof s mk L) := by
  refine ⟨fun o ho => ?_, fun q hq o ho hmk hlt => ?_⟩
  · have := tof_le (mk := mk) (a := o.at_) hF.tile (fun q hq hl => hF.ground.far hq ho hl) (Nat.zero_le _)
    omega
  · have h1 := tof_step (mk := mk) hF.tile (fun o ho => by have := hF.ground.nf o ho; omega) q hq
    rw [if_pos hmk] at h1
    have h2 := tof_mono (s := s) (mk := mk) (hF.ground.far hq ho hlt) L
    omega
/-- What a field's word becomes. -/
def M.ren (tof : Nat → Nat) (v : Nat) : Nat := if v % 2 = 0 then 2 * tof (v / 2) else v
/-- The marked objects at their new places. -/
def RO.goes (tof : Nat → Nat) (o : RO) : RO := { o with at_ := tof o.at_, fs := o.fs.map (M.ren tof) }
def M.slid (mk : Nat → Bool) (tof : Nat → Nat) (L : List RO) : List RO := (L.filter fun o => mk o.at_).map (RO.goes tof)
theorem slid_cons {mk : Nat → Bool} {tof : Nat → Nat} {o : RO} {L : List RO} : M.slid mk tof (o :: L) = if mk o.at_ = true then o.goes tof :: M.slid mk tof L else M.slid mk tof L := by
  unfold M.slid
  rw [List.filter_cons]
  split <;> rfl
theorem mem_slid {mk : Nat → Bool} {tof : Nat → Nat} {L : List RO} {q : RO} : q ∈ M.slid mk tof L ↔ ∃ o ∈ L, mk o.at_ = true ∧ o.goes tof = q := by
  unfold M.slid
  rw [List.mem_map]
  constructor
  · rintro ⟨o, ho, e⟩
    rw [List.mem_filter] at ho
    exact ⟨o, ho.1, ho.2, e⟩
  · rintro ⟨o, ho, hm, e⟩
    exact ⟨o, List.mem_filter.2 ⟨ho, hm⟩, e⟩
theorem slid_tile {s : St} {mk : Nat → Bool} {tof : Nat → Nat} {top : Nat} (m : Nat → Nat) : ∀ {L : List RO} {p : Nat}, TileTo s top p L → (∀ q ∈ L, tof (q.at_ + s.sz q) = tof q.at_ + if mk q.at_ = true then s.sz q else 0) → TileTo (s.at m) (tof top) (tof p) (M.slid mk tof L)
  | [], p, h, hs => congrArg tof h
  | o :: L, p, h, hs => by
    have h1 := h.1
    have h2 := hs o List.mem_cons_self
    have h3 := slid_tile m h.2 (fun q hq => hs q (List.mem_cons_of_mem _ hq))
    rw [slid_cons]
    subst h1
    rw [h2] at h3
    by_cases c : mk o.at_ = true
    · rw [if_pos c] at h3 ⊢
      exact ⟨rfl, h3⟩
    · rw [if_neg c] at h3 ⊢
      exact h3
/-- Behind the second round the words up to where the next object would go are the marked objects. -/
theorem slid_laid {s : St} {L : List RO} {mk : Nat → Bool} {r : Nat} (hF : Field s L s.ws mk r) (hL : LaidAs s s.top L) (hcl : Closed s L s.ws mk) {m : Nat → Nat} (hfin : ∀ o ∈ L, mk o.at_ = true → ∀ k, k < s.sz o → m (M.tof s mk L o.at_ + k) = M.fin s s.ws (M.tof s mk L) o k) : LaidAs (s.at m) (M.tof s mk L s.top) (M.slid mk (M.tof s mk L) L) := by
  have hG := hF.goes
  have h0 : M.tof s mk L 0 = 0 := tof_zero hF.tile (Nat.le_refl _)
  refine ⟨?_, fun q hq => ?_, fun q hq v hv => ?_⟩
  · have := slid_tile (mk := mk) (tof := M.tof s mk L) m hF.tile fun q hq => tof_step hF.tile (fun o ho => by have := hF.ground.nf o ho; omega) q hq
    rw [h0] at this
    exact this
  · obtain ⟨o, ho, hmk, rfl⟩ := mem_slid.1 hq
    have hg := hL.good o ho
    have hz := hg.sz
    have hf := hfin o ho hmk
    refine ⟨hg.e, ?_, fun hk => ?_, fun hk => ?_, fun v hv => ?_, hg.bl⟩
    · show m (M.tof s mk L o.at_) = _
      have h1 := hf 0 (by omega)
      unfold M.fin at h1
      rw [if_neg (by omega)] at h1
      exact h1.trans hg.hd
    · have hk : s.kind o.sh ≠ 3 := hk
      obtain ⟨f1, f2, f3⟩ := hg.f hk
      refine ⟨f1, by show (o.fs.map _).length = o.n; rw [List.length_map, f2], fun i hi => ?_⟩
      have hi2 : i < o.n := hi
      show m (M.tof s mk L o.at_ + 1 + i) = (o.fs.map (M.ren (M.tof s mk L))).getD i 0
      have h1 := hf (1 + i) (by rw [hz.1, if_neg hk]; omega)
      rw [← Nat.add_assoc] at h1
      rw [h1]
      have hnf : s.nf o = o.n := by unfold St.nf St.fieldsOf; rw [if_neg hk]
      have hgt : (o.fs.map (M.ren (M.tof s mk L))).getD i 0 = M.ren (M.tof s mk L) (o.fs.getD i 0) := by
        rw [List.getD_eq_getElem?_getD, List.getD_eq_getElem?_getD, List.getElem?_map, List.getElem?_eq_getElem (by omega)]; rfl
      rw [hgt, ← f3 i hi2]
      unfold M.fin M.ren
      rw [hnf, ← Nat.add_assoc]
      by_cases c : s.ws (o.at_ + 1 + i) % 2 = 0
      · rw [if_pos ⟨by omega, by omega, c⟩, if_pos c]
      · rw [if_neg (fun x => c x.2.2), if_neg c]
    · have hk : s.kind o.sh = 3 := hk
      obtain ⟨f1, f2, f3⟩ := hg.b hk
      refine ⟨by show o.fs.map _ = []; rw [f1]; rfl, f2, fun j hj => ?_⟩
      have hj2 : j < (o.n + 7) / 8 := hj
      show m (M.tof s mk L o.at_ + 1 + j) = M.wordOf o.bs j
      have h1 := hf (1 + j) (by rw [hz.1, if_pos hk]; omega)
      have hnf : s.nf o = 0 := by unfold St.nf St.fieldsOf; rw [if_pos hk]
      unfold M.fin at h1
      rw [hnf, if_neg (by omega), ← Nat.add_assoc, ← Nat.add_assoc] at h1
      rw [h1, f3 j hj2]
    · obtain ⟨u, hu, rfl⟩ := List.mem_map.1 hv
      have hul := hg.fl u hu
      unfold M.ren
      by_cases c : u % 2 = 0
      · rw [if_pos c]
        rcases hL.fit o ho u hu with x | ⟨p, hp, e⟩
        · omega
        · have := hG.le p hp
          rw [← e]; omega
      · rw [if_neg c]; exact hul
  · obtain ⟨o, ho, hmk, rfl⟩ := mem_slid.1 hq
    obtain ⟨u, hu, rfl⟩ := List.mem_map.1 (show v ∈ o.fs.map (M.ren (M.tof s mk L)) from hv)
    have hg := hL.good o ho
    unfold M.ren
    by_cases c : u % 2 = 0
    · rw [if_pos c]
      right
      rcases hL.fit o ho u hu with x | ⟨p, hp, e⟩
      · omega
      · refine ⟨p.goes (M.tof s mk L), mem_slid.2 ⟨p, hp, ?_, rfl⟩, ?_⟩
        · obtain ⟨i, hi, hiu⟩ := List.mem_iff_getElem.1 hu
          have hk : s.kind o.sh ≠ 3 := fun hk => by
            rw [(hg.b hk).1] at hu; simp at hu
          obtain ⟨f1, f2, f3⟩ := hg.f hk
          have hnf : s.nf o = o.n := by unfold St.nf St.fieldsOf; rw [if_neg hk]
          have hw : s.ws (o.at_ + 1 + i) = u := by
            rw [f3 i (by omega), List.getD_eq_getElem?_getD, List.getElem?_eq_getElem hi, ← hiu]; rfl
          have := hcl o ho hmk i (by omega)
          unfold Seen at this
          rw [hw] at this
          rw [e]
          first
          | exact this c
          | (rcases this with x | x; omega; exact x)
        · show M.tof s mk L p.at_ = 2 * M.tof s mk L (u / 2) / 2
          rw [e]; omega
    · rw [if_neg c]
      exact .inl (by omega)
end Go.Proofs.Ythfkgkddklnnhaa
/- The contracts of slide's two rounds. -/
namespace Go.Proofs.Ythfkgkddklnnhaa
set_option linter.unusedVariables false
open Go.ChangeShapes Go.WideShapes Go.ChangeAt Go.RowKit
open M (W)

theorem TileTo.next {s : St} {top : Nat} : ∀ {L : List RO} {p j : Nat} {o : RO}, TileTo s top p L → L[j]? = some o → (∀ q, L[j + 1]? = some q → o.at_ + s.sz o = q.at_) ∧ (j + 1 = L.length → o.at_ + s.sz o = top)
  | [], p, j, o, h, hj => by simp at hj
  | a :: L, p, 0, o, h, hj => by
    simp at hj; subst hj
    have h1 := h.1
    refine ⟨fun q hq => ?_, fun hl => ?_⟩
    · cases L with
      | nil => simp at hq
      | cons b L =>
        simp at hq; subst hq
        have := h.2.1
        omega
    · cases L with
      | nil => have : p + s.sz a = top := h.2; omega
      | cons b L => simp at hl
  | a :: L, p, j + 1, o, h, hj => by
    have := TileTo.next h.2 (j := j) (o := o) (by simpa using hj)
    refine ⟨fun q hq => this.1 q (by simpa using hq), fun hl => this.2 (by simp only [List.length_cons] at hl; omega)⟩
/-- Where a round stands. -/
def Stands (s : St) (L : List RO) (j p : Nat) : Prop := (∀ o, L[j]? = some o → p = o.at_) ∧ (j = L.length → p = s.top)
theorem Stands.first {s : St} {L : List RO} (h : TileTo s s.top 0 L) : Stands s L 0 0 := by
  cases L with
  | nil => exact ⟨fun o ho => by simp at ho, fun _ => h⟩
  | cons a L => exact ⟨fun o ho => by simp at ho; subst ho; exact h.1.symm, fun x => by simp at x⟩
theorem Stands.next {s : St} {L : List RO} (h : TileTo s s.top 0 L) {j : Nat} {o : RO} (ho : L[j]? = some o) : Stands s L (j + 1) (o.at_ + s.sz o) := h.next ho
variable {s : St} {L : List RO} {m0 hd tof : Nat → Nat} {mk : Nat → Bool} {r : Nat} {tied : List Nat} {res : Nat → Bool} {m : Nat → Nat}
theorem PP.lt (hF : Field s L m0 mk r) {p : Nat} (h : PP s L m0 mk r p) : p < s.n + r := by
  obtain ⟨_, ⟨i, hi, rfl⟩ | ⟨o, ho, _, i, hi, rfl⟩⟩ := h
  · omega
  · have := hF.ground.le o ho
    have := hF.ground.nf o ho
    omega
set_option maxRecDepth 100000 in
set_option maxHeartbeats 4000000 in
theorem round1_any (s : St) (c : Cl) (L : List RO) (m0 hd : Nat → Nat) (mk : Nat → Bool) (bx : Nat) (tied : List Nat) (res : Nat → Bool) (m : Nat → Nat) (w : World) (hF : Field s L m0 mk c.r) (hneed : ∀ o ∈ L, s.needOf o.sh o.n = s.sz o ∧ o.sh < 512 ∧ o.n ≤ 65536 ∧ 1 ≤ s.sz o)
    (hhd : ∀ o ∈ L, (hd o.at_ : Int) = M.hdOf o (mk o.at_) 0) (h : GcIs w s c m) (hb : Boxed w bx c) (h1 : Rd1 s L m0 hd (M.tof s mk L) mk c.r 0 0 tied res m) :
    Calls Try.prog 79 #[c.ptr, .func (.func 80) #[] #[.pointer (some ⟨bx, 0, none⟩)]] w fun e w' => (∃ to, e = .returned (.int .i64 (to : Nat))) ∧ ∃ m' tied' res', GcIs w' s c m' ∧ Boxed w' bx c ∧ GcTurn s c w w' ∧ Rd1 s L m0 hd (M.tof s mk L) mk c.r s.top s.top tied' res' m' := by
  have hGo := hF.goes
  have hz : ∀ o ∈ L, 1 ≤ s.sz o := fun o ho => (hneed o ho).2.2.2
  refine (each_any s c L 80 (fun args W => by rfl) #[.pointer (some ⟨bx, 0, none⟩)] (fun j to W => ∃ p m' tied' res', Stands s L j p ∧ to = M.tof s mk L p ∧ GcIs W s c m' ∧ Boxed W bx c ∧ GcTurn s c w W ∧ Rd1 s L m0 hd (M.tof s mk L) mk c.r p p tied' res' m') w hF.tile hneed hF.top
    ⟨0, m, tied, res, Stands.first hF.tile, (tof_zero hF.tile (Nat.le_refl _)).symm, h, hb, Still.turn (Still.refl w), h1⟩ ?_ ?_ ?_ ?_).mono ?_
  · rintro j to W ⟨p, m', tied', res', hs, ht, hg, hbx, htn, hr⟩
    exact ⟨m', hg⟩
  · rintro j to W o ho ⟨p, m', tied', res', hs, rfl, hg, hbx, htn, hr⟩
    rw [hs.1 o ho]
    exact hGo.le o (List.mem_of_getElem? ho)
  · rintro to W ⟨p, m', tied', res', hs, rfl, hg, hbx, htn, hr⟩
    rw [hs.2 rfl]
    have := tof_le (mk := mk) (a := s.top) hF.tile (fun o ho _ => hF.tile.in.2 o ho) (Nat.zero_le _)
    omega
  · rintro j o to W ho ⟨p, m', tied', res', hs, rfl, hg, hbx, htn, hr⟩
    have hom := List.mem_of_getElem? ho
    obtain rfl := hs.1 o ho
    have hnx := Stands.next hF.tile ho
    have hst := tof_step (mk := mk) hF.tile hz o hom
    have hU := hr.untie hF hom
    have hle := hF.ground.le o hom
    have hnf := hF.ground.nf o hom
    obtain ⟨_, hsh, hon, _⟩ := hneed o hom
    refine ⟨m', M.thr m0 tied' o.at_, hd o.at_, mk o.at_, hg, hr.ties.thr o hom (Nat.zero_le _), hr.ties.nodup.filter _, fun p hp => (hr.d p (.inl (mem_thr hp).1)).lt hF, hhd o hom, fun W1 hg1 t1 => ⟨fun hm => ?_, fun hm => ?_⟩⟩
    · rw [hm] at hst
      exact ⟨_, _, _, _, hnx, by simpa using hst.symm, hg1, hbx.turn hg t1, htn.trans t1, hU.next hF hom (Nat.le_refl _) (by omega) (.inl hm)⟩
    · rw [if_pos hm] at hst
      refine (slide1_any s c _ bx o _ (hd o.at_) (fun k m2 => ∃ tied2, Rd1 s L m0 hd (M.tof s mk L) mk c.r (o.at_ + 1 + k) (o.at_ + s.sz o) tied2 (M.got m0 tied' res' o.at_) m2) W1 hg1 (hbx.turn hg t1) hsh hon (by omega) (by rw [hhd o hom, hm]) ⟨_, hU⟩ ?_).mono ?_
      · rintro k m2 hk ⟨tied2, h2⟩
        exact h2.tie hF hom hm hk
      · rintro e w2 ⟨rfl, m2, hg2, ⟨tied2, h2⟩, t2⟩
        exact ⟨rfl, _, m2, tied2, _, hnx, hst.symm, hg2, (hbx.turn hg t1).turn hg1 t2, (htn.trans t1).trans t2, h2.next hF hom (by omega) (by omega) (.inr rfl)⟩
  · rintro e w' ⟨to, rfl, p, m', tied', res', hs, rfl, hg, hbx, htn, hr⟩
    obtain rfl := hs.2 rfl
    exact ⟨⟨_, rfl⟩, m', tied', res', hg, hbx, htn, hr⟩
set_option maxRecDepth 100000 in
set_option maxHeartbeats 4000000 in
theorem round2_any (s : St) (c : Cl) (L : List RO) (m0 hd : Nat → Nat) (mk : Nat → Bool) (bx : Nat) (tied : List Nat) (res : Nat → Bool) (m : Nat → Nat) (w : World) (hF : Field s L m0 mk c.r) (hneed : ∀ o ∈ L, s.needOf o.sh o.n = s.sz o ∧ o.sh < 512 ∧ o.n ≤ 65536 ∧ 1 ≤ s.sz o)
    (hhd : ∀ o ∈ L, (hd o.at_ : Int) = M.hdOf o (mk o.at_) 0) (h : GcIs w s c m) (hb : Boxed w bx c) (h1 : Rd2 s L m0 hd (M.tof s mk L) mk c.r 0 tied res m) :
    Calls Try.prog 79 #[c.ptr, .func (.func 82) #[] #[.pointer (some ⟨bx, 0, none⟩)]] w fun e w' => e = .returned (.int .i64 (M.tof s mk L s.top : Nat)) ∧ ∃ m' tied' res', GcIs w' s c m' ∧ Boxed w' bx c ∧ GcTurn s c w w' ∧ Rd2 s L m0 hd (M.tof s mk L) mk c.r s.top tied' res' m' := by
  have hGo := hF.goes
  have hz : ∀ o ∈ L, 1 ≤ s.sz o := fun o ho => (hneed o ho).2.2.2
  refine (each_any s c L 82 (fun args W => by rfl) #[.pointer (some ⟨bx, 0, none⟩)] (fun j to W => ∃ p m' tied' res', Stands s L j p ∧ to = M.tof s mk L p ∧ GcIs W s c m' ∧ Boxed W bx c ∧ GcTurn s c w W ∧ Rd2 s L m0 hd (M.tof s mk L) mk c.r p tied' res' m') w hF.tile hneed hF.top
    ⟨0, m, tied, res, Stands.first hF.tile, (tof_zero hF.tile (Nat.le_refl _)).symm, h, hb, Still.turn (Still.refl w), h1⟩ ?_ ?_ ?_ ?_).mono ?_
  · rintro j to W ⟨p, m', tied', res', hs, ht, hg, hbx, htn, hr⟩
    exact ⟨m', hg⟩
  · rintro j to W o ho ⟨p, m', tied', res', hs, rfl, hg, hbx, htn, hr⟩
    rw [hs.1 o ho]
    exact hGo.le o (List.mem_of_getElem? ho)
  · rintro to W ⟨p, m', tied', res', hs, rfl, hg, hbx, htn, hr⟩
    rw [hs.2 rfl]
    have := tof_le (mk := mk) (a := s.top) hF.tile (fun o ho _ => hF.tile.in.2 o ho) (Nat.zero_le _)
    omega
  · rintro j o to W ho ⟨p, m', tied', res', hs, rfl, hg, hbx, htn, hr⟩
    have hom := List.mem_of_getElem? ho
    obtain rfl := hs.1 o ho
    have hnx := Stands.next hF.tile ho
    have hst := tof_step (mk := mk) hF.tile hz o hom
    have hle := hF.ground.le o hom
    have hnf := hF.ground.nf o hom
    obtain ⟨hnd, hsh, hon, hsz⟩ := hneed o hom
    refine ⟨m', M.thr m0 tied' o.at_, hd o.at_, mk o.at_, hg, hr.ties.thr o hom (Nat.le_refl _), hr.ties.nodup.filter _, fun p hp => (hr.d p (.inl (mem_thr hp).1)).lt hF, hhd o hom, fun W1 hg1 t1 => ⟨fun hm => ?_, fun hm => ?_⟩⟩
    · have hL2 := hr.left hF hGo hom hm
      rw [hm] at hst
      exact ⟨_, _, _, _, hnx, by simpa using hst.symm, hg1, hbx.turn hg t1, htn.trans t1, hL2⟩
    · have hM2 := hr.moved hF hGo hom
      rw [if_pos hm] at hst
      refine (slide2_any s c _ bx o _ (hd o.at_) (s.sz o) W1 hg1 (hbx.turn hg t1) hsh hon hnd hsz (by omega) (hGo.le o hom) (by rw [hhd o hom, hm])).mono ?_
      rintro e w2 ⟨rfl, u, hu, hg2, t2⟩
      have hum : u = m0 o.at_ := by
        have h3 := hF.ground.head o hom
        have h4 : M.hdOf o false 0 = M.hd o.sh o.n 0 0 := rfl
        omega
      rw [hum] at hg2
      exact ⟨rfl, _, _, _, _, hnx, hst.symm, hg2, (hbx.turn hg t1).turn hg1 t2, (htn.trans t1).trans t2, hM2⟩
  · rintro e w' ⟨to, rfl, p, m', tied', res', hs, rfl, hg, hbx, htn, hr⟩
    obtain rfl := hs.2 rfl
    exact ⟨rfl, m', tied', res', hg, hbx, htn, hr⟩
end Go.Proofs.Ythfkgkddklnnhaa
/- The contract of gc's slide. -/
namespace Go.Proofs.Ythfkgkddklnnhaa
set_option linter.unusedVariables false
open Go.ChangeShapes Go.WideShapes Go.ChangeAt Go.RowKit
open M (W)

set_option maxRecDepth 100000 in
set_option maxHeartbeats 1500000 in
theorem slide_any (s : St) (c : Cl) (L : List RO) (m0 hd : Nat → Nat) (mk : Nat → Bool) (m : Nat → Nat) (w : World) (hF : Field s L m0 mk c.r) (hneed : ∀ o ∈ L, s.needOf o.sh o.n = s.sz o ∧ o.sh < 512 ∧ o.n ≤ 65536 ∧ 1 ≤ s.sz o)
    (hhd : ∀ o ∈ L, (hd o.at_ : Int) = M.hdOf o (mk o.at_) 0) (h : GcIs w s c m) (h0 : Rd0 s L m0 hd (M.tof s mk L) mk c.r 0 [] m) :
    Calls Try.prog 46 #[c.ptr] w fun e w' => e = .returned (.int .i64 (M.tof s mk L s.top : Nat)) ∧ ∃ m' tied' res', GcIs w' s c m' ∧ GcTurn s c w w' ∧ Rd2 s L m0 hd (M.tof s mk L) mk c.r s.top tied' res' m' := by
  have hn := h.n_le
  have hr := h.r_le
  have hg := h.g_lt
  have c0 := h.c0
  have c1 : w.cell? ⟨c.g, 1, none⟩ = some (.slice (some ⟨c.gr, 0, none⟩) c.r c.r) := h.is.c1
  have HF := Lib.hid hF
  have HND := Lib.hid hneed
  have HHD := Lib.hid hhd
  have HH := Lib.hid h
  have H0 := Lib.hid h0
  clear h hF hneed hhd h0
  go_enter Try.func46, Try.ntmps46
  go_wp2_with fail
  have hI0 : GcIs (w.alloc (.cells #[c.ptr] 95)) s c m ∧ Boxed (w.alloc (.cells #[c.ptr] 95)) w.heap.size c ∧ GcTurn s c w (w.alloc (.cells #[c.ptr] 95)) :=
    ⟨HH.out.still ((Still.refl w).alloc _), Blk.new w _ _, Still.turn ((Still.refl w).alloc _)⟩
  generalize w.alloc (.cells #[c.ptr] 95) = W1 at *
  have HI0 := Lib.hid hI0
  clear hI0 c0 c1
  obtain ⟨bx, hbx⟩ : ∃ bx, w.heap.size = bx := ⟨_, rfl⟩
  rw [hbx] at HI0 ⊢
  clear hbx hg
  go_loopw [9] (fun v wr => ∃ (i : Nat) (tied' : List Nat) (m' : Nat → Nat), v = .int .i64 i ∧ i ≤ c.r ∧ GcIs wr s c m' ∧ Boxed wr bx c ∧ GcTurn s c w wr ∧ Rd0 s L m0 hd (M.tof s mk L) mk c.r i tied' m') (fun v _ => c.r - (intOf v).toNat)
  case atStart => exact ⟨0, [], m, rfl, by omega, HI0.out.1, HI0.out.2.1, HI0.out.2.2, H0.out⟩
  case round =>
    obtain ⟨i, tied', m', rfl, hi, hgc, hbx, ht, hrd⟩ := hrel
    have HGC := Lib.hid hgc
    have HBX := Lib.hid hbx
    have HT := Lib.hid ht
    have HRD := Lib.hid hrd
    have cb := hbx.c
    have hbl := Blk.lt hbx
    have hcg := hgc.g_lt
    have c0 := hgc.c0
    by_cases hlt : i < c.r
    · obtain ⟨hin, tied2, hrd2⟩ := hrd.tie HF.out hlt
      have hgd : GcIs wr.drew s c m' := hgc.still ((Still.refl wr).drewN 1)
      have htd : GcTurn s c wr wr.drew := Still.turn ((Still.refl wr).drewN 1)
      have HTD := Lib.hid htd
      have HSZ := Lib.hid (size_any (s.at m') wr.drew hgd.is.hp)
      change Hid (Calls _ _ #[.pointer (some ⟨s.g, 0, none⟩)] wr.drew fun e w' => e = .returned (.int .i64 s.n) ∧ w' = wr.drew) at HSZ
      have HTIE := Lib.hid (tie_any s c m' (s.n + i) wr.drew hgd (by omega) hin)
      have hj : ∃ j, s.n + i = j := ⟨_, rfl⟩
      obtain ⟨j, hj⟩ := hj
      rw [hj] at HTIE hrd2
      have ej : (s.n : Int) + (i : Int) = (j : Int) := by omega
      have HR2 := Lib.hid hrd2
      have hjw : IntKind.i64.wrap (j : Int) = (j : Int) := by rw [IntKind.wrap_i64]; omega
      clear hgc hbx ht hrd hin hrd2 hj hgd htd
      go_wp2_with fail
      go_region_with (first
        | (go_at_call 31; (with_reducible refine HSZ.out.mono ?_); rintro e w1 ⟨rfl, rfl⟩)
        | (go_at_call 78; (try rw [hjw]); (with_reducible refine HTIE.out.mono ?_); rintro e w2 ⟨rfl, h2, t2⟩; have HR := Lib.hid (And.intro h2 (HTD.out.trans t2)); clear h2 t2))
      all_goals
        go_wp2_with fail
        go_roundw
        case rel => exact ⟨i + 1, tied2, _, by go_num, by omega, HR.out.1, HBX.out.turn HGC.out HR.out.2, HT.out.trans HR.out.2, HR2.out⟩
        case measure => simp [intOf]; omega
    · obtain rfl : i = c.r := by omega
      have HE1 := Lib.hid (round1_any s c L m0 hd mk bx tied' _ m' wr HF.out HND.out HHD.out hgc hbx (hrd.first HF.out))
      clear hgc hbx ht hrd
      go_wp2_with fail
      refine HE1.out.mono ?_; rintro e w1 ⟨⟨to1, rfl⟩, m1, tied1, res1, h1, b1, t1, r1⟩
      have cb1 := b1.c
      have hbl1 := Blk.lt b1
      have HE2 := Lib.hid (round2_any s c L m0 hd mk bx tied1 res1 m1 w1 HF.out HND.out HHD.out h1 b1 (r1.second HF.out))
      have HT1 := Lib.hid t1
      clear h1 b1 t1 r1
      go_wp2_with fail
      refine HE2.out.mono ?_; rintro e w2 ⟨rfl, m2, tied2, res2, h2, b2, t2, r2⟩
      go_wp2_with fail
      go_ret
      exact ⟨rfl, m2, tied2, res2, h2, (HT.out.trans HT1.out).trans t2, r2⟩
end Go.Proofs.Ythfkgkddklnnhaa
/- A heap that is right: its words are a list of objects. (No document's heap beside it.) -/
namespace Go.Proofs.Ythfkgkddklnnhaa
set_option linter.unusedVariables false
open Go.ChangeShapes Go.WideShapes Go.ChangeAt Go.RowKit
open M (W)

/-- In w stands the heap s, whose words are the objects L. -/
structure Right (w : World) (s : St) (L : List RO) : Prop where
  hp : HpIs w s
  sim : Sim s L
  fit : ∀ o ∈ L, ∀ v ∈ o.fs, s.fits v = true
theorem Both.right {w0 w : World} {s : St} {x : Rf} (h : Both w0 w s x) : Right w s x.L := ⟨h.hp, h.sim, h.fit⟩
theorem Right.still {w w' : World} {s : St} {L : List RO} (h : Right w s L) (t : Still w w') : Right w' s L := { h with hp := h.hp.still t }
theorem Right.laid {w : World} {s : St} {L : List RO} (h : Right w s L) : LaidAs s s.top L := by
  refine ⟨h.sim.tile.to, h.sim.good, fun o ho v hv => ?_⟩
  have hf := h.fit o ho v hv
  unfold St.fits M.fits at hf
  rw [Bool.or_eq_true] at hf
  rcases hf with hf | hf
  · left; have := beq_iff_eq.1 hf; omega
  · right
    have h2 := h.sim.heads ((v : Int) / 2)
    unfold St.is at h2
    unfold M.inSet at hf
    rw [hf] at h2
    obtain ⟨p, hp, e⟩ := List.any_eq_true.1 h2.symm
    exact ⟨p, hp, by have := of_decide_eq_true e; omega⟩
theorem Right.root {w : World} {s : St} {L : List RO} (h : Right w s L) {v : Nat} (hf : s.fits v = true) (he : v % 2 = 0) : ∃ p ∈ L, v = 2 * p.at_ := by
  unfold St.fits M.fits at hf
  rw [Bool.or_eq_true] at hf
  rcases hf with hf | hf
  · have := beq_iff_eq.1 hf; omega
  · have h2 := h.sim.heads ((v : Int) / 2)
    unfold St.is at h2
    unfold M.inSet at hf
    rw [hf] at h2
    obtain ⟨p, hp, e⟩ := List.any_eq_true.1 h2.symm
    exact ⟨p, hp, by have := of_decide_eq_true e; omega⟩
/-- Two heaps with the same objects have the same pointers. -/
theorem fits_same {s s1 : St} {L : List RO} (h : Sim s L) (h1 : Sim s1 L) (v : Int) : s1.fits v = s.fits v := by
  have i1 := h.heads (v / 2)
  have i2 := h1.heads (v / 2)
  unfold St.is at i1 i2
  unfold St.fits M.fits M.inSet
  rw [i2, ← i1]
theorem Right.into {w w1 : World} {s s1 : St} {L : List RO} (h : Right w s L) (hp : HpIs w1 s1) (hs : Sim s1 L) : Right w1 s1 L := ⟨hp, hs, fun o ho v hv => by rw [fits_same h.sim hs]; exact h.fit o ho v hv⟩
/-- What is right is closed as it is. -/
theorem right_close {w : World} {s : St} {L : List RO} (h : Right w s L) : Calls Try.prog 11 #[s.ptr, .int .i64 s.top] w fun e w' => e = .returned (.int .i64 0) ∧ Right w' (s.as L) L ∧ Turn (fun k => k = s.g ∨ k = s.gw) w w' := by
  have hl := h.laid.closes h.hp.m_le (by have := h.hp.top_le; have := h.hp.n_le; omega)
  refine (close_in s s.top w h.hp h.hp.top_le).mono fun e w' hor => ?_
  rcases hor with ⟨l, hc, he, hp, ht⟩ | ⟨hno, _, _⟩
  · have hll : l = L.map RO.at_ := hc.1.same hl.1.1
    subst hll
    exact ⟨he, h.into hp hl.2, ht⟩
  · exact absurd hl.1 (hno _)
/-- The document's heap stands beside it as before. -/
theorem Both.again {w0 w w' : World} {s : St} {x : Rf} (h : Both w0 w s x) (hr : Right w' (s.as x.L) x.L) (t : Turn (fun k => k = s.g ∨ k = s.gw) w w') : Both w0 w' (s.as x.L) x := h.into (h.near.step t hr.hp rfl rfl) rfl rfl rfl rfl hr.sim
end Go.Proofs.Ythfkgkddklnnhaa
