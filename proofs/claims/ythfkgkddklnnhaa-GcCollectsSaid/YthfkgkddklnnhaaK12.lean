/- Lemmas, put together: Dsw SlideN GcBack. -/
import Derived.Test.YthfkgkddklnnhaaK11
/- Marking by turned pointers, in numbers alone: what holds at the head of the walk's loop. No program in sight. -/
namespace Go.Proofs.Ythfkgkddklnnhaa
set_option linter.unusedVariables false
open M (W)

/-- How many fields of an object may be pointers. -/
def St.nf (s : St) (o : RO) : Nat := s.fieldsOf o.sh o.n
/-- A memory in which the objects L stand, before anything is marked. -/
structure Ground (s : St) (L : List RO) (m : Nat → Nat) : Prop where
  ap : ∀ o ∈ L, ∀ p ∈ L, ∀ i j, i < s.sz o → j < s.sz p → o.at_ + i = p.at_ + j → o.at_ = p.at_ ∧ i = j
  un : ∀ o ∈ L, ∀ p ∈ L, o.at_ = p.at_ → o = p
  head : ∀ o ∈ L, (m o.at_ : Int) = M.hd o.sh o.n 0 0
  field : ∀ o ∈ L, ∀ i, i < s.nf o → m (o.at_ + 1 + i) % 2 = 1 ∨ ∃ p ∈ L, m (o.at_ + 1 + i) = 2 * p.at_
  nf : ∀ o ∈ L, s.nf o + 1 ≤ s.sz o
  le : ∀ o ∈ L, o.at_ + s.sz o ≤ s.n
  sh : ∀ o ∈ L, o.sh < 512 ∧ o.n ≤ 65536
  lt : ∀ j, m j < 18446744073709551616
/-- The way back: the word by which the walk came to the object on top; the words that it has turned. -/
def M.bk : List (Nat × Nat) → Nat
  | [] => 1
  | (a, _) :: _ => 2 * a
def M.ov (m : Nat → Nat) : List (Nat × Nat) → Nat → Nat
  | [] => m
  | (a, k) :: st => M.upd (M.ov m st) (a + 1 + k) (M.bk st)
/-- The way from the current object a back: each object on it is marked, its count says which field is turned, and that field's pointer is of the object in front. -/
def Way (s : St) (L : List RO) (m0 : Nat → Nat) (mk : Nat → Bool) (ct : Nat → Nat) : Nat → List (Nat × Nat) → Prop
  | _, [] => True
  | a, (b, k) :: st => (∃ p ∈ L, p.at_ = b ∧ k < s.nf p) ∧ mk b = true ∧ ct b = k ∧ m0 (b + 1 + k) = 2 * a ∧ Way s L m0 mk ct b st
def M.hdOf (o : RO) (mk : Bool) (k : Nat) : Int := M.hd o.sh o.n (if mk then 1 else 0) k
/-- Heads say what is marked and counted; all else is as before but for what is turned. -/
structure Mem (s : St) (L : List RO) (m0 : Nat → Nat) (mk : Nat → Bool) (ct : Nat → Nat) (stk : List (Nat × Nat)) (m : Nat → Nat) : Prop where
  head : ∀ o ∈ L, (m o.at_ : Int) = M.hdOf o (mk o.at_) (ct o.at_)
  rest : ∀ j, (∀ o ∈ L, j ≠ o.at_) → m j = M.ov m0 stk j
/-- A field leads to a number, or to an object that is marked. -/
def Seen (m0 : Nat → Nat) (mk : Nat → Bool) (j : Nat) : Prop := m0 j % 2 = 1 ∨ mk (m0 j / 2) = true
/-- What holds at the head of the walk's loop. -/
structure Dsw (s : St) (L : List RO) (m0 : Nat → Nat) (R : Nat → Prop) (mk0 : Nat → Bool) (a : Nat) (stk : List (Nat × Nat)) (mk : Nat → Bool) (ct : Nat → Nat) (m : Nat → Nat) : Prop where
  mem : Mem s L m0 mk ct stk m
  cur : ∃ o ∈ L, o.at_ = a ∧ ct a ≤ s.nf o
  way : Way s L m0 mk ct a stk
  off : a ∉ stk.map Prod.fst
  nodup : (stk.map Prod.fst).Nodup
  count : ∀ b, b ≠ a → b ∉ stk.map Prod.fst → ct b = 0
  new : mk a = false → ct a = 0
  done : ∀ o ∈ L, mk o.at_ = true → ∀ i, i < (if o.at_ = a ∨ o.at_ ∈ stk.map Prod.fst then ct o.at_ else s.nf o) → Seen m0 mk (o.at_ + 1 + i)
  sub : ∀ b, mk b = true → R b
  curR : R a
  sup : ∀ b, mk0 b = true → mk b = true
def Closed (s : St) (L : List RO) (m0 : Nat → Nat) (mk : Nat → Bool) : Prop := ∀ o ∈ L, mk o.at_ = true → ∀ i, i < s.nf o → Seen m0 mk (o.at_ + 1 + i)
def RClosed (s : St) (L : List RO) (m0 : Nat → Nat) (R : Nat → Prop) : Prop := ∀ o ∈ L, R o.at_ → ∀ i, i < s.nf o → m0 (o.at_ + 1 + i) % 2 = 0 → R (m0 (o.at_ + 1 + i) / 2)

variable {s : St} {L : List RO} {m0 : Nat → Nat}
theorem ov_out : ∀ {stk : List (Nat × Nat)} {j : Nat}, (∀ b k, (b, k) ∈ stk → j ≠ b + 1 + k) → M.ov m0 stk j = m0 j
  | [], j, h => rfl
  | (a, k) :: st, j, h => by
    show (if j = a + 1 + k then M.bk st else M.ov m0 st j) = m0 j
    rw [if_neg (h a k (List.mem_cons_self)), ov_out fun b k hb => h b k (List.mem_cons_of_mem _ hb)]
theorem Way.mem {mk : Nat → Bool} {ct : Nat → Nat} : ∀ {stk : List (Nat × Nat)} {a : Nat}, Way s L m0 mk ct a stk → ∀ b k, (b, k) ∈ stk → (∃ p ∈ L, p.at_ = b ∧ k < s.nf p) ∧ mk b = true ∧ ct b = k
  | [], a, h, b, k, hb => by simp at hb
  | (c, j) :: st, a, h, b, k, hb => by
    rcases List.mem_cons.1 hb with e | hb
    · injection e with e1 e2; subst e1; subst e2; exact ⟨h.1, h.2.1, h.2.2.1⟩
    · exact Way.mem h.2.2.2.2 b k hb
theorem Way.keep {mk mk' : Nat → Bool} {ct ct' : Nat → Nat} : ∀ {stk : List (Nat × Nat)} {a : Nat}, Way s L m0 mk ct a stk → (∀ b ∈ stk.map Prod.fst, (mk b = true → mk' b = true) ∧ ct' b = ct b) → Way s L m0 mk' ct' a stk
  | [], a, h, _ => trivial
  | (c, j) :: st, a, h, hk => by
    have hc := hk c (by simp)
    exact ⟨h.1, hc.1 h.2.1, hc.2.trans h.2.2.1, h.2.2.2.1, Way.keep h.2.2.2.2 fun b hb => hk b (by simp only [List.map_cons, List.mem_cons]; exact .inr hb)⟩
/-- A field's place is no head's, and no other field's. -/
theorem Ground.off_head (h : Ground s L m0) {o : RO} (ho : o ∈ L) {i : Nat} (hi : i < s.nf o) : ∀ p ∈ L, o.at_ + 1 + i ≠ p.at_ := by
  intro p hp e
  have h1 := h.nf o ho
  have hsz : 0 < s.sz p := by have := h.nf p hp; omega
  have := h.ap o ho p hp (1 + i) 0 (by omega) hsz (by omega)
  omega
theorem Ground.off_field (h : Ground s L m0) {o p : RO} (ho : o ∈ L) (hp : p ∈ L) {i j : Nat} (hi : i < s.nf o) (hj : j < s.nf p) (e : o.at_ + 1 + i = p.at_ + 1 + j) : o.at_ = p.at_ ∧ i = j := by
  have h1 := h.nf o ho
  have h2 := h.nf p hp
  have := h.ap o ho p hp (1 + i) (1 + j) (by omega) (by omega) (by omega)
  omega
/-- The fields of an object that isn't on the way are as they were. -/
theorem Mem.field {mk : Nat → Bool} {ct : Nat → Nat} {stk : List (Nat × Nat)} {m : Nat → Nat} (h : Mem s L m0 mk ct stk m) (hG : Ground s L m0) {a : Nat} (hw : Way s L m0 mk ct a stk) {o : RO} (ho : o ∈ L) (hoff : o.at_ ∉ stk.map Prod.fst) {i : Nat} (hi : i < s.nf o) : m (o.at_ + 1 + i) = m0 (o.at_ + 1 + i) := by
  rw [h.rest _ (hG.off_head ho hi), ov_out]
  intro b k hb e
  obtain ⟨⟨p, hp, hpb, hk⟩, _, _⟩ := hw.mem b k hb
  subst hpb
  have := hG.off_field ho hp hi hk e
  exact hoff (by rw [this.1]; exact List.mem_map_of_mem hb)
variable {R : Nat → Prop} {mk0 : Nat → Bool} {a : Nat} {stk : List (Nat × Nat)} {mk : Nat → Bool} {ct : Nat → Nat} {m : Nat → Nat}
def M.on (mk : Nat → Bool) (a : Nat) : Nat → Bool := fun b => decide (b = a) || mk b
theorem on_of {b : Nat} (h : mk b = true) : M.on mk a b = true := by unfold M.on; rw [h, Bool.or_true]
theorem on_self : M.on mk a a = true := by unfold M.on; simp
theorem on_other {b : Nat} (h : b ≠ a) : M.on mk a b = mk b := by unfold M.on; simp [h]
/-- The current object is marked. -/
theorem Dsw.enter (h : Dsw s L m0 R mk0 a stk mk ct m) (hG : Ground s L m0) {o : RO} (ho : o ∈ L) (hoa : o.at_ = a) {v : Nat} (hv : (v : Int) = M.hdOf o true (ct a)) : Dsw s L m0 R mk0 a stk (M.on mk a) ct (M.upd m a v) := by
  subst hoa
  refine ⟨⟨fun p hp => ?_, fun j hj => ?_⟩, h.cur, h.way.keep fun b hb => ⟨on_of, rfl⟩, h.off, h.nodup, h.count, fun e => by rw [on_self] at e; simp at e, ?_, ?_, h.curR, fun b hb => on_of (h.sup b hb)⟩
  · show ((if p.at_ = o.at_ then v else m p.at_ : Nat) : Int) = _
    by_cases e : p.at_ = o.at_
    · rw [if_pos e, e, on_self, hv]
      rw [hG.un p hp o ho e]
    · rw [if_neg e, on_other e]; exact h.mem.head p hp
  · show (if j = o.at_ then v else m j) = _
    rw [if_neg (hj o ho)]; exact h.mem.rest j hj
  · intro p hp hm i hi
    by_cases e : p.at_ = o.at_
    · rw [if_pos (.inl e)] at hi
      cases hmk : mk o.at_ with
      | false => rw [e, h.new hmk] at hi; omega
      | true =>
        have := h.done p hp (by rw [e]; exact hmk) i (by rw [if_pos (.inl e)]; exact hi)
        rcases this with h1 | h1
        · exact .inl h1
        · exact .inr (on_of h1)
    · rw [on_other e] at hm
      rcases h.done p hp hm i hi with h1 | h1
      · exact .inl h1
      · exact .inr (on_of h1)
  · intro b hb
    by_cases e : b = o.at_
    · rw [e]; exact h.curR
    · rw [on_other e] at hb; exact h.sub b hb
theorem seen_mono {mk mk' : Nat → Bool} (hm : ∀ b, mk b = true → mk' b = true) {j : Nat} (h : Seen m0 mk j) : Seen m0 mk' j := by
  rcases h with h | h
  · exact .inl h
  · exact .inr (hm _ h)
/-- The walk goes on to an object that a field points at. -/
theorem Dsw.push (h : Dsw s L m0 R mk0 a stk mk ct m) (hG : Ground s L m0) (hR : RClosed s L m0 R) {o : RO} (ho : o ∈ L) (hoa : o.at_ = a) (hma : mk a = true) {k b v : Nat} (hk : k < s.nf o) (hv : (v : Int) = M.hdOf o true k) (hb : m0 (a + 1 + k) = 2 * b) (hob : ∃ p ∈ L, p.at_ = b) (hmb : mk b = false) (hseen : ∀ i, i < k → Seen m0 mk (a + 1 + i)) :
    Dsw s L m0 R mk0 b ((a, k) :: stk) mk (M.upd ct a k) (M.upd (M.upd m a v) (a + 1 + k) (M.bk stk)) := by
  subst hoa
  have hba : b ≠ o.at_ := fun e => by rw [e, hma] at hmb; simp at hmb
  have hbs : b ∉ stk.map Prod.fst := fun e => by
    obtain ⟨⟨c, j⟩, hc, rfl⟩ := List.mem_map.1 e
    have := (h.way.mem c j hc).2.1
    rw [hmb] at this; simp at this
  have hcb : ct b = 0 := h.count b hba hbs
  refine ⟨⟨fun p hp => ?_, fun j hj => ?_⟩, ?_, ?_, ?_, ?_, ?_, ?_, ?_, h.sub, ?_, h.sup⟩
  · show ((if p.at_ = o.at_ + 1 + k then M.bk stk else if p.at_ = o.at_ then v else m p.at_ : Nat) : Int) = M.hdOf p (mk p.at_) (if p.at_ = o.at_ then k else ct p.at_)
    rw [if_neg (fun e => hG.off_head ho hk p hp e.symm)]
    by_cases e : p.at_ = o.at_
    · rw [if_pos e, if_pos e, e, hma, hv, hG.un p hp o ho e]
    · rw [if_neg e, if_neg e]; exact h.mem.head p hp
  · show (if j = o.at_ + 1 + k then M.bk stk else if j = o.at_ then v else m j) = (if j = o.at_ + 1 + k then M.bk stk else M.ov m0 stk j)
    by_cases e : j = o.at_ + 1 + k
    · rw [if_pos e, if_pos e]
    · rw [if_neg e, if_neg e, if_neg (hj o ho)]; exact h.mem.rest j hj
  · obtain ⟨p, hp, hpb⟩ := hob
    exact ⟨p, hp, hpb, by show (if b = o.at_ then k else ct b) ≤ _; rw [if_neg hba, hcb]; omega⟩
  · refine ⟨⟨o, ho, rfl, hk⟩, hma, by show (if o.at_ = o.at_ then k else _) = k; rw [if_pos rfl], hb, h.way.keep fun c hc => ⟨fun e => e, ?_⟩⟩
    show (if c = o.at_ then k else ct c) = ct c
    rw [if_neg (fun e => h.off (by rw [← e]; exact hc))]
  · simp only [List.map_cons, List.mem_cons, not_or]
    exact ⟨hba, hbs⟩
  · simp only [List.map_cons, List.nodup_cons]
    exact ⟨h.off, h.nodup⟩
  · intro c h1 h2
    simp only [List.map_cons, List.mem_cons, not_or] at h2
    show (if c = o.at_ then k else ct c) = 0
    rw [if_neg h2.1]; exact h.count c h2.1 h2.2
  · intro _
    show (if b = o.at_ then k else ct b) = 0
    rw [if_neg hba]; exact hcb
  · intro p hp hm i hi
    by_cases e : p.at_ = o.at_
    · have e2 : p = o := hG.un p hp o ho e
      subst e2
      rw [if_pos (.inr (by simp))] at hi
      have : M.upd ct p.at_ k p.at_ = k := by show (if p.at_ = p.at_ then k else _) = k; rw [if_pos rfl]
      rw [this] at hi
      exact hseen i hi
    · have hct : M.upd ct o.at_ k p.at_ = ct p.at_ := by show (if p.at_ = o.at_ then k else ct p.at_) = _; rw [if_neg e]
      rw [hct] at hi
      refine h.done p hp hm i ?_
      by_cases e3 : p.at_ ∈ stk.map Prod.fst
      · rw [if_pos (.inr e3)]
        rw [if_pos (.inr (by simp only [List.map_cons, List.mem_cons]; exact .inr e3))] at hi
        exact hi
      · rw [if_neg (by rintro (x | x); exact e x; exact e3 x)]
        have hpb : p.at_ ≠ b := fun x => by rw [x, hmb] at hm; simp at hm
        rw [if_neg (by
          rintro (x | x)
          · exact hpb x
          · simp only [List.map_cons, List.mem_cons] at x
            rcases x with x | x
            · exact e x
            · exact e3 x)] at hi
        exact hi
  · have h1 := hR o ho (h.sub _ hma) k hk (by rw [hb]; omega)
    rw [hb, show 2 * b / 2 = b by omega] at h1
    exact h1
/-- The walk goes back to the object by which it came. -/
theorem Dsw.pop {b k : Nat} (h : Dsw s L m0 R mk0 a ((b, k) :: stk) mk ct m) (hG : Ground s L m0) {o p : RO} (ho : o ∈ L) (hoa : o.at_ = a) (hp : p ∈ L) (hpb : p.at_ = b) (hma : mk a = true) {v u : Nat} (hv : (v : Int) = M.hdOf o true 0) (hu : (u : Int) = M.hdOf p true (k + 1 : Nat)) (hseen : ∀ i, i < s.nf o → Seen m0 mk (a + 1 + i)) :
    Dsw s L m0 R mk0 b stk mk (M.upd (M.upd ct a 0) b (k + 1)) (M.upd (M.upd (M.upd m a v) (b + 1 + k) (2 * a)) b u) := by
  subst hoa
  subst hpb
  obtain ⟨⟨q, hq, hqp, hkq⟩, hmb, hcb, hfld, hway⟩ := h.way
  have hqe : q = p := hG.un q hq p hp hqp
  subst hqe
  have hoff := h.off
  simp only [List.map_cons, List.mem_cons, not_or] at hoff
  have hnd := h.nodup
  simp only [List.map_cons, List.nodup_cons] at hnd
  have hab : o.at_ ≠ q.at_ := hoff.1
  refine ⟨⟨fun r hr => ?_, fun j hj => ?_⟩, ⟨q, hq, rfl, ?_⟩, ?_, hnd.1, hnd.2, ?_, fun e => by rw [hmb] at e; simp at e, ?_, h.sub, h.sub _ hmb, h.sup⟩
  · show ((if r.at_ = q.at_ then u else if r.at_ = q.at_ + 1 + k then 2 * o.at_ else if r.at_ = o.at_ then v else m r.at_ : Nat) : Int) = M.hdOf r (mk r.at_) (if r.at_ = q.at_ then k + 1 else if r.at_ = o.at_ then 0 else ct r.at_)
    by_cases e : r.at_ = q.at_
    · rw [if_pos e, if_pos e, e, hmb, hu, hG.un r hr q hq e]
    · rw [if_neg e, if_neg e, if_neg (fun x => hG.off_head hq hkq r hr x.symm)]
      by_cases e2 : r.at_ = o.at_
      · rw [if_pos e2, if_pos e2, e2, hma, hv, hG.un r hr o ho e2]
      · rw [if_neg e2, if_neg e2]; exact h.mem.head r hr
  · show (if j = q.at_ then u else if j = q.at_ + 1 + k then 2 * o.at_ else if j = o.at_ then v else m j) = M.ov m0 stk j
    rw [if_neg (hj q hq)]
    by_cases e : j = q.at_ + 1 + k
    · rw [if_pos e, e, ov_out, hfld]
      intro c i hc x
      obtain ⟨⟨t, ht, htc, hi⟩, _, _⟩ := hway.mem c i hc
      subst htc
      have := hG.off_field hq ht hkq hi x
      exact hnd.1 (by rw [this.1]; exact List.mem_map_of_mem hc)
    · rw [if_neg e, if_neg (hj o ho), h.mem.rest j hj]
      show (if j = q.at_ + 1 + k then _ else M.ov m0 stk j) = _
      rw [if_neg e]
  · show (if q.at_ = q.at_ then k + 1 else _) ≤ s.nf q
    rw [if_pos rfl]; omega
  · refine hway.keep fun c hc => ⟨fun e => e, ?_⟩
    show (if c = q.at_ then k + 1 else if c = o.at_ then 0 else ct c) = ct c
    rw [if_neg (fun e => hnd.1 (by rw [← e]; exact hc)), if_neg (fun e => hoff.2 (by rw [← e]; exact hc))]
  · intro c h1 h2
    show (if c = q.at_ then k + 1 else if c = o.at_ then 0 else ct c) = 0
    rw [if_neg h1]
    by_cases e : c = o.at_
    · rw [if_pos e]
    · rw [if_neg e]
      exact h.count c e (by simp only [List.map_cons, List.mem_cons, not_or]; exact ⟨h1, h2⟩)
  · intro r hr hm i hi
    by_cases e : r.at_ = o.at_
    · have e2 : r = o := hG.un r hr o ho e
      subst e2
      rw [if_neg (by
        rintro (x | x)
        · exact hab x
        · exact hoff.2 x)] at hi
      exact hseen i hi
    · by_cases e2 : r.at_ = q.at_
      · have e3 : r = q := hG.un r hr q hq e2
        subst e3
        rw [if_pos (.inl rfl)] at hi
        have hc : M.upd (M.upd ct o.at_ 0) r.at_ (k + 1) r.at_ = k + 1 := by show (if r.at_ = r.at_ then k + 1 else _) = _; rw [if_pos rfl]
        rw [hc] at hi
        by_cases e4 : i = k
        · subst e4
          right
          rw [hfld, show 2 * o.at_ / 2 = o.at_ by omega]; exact hma
        · exact h.done r hr hm i (by rw [if_pos (.inr (by simp)), hcb]; omega)
      · have hc : M.upd (M.upd ct o.at_ 0) q.at_ (k + 1) r.at_ = ct r.at_ := by
          show (if r.at_ = q.at_ then k + 1 else if r.at_ = o.at_ then 0 else ct r.at_) = _
          rw [if_neg e2, if_neg e]
        rw [hc] at hi
        refine h.done r hr hm i ?_
        by_cases e3 : r.at_ ∈ stk.map Prod.fst
        · rw [if_pos (.inr (by simp only [List.map_cons, List.mem_cons]; exact .inr e3))]
          rw [if_pos (.inr e3)] at hi; exact hi
        · rw [if_neg (by rintro (x | x); exact e2 x; exact e3 x)] at hi
          rw [if_neg (by
            rintro (x | x)
            · exact e x
            · simp only [List.map_cons, List.mem_cons] at x
              rcases x with x | x
              · exact e2 x
              · exact e3 x)]
          exact hi
/-- A memory in which just the objects mk are marked. -/
structure Marked (s : St) (L : List RO) (m0 : Nat → Nat) (R : Nat → Prop) (mk : Nat → Bool) (m : Nat → Nat) : Prop where
  head : ∀ o ∈ L, (m o.at_ : Int) = M.hdOf o (mk o.at_) 0
  rest : ∀ j, (∀ o ∈ L, j ≠ o.at_) → m j = m0 j
  closed : Closed s L m0 mk
  sub : ∀ b, mk b = true → R b
/-- The walk ends. -/
theorem Dsw.last (h : Dsw s L m0 R mk0 a [] mk ct m) (hG : Ground s L m0) {o : RO} (ho : o ∈ L) (hoa : o.at_ = a) (hma : mk a = true) {v : Nat} (hv : (v : Int) = M.hdOf o true 0) (hseen : ∀ i, i < s.nf o → Seen m0 mk (a + 1 + i)) : Marked s L m0 R mk (M.upd m a v) := by
  subst hoa
  refine ⟨fun p hp => ?_, fun j hj => ?_, fun p hp hm i hi => ?_, h.sub⟩
  · show ((if p.at_ = o.at_ then v else m p.at_ : Nat) : Int) = _
    by_cases e : p.at_ = o.at_
    · rw [if_pos e, e, hma, hv, hG.un p hp o ho e]
    · rw [if_neg e, h.mem.head p hp, h.count p.at_ e (by simp)]
  · show (if j = o.at_ then v else m j) = _
    rw [if_neg (hj o ho), h.mem.rest j hj]; rfl
  · by_cases e : p.at_ = o.at_
    · have e2 : p = o := hG.un p hp o ho e
      subst e2
      exact hseen i hi
    · exact h.done p hp hm i (by rw [if_neg (by rintro (x | x); exact e x; simp at x)]; exact hi)
/-- It begins at an object that is not marked. -/
theorem Marked.first (h : Marked s L m0 R mk m) (hR : R a) (ha : ∃ o ∈ L, o.at_ = a) : Dsw s L m0 R mk a [] mk (fun _ => 0) m := by
  obtain ⟨o, ho, hoa⟩ := ha
  refine ⟨⟨h.head, h.rest⟩, ⟨o, ho, hoa, by omega⟩, trivial, by simp, by simp, fun _ _ _ => rfl, fun _ => rfl, fun p hp hm i hi => ?_, h.sub, hR, fun _ e => e⟩
  by_cases e : p.at_ = a
  · rw [if_pos (.inl e)] at hi; omega
  · rw [if_neg (by rintro (x | x); exact e x; simp at x)] at hi
    exact h.closed p hp hm i hi
end Go.Proofs.Ythfkgkddklnnhaa
/- Moving by threads, in numbers alone: the two rounds over the objects. No program in sight. -/
namespace Go.Proofs.Ythfkgkddklnnhaa
set_option linter.unusedVariables false
open M (W)

/-- What the rounds go over: objects one behind the other, which of them are marked, the memory before anything was marked, the roots behind the heap. -/
structure Field (s : St) (L : List RO) (m0 : Nat → Nat) (mk : Nat → Bool) (r : Nat) : Prop where
  ground : Ground s L m0
  tile : TileTo s s.top 0 L
  top : s.top ≤ s.n
  roots : ∀ i, i < r → m0 (s.n + i) % 2 = 0 → ∃ q ∈ L, m0 (s.n + i) = 2 * q.at_
/-- A place that holds a pointer which the rounds must renew. -/
def PP (s : St) (L : List RO) (m0 : Nat → Nat) (mk : Nat → Bool) (r p : Nat) : Prop := m0 p % 2 = 0 ∧ ((∃ i, i < r ∧ p = s.n + i) ∨ ∃ o ∈ L, mk o.at_ = true ∧ ∃ i, i < s.nf o ∧ p = o.at_ + 1 + i)
variable {s : St} {L : List RO} {m0 hd tof : Nat → Nat} {mk : Nat → Bool} {r : Nat} {tied : List Nat} {res : Nat → Bool} {m : Nat → Nat}
theorem PP.tgt (hF : Field s L m0 mk r) {p : Nat} (h : PP s L m0 mk r p) : ∃ q ∈ L, m0 p = 2 * q.at_ := by
  obtain ⟨he, ⟨i, hi, rfl⟩ | ⟨o, ho, _, i, hi, rfl⟩⟩ := h
  · exact hF.roots i hi he
  · rcases hF.ground.field o ho i hi with h1 | h1
    · omega
    · exact h1
theorem PP.off (hF : Field s L m0 mk r) {p : Nat} (h : PP s L m0 mk r p) : ∀ o ∈ L, p ≠ o.at_ := by
  intro q hq
  obtain ⟨he, ⟨i, hi, rfl⟩ | ⟨o, ho, _, i, hi, rfl⟩⟩ := h
  · have := hF.ground.le q hq
    have := hF.ground.nf q hq
    omega
  · exact hF.ground.off_head ho hi q hq
/-- Objects keep their distance. -/
theorem Ground.far (hG : Ground s L m0) {o q : RO} (ho : o ∈ L) (hq : q ∈ L) (h : o.at_ < q.at_) : o.at_ + s.sz o ≤ q.at_ := by
  rcases Nat.lt_or_ge q.at_ (o.at_ + s.sz o) with h1 | h1
  · have hsz := hG.nf q hq
    have := hG.ap o ho q hq (q.at_ - o.at_) 0 (by omega) (by omega) (by omega)
    omega
  · exact h1
/-- A place within an object that is renewed is one of its fields, and it is marked. -/
theorem PP.within (hF : Field s L m0 mk r) {p : Nat} (h : PP s L m0 mk r p) {o : RO} (ho : o ∈ L) (h1 : o.at_ ≤ p) (h2 : p < o.at_ + s.sz o) : mk o.at_ = true ∧ ∃ i, i < s.nf o ∧ p = o.at_ + 1 + i := by
  obtain ⟨he, ⟨i, hi, rfl⟩ | ⟨q, hq, hmk, i, hi, rfl⟩⟩ := h
  · have := hF.ground.le o ho
    omega
  · have hn := hF.ground.nf q hq
    obtain ⟨e1, e2⟩ := hF.ground.ap o ho q hq (q.at_ + 1 + i - o.at_) (1 + i) (by omega) (by omega) (by omega)
    have e3 := hF.ground.un o ho q hq e1
    subst e3
    exact ⟨hmk, i, hi, rfl⟩

/-- In the first round, at the place cur; objects stand from up on, of which no field has been tied. -/
structure Rd1 (s : St) (L : List RO) (m0 hd tof : Nat → Nat) (mk : Nat → Bool) (r cur up : Nat) (tied : List Nat) (res : Nat → Bool) (m : Nat → Nat) : Prop where
  ties : Ties L m0 hd tof 0 tied res m
  a : ∀ p ∈ tied, up ≤ m0 p / 2 ∨ (m0 p / 2 < p ∧ p < cur)
  b : ∀ p, PP s L m0 mk r p → (p < cur ∨ s.n ≤ p) → p ∈ tied ∨ res p = true
  c : ∀ p, cur ≤ p → p < s.n → p ∉ tied ∧ res p = false
  d : ∀ p, (p ∈ tied ∨ res p = true) → PP s L m0 mk r p
theorem got_cases {p a : Nat} (h : M.got m0 tied res a p = true) : res p = true ∨ p ∈ tied := by
  unfold M.got at h
  rw [Bool.or_eq_true, decide_eq_true_eq] at h
  rcases h with h | h
  · exact .inl h
  · exact .inr (mem_thr h).1
theorem rest_or_got {p a : Nat} (h : p ∈ tied ∨ res p = true) : p ∈ M.rest m0 tied a ∨ M.got m0 tied res a p = true := by
  rcases h with h | h
  · by_cases e : m0 p / 2 = a
    · right
      unfold M.got M.thr
      rw [Bool.or_eq_true, decide_eq_true_eq, List.mem_filter, decide_eq_true_eq]
      exact .inr ⟨h, e⟩
    · exact .inl (mem_rest.2 ⟨h, e⟩)
  · right
    unfold M.got
    rw [h, Bool.true_or]
theorem Rd1.untie (hF : Field s L m0 mk r) {o : RO} (ho : o ∈ L) (h : Rd1 s L m0 hd tof mk r o.at_ o.at_ tied res m) : Rd1 s L m0 hd tof mk r (o.at_ + 1) (o.at_ + s.sz o) (M.rest m0 tied o.at_) (M.got m0 tied res o.at_) (M.upd (M.all m (M.thr m0 tied o.at_) (2 * tof o.at_)) o.at_ (hd o.at_)) := by
  refine ⟨h.ties.untie ho (Nat.zero_le _), fun p hp => ?_, fun p hp hc => ?_, fun p h1 h2 => ?_, fun p hp => ?_⟩
  · obtain ⟨hpt, hne⟩ := mem_rest.1 hp
    rcases h.a p hpt with h1 | h1
    · left
      obtain ⟨q, hq, e⟩ := (h.d p (.inl hpt)).tgt hF
      have e2 : m0 p / 2 = q.at_ := by omega
      have := hF.ground.far ho hq (by omega)
      omega
    · exact .inr ⟨h1.1, by omega⟩
  · refine rest_or_got (h.b p hp ?_)
    rcases hc with hc | hc
    · by_cases e : p = o.at_
      · exact absurd e (hp.off hF o ho)
      · exact .inl (by omega)
    · exact .inr hc
  · obtain ⟨c1, c2⟩ := h.c p (by omega) h2
    refine ⟨fun x => c1 (mem_rest.1 x).1, ?_⟩
    cases hg : M.got m0 tied res o.at_ p with
    | false => rfl
    | true =>
      rcases got_cases hg with x | x
      · rw [c2] at x; simp at x
      · exact absurd x c1
  · rcases hp with hp | hp
    · exact h.d p (.inl (mem_rest.1 hp).1)
    · rcases got_cases hp with x | x
      · exact h.d p (.inr x)
      · exact h.d p (.inl x)
theorem Rd1.tie (hF : Field s L m0 mk r) {o : RO} (ho : o ∈ L) (hmk : mk o.at_ = true) {k : Nat} (hk : k < s.nf o) (h : Rd1 s L m0 hd tof mk r (o.at_ + 1 + k) (o.at_ + s.sz o) tied res m) : (m (o.at_ + 1 + k) % 2 = 0 → m (o.at_ + 1 + k) / 2 < s.n) ∧ ∃ tied', Rd1 s L m0 hd tof mk r (o.at_ + 1 + (k + 1)) (o.at_ + s.sz o) tied' res (M.tie m (o.at_ + 1 + k)) := by
  have hnf := hF.ground.nf o ho
  have hle := hF.ground.le o ho
  have hoff := hF.ground.off_head ho hk
  obtain ⟨hnt, hr⟩ := h.c (o.at_ + 1 + k) (Nat.le_refl _) (by omega)
  have hv := h.ties.rest _ (Nat.zero_le _) hoff hnt
  rw [hr] at hv
  simp only [Bool.false_eq_true, if_false] at hv
  rcases hF.ground.field o ho k hk with hod | ⟨q, hq, he⟩
  · refine ⟨fun x => by omega, tied, ?_⟩
    rw [h.ties.odd (Nat.zero_le _) hoff hnt hr hod]
    refine ⟨h.ties, fun p hp => ?_, fun p hp hc => h.b p hp ?_, fun p h1 h2 => h.c p (by omega) h2, h.d⟩
    · rcases h.a p hp with x | x
      · exact .inl x
      · exact .inr ⟨x.1, by omega⟩
    · rcases hc with hc | hc
      · by_cases e : p = o.at_ + 1 + k
        · have := hp.1
          rw [e] at this; omega
        · exact .inl (by omega)
      · exact .inr hc
  · have hql := hF.ground.le q hq
    have hqn := hF.ground.nf q hq
    refine ⟨fun _ => by omega, (o.at_ + 1 + k) :: tied, h.ties.tie (Nat.zero_le _) hoff hnt hr hq (Nat.zero_le _) he, fun p hp => ?_, fun p hp hc => ?_, fun p h1 h2 => ?_, fun p hp => ?_⟩
    · rcases List.mem_cons.1 hp with rfl | hp
      · by_cases e : q.at_ ≤ o.at_
        · exact .inr ⟨by omega, by omega⟩
        · have := hF.ground.far ho hq (by omega)
          exact .inl (by omega)
      · rcases h.a p hp with x | x
        · exact .inl x
        · exact .inr ⟨x.1, by omega⟩
    · by_cases e : p = o.at_ + 1 + k
      · exact .inl (by rw [e]; exact List.mem_cons_self)
      · rcases h.b p hp (by rcases hc with hc | hc; exact .inl (by omega); exact .inr hc) with x | x
        · exact .inl (List.mem_cons_of_mem _ x)
        · exact .inr x
    · obtain ⟨c1, c2⟩ := h.c p (by omega) h2
      refine ⟨fun x => ?_, c2⟩
      rcases List.mem_cons.1 x with x | x
      · omega
      · exact c1 x
    · rcases hp with hp | hp
      · rcases List.mem_cons.1 hp with rfl | hp
        · exact ⟨by omega, .inr ⟨o, ho, hmk, k, hk, rfl⟩⟩
        · exact h.d p (.inl hp)
      · exact h.d p (.inr hp)
theorem Rd1.next (hF : Field s L m0 mk r) {o : RO} (ho : o ∈ L) {cur : Nat} (h1 : o.at_ + 1 ≤ cur) (h2 : cur ≤ o.at_ + s.sz o) (hc : mk o.at_ = false ∨ cur = o.at_ + 1 + s.nf o) (h : Rd1 s L m0 hd tof mk r cur (o.at_ + s.sz o) tied res m) : Rd1 s L m0 hd tof mk r (o.at_ + s.sz o) (o.at_ + s.sz o) tied res m := by
  refine ⟨h.ties, fun p hp => ?_, fun p hp hx => h.b p hp ?_, fun p x1 x2 => h.c p (by omega) x2, h.d⟩
  · rcases h.a p hp with x | x
    · exact .inl x
    · exact .inr ⟨x.1, by omega⟩
  · rcases hx with hx | hx
    · by_cases e : p < cur
      · exact .inl e
      · obtain ⟨w1, i, hi, w2⟩ := hp.within hF ho (by omega) hx
        rcases hc with hc | hc
        · rw [hc] at w1; simp at w1
        · omega
    · exact .inr hx
/-- While the roots are tied. -/
structure Rd0 (s : St) (L : List RO) (m0 hd tof : Nat → Nat) (mk : Nat → Bool) (r i : Nat) (tied : List Nat) (m : Nat → Nat) : Prop where
  ties : Ties L m0 hd tof 0 tied (fun _ => false) m
  b : ∀ j, j < i → m0 (s.n + j) % 2 = 0 → s.n + j ∈ tied
  c : ∀ p ∈ tied, ∃ j, j < i ∧ p = s.n + j ∧ m0 p % 2 = 0
theorem Rd0.tie (hF : Field s L m0 mk r) {i : Nat} (hi : i < r) (h : Rd0 s L m0 hd tof mk r i tied m) : (m (s.n + i) % 2 = 0 → m (s.n + i) / 2 < s.n) ∧ ∃ tied', Rd0 s L m0 hd tof mk r (i + 1) tied' (M.tie m (s.n + i)) := by
  have hoff : ∀ o ∈ L, s.n + i ≠ o.at_ := fun o ho e => by
    have := hF.ground.le o ho
    have := hF.ground.nf o ho
    omega
  have hnt : s.n + i ∉ tied := fun x => by
    obtain ⟨j, hj, e, _⟩ := h.c _ x
    omega
  have hv := h.ties.rest _ (Nat.zero_le _) hoff hnt
  simp only [Bool.false_eq_true, if_false] at hv
  by_cases ho : m0 (s.n + i) % 2 = 0
  · obtain ⟨q, hq, he⟩ := hF.roots i hi ho
    have hql := hF.ground.le q hq
    have hqn := hF.ground.nf q hq
    refine ⟨fun _ => by omega, (s.n + i) :: tied, h.ties.tie (Nat.zero_le _) hoff hnt rfl hq (Nat.zero_le _) he, fun j hj hje => ?_, fun p hp => ?_⟩
    · by_cases e : j = i
      · subst e; exact List.mem_cons_self
      · exact List.mem_cons_of_mem _ (h.b j (by omega) hje)
    · rcases List.mem_cons.1 hp with rfl | hp
      · exact ⟨i, by omega, rfl, ho⟩
      · obtain ⟨j, hj, e⟩ := h.c p hp
        exact ⟨j, by omega, e⟩
  · refine ⟨fun x => by omega, tied, ?_⟩
    rw [h.ties.odd (Nat.zero_le _) hoff hnt rfl (by omega)]
    refine ⟨h.ties, fun j hj hje => ?_, fun p hp => ?_⟩
    · by_cases e : j = i
      · subst e; exact absurd hje ho
      · exact h.b j (by omega) hje
    · obtain ⟨j, hj, e⟩ := h.c p hp
      exact ⟨j, by omega, e⟩
theorem Rd0.first (hF : Field s L m0 mk r) (h : Rd0 s L m0 hd tof mk r r tied m) : Rd1 s L m0 hd tof mk r 0 0 tied (fun _ => false) m := by
  refine ⟨h.ties, fun p _ => .inl (Nat.zero_le _), fun p hp hc => ?_, fun p _ hpn => ⟨fun x => ?_, rfl⟩, fun p hp => ?_⟩
  · rcases hc with hc | hc
    · omega
    · obtain ⟨he, ⟨i, hi, rfl⟩ | ⟨o, ho, _, i, hi, rfl⟩⟩ := hp
      · exact .inl (h.b i hi he)
      · have := hF.ground.le o ho
        have := hF.ground.nf o ho
        omega
  · obtain ⟨j, _, e, _⟩ := h.c p x
    omega
  · rcases hp with hp | hp
    · obtain ⟨j, hj, e, he⟩ := h.c p hp
      exact ⟨he, .inl ⟨j, hj, e⟩⟩
    · simp at hp
end Go.Proofs.Ythfkgkddklnnhaa
/- The contract of turnBack. -/
namespace Go.Proofs.Ythfkgkddklnnhaa
set_option linter.unusedVariables false
open Go.ChangeShapes Go.WideShapes Go.ChangeAt Go.RowKit
open M (W)

theorem at_twice (b : Nat) (hb : b ≤ 65536) (W : World) : Calls Try.prog 51 #[.int .u64 ((2 * b : Nat) : Int)] W fun e w' => e = .returned (.int .i64 b) ∧ w' = W := by
  have := at_any ((2 * b : Nat) : Int) W (by omega) (by omega)
  rw [show (((2 * b : Nat) : Int) / 2) = (b : Int) by omega] at this
  exact this
set_option maxRecDepth 100000 in
set_option maxHeartbeats 4000000 in
theorem turnBack_any (s : St) (c : Cl) (m : Nat → Nat) (p : RO) (k v : Nat) (w : World) (h : GcIs w s c m) (hhd : (m p.at_ : Int) = M.hdOf p true k) (hle : p.at_ + 1 + k < s.n) (hv : v < 18446744073709551616) :
    Calls Try.prog 96 #[c.ptr, .int .u64 ((2 * p.at_ : Nat) : Int), .int .u64 v] w fun e w' => e = .returned (.int .u64 (m (p.at_ + 1 + k))) ∧ ∃ u : Nat, (u : Int) = M.hdOf p true (k + 1) ∧ GcIs w' s c (M.upd (M.upd m (p.at_ + 1 + k) v) p.at_ u) ∧ GcTurn s c w w' := by
  have hn := h.n_le
  have hAT := fun W => at_twice p.at_ (by omega) W
  have hLD := h.load (w := w) (k := p.at_) (by omega)
  have hTU := fun W => turned_hd p.sh p.n 1 k W
  have hTN := fun W => turn_hd p.sh p.n 1 k (k + 1 : Nat) W
  have hhd' : M.hd p.sh p.n 1 k = (m p.at_ : Int) := hhd.symm
  obtain ⟨u, hu⟩ : ∃ u : Nat, M.hd p.sh p.n 1 (k + 1 : Nat) = (u : Int) := ⟨_, (Int.toNat_of_nonneg (M.hd_lo ..)).symm⟩
  have hul : u < 18446744073709551616 := by have := M.hd_hi p.sh p.n 1 (k + 1 : Nat); omega
  rw [hhd', show (k : Int) % 1048576 = k by omega] at hTU
  rw [hhd', hu] at hTN
  have HU : Hid ((u : Int) = M.hdOf p true (k + 1)) := hu.symm
  have hg := h.g_lt
  have c0 := h.c0
  obtain ⟨b, hb⟩ : ∃ b, p.at_ = b := ⟨_, rfl⟩
  rw [hb] at hAT hLD hTU hTN hle ⊢
  obtain ⟨j, hj⟩ : ∃ j, b + 1 + k = j := ⟨_, rfl⟩
  rw [hj] at hle ⊢
  have ej : (b : Int) + 1 + (k : Int) = (j : Int) := by omega
  obtain ⟨k1, hk1⟩ : ∃ k1, k + 1 = k1 := ⟨_, rfl⟩
  rw [hk1] at hTN
  have hkw : IntKind.i64.wrap ((k : Int) + 1) = (k1 : Int) := by rw [IntKind.wrap_i64]; omega
  have hLJ := h.load (w := w) (k := j) hle
  have hbn : b < s.n := by omega
  have HH := Lib.hid h
  have HAT := Lib.hid hAT
  have HLD := Lib.hid hLD
  have HTU := Lib.hid hTU
  have HTN := Lib.hid hTN
  have HLJ := Lib.hid hLJ
  have HUL := Lib.hid hul
  have HV := Lib.hid hv
  have hk0 : k ≤ 65536 := by omega
  have hb0 : b ≤ 65536 := by omega
  generalize hB2 : ((2 * b : Nat) : Int) = B2 at *
  generalize m b = X at *
  generalize hY : m j = Y at *
  clear h hAT hLD hTU hTN hLJ hhd' hhd hu hul hv hj hk1 hB2
  go_enter Try.func96, Try.ntmps96
  go_wp2_with fail
  refine (HAT.out _).mono ?_; rintro e w ⟨rfl, rfl⟩
  go_wp2_with fail
  refine HLD.out.mono ?_; rintro e w ⟨rfl, rfl⟩
  go_wp2_with fail
  refine (HTU.out _).mono ?_; rintro e w ⟨rfl, rfl⟩
  go_wp2_with fail
  refine HLJ.out.mono ?_; rintro e w ⟨rfl, rfl⟩
  go_wp2_with fail
  refine (HH.out.store hle HV.out).mono ?_; rintro e w1 ⟨rfl, h1, t1⟩
  have HG1 := Lib.hid h1
  have HT1 := Lib.hid t1
  have c0' : w1.cell? ⟨c.g, 0, none⟩ = some (.pointer (some ⟨s.g, 0, none⟩)) := h1.c0
  have hg1 := h1.g_lt
  have HGD : Hid (GcIs w1.drew s c (M.upd m j v)) := h1.still (Turn.drew (Still.refl w1) : Still w1 w1.drew)
  have HST := Lib.hid (fun W (hW : GcIs W s c (M.upd m j v)) => hW.store (k := b) (v := u) hbn HUL.out)
  clear h1 t1 c0 hg hY
  go_wp2_with fail
  go_region_with (first
    | (go_at_call 95; (with_reducible refine (HTN.out _).mono ?_); rintro e w2 ⟨rfl, nd, rfl⟩)
    | (go_at_call 9; (with_reducible refine (HST.out _ (HG1.out.drewN _)).mono ?_); rintro e w3 ⟨rfl, h3, t3⟩; have HR := Lib.hid (And.intro h3 t3); clear h3 t3))
  all_goals (
    go_simp
    go_wp2_with fail
    go_ret
    refine ⟨rfl, u, HU.out, HR.out.1, ?_⟩
    exact HT1.out.trans (((Still.turn ((Still.refl w1).drewN _))).trans HR.out.2))
end Go.Proofs.Ythfkgkddklnnhaa
