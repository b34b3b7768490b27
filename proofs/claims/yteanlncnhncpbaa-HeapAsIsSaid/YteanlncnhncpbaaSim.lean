/- The heap's words and the document's list of objects: what they say of one another. Plain facts. -/
import Derived.Test.YteanlncnhncpbaaHeapByte
import Derived.Test.YteanlncnhncpbaaRefAlloc2
namespace Go.Proofs.Yteanlncnhncpbaa
set_option linter.unusedVariables false
open Go.ChangeShapes Go.WideShapes Go.ChangeAt Go.RowKit
open M (W)

/-- How many words an object takes. -/
def St.sz (s : St) (o : RO) : Nat := (s.need o.sh o.n).toNat
def Tile (s : St) : Nat → List RO → Prop
  | p, [] => p = s.top
  | p, o :: L => o.at_ = p ∧ Tile s (p + s.sz o) L
/-- The word number j of bytes. -/
def M.wordOf (bs : List Nat) (j : Nat) : Nat :=
  bs.getD (j * 8) 0 + 256 * (bs.getD (j * 8 + 1) 0 + 256 * (bs.getD (j * 8 + 2) 0 + 256 * (bs.getD (j * 8 + 3) 0 + 256 * (bs.getD (j * 8 + 4) 0 + 256 * (bs.getD (j * 8 + 5) 0 + 256 * (bs.getD (j * 8 + 6) 0 + 256 * bs.getD (j * 8 + 7) 0))))))
structure Good (s : St) (o : RO) : Prop where
  e : s.needE o.sh o.n = 0
  hd : s.ws o.at_ = (M.hd o.sh o.n 0 0).toNat
  f : s.kind o.sh ≠ 3 → o.bs = [] ∧ o.fs.length = o.n ∧ ∀ i, i < o.n → s.ws (o.at_ + 1 + i) = o.fs.getD i 0
  b : s.kind o.sh = 3 → o.fs = [] ∧ o.bs.length = o.n ∧ ∀ j, j < (o.n + 7) / 8 → s.ws (o.at_ + 1 + j) = M.wordOf o.bs j
  fl : ∀ v ∈ o.fs, v < 18446744073709551616
  bl : ∀ v ∈ o.bs, v < 256
structure Sim (s : St) (L : List RO) : Prop where
  tile : Tile s 0 L
  good : ∀ o ∈ L, Good s o
  heads : ∀ k : Int, s.is k = L.any fun p => decide ((p.at_ : Int) = k)
  zero : ∀ i, s.top ≤ i → s.ws i = 0

theorem Good.kd {s : St} {o : RO} (h : Good s o) : s.kind o.sh ≠ 0 ∧ o.n ≤ 65536 ∧ (o.sh : Int) < s.m ∧ s.need o.sh o.n = (if s.kind o.sh = 3 then 1 + ((o.n : Int) + 7) / 8 else 1 + o.n) := by
  have he := h.e
  have hk : s.kind o.sh ≠ 0 := by
    intro h0
    unfold St.needE M.needE at he
    rw [if_pos (.inl h0)] at he; omega
  have hm : (o.sh : Int) < s.m := by
    unfold St.kind at hk
    by_cases hc : 0 ≤ (o.sh : Int) ∧ (o.sh : Int) < s.m
    · exact hc.2
    · rw [if_neg hc] at hk; exact absurd rfl hk
  unfold St.needE at he
  unfold St.need
  generalize s.kind o.sh = K at *
  generalize s.len o.sh = N at *
  unfold M.needE at he
  unfold M.need
  by_cases c1 : K = 0 ∨ (o.n : Int) < 0 ∨ (K = 1 ∧ (o.n : Int) ≠ N)
  · rw [if_pos c1] at he; omega
  · rw [if_neg c1] at he ⊢
    by_cases c2 : 65536 < (o.n : Int)
    · rw [if_pos c2] at he; omega
    · rw [if_neg c2]
      exact ⟨hk, by omega, hm, rfl⟩
theorem Good.sz {s : St} {o : RO} (h : Good s o) : s.sz o = (if s.kind o.sh = 3 then 1 + (o.n + 7) / 8 else 1 + o.n) ∧ (s.need o.sh o.n) = (s.sz o : Int) ∧ 1 ≤ s.sz o := by
  have h4 := h.kd.2.2.2
  unfold St.sz
  rw [h4]
  split <;> omega
theorem Tile.get {s : St} : ∀ {L : List RO} {p k : Nat} {o : RO}, Tile s p L → L[k]? = some o → p ≤ o.at_ ∧ o.at_ + s.sz o ≤ s.top
  | [], _, _, _, _, h => by simp at h
  | a :: L, p, 0, o, h, hk => by
    obtain ⟨h1, h2⟩ := h
    simp at hk; subst hk
    have : ∀ (L : List RO) q, Tile s q L → q ≤ s.top := by
      intro L
      induction L with
      | nil => intro q h; exact Nat.le_of_eq h
      | cons b L ih => intro q h; have := ih _ h.2; omega
    have := this L _ h2
    omega
  | a :: L, p, k + 1, o, h, hk => by
    obtain ⟨h1, h2⟩ := h
    have := Tile.get h2 (k := k) (by simpa using hk)
    omega
theorem Tile.order {s : St} : ∀ {L : List RO} {p j k : Nat} {o q : RO}, Tile s p L → j < k → L[j]? = some o → L[k]? = some q → o.at_ + s.sz o ≤ q.at_
  | [], _, _, _, _, _, _, _, h, _ => by simp at h
  | a :: L, p, 0, k + 1, o, q, h, hjk, hj, hk => by
    obtain ⟨h1, h2⟩ := h
    simp at hj; subst hj
    have := Tile.get h2 (k := k) (by simpa using hk)
    omega
  | a :: L, p, j + 1, k + 1, o, q, h, hjk, hj, hk => Tile.order h.2 (by omega : j < k) (by simpa using hj) (by simpa using hk)
  | a :: L, p, _, 0, o, q, h, hjk, hj, hk => by omega
theorem Sim.apart {s : St} {L : List RO} (h : Sim s L) {j k : Nat} {p o : RO} (hj : L[j]? = some p) (hk : L[k]? = some o) (hjk : j ≠ k) : p.at_ + s.sz p ≤ o.at_ ∨ o.at_ + s.sz o ≤ p.at_ := by
  rcases Nat.lt_or_gt_of_ne hjk with h1 | h1
  · exact .inl (h.tile.order h1 hj hk)
  · exact .inr (h.tile.order h1 hk hj)
theorem Sim.uniq {s : St} {L : List RO} (h : Sim s L) {k : Nat} {o : RO} (hk : L[k]? = some o) : ∀ (j : Nat) p, j < k → L[j]? = some p → (p.at_ : Int) ≠ o.at_ := by
  intro j p hj hp e
  have h1 := h.tile.order hj hp hk
  have h2 := (h.good p (List.mem_of_getElem? hp)).sz.2.2
  omega
/-- An object of the list stands in the heap. -/
theorem Sim.obAt {s : St} {L : List RO} {w : World} (h : Sim s L) (hp : HpIs w s) {o : RO} (ho : o ∈ L) : ObAt s o.at_ ⟨o.sh, s.kind o.sh, o.n, s.need o.sh o.n⟩ := by
  obtain ⟨k, hk⟩ := List.mem_iff_getElem?.1 ho
  have hg := h.good o ho
  have ht := (h.tile.get hk).2
  obtain ⟨k0, k1, k2, k3⟩ := hg.kd
  obtain ⟨z1, z2, z3⟩ := hg.sz
  have hm := hp.m_le
  have htl := hp.top_le
  have hx : ((s.ws o.at_ : Nat) : Int) = M.hd o.sh o.n 0 0 := by rw [hg.hd]; exact Int.toNat_of_nonneg (M.hd_lo ..)
  have e1 : M.sh (s.ws o.at_ : Int) = o.sh := by unfold M.sh; rw [hx, M.hd_shape]; omega
  have e2 : M.ln (s.ws o.at_ : Int) = o.n := by unfold M.ln; rw [hx, M.hd_len]; omega
  have hob : s.ob (s.ws o.at_) = ⟨o.sh, s.kind o.sh, o.n, s.need o.sh o.n⟩ := by unfold St.ob; rw [e1, e2]
  refine ⟨?_, by omega, ?_, hob⟩
  · rw [h.heads, List.any_eq_true]
    exact ⟨o, ho, by simp⟩
  · unfold St.reads St.obE
    rw [hob, e1, e2, hg.e]
    simp only [decide_true, Bool.true_and, decide_eq_true_eq]
    rw [z2]; omega
theorem Sim.has {s : St} {x : Rf} (h : Sim s x.L) (k : Int) : x.has k = s.is k := by rw [h.heads]; rfl
theorem Tile.sum {s : St} {x : Rf} (hE : ∀ o ∈ x.L, x.need o = s.sz o) : ∀ (L : List RO) (p : Nat), (∀ o ∈ L, o ∈ x.L) → Tile s p L → (p : Int) + x.sum L = s.top
  | [], p, _, h => by rw [x.sum_nil, show p = s.top from h]; omega
  | o :: L, p, hL, h => by
    obtain ⟨h1, h2⟩ := h
    have := Tile.sum hE L _ (fun q hq => hL q (List.mem_cons_of_mem _ hq)) h2
    rw [x.sum_cons, hE o (hL o (List.mem_cons_self))]
    omega
end Go.Proofs.Yteanlncnhncpbaa
