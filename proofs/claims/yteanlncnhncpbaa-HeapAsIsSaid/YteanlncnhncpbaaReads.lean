/- Which words Close takes: those that are a list of objects. Plain facts. -/
import Derived.Test.YteanlncnhncpbaaClose
namespace Go.Proofs.Yteanlncnhncpbaa
set_option linter.unusedVariables false
open M (W)

def TileTo (s : St) (top : Nat) : Nat → List RO → Prop
  | p, [] => p = top
  | p, o :: L => o.at_ = p ∧ TileTo s top (p + s.sz o) L
theorem TileTo.tile {s : St} : ∀ {L : List RO} {p : Nat}, TileTo s s.top p L → Tile s p L
  | [], p, h => h
  | o :: L, p, h => ⟨h.1, TileTo.tile h.2⟩
theorem Tile.to {s : St} : ∀ {L : List RO} {p : Nat}, Tile s p L → TileTo s s.top p L
  | [], p, h => h
  | o :: L, p, h => ⟨h.1, Tile.to h.2⟩
theorem TileTo.le {s : St} {top : Nat} : ∀ {L : List RO} {p : Nat}, TileTo s top p L → p ≤ top
  | [], p, h => Nat.le_of_eq h
  | o :: L, p, h => by have := TileTo.le h.2; omega
theorem TileTo.into {s s' : St} {top : Nat} (hz : ∀ o, s'.sz o = s.sz o) (ht : s'.top = top) : ∀ {L : List RO} {p : Nat}, TileTo s top p L → Tile s' p L
  | [], p, h => (show p = top from h).trans ht.symm
  | o :: L, p, h => ⟨h.1, by rw [hz]; exact TileTo.into hz ht h.2⟩
/-- The words of s up to top are the objects L. -/
structure LaidAs (s : St) (top : Nat) (L : List RO) : Prop where
  tile : TileTo s top 0 L
  good : ∀ o ∈ L, Good s o
  fit : ∀ o ∈ L, ∀ v ∈ o.fs, v % 2 = 1 ∨ ∃ p ∈ L, p.at_ = v / 2

theorem Good.ob {s : St} {o : RO} (h : Good s o) (hm : s.m ≤ 512) : s.ob (s.ws o.at_) = ⟨o.sh, s.kind o.sh, o.n, s.need o.sh o.n⟩ ∧ M.sh (s.ws o.at_ : Int) = o.sh ∧ M.ln (s.ws o.at_ : Int) = o.n := by
  obtain ⟨k0, k1, k2, k3⟩ := h.kd
  have hx : ((s.ws o.at_ : Nat) : Int) = M.hd o.sh o.n 0 0 := by rw [h.hd]; exact Int.toNat_of_nonneg (M.hd_lo ..)
  have e1 : M.sh (s.ws o.at_ : Int) = o.sh := by unfold M.sh; rw [hx, M.hd_shape]; omega
  have e2 : M.ln (s.ws o.at_ : Int) = o.n := by unfold M.ln; rw [hx, M.hd_len]; omega
  exact ⟨by unfold St.ob; rw [e1, e2], e1, e2⟩
theorem Good.reads {s : St} {o : RO} (h : Good s o) (hm : s.m ≤ 512) {top : Nat} (ht : o.at_ + s.sz o ≤ top) : s.reads o.at_ top = true ∧ s.nd o.at_ = s.sz o ∧ s.headB o.at_ = true := by
  obtain ⟨hob, e1, e2⟩ := h.ob hm
  obtain ⟨z1, z2, z3⟩ := h.sz
  have hx : ((s.ws o.at_ : Nat) : Int) = M.hd o.sh o.n 0 0 := by rw [h.hd]; exact Int.toNat_of_nonneg (M.hd_lo ..)
  refine ⟨?_, ?_, ?_⟩
  · unfold St.reads St.obE
    rw [hob, e1, e2, h.e]
    simp only [decide_true, Bool.true_and, decide_eq_true_eq]
    rw [z2]; omega
  · unfold St.nd; rw [hob]; rfl
  · unfold St.headB
    rw [decide_eq_true_eq, e1, e2, hx]
theorem chain_of {s : St} {top : Nat} (hm : s.m ≤ 512) {good : Nat → Bool} : ∀ {L : List RO} {p q : Nat}, TileTo s q p L → (∀ o ∈ L, Good s o) → (∀ o ∈ L, good o.at_ = true) → q ≤ top → ChainTo s top good p q (L.map RO.at_)
  | [], p, q, h, _, _, _ => h
  | o :: L, p, q, h, hg, hd, hq => by
    obtain ⟨h1, h2⟩ := h
    have hgo := hg o (List.mem_cons_self)
    have hle := h2.le
    subst h1
    obtain ⟨r1, r2, r3⟩ := hgo.reads hm (top := top) (by omega)
    have z := hgo.sz.2.2
    refine ⟨rfl, by omega, r1, hd o (List.mem_cons_self), ?_⟩
    rw [r2]
    exact chain_of hm h2 (fun o ho => hg o (List.mem_cons_of_mem _ ho)) (fun o ho => hd o (List.mem_cons_of_mem _ ho)) hq
theorem wordOf_small (bs : List Nat) (hb : ∀ v ∈ bs, v < 256) (j t : Nat) (ht : t < 8) (h0 : ∀ i, j * 8 + t ≤ i → bs.getD i 0 = 0) : M.wordOf bs j < 256 ^ t := by
  have hl := fun i => getD_lt hb i
  unfold M.wordOf
  have l0 := hl (j * 8); have l1 := hl (j * 8 + 1); have l2 := hl (j * 8 + 2); have l3 := hl (j * 8 + 3); have l4 := hl (j * 8 + 4); have l5 := hl (j * 8 + 5); have l6 := hl (j * 8 + 6); have l7 := hl (j * 8 + 7)
  obtain rfl | rfl | rfl | rfl | rfl | rfl | rfl | rfl : t = 0 ∨ t = 1 ∨ t = 2 ∨ t = 3 ∨ t = 4 ∨ t = 5 ∨ t = 6 ∨ t = 7 := by omega
  · rw [h0 (j * 8) (by omega), h0 (j * 8 + 1) (by omega), h0 (j * 8 + 2) (by omega), h0 (j * 8 + 3) (by omega), h0 (j * 8 + 4) (by omega), h0 (j * 8 + 5) (by omega), h0 (j * 8 + 6) (by omega), h0 (j * 8 + 7) (by omega)]; decide
  · rw [h0 (j * 8 + 1) (by omega), h0 (j * 8 + 2) (by omega), h0 (j * 8 + 3) (by omega), h0 (j * 8 + 4) (by omega), h0 (j * 8 + 5) (by omega), h0 (j * 8 + 6) (by omega), h0 (j * 8 + 7) (by omega)]; simp only [Nat.reducePow]; omega
  · rw [h0 (j * 8 + 2) (by omega), h0 (j * 8 + 3) (by omega), h0 (j * 8 + 4) (by omega), h0 (j * 8 + 5) (by omega), h0 (j * 8 + 6) (by omega), h0 (j * 8 + 7) (by omega)]; simp only [Nat.reducePow]; omega
  · rw [h0 (j * 8 + 3) (by omega), h0 (j * 8 + 4) (by omega), h0 (j * 8 + 5) (by omega), h0 (j * 8 + 6) (by omega), h0 (j * 8 + 7) (by omega)]; simp only [Nat.reducePow]; omega
  · rw [h0 (j * 8 + 4) (by omega), h0 (j * 8 + 5) (by omega), h0 (j * 8 + 6) (by omega), h0 (j * 8 + 7) (by omega)]; simp only [Nat.reducePow]; omega
  · rw [h0 (j * 8 + 5) (by omega), h0 (j * 8 + 6) (by omega), h0 (j * 8 + 7) (by omega)]; simp only [Nat.reducePow]; omega
  · rw [h0 (j * 8 + 6) (by omega), h0 (j * 8 + 7) (by omega)]; simp only [Nat.reducePow]; omega
  · rw [h0 (j * 8 + 7) (by omega)]; simp only [Nat.reducePow]; omega
theorem Good.fill {s : St} {o : RO} (h : Good s o) (hm : s.m ≤ 512) (x : Nat → Nat) (hf : ∀ v ∈ o.fs, M.fits x v = true) : s.fillB x o.at_ = true := by
  obtain ⟨hob, e1, e2⟩ := h.ob hm
  obtain ⟨r1, r2, r3⟩ := h.reads hm (Nat.le_refl _)
  unfold St.fillB St.holds
  rw [hob, r2]
  obtain ⟨z1, z2, z3⟩ := h.sz
  show (if s.kind o.sh = 3 then decide ((o.n : Int) % 8 = 0) || decide ((s.ws (o.at_ + s.sz o - 1) : Int) / 2 ^ ((o.n : Int) % 8 * 8).toNat = 0) else (List.range (s.sz o - 1)).all fun i => M.fits x (s.ws (o.at_ + 1 + i))) = true
  by_cases hk : s.kind o.sh = 3
  · rw [if_pos hk] at z1 ⊢
    obtain ⟨f1, f2, f3⟩ := h.b hk
    by_cases h8 : o.n % 8 = 0
    · rw [decide_eq_true (show (o.n : Int) % 8 = 0 by omega), Bool.true_or]
    · rw [Bool.or_eq_true, decide_eq_true_eq, decide_eq_true_eq]
      right
      have hj := f3 (o.n / 8) (by omega)
      rw [show o.at_ + s.sz o - 1 = o.at_ + 1 + o.n / 8 by omega, hj]
      have hsm := wordOf_small o.bs h.bl (o.n / 8) (o.n % 8) (by omega) (fun i hi => by
        rw [List.getD_eq_getElem?_getD, List.getElem?_eq_none (by omega)]; rfl)
      have e : ((o.n : Int) % 8 * 8).toNat = o.n % 8 * 8 := by omega
      rw [e]
      have e3 : (2 : Int) ^ (o.n % 8 * 8) = ((256 ^ (o.n % 8) : Nat) : Int) := by
        have e4 : (256 : Nat) ^ (o.n % 8) = 2 ^ (o.n % 8 * 8) := by rw [Nat.mul_comm, Nat.pow_mul]
        rw [e4, Int.natCast_pow]; rfl
      rw [e3]
      have : M.wordOf o.bs (o.n / 8) / 256 ^ (o.n % 8) = 0 := Nat.div_eq_of_lt hsm
      omega
  · rw [if_neg hk] at z1 ⊢
    obtain ⟨f1, f2, f3⟩ := h.f hk
    refine List.all_eq_true.2 fun i hi => ?_
    have hi' := List.mem_range.1 hi
    rw [f3 i (by omega)]
    refine hf _ ?_
    rw [List.getD_eq_getElem?_getD, List.getElem?_eq_getElem (show i < o.fs.length by omega)]
    exact List.getElem_mem _
/-- What is laid is taken, and read as what it is. -/
theorem LaidAs.closes {s : St} {top : Nat} {L : List RO} (h : LaidAs s top L) (hm : s.m ≤ 512) (htop : top ≤ 65536) : s.closes top (L.map RO.at_) ∧ Sim (s.closed top (L.map RO.at_)) L := by
  have hgr : ∀ o ∈ L, o.at_ < 65536 ∧ o.at_ + s.sz o ≤ top := by
    have : ∀ (L : List RO) p, TileTo s top p L → (∀ o ∈ L, Good s o) → ∀ o ∈ L, o.at_ + s.sz o ≤ top := by
      intro L
      induction L with
      | nil => intro p _ _ o ho; simp at ho
      | cons a L ih =>
        intro p ht hg o ho
        rcases List.mem_cons.1 ho with rfl | ho
        · have := ht.2.le; have := ht.1; omega
        · exact ih _ ht.2 (fun o ho => hg o (List.mem_cons_of_mem _ ho)) o ho
    intro o ho
    have h1 := this L 0 h.tile h.good o ho
    have h2 := (h.good o ho).sz.2.2
    exact ⟨by omega, h1⟩
  have hset := putAll_in (L.map RO.at_) (fun q hq => by obtain ⟨o, ho, rfl⟩ := List.mem_map.1 hq; exact (hgr o ho).1)
  have hfit : ∀ o ∈ L, ∀ v ∈ o.fs, M.fits (M.putAll (L.map RO.at_)) v = true := fun o ho v hv => by
    unfold M.fits
    rcases h.fit o ho v hv with e | ⟨p, hp, e⟩
    · rw [show ((v : Int) % 2 == 1) = true from beq_iff_eq.2 (by omega), Bool.true_or]
    · rw [hset, Bool.or_eq_true]
      right
      rw [List.any_eq_true]
      exact ⟨p.at_, List.mem_map_of_mem hp, by rw [decide_eq_true_eq]; omega⟩
  refine ⟨⟨chain_of hm h.tile h.good (fun o ho => ((h.good o ho).reads hm (Nat.le_refl _)).2.2) (Nat.le_refl _), chain_of hm h.tile h.good (fun o ho => (h.good o ho).fill hm _ (hfit o ho)) (Nat.le_refl _)⟩, ?_, ?_, ?_, ?_⟩
  · exact TileTo.into (s := s) (s' := s.closed top (L.map RO.at_)) (fun _ => rfl) rfl h.tile
  · intro o ho
    refine (h.good o ho).keep rfl rfl rfl fun i i1 i2 => ?_
    show (if i < top then s.ws i else 0) = s.ws i
    rw [if_pos (by have := (hgr o ho).2; omega)]
  · intro k
    show M.inSet (M.putAll (L.map RO.at_)) k = _
    rw [hset, List.any_map]
    congr 1
    funext p
    show decide (k = (p.at_ : Int)) = decide ((p.at_ : Int) = k)
    rw [decide_eq_decide]; exact eq_comm
  · intro i hi
    show (if i < top then s.ws i else 0) = 0
    rw [if_neg (by have : top ≤ i := hi; omega)]
end Go.Proofs.Yteanlncnhncpbaa
