/- What a set field, a set byte, a new object do to the two views of a heap. Plain facts. -/
import Derived.Test.YteanlncnhncpbaaSim
namespace Go.Proofs.Yteanlncnhncpbaa
set_option linter.unusedVariables false
open Go.ChangeShapes Go.WideShapes Go.ChangeAt Go.RowKit
open M (W)

theorem Tile.same {s s' : St} (ht : s'.top = s.top) (hz : ∀ o, s'.sz o = s.sz o) : ∀ {L : List RO} {p : Nat}, Tile s p L → Tile s' p L
  | [], p, h => (show p = s.top from h).trans ht.symm
  | o :: L, p, h => ⟨h.1, by rw [hz]; exact Tile.same ht hz h.2⟩
theorem Tile.set {s : St} {o o' : RO} (ha : o'.at_ = o.at_) (hz : s.sz o' = s.sz o) : ∀ {L : List RO} {p k : Nat}, Tile s p L → L[k]? = some o → Tile s p (L.set k o')
  | [], p, k, h, hk => by simp at hk
  | a :: L, p, 0, h, hk => by
    simp at hk; subst hk
    exact ⟨ha.trans h.1, by rw [hz]; exact h.2⟩
  | a :: L, p, k + 1, h, hk => ⟨h.1, Tile.set ha hz h.2 (by simpa using hk)⟩
theorem any_set {f : RO → Bool} {o o' : RO} (he : f o' = f o) : ∀ {L : List RO} {k : Nat}, L[k]? = some o → (L.set k o').any f = L.any f
  | [], k, h => by simp at h
  | a :: L, 0, h => by simp at h; subst h; simp [he]
  | a :: L, k + 1, h => by simp only [List.set_cons_succ, List.any_cons]; rw [any_set he (by simpa using h)]
theorem Good.keep {s s' : St} {o : RO} (h : Good s o) (hm : s'.m = s.m) (hk : s'.lk = s.lk) (hn : s'.ln = s.ln) (hw : ∀ i, o.at_ ≤ i → i < o.at_ + s.sz o → s'.ws i = s.ws i) : Good s' o := by
  have z := h.sz
  have ek : ∀ i, s'.kind i = s.kind i := fun i => by unfold St.kind; rw [hm, hk]
  have el : ∀ i, s'.len i = s.len i := fun i => by unfold St.len; rw [hm, hn]
  refine ⟨?_, ?_, fun hk3 => ?_, fun hk3 => ?_, h.fl, h.bl⟩
  · unfold St.needE; rw [ek, el]; exact h.e
  · rw [hw _ (Nat.le_refl _) (by omega)]; exact h.hd
  · rw [ek] at hk3
    obtain ⟨h1, h2, h3⟩ := h.f hk3
    rw [if_neg hk3] at z
    exact ⟨h1, h2, fun i hi => by rw [hw _ (by omega) (by omega)]; exact h3 i hi⟩
  · rw [ek] at hk3
    obtain ⟨h1, h2, h3⟩ := h.b hk3
    rw [if_pos hk3] at z
    exact ⟨h1, h2, fun i hi => by rw [hw _ (by omega) (by omega)]; exact h3 i hi⟩
theorem Sim.put {s : St} {L : List RO} (h : Sim s L) {k p v : Nat} {o o' : RO} (hk : L[k]? = some o) (h1 : o.at_ < p) (h2 : p < o.at_ + s.sz o) (ha : o'.at_ = o.at_) (hs : o'.sh = o.sh) (hn : o'.n = o.n) (hg : Good (s.put p v) o') : Sim (s.put p v) (L.set k o') := by
  have hz : s.sz o' = s.sz o := by unfold St.sz; rw [hs, hn]
  refine ⟨Tile.same (s := s) (s' := s.put p v) rfl (fun _ => rfl) (h.tile.set ha hz hk), ?_, ?_, ?_⟩
  · intro q hq
    rcases mem_set hq with rfl | ⟨j, hjk, hj⟩
    · exact hg
    · have hgq := h.good q (List.mem_of_getElem? hj)
      refine hgq.keep rfl rfl rfl fun i i1 i2 => ?_
      have := h.apart hj hk hjk
      show (if i = p then v else s.ws i) = s.ws i
      rw [if_neg (by omega)]
  · intro i
    rw [any_set (f := fun p => decide ((p.at_ : Int) = i)) (by simp [ha]) hk]
    exact h.heads i
  · intro i hi
    have := (h.tile.get hk).2
    show (if i = p then v else s.ws i) = 0
    rw [if_neg (by have : s.top ≤ i := hi; omega)]
    exact h.zero i hi
theorem getD_set (l : List Nat) (i j v : Nat) (hi : i < l.length) : (l.set i v).getD j 0 = if j = i then v else l.getD j 0 := by
  simp only [List.getD_eq_getElem?_getD, List.getElem?_set]
  by_cases e : i = j
  · subst e; simp [hi]
  · rw [if_neg e, if_neg (fun h => e h.symm)]
theorem Sim.setF {s : St} {L : List RO} (h : Sim s L) {k i v : Nat} {o : RO} (hk : L[k]? = some o) (hi : i < o.fs.length) (hv : v < 18446744073709551616) : Sim (s.put (o.at_ + 1 + i) v) (L.set k { o with fs := o.fs.set i v }) := by
  have hg := h.good o (List.mem_of_getElem? hk)
  have hk3 : s.kind o.sh ≠ 3 := fun e => by have := (hg.b e).1; rw [this] at hi; simp at hi
  obtain ⟨f1, f2, f3⟩ := hg.f hk3
  have z := hg.sz
  rw [if_neg hk3] at z
  refine h.put hk (by omega) (by omega) rfl rfl rfl ⟨hg.e, ?_, fun _ => ⟨f1, by simpa using f2, fun j hj => ?_⟩, fun e => absurd e hk3, ?_, hg.bl⟩
  · show (if o.at_ = o.at_ + 1 + i then v else s.ws o.at_) = _
    rw [if_neg (by omega)]; exact hg.hd
  · show (if o.at_ + 1 + j = o.at_ + 1 + i then v else s.ws (o.at_ + 1 + j)) = (o.fs.set i v).getD j 0
    rw [getD_set _ _ _ _ hi]
    by_cases e : j = i
    · rw [if_pos (by omega), if_pos e]
    · rw [if_neg (by omega), if_neg e]; exact f3 j hj
  · intro u hu
    rcases List.mem_or_eq_of_mem_set hu with h1 | h1
    · exact hg.fl u h1
    · rw [h1]; exact hv
theorem setByte_word (b0 b1 b2 b3 b4 b5 b6 b7 : Nat) (h0 : b0 < 256) (h1 : b1 < 256) (h2 : b2 < 256) (h3 : b3 < 256) (h4 : b4 < 256) (h5 : b5 < 256) (h6 : b6 < 256) (h7 : b7 < 256) (c : Nat) (hc : c < 256) (t : Nat) (ht : t < 8) :
    M.setByteOf (b0 + 256 * (b1 + 256 * (b2 + 256 * (b3 + 256 * (b4 + 256 * (b5 + 256 * (b6 + 256 * b7))))))) t c =
      (if t = 0 then c else b0) + 256 * ((if t = 1 then c else b1) + 256 * ((if t = 2 then c else b2) + 256 * ((if t = 3 then c else b3) + 256 * ((if t = 4 then c else b4) + 256 * ((if t = 5 then c else b5) + 256 * ((if t = 6 then c else b6) + 256 * (if t = 7 then c else b7))))))) := by
  unfold M.setByteOf
  obtain rfl | rfl | rfl | rfl | rfl | rfl | rfl | rfl : t = 0 ∨ t = 1 ∨ t = 2 ∨ t = 3 ∨ t = 4 ∨ t = 5 ∨ t = 6 ∨ t = 7 := by omega
  all_goals simp only [Nat.reduceMul, Nat.reducePow, Nat.zero_mul, Nat.pow_zero, Nat.reduceEqDiff, if_true, if_false]; omega
theorem byte_word (b0 b1 b2 b3 b4 b5 b6 b7 : Nat) (h0 : b0 < 256) (h1 : b1 < 256) (h2 : b2 < 256) (h3 : b3 < 256) (h4 : b4 < 256) (h5 : b5 < 256) (h6 : b6 < 256) (h7 : b7 < 256) (t : Nat) (ht : t < 8) :
    M.byteOf (b0 + 256 * (b1 + 256 * (b2 + 256 * (b3 + 256 * (b4 + 256 * (b5 + 256 * (b6 + 256 * b7))))))) t =
      if t = 0 then b0 else if t = 1 then b1 else if t = 2 then b2 else if t = 3 then b3 else if t = 4 then b4 else if t = 5 then b5 else if t = 6 then b6 else b7 := by
  unfold M.byteOf
  obtain rfl | rfl | rfl | rfl | rfl | rfl | rfl | rfl : t = 0 ∨ t = 1 ∨ t = 2 ∨ t = 3 ∨ t = 4 ∨ t = 5 ∨ t = 6 ∨ t = 7 := by omega
  all_goals simp only [Nat.reduceMul, Nat.reducePow, Nat.zero_mul, Nat.pow_zero, Nat.reduceEqDiff, if_true, if_false]; omega
theorem getD_lt {bs : List Nat} (h : ∀ v ∈ bs, v < 256) (i : Nat) : bs.getD i 0 < 256 := by
  rw [List.getD_eq_getElem?_getD]
  cases hb : bs[i]? with
  | none => simp
  | some v => exact h v (List.mem_of_getElem? hb)
theorem wordOf_set (bs : List Nat) (hb : ∀ v ∈ bs, v < 256) (i c j : Nat) (hi : i < bs.length) (hc : c < 256) : M.wordOf (bs.set i c) j = if j = i / 8 then M.setByteOf (M.wordOf bs j) (i % 8) c else M.wordOf bs j := by
  have hl := fun t => getD_lt hb t
  unfold M.wordOf
  by_cases e : j = i / 8
  · rw [if_pos e, setByte_word _ _ _ _ _ _ _ _ (hl _) (hl _) (hl _) (hl _) (hl _) (hl _) (hl _) (hl _) c hc (i % 8) (by omega)]
    simp only [getD_set _ _ _ _ hi]
    have q : ∀ t, t < 8 → ((j * 8 + t = i) ↔ (i % 8 = t)) := fun t ht => by omega
    have q0 : (j * 8 = i) ↔ (i % 8 = 0) := by omega
    simp only [q 1 (by decide), q 2 (by decide), q 3 (by decide), q 4 (by decide), q 5 (by decide), q 6 (by decide), q 7 (by decide), q0]
  · rw [if_neg e]
    simp only [getD_set _ _ _ _ hi]
    rw [if_neg (by omega), if_neg (by omega), if_neg (by omega), if_neg (by omega), if_neg (by omega), if_neg (by omega), if_neg (by omega), if_neg (by omega)]
theorem Sim.setB {s : St} {L : List RO} (h : Sim s L) {k i c : Nat} {o : RO} (hk : L[k]? = some o) (hi : i < o.bs.length) (hc : c < 256) : Sim (s.put (o.at_ + 1 + i / 8) (M.setByteOf (s.ws (o.at_ + 1 + i / 8)) (i % 8) c)) (L.set k { o with bs := o.bs.set i c }) := by
  have hg := h.good o (List.mem_of_getElem? hk)
  have hk3 : s.kind o.sh = 3 := by
    rcases Decidable.em (s.kind o.sh = 3) with e | e
    · exact e
    · have := (hg.f e).1; rw [this] at hi; simp at hi
  obtain ⟨f1, f2, f3⟩ := hg.b hk3
  have z := hg.sz
  rw [if_pos hk3] at z
  refine h.put hk (by omega) (by omega) rfl rfl rfl ⟨hg.e, ?_, fun e => absurd hk3 e, fun _ => ⟨f1, by simpa using f2, fun j hj => ?_⟩, hg.fl, ?_⟩
  · show (if o.at_ = o.at_ + 1 + i / 8 then _ else s.ws o.at_) = _
    rw [if_neg (by omega)]; exact hg.hd
  · have hj' : j < (o.n + 7) / 8 := hj
    show (if o.at_ + 1 + j = o.at_ + 1 + i / 8 then _ else s.ws (o.at_ + 1 + j)) = M.wordOf (o.bs.set i c) j
    rw [wordOf_set _ hg.bl _ _ _ hi hc]
    by_cases e : j = i / 8
    · rw [if_pos (by omega), if_pos e, ← e, f3 j hj']
    · rw [if_neg (by omega), if_neg e]; exact f3 j hj'
  · intro u hu
    rcases List.mem_or_eq_of_mem_set hu with h1 | h1
    · exact hg.bl u h1
    · rw [h1]; exact hc
theorem Tile.snoc {s s' : St} {o : RO} (hz : ∀ o, s'.sz o = s.sz o) (ht : s'.top = s.top + s.sz o) (ha : o.at_ = s.top) : ∀ {L : List RO} {p : Nat}, Tile s p L → Tile s' p (L ++ [o])
  | [], p, h => ⟨ha.trans (show p = s.top from h).symm, by show p + s'.sz o = s'.top; rw [hz, ht, show p = s.top from h]⟩
  | a :: L, p, h => ⟨h.1, by rw [hz]; exact Tile.snoc hz ht ha h.2⟩
theorem Sim.more {s : St} {L : List RO} (h : Sim s L) {D x z : Nat} {o : RO} (ha : o.at_ = s.top) (hD : D = s.sz o) (hg : Good (s.more D x z) o) (ht : s.top < 65536) : Sim (s.more D x z) (L ++ [o]) := by
  subst hD
  refine ⟨Tile.snoc (s := s) (s' := s.more (s.sz o) x z) (fun _ => rfl) rfl ha h.tile, ?_, ?_, ?_⟩
  · intro q hq
    rcases List.mem_append.1 hq with hq | hq
    · obtain ⟨k, hk⟩ := List.mem_iff_getElem?.1 hq
      have := (h.tile.get hk).2
      refine (h.good q hq).keep rfl rfl rfl fun i i1 i2 => ?_
      show (if i = s.top then x else if s.top < i ∧ i < s.top + s.sz o then z else s.ws i) = s.ws i
      rw [if_neg (by omega), if_neg (by omega)]
    · obtain rfl : q = o := by simpa using hq
      exact hg
  · intro k
    rw [List.any_append]
    show M.inSet (M.putIn s.hx s.top) k = _
    rw [M.putIn_in _ _ ht, ← h.heads k]
    simp only [List.any_cons, List.any_nil, Bool.or_false]
    rw [Bool.or_comm, ha]
    have : decide (k = (s.top : Int)) = decide ((s.top : Int) = k) := by rw [decide_eq_decide]; exact eq_comm
    rw [this]; rfl
  · intro i hi
    have hi' : s.top + s.sz o ≤ i := hi
    show (if i = s.top then x else if s.top < i ∧ i < s.top + s.sz o then z else s.ws i) = 0
    have z1 := hg.sz.2.2
    have z2 : (s.more (s.sz o) x z).sz o = s.sz o := rfl
    rw [z2] at z1
    rw [if_neg (by omega), if_neg (by omega)]
    exact h.zero i (by omega)
end Go.Proofs.Yteanlncnhncpbaa
