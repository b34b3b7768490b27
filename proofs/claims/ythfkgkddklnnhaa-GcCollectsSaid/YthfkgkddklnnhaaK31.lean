/- Lemmas, put together: Append3 ColN. -/
import Derived.Test.YthfkgkddklnnhaaK08
import Derived.Test.YthfkgkddklnnhaaK29
import Derived.Test.YthfkgkddklnnhaaK20
/- append of one row onto another in a region that draws; a row of none. No program in sight. -/
namespace Go.Proofs.Ythfkgkddklnnhaa
set_option linter.unusedVariables false
open Go.RowKit
variable {P : Program}

theorem own_empty {w : World} {g base : Nat} {e : TypeId} {size : Nat} (h : Blk w g e #[]) (hb : base ≤ g) : w.ownsRow base e size (.slice (some ⟨g, 0, none⟩) 0 0) 0 [] :=
  ⟨by simp, .inr ⟨g, 0, #[], rfl, hb, h, Nat.le_refl _, Nat.zero_le _, by simp, by simp⟩⟩
theorem step_append_row {w : World} {ops : Array Oper} {o : Oper} {act : Act} {K : Act → World → Prop} {Q : Exit → Act → World → Prop} {E : Prop} (hgd : o.guard = none) (s x : Operand) (t : TypeId)
    (ho : o.op = .call { callee := .builtin .append, args := #[s, x], argTypes := #[t, t] })
    (base : Nat) (e : TypeId) (size bytes : Nat) (z : Value) (ht : P.underlying t = some (.slice e)) (hi : (P.info? e).map (fun i => (i.zero, i.size, i.bytes)) = some (some z, size, bytes))
    (hzs : z.cells.size = size) (hsz : 0 < size) (a : Option Addr) (n c : Nat) (xs : List Value) (hs : act.eval s = .slice a n c) (hown : w.ownsRow base e size (.slice a n c) n xs)
    (base' : Nat) (ad : Option Addr) (m c' : Nat) (news : List Value) (hx : act.eval x = .slice ad m c') (hsrc : w.ownsRow base' e size (.slice ad m c') m news) (h1 : ∀ u ∈ news, u.oneCell' = true)
    (h63 : n + m ≤ maxLen) (hbytes : (n + m) * bytes ≤ 140737488355328) (hbase : base ≤ w.heap.size)
    (h : ∀ a' cap w', Hid (w'.ownsRow base e size (.slice a' (n + m) cap) (n + m) (xs ++ news)) → Hid (Turn (fun k => (Value.slice a n c).ownBlock = some k) w w') →
      K (act.put o.dst (.slice a' (n + m) cap)) w') : if Region.wanted o (yielded ops act.tmps) = true then Oper.wp P o act w K Q else E := by
  have hw : Region.wanted o (yielded ops act.tmps) = true := by simp [Region.wanted, hgd]
  rw [if_pos hw]
  obtain ⟨a', cap, w', hrun, h2, h3, h4⟩ := run_append_row (P := P) w base t o.type e size bytes z ht hi hzs hsz a n c xs hown base' ad m c' news hsrc h1 h63 hbytes hbase
  unfold Oper.wp
  simp [execOp, ho, resolve, invoke, builtin, hs, hx, hrun, Result.andThen]
  exact h a' cap w' h2 h3
end Go.Proofs.Ythfkgkddklnnhaa
/- Objects but for where their slices lie. Plain facts. -/
namespace Go.Proofs.Ythfkgkddklnnhaa
set_option linter.unusedVariables false
open M (W)

/-- What an object is, wherever its slices lie. -/
def RO.core (o : RO) : Nat × Nat × Nat × List Nat × List Nat := (o.at_, o.sh, o.n, o.fs, o.bs)
theorem core_eq {o p : RO} (h : o.core = p.core) : o.at_ = p.at_ ∧ o.sh = p.sh ∧ o.n = p.n ∧ o.fs = p.fs ∧ o.bs = p.bs := by
  unfold RO.core at h
  simp only [Prod.mk.injEq] at h
  exact h
theorem sz_core {s : St} {o p : RO} (h : o.core = p.core) : s.sz o = s.sz p := by
  obtain ⟨_, h2, h3, _⟩ := core_eq h
  unfold St.sz
  rw [h2, h3]
theorem Good.core {s : St} {o p : RO} (h : Good s o) (e : p.core = o.core) : Good s p := by
  obtain ⟨h1, h2, h3, h4, h5⟩ := core_eq e
  refine ⟨by rw [h2, h3]; exact h.e, by rw [h1, h2, h3]; exact h.hd, fun hk => ?_, fun hk => ?_, by rw [h4]; exact h.fl, by rw [h5]; exact h.bl⟩
  · rw [h2] at hk
    rw [h1, h3, h4, h5]; exact h.f hk
  · rw [h2] at hk
    rw [h1, h3, h4, h5]; exact h.b hk
theorem tile_core {s : St} : ∀ {L M : List RO} {p : Nat}, Tile s p L → M.map RO.core = L.map RO.core → Tile s p M
  | [], [], p, h, _ => h
  | [], b :: M, p, h, e => by simp at e
  | a :: L, [], p, h, e => by simp at e
  | a :: L, b :: M, p, h, e => by
    rw [List.map_cons, List.map_cons, List.cons.injEq] at e
    refine ⟨(core_eq e.1).1.trans h.1, ?_⟩
    rw [sz_core e.1]
    exact tile_core h.2 e.2
theorem mem_core {L M : List RO} (e : M.map RO.core = L.map RO.core) {o : RO} (ho : o ∈ M) : ∃ p ∈ L, p.core = o.core := by
  have : o.core ∈ L.map RO.core := by rw [← e]; exact List.mem_map_of_mem ho
  obtain ⟨p, hp, e2⟩ := List.mem_map.1 this
  exact ⟨p, hp, e2⟩
theorem Sim.core {s : St} {L M : List RO} (h : Sim s L) (e : M.map RO.core = L.map RO.core) : Sim s M := by
  refine ⟨tile_core h.tile e, fun o ho => ?_, fun k => ?_, h.zero⟩
  · obtain ⟨p, hp, e2⟩ := mem_core e ho
    exact (h.good p hp).core e2.symm
  · rw [h.heads]
    have e1 : ∀ K : List RO, K.any (fun p => decide ((p.at_ : Int) = k)) = (K.map RO.core).any fun c => decide ((c.1 : Int) = k) := fun K => by
      rw [List.any_map]; rfl
    rw [e1 L, e1 M, e]
/-- An object that is kept, its fields as they were. -/
def RO.kept (t : Nat → Nat) (o : RO) : RO := { o with at_ := t o.at_ }
def M.keptL (mk : Nat → Bool) (t : Nat → Nat) (L : List RO) : List RO := (L.filter fun o => mk o.at_).map (RO.kept t)
theorem keptL_snoc (mk : Nat → Bool) (t : Nat → Nat) (L : List RO) (o : RO) : M.keptL mk t (L ++ [o]) = M.keptL mk t L ++ if mk o.at_ = true then [o.kept t] else [] := by
  unfold M.keptL
  rw [List.filter_append, List.map_append]
  congr 1
  by_cases h : mk o.at_ = true
  · rw [if_pos h, List.filter_cons, if_pos h]; rfl
  · rw [if_neg h, List.filter_cons, if_neg h]; rfl
theorem slid_kept (mk : Nat → Bool) (t : Nat → Nat) (L : List RO) : M.slid mk t L = (M.keptL mk t L).map fun o => { o with fs := o.fs.map (M.ren t) } := by
  unfold M.slid M.keptL
  rw [List.map_map]; rfl
theorem take_snocR {L : List RO} {j : Nat} {o : RO} (h : L[j]? = some o) : L.take (j + 1) = L.take j ++ [o] := take_snoc' L j o h
/-- Fields of which the first k are renamed. -/
def M.renTo (t : Nat → Nat) (k : Nat) (l : List Nat) : List Nat := (l.take k).map (M.ren t) ++ l.drop k
theorem renTo_len (t : Nat → Nat) (k : Nat) (l : List Nat) : (M.renTo t k l).length = l.length := by unfold M.renTo; simp; omega
theorem renTo_zero (t : Nat → Nat) (l : List Nat) : M.renTo t 0 l = l := by unfold M.renTo; simp
theorem renTo_all (t : Nat → Nat) (l : List Nat) : M.renTo t l.length l = l.map (M.ren t) := by unfold M.renTo; simp
theorem renTo_get (t : Nat → Nat) (k : Nat) (l : List Nat) (h : k < l.length) : (M.renTo t k l)[k]? = some l[k] := by
  unfold M.renTo
  rw [List.getElem?_append_right (by simp; omega)]
  simp [List.length_take, Nat.min_eq_left (Nat.le_of_lt h), List.getElem?_eq_getElem h]
theorem renTo_set (t : Nat → Nat) (k : Nat) (l : List Nat) (h : k < l.length) : (M.renTo t k l).set k (M.ren t l[k]) = M.renTo t (k + 1) l := by
  unfold M.renTo
  rw [List.take_succ_eq_append_getElem h, List.map_append, List.append_assoc]
  rw [List.set_append_right _ _ (by simp; omega)]
  congr 1
  rw [List.length_map, List.length_take, Nat.min_eq_left (Nat.le_of_lt h), Nat.sub_self, List.drop_eq_getElem_cons h]
  rfl
theorem renTo_same (t : Nat → Nat) (k : Nat) (l : List Nat) (h : k < l.length) (e : M.ren t l[k] = l[k]) : M.renTo t (k + 1) l = M.renTo t k l := by
  rw [← renTo_set t k l h, e]
  apply List.ext_getElem?
  intro i
  by_cases hi : i = k
  · subst hi
    rw [List.getElem?_set_self (by rw [renTo_len]; exact h), renTo_get t i l h]
  · rw [List.getElem?_set_ne (fun e => hi e.symm)]
/-- The list when the first i objects are renamed, and of the next the first k fields. -/
def M.stage (t : Nat → Nat) (K : List RO) (i k : Nat) : List RO := K.mapIdx fun j o => { o with fs := if j < i then o.fs.map (M.ren t) else if j = i then M.renTo t k o.fs else o.fs }
theorem stage_len (t : Nat → Nat) (K : List RO) (i k : Nat) : (M.stage t K i k).length = K.length := by unfold M.stage; simp
theorem stage_at (t : Nat → Nat) (K : List RO) (i k j : Nat) : (M.stage t K i k)[j]? = K[j]?.map fun o => { o with fs := if j < i then o.fs.map (M.ren t) else if j = i then M.renTo t k o.fs else o.fs } := by unfold M.stage; simp
theorem stage_zero (t : Nat → Nat) (K : List RO) : M.stage t K 0 0 = K := by
  apply List.ext_getElem?
  intro j
  rw [stage_at]
  cases K[j]? with
  | none => rfl
  | some o =>
    simp only [Option.map_some, Option.some.injEq]
    by_cases h : j = 0
    · subst h; rw [if_neg (Nat.lt_irrefl _), if_pos rfl, renTo_zero]
    · rw [if_neg (by omega), if_neg h]
theorem stage_next (t : Nat → Nat) (K : List RO) (i : Nat) (o : RO) (h : K[i]? = some o) : M.stage t K i o.fs.length = M.stage t K (i + 1) 0 := by
  apply List.ext_getElem?
  intro j
  rw [stage_at, stage_at]
  cases hj : K[j]? with
  | none => rfl
  | some q =>
    simp only [Option.map_some, Option.some.injEq]
    by_cases e : j = i
    · subst e
      rw [h] at hj
      injection hj with hj
      subst hj
      rw [if_neg (Nat.lt_irrefl _), if_pos rfl, if_pos (by omega), renTo_all]
    · by_cases e2 : j < i
      · rw [if_pos e2, if_pos (by omega)]
      · rw [if_neg e2, if_neg e, if_neg (by omega)]
        by_cases e3 : j = i + 1
        · rw [if_pos e3, renTo_zero]
        · rw [if_neg e3]
theorem stage_all (t : Nat → Nat) (K : List RO) : M.stage t K K.length 0 = K.map fun o => { o with fs := o.fs.map (M.ren t) } := by
  apply List.ext_getElem?
  intro j
  rw [stage_at, List.getElem?_map]
  cases hj : K[j]? with
  | none => rfl
  | some q =>
    have := (List.getElem?_eq_some_iff.1 hj).1
    simp only [Option.map_some, Option.some.injEq]
    rw [if_pos this]
theorem stage_set (t : Nat → Nat) (K L : List RO) (i k : Nat) (o q : RO) (ho : K[i]? = some o) (hL : L.map RO.core = (M.stage t K i k).map RO.core) (hq : q.core = ({ o with fs := M.renTo t (k + 1) o.fs } : RO).core) : (L.set i q).map RO.core = (M.stage t K i (k + 1)).map RO.core := by
  apply List.ext_getElem?
  intro j
  have h1 : (L.map RO.core)[j]? = ((M.stage t K i k).map RO.core)[j]? := by rw [hL]
  rw [List.getElem?_map, List.getElem?_map, stage_at] at h1
  rw [List.getElem?_map, List.getElem?_map, stage_at, List.getElem?_set]
  by_cases e : i = j
  · subst e
    rw [ho] at h1 ⊢
    rw [if_pos rfl]
    cases hl : L[i]? with
    | none => rw [hl] at h1; simp at h1
    | some r =>
      rw [if_pos (List.getElem?_eq_some_iff.1 hl).1]
      simp only [Option.map_some, Option.some.injEq]
      rw [hq, if_neg (Nat.lt_irrefl _)]; simp
  · rw [if_neg e, h1]
    cases hj : K[j]? with
    | none => rfl
    | some r =>
      simp only [Option.map_some, Option.some.injEq]
      by_cases e2 : j < i
      · rw [if_pos e2, if_pos e2]
      · rw [if_neg e2, if_neg e2, if_neg (fun h => e h.symm), if_neg (fun h => e h.symm)]
theorem RfIs.far2 {B : Nat} {w1 w w' : World} {x : Rf} {gr : Nat} (h1 : RfIs B w1 x) (h : RfIs B w x) (t : Turn (fun k => k = gr) w w') (hg : w1.heap.size ≤ gr) : RfIs B w' x := by
  refine h.keep t ?_ ?_ ?_ ?_
  · rintro k rfl; exact Nat.le_trans h1.le hg
  · intro e; have := h1.blk.lt; omega
  · intro k hk e; have := (h1.row.lt k hk).2; omega
  · intro o ho k hk e
    rcases hk with hk | hk
    · have := ((h1.rows o ho).1.lt k hk).2; omega
    · have := ((h1.rows o ho).2.lt k hk).2; omega
end Go.Proofs.Ythfkgkddklnnhaa
