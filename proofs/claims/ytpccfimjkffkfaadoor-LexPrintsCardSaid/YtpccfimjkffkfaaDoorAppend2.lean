/- append of one row of the call's own, or of an older one, onto another; also of none. No program in sight. -/
import Derived.Test.YtpccfimjkffkfaaDoorAppend
namespace Go.Proofs.YtpccfimjkffkfaaDoor
set_option linter.unusedVariables false
open Go.RowKit
variable {P : Program}

theorem run_append_zero (w : World) (t ty e : TypeId) (i : TypeInfo) (ht : P.underlying t = some (.slice e)) (hi : P.info? e = some i) (a : Option Addr) (n c : Nat) (h : n ≤ c) (x : Option Addr) (c' : Nat) :
    (Builtin.append_ #[t, t] ty #[.slice a n c, .slice x 0 c']).run P w = .ok (.slice a n c) w := by
  cases a <;> cases x <;> simp [Builtin.append_, run_underlying ht, sizeOf, typeInfo, hi, Builtin.lenOf, Builtin.firstCells, loadCells, loadCellsFrom, h, storeCells]
theorem own_le {w : World} {base : Nat} {e : TypeId} {size : Nat} {a : Option Addr} {n c m : Nat} {xs : List Value} (h : w.ownsRow base e size (.slice a n c) m xs) : n ≤ c ∧ c ≤ maxLen ∧ n = m := by
  rcases h.2 with ⟨h1, rfl⟩ | ⟨g, cap, cur, h1, _, _, h2, h3, _, _⟩
  · injection h1 with _ h1 h2; subst h1; subst h2; exact ⟨Nat.le_refl _, by unfold maxLen; omega, rfl⟩
  · injection h1 with _ h1 h4; subst h4; exact ⟨by omega, h3, h1⟩
theorem run_append_row (w : World) (base : Nat) (t ty e : TypeId) (size bytes : Nat) (z : Value) (ht : P.underlying t = some (.slice e)) (hi : (P.info? e).map (fun i => (i.zero, i.size, i.bytes)) = some (some z, size, bytes))
    (hzs : z.cells.size = size) (hsz : 0 < size) (a : Option Addr) (n c : Nat) (xs : List Value) (hown : w.ownsRow base e size (.slice a n c) n xs)
    (base' : Nat) (ad : Option Addr) (m c' : Nat) (news : List Value) (hsrc : w.ownsRow base' e size (.slice ad m c') m news) (h1 : ∀ u ∈ news, u.oneCell' = true)
    (h63 : n + m ≤ maxLen) (hbytes : (n + m) * bytes ≤ 140737488355328) (hbase : base ≤ w.heap.size) :
    ∃ a' cap w', (Builtin.append_ #[t, t] ty #[.slice a n c, .slice ad m c']).run P w = .ok (.slice a' (n + m) cap) w' ∧ w'.ownsRow base e size (.slice a' (n + m) cap) (n + m) (xs ++ news) ∧
      Turn (fun k => (Value.slice a n c).ownBlock = some k) w w' ∧ ((Value.slice a' (n + m) cap).ownBlock = (Value.slice a n c).ownBlock ∨ ∃ g, a' = some ⟨g, 0, none⟩ ∧ w.heap.size ≤ g) := by
  rcases Nat.eq_zero_or_pos m with rfl | hm
  · obtain ⟨i, hi', hzz⟩ := Option.map_eq_some_iff.1 hi
    have hn : news = [] := List.eq_nil_of_length_eq_zero (by simpa using hsrc.1)
    subst hn
    refine ⟨a, c, w, run_append_zero w t ty e i ht hi' a n c (own_le hown).1 ad c', by simpa using hown, Turn.refl _ _, .inl rfl⟩
  · have hcells := hsrc
    rcases hsrc.2 with ⟨_, h0⟩ | ⟨g, cap, cur, h, _⟩
    · omega
    · injection h with h2 _ h3
      subst h2; subst h3
      obtain ⟨g', cap', w', r1, r2, r3, r4⟩ := run_append_form (P := P) w base t ty e size bytes z ht hi hzs hsz a n c xs hown ⟨g, 0, none⟩ m c' news hsrc.1 (hcells.cells (g := g) rfl) h1 hm h63 hbytes hbase
      refine ⟨_, cap', w', r1, r2, r3, ?_⟩
      rcases r4 with r4 | r4
      · exact .inl (by rw [r4]; simp [Value.ownBlock])
      · exact .inr ⟨g', rfl, r4⟩
theorem wpList_append_row {w : World} {ops : Array Oper} {rest : List Oper} {o : Oper} {act : Act} {Q : Exit → Act → World → Prop} (hgd : o.guard = none) (s x : Operand) (t : TypeId)
    (ho : o.op = .call { callee := .builtin .append, args := #[s, x], argTypes := #[t, t] })
    (base : Nat) (e : TypeId) (size bytes : Nat) (z : Value) (ht : P.underlying t = some (.slice e)) (hi : (P.info? e).map (fun i => (i.zero, i.size, i.bytes)) = some (some z, size, bytes))
    (hzs : z.cells.size = size) (hsz : 0 < size) (a : Option Addr) (n c : Nat) (xs : List Value) (hs : act.eval s = .slice a n c) (hown : w.ownsRow base e size (.slice a n c) n xs)
    (base' : Nat) (ad : Option Addr) (m c' : Nat) (news : List Value) (hx : act.eval x = .slice ad m c') (hsrc : w.ownsRow base' e size (.slice ad m c') m news) (h1 : ∀ u ∈ news, u.oneCell' = true)
    (h63 : n + m ≤ maxLen) (hbytes : (n + m) * bytes ≤ 140737488355328) (hbase : base ≤ w.heap.size)
    (h : ∀ a' cap w', Hid (w'.ownsRow base e size (.slice a' (n + m) cap) (n + m) (xs ++ news)) → Hid (Turn (fun k => (Value.slice a n c).ownBlock = some k) w w') → Hid ((Value.slice a' (n + m) cap).ownBlock = (Value.slice a n c).ownBlock ∨ ∃ g, a' = some ⟨g, 0, none⟩ ∧ w.heap.size ≤ g) →
      wpList P ops Q rest (act.put o.dst (.slice a' (n + m) cap)) w') : wpList P ops Q (o :: rest) act w := by
  obtain ⟨a', cap, w', hrun, h2, h3, h4⟩ := run_append_row (P := P) w base t o.type e size bytes z ht hi hzs hsz a n c xs hown base' ad m c' news hsrc h1 h63 hbytes hbase
  refine wpList_plain hgd fun K hK => ?_
  unfold Oper.wp
  simp [execOp, ho, resolve, invoke, builtin, hs, hx, hrun, Result.andThen]
  exact hK _ _ (h a' cap w' h2 h3 h4)
end Go.Proofs.YtpccfimjkffkfaaDoor
