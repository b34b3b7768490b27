/- append of what lies anywhere onto a row of the call's own, of none too; a row of none. No program in sight. -/
import Derived.Test.YtpccfimjkffkfaaDoorAppend2
import Derived.Test.YtpccfimjkffkfaaDoorStill
namespace Go.Proofs.YtpccfimjkffkfaaDoor
set_option linter.unusedVariables false
open Go.RowKit
variable {P : Program}
theorem own_none {w : World} {g base : Nat} {e : TypeId} {size : Nat} (h : Blk w g e #[]) (hb : base ≤ g) : w.ownsRow base e size (.slice (some ⟨g, 0, none⟩) 0 0) 0 [] :=
  ⟨by simp, .inr ⟨g, 0, #[], rfl, hb, h, Nat.le_refl _, Nat.zero_le _, by simp, by simp⟩⟩
theorem still_own {w wp w' : World} {e : TypeId} {size n : Nat} {v : Value} {xs : List Value} (h : Still w wp) (t : Turn (fun k => v.ownBlock = some k) wp w') (ho : wp.ownsRow w.heap.size e size v n xs) : Still w w' :=
  ⟨t.os.trans h.os, t.tape.trans h.tape, t.output.trans h.output, Nat.le_trans h.size t.size, fun k hk _ => (t.block k (Nat.lt_of_lt_of_le hk h.size) (fun e => by have := (ho.lt k e).1; omega)).trans (h.block k hk (fun e => e))⟩
theorem run_append_src (w : World) (base : Nat) (t ty e : TypeId) (size bytes : Nat) (z : Value) (ht : P.underlying t = some (.slice e)) (hi : (P.info? e).map (fun i => (i.zero, i.size, i.bytes)) = some (some z, size, bytes))
    (hzs : z.cells.size = size) (hsz : 0 < size) (a : Option Addr) (n c : Nat) (xs : List Value) (hown : w.ownsRow base e size (.slice a n c) n xs)
    (src : Option Addr) (m c' : Nat) (news : List Value) (hl : news.length = m * size) (hsrc : 0 < m → ∃ ad, src = some ad ∧ ∀ j u, news[j]? = some u → w.cell? (ad.add j) = some u) (h1 : ∀ u ∈ news, u.oneCell' = true)
    (h63 : n + m ≤ maxLen) (hbytes : (n + m) * bytes ≤ 140737488355328) (hbase : base ≤ w.heap.size) :
    ∃ a' cap w', (Builtin.append_ #[t, t] ty #[.slice a n c, .slice src m c']).run P w = .ok (.slice a' (n + m) cap) w' ∧ w'.ownsRow base e size (.slice a' (n + m) cap) (n + m) (xs ++ news) ∧
      Turn (fun k => (Value.slice a n c).ownBlock = some k) w w' := by
  rcases Nat.eq_zero_or_pos m with rfl | hm
  · obtain ⟨i, hi', hzz⟩ := Option.map_eq_some_iff.1 hi
    have hn : news = [] := List.eq_nil_of_length_eq_zero (by simpa using hl)
    subst hn
    exact ⟨a, c, w, run_append_zero w t ty e i ht hi' a n c (own_le hown).1 src c', by simpa using hown, Turn.refl _ _⟩
  · obtain ⟨ad, rfl, hnews⟩ := hsrc hm
    obtain ⟨g', cap', w', r1, r2, r3, r4⟩ := run_append_form (P := P) w base t ty e size bytes z ht hi hzs hsz a n c xs hown ad m c' news hl hnews h1 hm h63 hbytes hbase
    exact ⟨_, cap', w', r1, r2, r3⟩
theorem step_append_src {w : World} {ops : Array Oper} {o : Oper} {act : Act} {K : Act → World → Prop} {Q : Exit → Act → World → Prop} {E : Prop} (hgd : o.guard = none) (s x : Operand) (t : TypeId)
    (ho : o.op = .call { callee := .builtin .append, args := #[s, x], argTypes := #[t, t] })
    (base : Nat) (e : TypeId) (size bytes : Nat) (z : Value) (ht : P.underlying t = some (.slice e)) (hi : (P.info? e).map (fun i => (i.zero, i.size, i.bytes)) = some (some z, size, bytes))
    (hzs : z.cells.size = size) (hsz : 0 < size) (a : Option Addr) (n c : Nat) (xs : List Value) (hs : act.eval s = .slice a n c) (hown : w.ownsRow base e size (.slice a n c) n xs)
    (src : Option Addr) (m c' : Nat) (news : List Value) (hx : act.eval x = .slice src m c') (hl : news.length = m * size) (hsrc : 0 < m → ∃ ad, src = some ad ∧ ∀ j u, news[j]? = some u → w.cell? (ad.add j) = some u) (h1 : ∀ u ∈ news, u.oneCell' = true)
    (h63 : n + m ≤ maxLen) (hbytes : (n + m) * bytes ≤ 140737488355328) (hbase : base ≤ w.heap.size)
    (h : ∀ a' cap w', Hid (w'.ownsRow base e size (.slice a' (n + m) cap) (n + m) (xs ++ news)) → Hid (Turn (fun k => (Value.slice a n c).ownBlock = some k) w w') →
      K (act.put o.dst (.slice a' (n + m) cap)) w') : if Region.wanted o (yielded ops act.tmps) = true then Oper.wp P o act w K Q else E := by
  have hw : Region.wanted o (yielded ops act.tmps) = true := by simp [Region.wanted, hgd]
  rw [if_pos hw]
  obtain ⟨a', cap, w', hrun, h2, h3⟩ := run_append_src (P := P) w base t o.type e size bytes z ht hi hzs hsz a n c xs hown src m c' news hl hsrc h1 h63 hbytes hbase
  unfold Oper.wp
  simp [execOp, ho, resolve, invoke, builtin, hs, hx, hrun, Result.andThen]
  exact h a' cap w' h2 h3
end Go.Proofs.YtpccfimjkffkfaaDoor
