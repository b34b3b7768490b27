/- append of a text's bytes onto a row of the call's own, its form told: in a plain region and in one that draws. No program in sight. -/
import Derived.Test.YtjeehbcbflofpaaAppend2
import Derived.Lib.AppendStr
namespace Go.Proofs.Ytjeehbcbflofpaa
set_option linter.unusedVariables false
open Go.RowKit Go.Lib
variable {P : Program}
theorem own_some {w : World} {B : Nat} {t : TypeId} {v : Value} {n : Nat} {xs : List Value} (h : w.ownsRow B t 1 v n xs) : ∃ a c, v = .slice a n c := by
  rcases h.2 with ⟨rfl, rfl⟩ | ⟨g, cap, cur, rfl, _⟩
  · exact ⟨none, 0, rfl⟩
  · exact ⟨_, cap, rfl⟩
theorem run_append_str (w : World) (base : Nat) (t u ty e : TypeId) (ht : P.underlying t = some (.slice e)) (hu : P.underlying u = some .string) (hi : (P.info? e).map (fun i => (i.zero, i.size, i.bytes)) = some (some (.int .u8 0), 1, 1))
    (a : Option Addr) (n c : Nat) (xs : List Value) (hown : w.ownsRow base e 1 (.slice a n c) n xs) (s : ByteArray) (h63 : n + s.size ≤ maxLen) (hbytes : n + s.size ≤ 140737488355328) (hbase : base ≤ w.heap.size) :
    ∃ a' cap w', (Builtin.append_ #[t, u] ty #[.slice a n c, .string s]).run P w = .ok (.slice a' (n + s.size) cap) w' ∧ w'.ownsRow base e 1 (.slice a' (n + s.size) cap) (n + s.size) (xs ++ strCells s) ∧
      Turn (fun k => (Value.slice a n c).ownBlock = some k) w w' ∧ (∀ b, (Value.slice a' (n + s.size) cap).ownBlock = some b → (Value.slice a n c).ownBlock = some b ∨ w.heap.size ≤ b) := by
  obtain ⟨i, hi', hzz⟩ := Option.map_eq_some_iff.1 hi
  simp only [Prod.mk.injEq] at hzz
  obtain ⟨hz, hs, hb⟩ := hzz
  obtain ⟨v', w', hr, h2, h3, h4⟩ := run_append_own_string (P := P) w base t u ty e i ht hu hi' hz hs hb (.slice a n c) n xs hown s h63 hbytes hbase
  obtain ⟨a', cap, rfl⟩ := own_some h2
  refine ⟨a', cap, w', hr, h2, (Turn.refl (fun k => (Value.slice a n c).ownBlock = some k) w).grown h3 (fun k hk _ => hk), fun b hb' => ?_⟩
  have hsmall : n + s.size ≤ 9223372036854775807 := by simp only [maxLen] at h63; omega
  have hxl : xs.length = n := by simpa using hown.1
  rcases hown.2 with ⟨hv, hn⟩ | ⟨g, cap0, cur, hv, hbg, hg, hnc, hcm, hcs, htake⟩
  · injection hv with e1 e2 e3
    subst e1; subst e3
    subst hn
    by_cases hm : s.size = 0
    · have := (h4.2 ⟨rfl, hm⟩)
      rw [this] at hb'
      simp [Value.ownBlock] at hb'
    · have hr2 := run_append_nil_string (P := P) w t u ty e i (.int .u8 0) ht hu hi' hz s (by omega) (by omega) (by rw [hb]; omega)
      rw [hr2] at hr
      injection hr with hr _
      rw [← hr] at hb'
      simp [Value.ownBlock] at hb'
      right; omega
  · injection hv with e1 e2 e3
    subst e1; subst e3
    by_cases hroom : n + s.size ≤ c
    · have hcs' : cur.size = c := by simpa using hcs
      have hr2 := run_append_room_string (P := P) w t u ty e i ht hu hi' hs g n c cur hg s hroom (by omega)
      rw [hr2] at hr
      injection hr with hr _
      rw [← hr] at hb'
      left
      simpa [Value.ownBlock] using hb'
    · have holds : ∀ j u, xs[j]? = some u → w.cell? ((⟨g, 0, none⟩ : Addr).add j) = some u := hown.cells (g := g) rfl
      have hr2 := run_append_grow_string (P := P) w t u ty e i (.int .u8 0) ht hu hi' hz ⟨g, 0, none⟩ n c xs (by rw [hs]; simpa using hxl) holds s (by omega) (by omega) (by rw [hb]; exact growslice_fits (by omega) (by omega))
      rw [hr2] at hr
      injection hr with hr _
      rw [← hr] at hb'
      simp [Value.ownBlock] at hb'
      right; omega
theorem wpList_append_str {w : World} {ops : Array Oper} {rest : List Oper} {o : Oper} {act : Act} {Q : Exit → Act → World → Prop} (hgd : o.guard = none) (s x : Operand) (t u : TypeId)
    (ho : o.op = .call { callee := .builtin .append, args := #[s, x], argTypes := #[t, u] })
    (base : Nat) (e : TypeId) (ht : P.underlying t = some (.slice e)) (hu : P.underlying u = some .string) (hi : (P.info? e).map (fun i => (i.zero, i.size, i.bytes)) = some (some (.int .u8 0), 1, 1))
    (a : Option Addr) (n c : Nat) (xs : List Value) (hs : act.eval s = .slice a n c) (hown : w.ownsRow base e 1 (.slice a n c) n xs) (y : ByteArray) (hx : act.eval x = .string y)
    (h63 : n + y.size ≤ maxLen) (hbytes : n + y.size ≤ 140737488355328) (hbase : base ≤ w.heap.size)
    (h : ∀ a' cap w', Hid (w'.ownsRow base e 1 (.slice a' (n + y.size) cap) (n + y.size) (xs ++ strCells y)) → Hid (Turn (fun k => (Value.slice a n c).ownBlock = some k) w w') → Hid (∀ b, (Value.slice a' (n + y.size) cap).ownBlock = some b → (Value.slice a n c).ownBlock = some b ∨ w.heap.size ≤ b) →
      wpList P ops Q rest (act.put o.dst (.slice a' (n + y.size) cap)) w') : wpList P ops Q (o :: rest) act w := by
  obtain ⟨a', cap, w', hrun, h2, h3, h4⟩ := run_append_str (P := P) w base t u o.type e ht hu hi a n c xs hown y h63 hbytes hbase
  refine wpList_plain hgd fun K hK => ?_
  unfold Oper.wp
  simp [execOp, ho, resolve, invoke, builtin, hs, hx, hrun, Result.andThen]
  exact hK _ _ (h a' cap w' h2 h3 h4)
theorem step_append_str {w : World} {ops : Array Oper} {o : Oper} {act : Act} {K : Act → World → Prop} {Q : Exit → Act → World → Prop} {E : Prop} (hgd : o.guard = none) (s x : Operand) (t u : TypeId)
    (ho : o.op = .call { callee := .builtin .append, args := #[s, x], argTypes := #[t, u] })
    (base : Nat) (e : TypeId) (ht : P.underlying t = some (.slice e)) (hu : P.underlying u = some .string) (hi : (P.info? e).map (fun i => (i.zero, i.size, i.bytes)) = some (some (.int .u8 0), 1, 1))
    (a : Option Addr) (n c : Nat) (xs : List Value) (hs : act.eval s = .slice a n c) (hown : w.ownsRow base e 1 (.slice a n c) n xs) (y : ByteArray) (hx : act.eval x = .string y)
    (h63 : n + y.size ≤ maxLen) (hbytes : n + y.size ≤ 140737488355328) (hbase : base ≤ w.heap.size)
    (h : ∀ a' cap w', Hid (w'.ownsRow base e 1 (.slice a' (n + y.size) cap) (n + y.size) (xs ++ strCells y)) → Hid (Turn (fun k => (Value.slice a n c).ownBlock = some k) w w') → Hid (∀ b, (Value.slice a' (n + y.size) cap).ownBlock = some b → (Value.slice a n c).ownBlock = some b ∨ w.heap.size ≤ b) →
      K (act.put o.dst (.slice a' (n + y.size) cap)) w') : if Region.wanted o (yielded ops act.tmps) = true then Oper.wp P o act w K Q else E := by
  have hw : Region.wanted o (yielded ops act.tmps) = true := by simp [Region.wanted, hgd]
  rw [if_pos hw]
  obtain ⟨a', cap, w', hrun, h2, h3, h4⟩ := run_append_str (P := P) w base t u o.type e ht hu hi a n c xs hown y h63 hbytes hbase
  unfold Oper.wp
  simp [execOp, ho, resolve, invoke, builtin, hs, hx, hrun, Result.andThen]
  exact h a' cap w' h2 h3 h4
end Go.Proofs.Ytjeehbcbflofpaa
