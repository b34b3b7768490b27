/- What LexJoins' walk needs. -/
import Derived.Test.YtpccfimjkffkfaaDoorLxSame
import Derived.Test.YtpccfimjkffkfaaDoorLxJoinS
import Derived.Test.YtpccfimjkffkfaaDoorLxTextsW
namespace Go.Proofs.YtpccfimjkffkfaaDoor
set_option linter.unusedVariables false
set_option linter.unusedSimpArgs false
open Go.ChangeShapes Go.WideShapes Go.ChangeAt Go.RowKit
theorem wpList_append_rowG {P : Program} {w : World} {ops : Array Oper} {rest : List Oper} {o : Oper} {act : Act} {Q : Exit → Act → World → Prop} (hw : Region.wanted o (yielded ops act.tmps) = true) (s x : Operand) (t : TypeId)
    (ho : o.op = .call { callee := .builtin .append, args := #[s, x], argTypes := #[t, t] })
    (base : Nat) (e : TypeId) (size bytes : Nat) (z : Value) (ht : P.underlying t = some (.slice e)) (hi : (P.info? e).map (fun i => (i.zero, i.size, i.bytes)) = some (some z, size, bytes))
    (hzs : z.cells.size = size) (hsz : 0 < size) (a : Option Addr) (n c : Nat) (xs : List Value) (hs : act.eval s = .slice a n c) (hown : w.ownsRow base e size (.slice a n c) n xs)
    (base' : Nat) (ad : Option Addr) (m c' : Nat) (news : List Value) (hx : act.eval x = .slice ad m c') (hsrc : w.ownsRow base' e size (.slice ad m c') m news) (h1 : ∀ u ∈ news, u.oneCell' = true)
    (h63 : n + m ≤ maxLen) (hbytes : (n + m) * bytes ≤ 140737488355328) (hbase : base ≤ w.heap.size)
    (h : ∀ a' cap w', Hid (w'.ownsRow base e size (.slice a' (n + m) cap) (n + m) (xs ++ news)) → Hid (Turn (fun k => (Value.slice a n c).ownBlock = some k) w w') →
      wpList P ops Q rest (act.put o.dst (.slice a' (n + m) cap)) w') : wpList P ops Q (o :: rest) act w := by
  obtain ⟨a', cap, w', hrun, h2, h3, h4⟩ := run_append_row (P := P) w base t o.type e size bytes z ht hi hzs hsz a n c xs hown base' ad m c' news hsrc h1 h63 hbytes hbase
  refine wpList_step fun K hK => ?_
  rw [if_pos hw]
  unfold Oper.wp
  simp [execOp, ho, resolve, invoke, builtin, hs, hx, hrun, Result.andThen]
  exact hK _ _ (h a' cap w' h2 h3)
theorem own_put {w : World} {B size g n c : Nat} {e : TypeId} {xs : List Value} (h : w.ownsRow B e size (.slice (some ⟨g, 0, none⟩) n c) n xs) (j : Nat) (u : Value) : (w.setCell ⟨g, j, none⟩ u).ownsRow B e size (.slice (some ⟨g, 0, none⟩) n c) n (xs.set j u) := by
  obtain ⟨h1, h2⟩ := h
  refine ⟨by rw [List.length_set]; exact h1, ?_⟩
  rcases h2 with ⟨h0, _⟩ | ⟨g', cap, cur, he, hb, hg, hle, hm, hs, ht⟩
  · cases h0
  · injection he with e1 e2 e3
    injection e1 with e1
    injection e1 with e1
    subst e1 e3
    exact .inr ⟨g, c, cur.setIfInBounds j u, rfl, hb, Blk.set (show Blk w g e cur from hg) j u, hle, hm, by simp [hs], by rw [Array.toList_setIfInBounds, List.take_set, ht]⟩
def shf (d : Nat) (x : Lx.Tok × Nat) : Lx.Tok × Nat := (x.1, x.2 + d)
def mid (d : Nat) (m : List (Lx.Tok × Nat)) (i : Nat) : List (Lx.Tok × Nat) := (m.take i).map (shf d) ++ m.drop i
theorem mid_len (d : Nat) (m : List (Lx.Tok × Nat)) (i : Nat) : (mid d m i).length = m.length := by
  unfold mid
  rw [List.length_append, List.length_map, ← List.length_append, List.take_append_drop]
theorem flat_len (l : List (Lx.Tok × Nat)) : (l.flatMap tokV).length = l.length * 4 := by
  induction l with
  | nil => rfl
  | cons y l ih => rw [List.flatMap_cons, List.length_append, ih]; simp [tokV]; omega
theorem mid_step {d : Nat} {m : List (Lx.Tok × Nat)} {i : Nat} {x : Lx.Tok × Nat} (hx : m[i]? = some x) : ((mid d m i).flatMap tokV).set (i * 4 + 1) (.int .i64 ((x.2 + d : Nat) : Int)) = (mid d m (i + 1)).flatMap tokV ∧ (mid d m i)[i]? = some x := by
  have hi : i < m.length := (List.getElem?_eq_some_iff.1 hx).1
  have hd : m.drop i = x :: m.drop (i + 1) := by
    rw [List.drop_eq_getElem_cons hi]
    rw [List.getElem?_eq_getElem hi] at hx
    rw [Option.some.inj hx]
  have hl : ((m.take i).map (shf d)).length = i := by rw [List.length_map, List.length_take]; omega
  refine ⟨?_, ?_⟩
  · unfold mid
    rw [hd, List.take_add_one, hx]
    simp only [Option.toList_some, List.map_append, List.map_cons, List.map_nil, List.flatMap_append, List.flatMap_cons, List.flatMap_nil, List.append_nil, List.append_assoc]
    rw [List.set_append_right _ _ (by rw [flat_len, hl]; omega), flat_len, hl, show i * 4 + 1 - i * 4 = 1 by omega]
    rfl
  · unfold mid
    rw [List.getElem?_append_right (by rw [hl]; exact Nat.le_refl _), hl, Nat.sub_self, hd]; rfl
theorem lexF_code : ∀ f cnt a L x k, Lx.lexF f cnt a L = .error (x, k) → x = 10 ∨ x = 2
  | 0, _, _, _, _, _, h => by cases h
  | f + 1, cnt, a, L, x, k, h => by
    rw [Lx.lexF_succ] at h
    cases hs : Lx.skip L with
    | error n => rw [hs] at h; cases h; exact .inl rfl
    | ok n =>
      rw [hs] at h
      simp only at h
      split at h
      · cases h
      · cases ht : Lx.tok (L.drop n) with
        | none => rw [ht] at h; cases h; exact .inl rfl
        | some y =>
          obtain ⟨t, j⟩ := y
          rw [ht] at h
          simp only at h
          split at h
          · cases h; exact .inr rfl
          · cases hr : Lx.lexF f (cnt + 1) (a + n + j) ((L.drop n).drop j) with
            | error e => rw [hr] at h; cases h; exact lexF_code f _ _ _ _ _ hr
            | ok m => rw [hr] at h; cases h
theorem lex_code {L : List Nat} {x k : Nat} (h : Lx.lex L = .error (x, k)) : x = 10 ∨ x = 2 := by
  unfold Lx.lex at h
  split at h
  · cases h; exact .inr rfl
  · exact lexF_code _ _ _ _ _ _ h
theorem lexAny {w : World} (s : ByteArray) : Calls Tryd.prog 13 #[.string s] w fun e w' => Still w w' ∧ ∃ (a : Option Addr) (n c : Nat) (x k : Int), e = .returned (.tuple #[.slice a n c, .int .i64 x, .int .i64 k]) :=
  (lex_any w s).mono fun e w' ⟨h1, h2⟩ => by
    cases hl : Lx.lex (Lx.bs s) with
    | error x => rw [hl] at h2; exact ⟨h1, none, 0, 0, _, _, h2⟩
    | ok l => rw [hl] at h2; obtain ⟨a, c, h2, _⟩ := h2; exact ⟨h1, a, _, c, 0, 0, h2⟩
end Go.Proofs.YtpccfimjkffkfaaDoor
