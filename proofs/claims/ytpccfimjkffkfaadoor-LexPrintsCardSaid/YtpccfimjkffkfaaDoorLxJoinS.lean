/- Two texts with a blank between them: as they are read each for itself. No program in sight. -/
import Derived.Test.YtpccfimjkffkfaaDoorLxJoinF
namespace Go.Proofs.YtpccfimjkffkfaaDoor
set_option linter.unusedVariables false
set_option linter.unusedSimpArgs false
namespace Lx
def far (d : Nat) : Except (Nat × Nat) (List (Tok × Nat)) → Except (Nat × Nat) (List (Tok × Nat))
  | .ok l => .ok (l.map fun x => (x.1, x.2 + d))
  | .error e => .error (e.1, e.2 + d)
theorem far_pre (d : Nat) (t : Tok) (k : Nat) (r) : far d (pre [(t, k)] r) = pre [(t, k + d)] (far d r) := by cases r <;> simp [pre, far]
theorem lexF_far (d : Nat) : ∀ f cnt cnt' a L, L.length < f → cnt + L.length ≤ 4000 → cnt' + L.length ≤ 4000 → lexF f cnt (a + d) L = far d (lexF f cnt' a L)
  | 0, _, _, _, _, h, _, _ => by omega
  | f + 1, cnt, cnt', a, L, h, h1, h2 => by
    rw [lexF_succ, lexF_succ]
    cases skip L with
    | error n => simp only [far]; rw [show a + d + n = a + n + d by omega]
    | ok n =>
      simp only
      split
      · rfl
      · rename_i hne
        have hL : 0 < L.length := by
          rcases Nat.eq_zero_or_pos L.length with h0 | h0
          · exact absurd (by rw [List.length_eq_zero_iff.1 h0]; simp) hne
          · exact h0
        cases ht : tok (L.drop n) with
        | none => simp only [far]; rw [show a + d + n = a + n + d by omega]
        | some x =>
          obtain ⟨t, k⟩ := x
          have := tok_pos_le ht
          rw [List.length_drop] at this
          simp only
          rw [if_neg (by omega), if_neg (by omega), far_pre, ← lexF_far d f (cnt + 1) (cnt' + 1) (a + n + k) ((L.drop n).drop k) (by rw [List.length_drop, List.length_drop]; omega) (by rw [List.length_drop, List.length_drop]; omega) (by rw [List.length_drop, List.length_drop]; omega)]
          rw [show a + d + n = a + n + d by omega, show a + n + d + k = a + n + k + d by omega]
theorem lexF_len : ∀ f cnt a L l, lexF f cnt a L = .ok l → l.length ≤ L.length
  | 0, _, _, _, l, h => by cases h; simp
  | f + 1, cnt, a, L, l, h => by
    rw [lexF_succ] at h
    cases hs : skip L with
    | error n => rw [hs] at h; cases h
    | ok n =>
      rw [hs] at h
      simp only at h
      split at h
      · cases h; simp
      · cases ht : tok (L.drop n) with
        | none => rw [ht] at h; cases h
        | some x =>
          obtain ⟨t, k⟩ := x
          rw [ht] at h
          simp only at h
          have := tok_pos_le ht
          rw [List.length_drop] at this
          split at h
          · cases h
          · cases hr : lexF f (cnt + 1) (a + n + k) ((L.drop n).drop k) with
            | error e => rw [hr] at h; cases h
            | ok m =>
              rw [hr] at h
              cases h
              have := lexF_len f _ _ _ m hr
              rw [List.length_drop, List.length_drop] at this
              simp only [List.length_append, List.length_singleton]
              omega
theorem lex_joint {A B : List Nat} {l : List (Tok × Nat)} (hA : A.length ≤ 1500) (hB : B.length ≤ 1500) (h : lex A = .ok l) : lex (A ++ 32 :: B) = pre l (far (A.length + 1) (lex B)) := by
  unfold lex at h ⊢
  have hl : (A ++ 32 :: B).length = A.length + 1 + B.length := by simp; omega
  rw [if_neg (by omega)] at h
  have hn := lexF_len _ _ _ _ _ h
  rw [if_neg (by rw [hl]; omega), if_neg (by omega), hl, lexF_joint B (A.length + 1) A 0 0 l (by omega) h _ (by omega)]
  rw [show 0 + A.length + 1 = 0 + (A.length + 1) by omega, lexF_far (A.length + 1) (B.length + 1) (0 + l.length) 0 0 B (by omega) (by omega) (by omega)]
end Lx
end Go.Proofs.YtpccfimjkffkfaaDoor
