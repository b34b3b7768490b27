/- Where a text is refused lies within it; what places its tokens have. -/
import Derived.Test.YtpccfimjkffkfaaDoorLxJoinS
namespace Go.Proofs.YtpccfimjkffkfaaDoor
set_option linter.unusedVariables false
namespace Lx
theorem skip_err_le : ∀ (m : Nat) (L : List Nat), L.length ≤ m → ∀ n, skip L = .error n → n ≤ L.length
  | _, [], _, n, h => by rw [skip_nil] at h; cases h
  | 0, c :: L, hm, n, h => by simp at hm
  | m + 1, c :: L, hm, n, h => by
    simp only [List.length_cons] at hm ⊢
    cases hb : blank c with
    | true =>
      rw [skip_blank_sh hb] at h
      cases hs : skip L with
      | ok e => rw [hs] at h; cases h
      | error k =>
        rw [hs] at h
        have := skip_err_le m L (by omega) k hs
        cases h
        omega
    | false =>
      by_cases h2 : c = 40 ∧ L.head? = some 42
      · obtain ⟨rfl, h2⟩ := h2
        obtain ⟨L', rfl⟩ : ∃ L', L = 42 :: L' := by cases L with | nil => cases h2 | cons a b => cases h2; exact ⟨b, rfl⟩
        cases hc : closes 1 L' with
        | none => rw [skip_remark, hc] at h; cases h; omega
        | some k =>
          have hk := closes_le L'.length 1 L' (Nat.le_refl _) k hc
          rw [skip_remark_sh hc] at h
          cases hs : skip (L'.drop k) with
          | ok e => rw [hs] at h; cases h
          | error j =>
            rw [hs] at h
            have := skip_err_le m (L'.drop k) (by rw [List.length_drop]; simp only [List.length_cons] at hm; omega) j hs
            rw [List.length_drop] at this
            cases h
            simp only [List.length_cons]; omega
      · rw [skip_here hb h2] at h; cases h
theorem lexF_err_le : ∀ f cnt a L x k, lexF f cnt a L = .error (x, k) → k ≤ a + L.length
  | 0, _, _, _, _, _, h => by cases h
  | f + 1, cnt, a, L, x, k, h => by
    rw [lexF_succ] at h
    cases hs : skip L with
    | error n =>
      rw [hs] at h
      have := skip_err_le _ L (Nat.le_refl _) n hs
      cases h; omega
    | ok n =>
      rw [hs] at h
      have hn := skip_le _ L (Nat.le_refl _) n hs
      simp only at h
      split at h
      · cases h
      · cases ht : tok (L.drop n) with
        | none => rw [ht] at h; cases h; omega
        | some y =>
          obtain ⟨t, j⟩ := y
          rw [ht] at h
          simp only at h
          have := tok_pos_le ht
          rw [List.length_drop] at this
          split at h
          · cases h; omega
          · cases hr : lexF f (cnt + 1) (a + n + j) ((L.drop n).drop j) with
            | ok e => rw [hr] at h; cases h
            | error m =>
              obtain ⟨x', k'⟩ := m
              rw [hr] at h
              cases h
              have := lexF_err_le f _ _ _ _ _ hr
              rw [List.length_drop, List.length_drop] at this
              omega
theorem lex_err_le {L : List Nat} {x k : Nat} (h : lex L = .error (x, k)) : k ≤ L.length := by
  unfold lex at h
  split at h
  · cases h; omega
  · have := lexF_err_le _ _ _ _ _ _ h
    omega
theorem lexF_at_le : ∀ f cnt a L l, lexF f cnt a L = .ok l → ∀ x ∈ l, x.2 ≤ a + L.length
  | 0, _, _, _, l, h, x, hx => by cases h; cases hx
  | f + 1, cnt, a, L, l, h, x, hx => by
    rw [lexF_succ] at h
    cases hs : skip L with
    | error n => rw [hs] at h; cases h
    | ok n =>
      rw [hs] at h
      have hn := skip_le _ L (Nat.le_refl _) n hs
      simp only at h
      split at h
      · cases h; cases hx
      · cases ht : tok (L.drop n) with
        | none => rw [ht] at h; cases h
        | some y =>
          obtain ⟨t, j⟩ := y
          rw [ht] at h
          simp only at h
          have := tok_pos_le ht
          rw [List.length_drop] at this
          split at h
          · cases h
          · cases hr : lexF f (cnt + 1) (a + n + j) ((L.drop n).drop j) with
            | error e => rw [hr] at h; cases h
            | ok m =>
              rw [hr] at h
              cases h
              rcases List.mem_append.1 hx with hx | hx
              · rw [List.mem_singleton.1 hx]; show a + n ≤ _; omega
              · have := lexF_at_le f _ _ _ _ hr x hx
                rw [List.length_drop, List.length_drop] at this
                omega
theorem lex_at_le {L : List Nat} {l : List (Tok × Nat)} (h : lex L = .ok l) : ∀ x ∈ l, x.2 ≤ L.length := by
  intro x hx
  unfold lex at h
  split at h
  · cases h
  · have := lexF_at_le _ _ _ _ _ h x hx
    omega
theorem lex_len_le {L : List Nat} {l : List (Tok × Nat)} (h : lex L = .ok l) : l.length ≤ L.length := by
  unfold lex at h
  split at h
  · cases h
  · exact lexF_len _ _ _ _ _ h
end Lx
end Go.Proofs.YtpccfimjkffkfaaDoor
