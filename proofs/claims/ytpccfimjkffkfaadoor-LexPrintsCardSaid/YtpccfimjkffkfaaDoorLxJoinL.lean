/- Two texts with a blank between them: what is skipped, and all tokens. No program in sight. -/
import Derived.Test.YtpccfimjkffkfaaDoorLxJoinN
namespace Go.Proofs.YtpccfimjkffkfaaDoor
set_option linter.unusedVariables false
set_option linter.unusedSimpArgs false
namespace Lx
def sh (m : Nat) : Except Nat Nat → Except Nat Nat
  | .ok n => .ok (m + n)
  | .error n => .error (m + n)
theorem sh_add (a b : Nat) (x : Except Nat Nat) : sh a (sh b x) = sh (a + b) x := by cases x <;> simp [sh] <;> omega
theorem skip_blank_sh {c : Nat} {L : List Nat} (h : blank c = true) : skip (c :: L) = sh 1 (skip L) := by
  rw [skip_blank h]
  cases skip L <;> simp [sh] <;> omega
theorem skip_remark_sh {L : List Nat} {n : Nat} (h : closes 1 L = some n) : skip (40 :: 42 :: L) = sh (2 + n) (skip (L.drop n)) := by
  rw [skip_remark, h]
  dsimp only
  cases skip (L.drop n) <;> simp [sh]
theorem skip_le : ∀ (m : Nat) (L : List Nat), L.length ≤ m → ∀ n, skip L = .ok n → n ≤ L.length
  | _, [], _, n, h => by rw [skip_nil] at h; cases h; exact Nat.le_refl _
  | 0, c :: L, hm, n, h => by simp at hm
  | m + 1, c :: L, hm, n, h => by
    simp only [List.length_cons] at hm ⊢
    cases hb : blank c with
    | true =>
      rw [skip_blank_sh hb] at h
      cases hs : skip L with
      | error e => rw [hs] at h; cases h
      | ok k =>
        rw [hs] at h
        have := skip_le m L (by omega) k hs
        cases h
        omega
    | false =>
      by_cases h2 : c = 40 ∧ L.head? = some 42
      · obtain ⟨rfl, h2⟩ := h2
        obtain ⟨L', rfl⟩ : ∃ L', L = 42 :: L' := by cases L with | nil => cases h2 | cons a b => cases h2; exact ⟨b, rfl⟩
        cases hc : closes 1 L' with
        | none => rw [skip_remark, hc] at h; cases h
        | some k =>
          have hk := closes_le L'.length 1 L' (Nat.le_refl _) k hc
          rw [skip_remark_sh hc] at h
          cases hs : skip (L'.drop k) with
          | error e => rw [hs] at h; cases h
          | ok j =>
            rw [hs] at h
            have := skip_le m (L'.drop k) (by rw [List.length_drop]; simp only [List.length_cons] at hm; omega) j hs
            rw [List.length_drop] at this
            cases h
            simp only [List.length_cons]; omega
      · rw [skip_here hb h2] at h; cases h; omega
theorem skip_joint (B : List Nat) : ∀ (m : Nat) (A : List Nat), A.length ≤ m → ∀ n, skip A = .ok n → skip (A ++ 32 :: B) = if A.drop n = [] then sh (A.length + 1) (skip B) else .ok n
  | _, [], _, n, h => by
    rw [List.nil_append, skip_blank_sh (by decide), List.drop_nil, if_pos rfl]; rfl
  | 0, c :: A, hm, n, h => by simp at hm
  | m + 1, c :: A, hm, n, h => by
    simp only [List.length_cons] at hm
    cases hb : blank c with
    | true =>
      rw [skip_blank_sh hb] at h
      cases hs : skip A with
      | error e => rw [hs] at h; cases h
      | ok k =>
        rw [hs] at h
        cases h
        rw [List.cons_append, skip_blank_sh hb, skip_joint B m A (by omega) k hs, show 1 + k = k + 1 by omega, List.drop_succ_cons]
        by_cases hd : A.drop k = []
        · rw [if_pos hd, if_pos hd, sh_add, List.length_cons]; congr 1; omega
        · rw [if_neg hd, if_neg hd]; simp [sh]; omega
    | false =>
      by_cases h2 : c = 40 ∧ A.head? = some 42
      · obtain ⟨rfl, h2⟩ := h2
        obtain ⟨A', rfl⟩ : ∃ A', A = 42 :: A' := by cases A with | nil => cases h2 | cons a b => cases h2; exact ⟨b, rfl⟩
        cases hc : closes 1 A' with
        | none => rw [skip_remark, hc] at h; cases h
        | some k =>
          have hk := closes_le A'.length 1 A' (Nat.le_refl _) k hc
          rw [skip_remark_sh hc] at h
          cases hs : skip (A'.drop k) with
          | error e => rw [hs] at h; cases h
          | ok j =>
            rw [hs] at h
            cases h
            have ih := skip_joint B m (A'.drop k) (by rw [List.length_drop]; simp only [List.length_cons] at hm; omega) j hs
            rw [List.cons_append, List.cons_append, skip_remark_sh (closes_more _ _ 1 A' (Nat.le_refl _) k hc), List.drop_append_of_le_length hk, ih, List.drop_drop, List.length_drop]
            rw [show 2 + k + j = (k + j) + 1 + 1 by omega, List.drop_succ_cons, List.drop_succ_cons]
            by_cases hd : A'.drop (k + j) = []
            · rw [if_pos hd, if_pos hd, sh_add, List.length_cons, List.length_cons]; congr 1; omega
            · rw [if_neg hd, if_neg hd]; simp [sh]; omega
      · rw [skip_here hb h2] at h
        cases h
        rw [List.drop_zero, if_neg (by simp), List.cons_append, skip_here hb]
        rintro ⟨rfl, h3⟩
        cases A with
        | nil => cases h3
        | cons a A => exact h2 ⟨rfl, h3⟩
end Lx
end Go.Proofs.YtpccfimjkffkfaaDoor
