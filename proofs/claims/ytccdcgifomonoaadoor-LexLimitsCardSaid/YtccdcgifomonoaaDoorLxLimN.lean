/- Blanks; and semicolons between blanks. No program in sight. -/
import Derived.Test.YtccdcgifomonoaaDoorLxDeepN
namespace Go.Proofs.YtccdcgifomonoaaDoor
set_option linter.unusedVariables false
set_option linter.unusedSimpArgs false
namespace Lx
theorem skip_blanks : ∀ n, skip (List.replicate n 32) = .ok n
  | 0 => rfl
  | n + 1 => by rw [List.replicate_succ, skip_blank (by decide), skip_blanks n]
theorem lex_blanks {n : Nat} (h : n ≤ 16384) : lex (List.replicate n 32) = .ok [] := by
  unfold lex
  rw [if_neg (by rw [List.length_replicate]; omega), lexF, skip_blanks]
  simp only
  rw [if_pos (List.drop_eq_nil_of_le (by rw [List.length_replicate]; omega))]
theorem lex_blanks_more {n : Nat} (h : 16384 < n) : lex (List.replicate n 32) = .error (2, 0) := by
  unfold lex
  rw [if_pos (by rw [List.length_replicate]; exact h)]
def sem : List Nat := [59, 32]
theorem tok_sem (M : List Nat) : tok (59 :: 32 :: M) = some (⟨6, [59], 0⟩, 1) := rfl
theorem skip_sem (M : List Nat) : skip (59 :: M) = .ok 0 := skip_here (by decide) (by simp)
theorem lexF_sem : ∀ k f cnt a, 2 * k + 1 < f → cnt ≤ 4000 →
    (cnt + k ≤ 4000 → ∃ l, lexF f cnt a (32 :: rep sem k) = .ok l ∧ l.length = k) ∧ (4000 < cnt + k → lexF f cnt a (32 :: rep sem k) = .error (2, a + 1 + 2 * (4000 - cnt)))
  | 0, f, cnt, a, hf, hc => by
    obtain ⟨f, rfl⟩ : ∃ f', f = f' + 1 := ⟨f - 1, by omega⟩
    refine ⟨fun _ => ⟨[], ?_, rfl⟩, fun h => by omega⟩
    show lexF (f + 1) cnt a [32] = _
    rw [lexF, show skip [32] = .ok 1 from rfl]
    rfl
  | k + 1, f, cnt, a, hf, hc => by
    obtain ⟨f, rfl⟩ : ∃ f', f = f' + 1 := ⟨f - 1, by omega⟩
    have e : lexF (f + 1) cnt a (32 :: rep sem (k + 1)) = if cnt = 4000 then .error (2, a + 1) else
        (match lexF f (cnt + 1) (a + 1 + 1) (32 :: rep sem k) with
        | .ok l => .ok ((⟨6, [59], 0⟩, a + 1) :: l)
        | .error e => .error e) := by
      show lexF (f + 1) cnt a (32 :: 59 :: 32 :: rep sem k) = _
      rw [lexF, skip_blank (by decide), skip_sem]
      simp only [Nat.zero_add, List.drop_succ_cons, List.drop_zero]
      rw [if_neg (by simp), tok_sem]
      rfl
    rw [e]
    by_cases h4 : cnt = 4000
    · subst h4
      exact ⟨fun h => by omega, fun _ => by rw [if_pos rfl]⟩
    · rw [if_neg h4]
      obtain ⟨h1, h2⟩ := lexF_sem k f (cnt + 1) (a + 1 + 1) (by omega) (by omega)
      refine ⟨fun h => ?_, fun h => ?_⟩
      · obtain ⟨l, hl, hn⟩ := h1 (by omega)
        rw [hl]
        exact ⟨_, rfl, by simp [hn]⟩
      · rw [h2 (by omega)]
        simp only [Except.error.injEq, Prod.mk.injEq, true_and]
        omega
theorem lex_sem {n : Nat} (h : n ≤ 5000) : (n ≤ 4000 → ∃ l, lex (rep sem n) = .ok l ∧ l.length = n) ∧ (4000 < n → lex (rep sem n) = .error (2, 8000)) := by
  have hl : (rep sem n).length = 2 * n := by rw [rep_len]; simp [sem]; omega
  unfold lex
  rw [if_neg (by rw [hl]; omega), hl]
  cases n with
  | zero => exact ⟨fun _ => ⟨[], rfl, rfl⟩, fun h => by omega⟩
  | succ n =>
    have e : lexF (2 * (n + 1) + 1) 0 0 (rep sem (n + 1)) =
        (match lexF (2 * (n + 1)) 1 1 (32 :: rep sem n) with
        | .ok l => .ok ((⟨6, [59], 0⟩, 0) :: l)
        | .error e => .error e) := by
      show lexF (2 * (n + 1) + 1) 0 0 (59 :: 32 :: rep sem n) = _
      rw [lexF, skip_sem]
      simp only [List.drop_zero]
      rw [if_neg (by simp), tok_sem]
      rfl
    rw [e]
    obtain ⟨h1, h2⟩ := lexF_sem n (2 * (n + 1)) 1 1 (by omega) (by omega)
    refine ⟨fun h => ?_, fun h => ?_⟩
    · obtain ⟨l, hl, hn⟩ := h1 (by omega)
      rw [hl]
      exact ⟨_, rfl, by simp [hn]⟩
    · rw [h2 (by omega)]
end Lx
end Go.Proofs.YtccdcgifomonoaaDoor
