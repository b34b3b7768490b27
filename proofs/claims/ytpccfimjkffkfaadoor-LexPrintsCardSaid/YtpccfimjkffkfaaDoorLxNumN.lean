/- Digits are read as their number. -/
import Derived.Test.YtpccfimjkffkfaaDoorLxM
import Derived.Lib.ItoaNum
namespace Go.Proofs.YtpccfimjkffkfaaDoor
set_option linter.unusedVariables false
set_option linter.unusedSimpArgs false
namespace Lx
def dd (n : Nat) : List Nat := (Lib.decDigits n).map UInt8.toNat
theorem dd_small {n : Nat} (h : n < 10) : dd n = [48 + n] := by
  unfold dd
  rw [Lib.decDigits, dif_pos h]
  simp; omega
theorem dd_step {n : Nat} (h : ¬ n < 10) : dd n = dd (n / 10) ++ [48 + n % 10] := by
  unfold dd
  rw [Lib.decDigits, dif_neg h, List.map_append]
  simp; omega
theorem num_snoc (A : List Nat) (c : Nat) : num (A ++ [c]) = 10 * num A + (c - 48) := by
  unfold num
  rw [List.foldl_append]; rfl
theorem dd_is (n : Nat) : num (dd n) = n ∧ (∀ c ∈ dd n, dig c = true) ∧ dd n ≠ [] := by
  induction n using Nat.strongRecOn with
  | _ n ih =>
    by_cases h : n < 10
    · rw [dd_small h]
      refine ⟨by simp [num], fun c hc => ?_, by simp⟩
      rw [List.mem_singleton.1 hc]
      simp only [dig, Bool.and_eq_true, decide_eq_true_eq]; omega
    · obtain ⟨h1, h2, h3⟩ := ih (n / 10) (by omega)
      rw [dd_step h]
      refine ⟨by rw [num_snoc, h1]; omega, fun c hc => ?_, by simp⟩
      rcases List.mem_append.1 hc with hc | hc
      · exact h2 c hc
      · rw [List.mem_singleton.1 hc]
        simp only [dig, Bool.and_eq_true, decide_eq_true_eq]; omega
theorem num_noughts (L : List Nat) : ∀ z, num (List.replicate z 48 ++ L) = num L
  | 0 => rfl
  | z + 1 => by
    rw [List.replicate_succ]
    have := num_noughts L z
    unfold num at *
    rw [List.cons_append, List.foldl_cons]
    exact this
theorem takeWhile_all {p : Nat → Bool} : ∀ {L : List Nat}, (∀ c ∈ L, p c = true) → L.takeWhile p = L
  | [], _ => rfl
  | c :: L, h => by rw [List.takeWhile_cons, h c List.mem_cons_self, if_pos rfl, takeWhile_all fun x hx => h x (List.mem_cons_of_mem _ hx)]
def nums (z n : Nat) : List Nat := List.replicate z 48 ++ dd n
theorem nums_dig (z n : Nat) : ∀ c ∈ nums z n, dig c = true := by
  intro c hc
  rcases List.mem_append.1 hc with hc | hc
  · rw [(List.mem_replicate.1 hc).2]; decide
  · exact (dd_is n).2.1 c hc
theorem dd_len (n : Nat) : (dd n).length ≤ n + 1 := by
  induction n using Nat.strongRecOn with
  | _ n ih =>
    by_cases h : n < 10
    · rw [dd_small h]; simp
    · have := ih (n / 10) (by omega)
      rw [dd_step h, List.length_append, List.length_singleton]; omega
theorem dd_len2 : ∀ (k n : Nat), n < 10 ^ (k + 1) → (dd n).length ≤ k + 1
  | 0, n, h => by rw [dd_small (by omega)]; simp
  | k + 1, n, h => by
    by_cases h10 : n < 10
    · rw [dd_small h10]; simp
    · rw [dd_step h10, List.length_append, List.length_singleton]
      have := dd_len2 k (n / 10) (by rw [Nat.pow_succ] at h; omega)
      omega
theorem lex_nums {z n : Nat} (hz : z ≤ 50) (hn : n < 10 ^ 19) : lex (32 :: nums z n) = if n ≤ 4611686018427387903 then .ok [(⟨1, [], n⟩, 1)] else .error (10, 1) := by
  have hl : (nums z n).length ≤ 70 := by
    have := dd_len2 18 n hn
    unfold nums
    rw [List.length_append, List.length_replicate]; omega
  have hnum : num (nums z n) = n := by unfold nums; rw [num_noughts, (dd_is n).1]
  have hne : nums z n ≠ [] := fun e => (dd_is n).2.2 (List.append_eq_nil_iff.1 e).2
  have hdig := nums_dig z n
  generalize nums z n = M at *
  obtain ⟨c, M', rfl⟩ := List.exists_cons_of_ne_nil hne
  have hc : dig c = true := hdig c List.mem_cons_self
  have hcc : 48 ≤ c ∧ c ≤ 57 := by simpa [dig] using hc
  have hb : blank c = false := by simp [blank]; omega
  have hsk : skip (32 :: c :: M') = .ok 1 := by
    rw [skip_blank (by decide), skip_here hb (by omega)]
  have htok : tok (c :: M') = if n ≤ 4611686018427387903 then some (⟨1, [], n⟩, (c :: M').length) else none := by
    unfold tok
    simp only [List.headD_cons, hc, if_true, takeWhile_all hdig, hnum]
  unfold lex
  rw [if_neg (by simp only [List.length_cons] at hl ⊢; omega), lexF, hsk]
  simp only [List.drop_succ_cons, List.drop_zero]
  rw [if_neg (by simp), htok]
  by_cases h : n ≤ 4611686018427387903
  · rw [if_pos h, if_pos h]
    simp only
    rw [if_neg (by decide), List.drop_eq_nil_of_le (Nat.le_refl _)]
    rw [show (32 :: c :: M').length = (c :: M').length + 1 by rfl, lexF, skip_nil]
    rfl
  · rw [if_neg h, if_neg h]
end Lx
end Go.Proofs.YtpccfimjkffkfaaDoor
