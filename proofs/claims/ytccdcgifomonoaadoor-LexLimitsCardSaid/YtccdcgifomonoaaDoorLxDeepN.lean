/- Remarks in one another, in lists of bytes. No program in sight. -/
import Derived.Test.YtccdcgifomonoaaDoorLxM
namespace Go.Proofs.YtccdcgifomonoaaDoor
set_option linter.unusedVariables false
set_option linter.unusedSimpArgs false
namespace Lx
def rep (X : List Nat) : Nat → List Nat
  | 0 => []
  | n + 1 => X ++ rep X n
theorem rep_succ (X : List Nat) : ∀ n, rep X (n + 1) = rep X n ++ X
  | 0 => by simp [rep]
  | n + 1 => by
    show X ++ rep X (n + 1) = (X ++ rep X n) ++ X
    rw [List.append_assoc, ← rep_succ X n]
theorem rep_len (X : List Nat) : ∀ n, (rep X n).length = n * X.length
  | 0 => by simp [rep]
  | n + 1 => by rw [rep, List.length_append, rep_len X n, Nat.succ_mul]; omega
def opn : List Nat := [40, 42, 32, 98, 32]
def cls : List Nat := [42, 41, 32]
theorem closes_opn (T : List Nat) : ∀ k d, closes (d + 1) (rep opn k ++ T) = (closes (d + 1 + k) T).map (· + 5 * k)
  | 0, d => by
    show closes (d + 1) ([] ++ T) = _
    rw [List.nil_append]
    cases closes (d + 1) T <;> rfl
  | k + 1, d => by
    show closes (d + 1) (40 :: 42 :: 32 :: 98 :: 32 :: (rep opn k ++ T)) = _
    rw [closes_open, closes_other _ (by simp) (by simp), closes_other _ (by simp) (by simp), closes_other _ (by simp) (by simp), closes_opn T k (d + 1), show d + 1 + 1 + k = d + 1 + (k + 1) by omega]
    cases closes (d + 1 + (k + 1)) T with
    | none => rfl
    | some x => simp only [Option.map_some, Option.some.injEq]; omega
theorem closes_less : ∀ m d, m < d + 1 → closes (d + 1) (rep cls m ++ [99]) = none
  | 0, d, _ => by
    show closes (d + 1) [99] = none
    rw [closes_other _ (by simp) (by simp), closes_nil]; rfl
  | m + 1, d, h => by
    obtain ⟨d, rfl⟩ : ∃ d', d = d' + 1 := ⟨d - 1, by omega⟩
    show closes (d + 1 + 1) (42 :: 41 :: 32 :: (rep cls m ++ [99])) = none
    rw [closes_shut, closes_other _ (by simp) (by simp), closes_less m d (by omega)]; rfl
theorem closes_all : ∀ m, closes (m + 1) (rep cls (m + 1) ++ [99]) = some (3 * m + 2)
  | 0 => by
    show closes (0 + 1) (42 :: 41 :: 32 :: [99]) = _
    rw [closes_shut, closes_zero]; rfl
  | m + 1 => by
    show closes (m + 1 + 1) (42 :: 41 :: 32 :: (rep cls (m + 1) ++ [99])) = _
    rw [closes_shut, closes_other _ (by simp) (by simp), closes_all m]
    simp only [Option.map_some, Option.some.injEq]; omega
def deep (n m : Nat) : List Nat := 97 :: 32 :: (rep opn n ++ (rep cls m ++ [99]))
theorem deep_len (n m : Nat) : (deep n m).length = 5 * n + 3 * m + 3 := by
  unfold deep
  simp only [List.length_cons, List.length_append, rep_len, opn, cls, List.length_nil]
  omega
theorem tok_one {c : Nat} {M : List Nat} (h : (c = 97 ∨ c = 99)) (hM : M.head?.any inName = false) : tok (c :: M) = some (⟨3, [c], 0⟩, 1) := by
  have htw : (c :: M).takeWhile inName = [c] := by
    have : inName c = true := by rcases h with rfl | rfl <;> decide
    rw [List.takeWhile_cons, this]
    cases M with
    | nil => rfl
    | cons a l =>
      have : inName a = false := hM
      simp [this]
  unfold tok
  simp only [List.headD_cons, htw]
  rcases h with rfl | rfl <;> rfl
theorem skip_tok {c : Nat} {M : List Nat} (h : (c = 97 ∨ c = 99)) : skip (c :: M) = .ok 0 := by
  rcases h with rfl | rfl <;> exact skip_here (by decide) (by simp)
theorem deep_skip {n m : Nat} (hn : 0 < n) : skip (32 :: (rep opn n ++ (rep cls m ++ [99]))) = (match (closes n (rep cls m ++ [99])).map (· + (5 * (n - 1) + 3)) with
    | none => .error 1
    | some k => (match skip ((32 :: 98 :: 32 :: (rep opn (n - 1) ++ (rep cls m ++ [99]))).drop k) with | .ok j => .ok (3 + k + j) | .error j => .error (3 + k + j))) := by
  obtain ⟨n, rfl⟩ : ∃ n', n = n' + 1 := ⟨n - 1, by omega⟩
  rw [skip_blank (by decide)]
  show (match skip (40 :: 42 :: 32 :: 98 :: 32 :: (rep opn n ++ (rep cls m ++ [99]))) with | .ok n => Except.ok (n + 1) | .error n => Except.error (n + 1)) = _
  rw [skip_remark, closes_other _ (by simp) (by simp), closes_other _ (by simp) (by simp), closes_other _ (by simp) (by simp), closes_opn _ n 0, show 0 + 1 + n = n + 1 by omega, show n + 1 - 1 = n by omega]
  cases closes (n + 1) (rep cls m ++ [99]) with
  | none => rfl
  | some x =>
    simp only [Option.map_some]
    rw [show x + 5 * n + 1 + 1 + 1 = x + (5 * n + 3) by omega]
    cases skip ((32 :: 98 :: 32 :: (rep opn n ++ (rep cls m ++ [99]))).drop (x + (5 * n + 3))) with
    | ok j => simp only [Except.ok.injEq]; omega
    | error j => simp only [Except.error.injEq]; omega
theorem lex_deep_less {n m : Nat} (h : m < n) (hn : n ≤ 300) : lex (deep n m) = .error (10, 2) := by
  unfold lex
  rw [if_neg (by rw [deep_len]; omega), deep_len, show 5 * n + 3 * m + 3 + 1 = (5 * n + 3 * m + 2) + 1 + 1 by omega]
  unfold deep
  rw [lexF, skip_tok (.inl rfl)]
  simp only [List.drop_zero]
  rw [if_neg (by simp), tok_one (.inl rfl) (by rfl)]
  simp only [List.drop_succ_cons, List.drop_zero]
  rw [if_neg (by decide), lexF, deep_skip (by omega)]
  obtain ⟨n, rfl⟩ : ∃ n', n = n' + 1 := ⟨n - 1, by omega⟩
  rw [closes_less m n h]
  rfl
theorem lex_deep_all {n : Nat} (h : 0 < n) (hn : n ≤ 300) : lex (deep n n) = .ok [(⟨3, [97], 0⟩, 0), (⟨3, [99], 0⟩, 8 * n + 2)] := by
  unfold lex
  rw [if_neg (by rw [deep_len]; omega), deep_len, show 5 * n + 3 * n + 3 + 1 = (5 * n + 3 * n + 1) + 1 + 1 + 1 by omega]
  unfold deep
  rw [lexF, skip_tok (.inl rfl)]
  simp only [List.drop_zero]
  rw [if_neg (by simp), tok_one (.inl rfl) (by rfl)]
  simp only [List.drop_succ_cons, List.drop_zero]
  rw [if_neg (by decide), lexF, deep_skip h]
  obtain ⟨n, rfl⟩ : ∃ n', n = n' + 1 := ⟨n - 1, by omega⟩
  have e1 : (32 :: 98 :: 32 :: (rep opn n ++ (rep cls (n + 1) ++ [99]))).drop (3 * n + 2 + (5 * n + 3)) = [32, 99] := by
    have : (32 :: 98 :: 32 :: (rep opn n ++ (rep cls (n + 1) ++ [99]))) = (32 :: 98 :: 32 :: (rep opn n ++ (rep cls n ++ [42, 41]))) ++ [32, 99] := by
      rw [rep_succ cls n]; simp [cls]
    rw [this]
    refine List.drop_left' ?_
    simp only [List.length_cons, List.length_append, rep_len, opn, cls, List.length_nil]
    omega
  have e2 : (32 :: (rep opn (n + 1) ++ (rep cls (n + 1) ++ [99]))).drop (3 + (3 * n + 2 + (5 * n + 3)) + 1) = [99] := by
    have : (32 :: (rep opn (n + 1) ++ (rep cls (n + 1) ++ [99]))) = (32 :: (rep opn (n + 1) ++ rep cls (n + 1))) ++ [99] := by simp
    rw [this]
    refine List.drop_left' ?_
    simp only [List.length_cons, List.length_append, rep_len, opn, cls, List.length_nil]
    omega
  have e3 : skip [32, 99] = .ok 1 := rfl
  rw [closes_all n, show n + 1 - 1 = n by omega]
  simp only [Option.map_some]
  rw [e1, e3]
  simp only
  rw [e2, if_neg (by simp), tok_one (.inr rfl) rfl]
  simp only
  rw [if_neg (by decide), lexF]
  simp only [List.drop_succ_cons, List.drop_zero]
  rw [skip_nil]
  simp only [List.drop_nil, if_true]
  rw [show 0 + 0 + 1 + (3 + (3 * n + 2 + (5 * n + 3)) + 1) = 8 * (n + 1) + 2 by omega]
end Lx
end Go.Proofs.YtccdcgifomonoaaDoor
