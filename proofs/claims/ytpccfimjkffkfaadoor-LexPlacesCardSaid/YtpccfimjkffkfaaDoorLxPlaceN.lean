/- Where tokens stand, in lists. -/
import Derived.Test.YtpccfimjkffkfaaDoorLxErrN
namespace Go.Proofs.YtpccfimjkffkfaaDoor
set_option linter.unusedVariables false
namespace Lx
theorem closes_take : ∀ (n d : Nat) (L : List Nat), L.length ≤ n → ∀ k, closes d L = some k → closes d (L.take k) = some k
  | _, 0, L, _, k, h => by rw [closes_zero] at h; cases h; rw [List.take_zero, closes_zero]
  | _, d + 1, [], _, k, h => by rw [closes_nil] at h; cases h
  | 0, d + 1, c :: L, hn, k, h => by simp at hn
  | n + 1, d + 1, c :: L, hn, k, h => by
    simp only [List.length_cons] at hn
    by_cases h1 : c = 40 ∧ L.head? = some 42
    · obtain ⟨rfl, h1⟩ := h1
      obtain ⟨L', rfl⟩ : ∃ L', L = 42 :: L' := by cases L with | nil => cases h1 | cons a b => cases h1; exact ⟨b, rfl⟩
      rw [closes_open] at h
      obtain ⟨j, hj, rfl⟩ := Option.map_eq_some_iff.1 h
      have ih := closes_take n _ L' (by simp only [List.length_cons] at hn; omega) j hj
      rw [show (40 :: 42 :: L').take (j + 2) = 40 :: 42 :: L'.take j from rfl, closes_open, ih]; rfl
    · by_cases h2 : c = 42 ∧ L.head? = some 41
      · obtain ⟨rfl, h2⟩ := h2
        obtain ⟨L', rfl⟩ : ∃ L', L = 41 :: L' := by cases L with | nil => cases h2 | cons a b => cases h2; exact ⟨b, rfl⟩
        rw [closes_shut] at h
        obtain ⟨j, hj, rfl⟩ := Option.map_eq_some_iff.1 h
        have ih := closes_take n _ L' (by simp only [List.length_cons] at hn; omega) j hj
        rw [show (42 :: 41 :: L').take (j + 2) = 42 :: 41 :: L'.take j from rfl, closes_shut, ih]; rfl
      · rw [closes_other d h1 h2] at h
        obtain ⟨j, hj, rfl⟩ := Option.map_eq_some_iff.1 h
        have ih := closes_take n _ L (by omega) j hj
        have hh : ∀ b, (L.take j).head? = some b → L.head? = some b := fun b hb => by
          cases L with
          | nil => simp at hb
          | cons a L => cases j with
            | zero => simp at hb
            | succ j => simpa using hb
        rw [List.take_succ_cons, closes_other d (fun e => h1 ⟨e.1, hh _ e.2⟩) (fun e => h2 ⟨e.1, hh _ e.2⟩), ih]; rfl
theorem skip_take : ∀ (m : Nat) (L : List Nat), L.length ≤ m → ∀ n, skip L = .ok n → skip (L.take n) = .ok n
  | _, [], _, n, h => by rw [skip_nil] at h; cases h; rfl
  | 0, c :: L, hm, n, h => by simp at hm
  | m + 1, c :: L, hm, n, h => by
    simp only [List.length_cons] at hm
    cases hb : blank c with
    | true =>
      rw [skip_blank_sh hb] at h
      cases hs : skip L with
      | error e => rw [hs] at h; cases h
      | ok k =>
        rw [hs] at h
        have ih := skip_take m L (by omega) k hs
        cases h
        rw [Nat.add_comm 1 k, List.take_succ_cons, skip_blank_sh hb, ih]
        show Except.ok (1 + k) = _
        rw [Nat.add_comm]
    | false =>
      by_cases h2 : c = 40 ∧ L.head? = some 42
      · obtain ⟨rfl, h2⟩ := h2
        obtain ⟨L', rfl⟩ : ∃ L', L = 42 :: L' := by cases L with | nil => cases h2 | cons a b => cases h2; exact ⟨b, rfl⟩
        cases hc : closes 1 L' with
        | none => rw [skip_remark, hc] at h; cases h
        | some k =>
          have hk := closes_le L'.length 1 L' (Nat.le_refl _) k hc
          rw [skip_remark_sh hc] at h
          cases hs : skip (L'.drop k) with
          | error e => rw [hs] at h; cases h
          | ok j =>
            rw [hs] at h
            have ih := skip_take m (L'.drop k) (by rw [List.length_drop]; simp only [List.length_cons] at hm; omega) j hs
            cases h
            rw [show 2 + k + j = (k + j) + 2 by omega, show (40 :: 42 :: L').take (k + j + 2) = 40 :: 42 :: L'.take (k + j) from rfl]
            have hct := closes_take _ _ L' (Nat.le_refl _) k hc
            have hspl : L'.take (k + j) = L'.take k ++ (L'.drop k).take j := by rw [List.take_add]
            have hc2 : closes 1 (L'.take (k + j)) = some k := by rw [hspl]; exact closes_more _ _ _ _ (Nat.le_refl _) k hct
            rw [skip_remark_sh hc2]
            have hd : (L'.take (k + j)).drop k = (L'.drop k).take j := by rw [List.drop_take, show k + j - k = j by omega]
            rw [hd, ih]
            show Except.ok (2 + k + j) = _
            rw [show 2 + k + j = k + j + 2 by omega]
      · rw [skip_here hb h2] at h; cases h; rfl
theorem lex_gap {L : List Nat} {n : Nat} (h : skip L = .ok n) (hn : n ≤ 3000) : lex (L.take n) = .ok [] := by
  have hs := skip_take _ L (Nat.le_refl _) n h
  have hl := skip_le _ _ (Nat.le_refl _) n hs
  unfold lex
  rw [if_neg (by rw [List.length_take]; omega), lexF_succ, hs]
  simp only
  rw [if_pos]
  exact List.drop_eq_nil_of_le (by rw [List.length_take]; omega)
theorem lexF_cons_ok {f cnt a : Nat} {L : List Nat} {x : Tok × Nat} {l : List (Tok × Nat)} (h : lexF f cnt a L = .ok (x :: l)) : ∃ f' n k, f = f' + 1 ∧ skip L = .ok n ∧ n ≤ L.length ∧ tok (L.drop n) = some (x.1, k) ∧ x.2 = a + n ∧ 1 ≤ k ∧ n + k ≤ L.length ∧ lexF f' (cnt + 1) (a + n + k) ((L.drop n).drop k) = .ok l := by
  cases f with
  | zero => cases h
  | succ f =>
    rw [lexF_succ] at h
    cases hs : skip L with
    | error n => rw [hs] at h; cases h
    | ok n =>
      rw [hs] at h
      have hn := skip_le _ L (Nat.le_refl _) n hs
      simp only at h
      split at h
      · cases h
      · cases ht : tok (L.drop n) with
        | none => rw [ht] at h; cases h
        | some y =>
          obtain ⟨t, j⟩ := y
          rw [ht] at h
          simp only at h
          have hj := tok_pos_le ht
          rw [List.length_drop] at hj
          split at h
          · cases h
          · cases hr : lexF f (cnt + 1) (a + n + j) ((L.drop n).drop j) with
            | error e => rw [hr] at h; cases h
            | ok m =>
              rw [hr] at h
              cases h
              exact ⟨f, n, j, rfl, rfl, hn, ht, rfl, hj.1, by omega, hr⟩
theorem take_tw {p : Nat → Bool} (M : List Nat) : M.take (M.takeWhile p).length = M.takeWhile p := (List.prefix_iff_eq_take.1 (List.takeWhile_prefix p)).symm
/-- What is neither a number nor a text stands there as it is. -/
theorem tok_as_is {L : List Nat} {t : Tok} {k : Nat} (h : tok L = some (t, k)) (h1 : t.kind ≠ 1) (h2 : t.kind ≠ 2) : t.text = L.take k ∧ t.text.length = k := by
  have hle := (tok_pos_le h).2
  have hlen : ∀ T : List Nat, T = L.take k → T = L.take k ∧ T.length = k := fun T e => ⟨e, by rw [e, List.length_take]; omega⟩
  apply hlen
  cases L with
  | nil =>
    rw [show tok [] = none from rfl] at h
    cases h
  | cons c L =>
    rw [tok_cons] at h
    split at h
    · split at h
      · cases h; exact absurd rfl h1
      · cases h
    · split at h
      · obtain ⟨x, hx, e⟩ := Option.map_eq_some_iff.1 h
        cases e; exact absurd rfl h2
      · split at h
        · rename_i hc
          subst hc
          split at h
          · cases h
          · cases h
            rw [List.take_succ_cons, take_tw]
        · split at h
          · cases h
            rw [take_tw]
          · split at h
            · cases h
            · cases h; rfl
end Lx
end Go.Proofs.YtpccfimjkffkfaaDoor
