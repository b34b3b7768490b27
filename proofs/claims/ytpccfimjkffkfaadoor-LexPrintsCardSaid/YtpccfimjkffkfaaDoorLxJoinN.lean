/- Two texts with a blank between them, in lists. No program in sight. -/
import Derived.Test.YtpccfimjkffkfaaDoorLxM
namespace Go.Proofs.YtpccfimjkffkfaaDoor
set_option linter.unusedVariables false
set_option linter.unusedSimpArgs false
namespace Lx
theorem takeWhile_joint {p : Nat → Bool} (hp : p 32 = false) (B : List Nat) : ∀ A : List Nat, (A ++ 32 :: B).takeWhile p = A.takeWhile p
  | [] => by simp [hp]
  | c :: A => by
    rw [List.cons_append, List.takeWhile_cons, List.takeWhile_cons, takeWhile_joint hp B A]
theorem esc_more {L : List Nat} {x : Nat × Nat} (X : List Nat) (h : esc L = some x) : esc (L ++ X) = some x := by
  match L, h with
  | [a], h =>
    unfold esc at h ⊢
    cases hd : dig a with
    | true => simp only [hd, if_true] at h; cases h
    | false =>
      simp only [hd, List.cons_append] at h ⊢
      exact h
  | [a, b], h =>
    unfold esc at h ⊢
    cases hd : dig a with
    | true => simp only [hd, if_true] at h; cases h
    | false =>
      simp only [hd, List.cons_append] at h ⊢
      exact h
  | a :: b :: c :: L, h => exact h
theorem unit_cons (c : Nat) (L : List Nat) : unit (c :: L) = if c = 92 then (esc L).map (fun x => (x.1, x.2 + 1)) else if c < 32 then none else some (c, 1) := rfl
theorem tok_cons (c : Nat) (L : List Nat) : tok (c :: L) = if dig c = true then (if num ((c :: L).takeWhile dig) ≤ 4611686018427387903 then some (⟨1, [], num ((c :: L).takeWhile dig)⟩, ((c :: L).takeWhile dig).length) else none)
    else if c = 34 then (text L).map fun x => (⟨2, x.1, 0⟩, x.2 + 1)
    else if c = 39 then (if L.takeWhile inName = [] then none else some (⟨5, 39 :: L.takeWhile inName, 0⟩, (L.takeWhile inName).length + 1))
    else if (small c || great c) = true then some (⟨kind ((c :: L).takeWhile inName), (c :: L).takeWhile inName, 0⟩, ((c :: L).takeWhile inName).length)
    else if signLen (c :: L) = 0 then none else some (⟨6, (c :: L).take (signLen (c :: L)), 0⟩, signLen (c :: L)) := rfl
theorem unit_more {L : List Nat} {x : Nat × Nat} (X : List Nat) (h : unit L = some x) : unit (L ++ X) = some x := by
  match L, h with
  | c :: L, h =>
    rw [unit_cons] at h
    rw [List.cons_append, unit_cons]
    split at h
    · rename_i hc
      obtain ⟨y, hy, e⟩ := Option.map_eq_some_iff.1 h
      rw [if_pos hc, esc_more X hy, ← e]; rfl
    · rename_i hc
      rw [if_neg hc]; exact h
theorem text_more (X : List Nat) : ∀ (n : Nat) (L : List Nat), L.length ≤ n → ∀ x, text L = some x → text (L ++ X) = some x
  | _, [], _, x, h => by rw [text_nil] at h; cases h
  | 0, c :: L, hn, x, h => by simp at hn
  | n + 1, c :: L, hn, x, h => by
    by_cases hc : c = 34
    · subst hc
      rw [text_end] at h
      rw [List.cons_append, text_end]; exact h
    · rw [text_step hc] at h
      cases hu : unit (c :: L) with
      | none => rw [hu] at h; cases h
      | some y =>
        obtain ⟨v, k⟩ := y
        rw [hu] at h
        simp only at h
        have hk := unit_pos hu
        obtain ⟨z, hz, e⟩ := Option.map_eq_some_iff.1 h
        have hu2 := unit_more X hu
        rw [List.cons_append] at hu2 ⊢
        rw [text_step hc, hu2]
        simp only
        have e2 : (c :: (L ++ X)).drop k = (c :: L).drop k ++ X := by
          rw [← List.cons_append, List.drop_append_of_le_length hk.2]
        rw [e2, text_more X n ((c :: L).drop k) (by rw [List.length_drop]; simp only [List.length_cons] at hn hk ⊢; omega) z hz, ← e]
        rfl
theorem closes_more (X : List Nat) : ∀ (n d : Nat) (L : List Nat), L.length ≤ n → ∀ k, closes d L = some k → closes d (L ++ X) = some k
  | _, 0, L, _, k, h => by rw [closes_zero] at h ⊢; exact h
  | _, d + 1, [], _, k, h => by rw [closes_nil] at h; cases h
  | 0, d + 1, c :: L, hn, k, h => by simp at hn
  | n + 1, d + 1, c :: L, hn, k, h => by
    simp only [List.length_cons] at hn
    by_cases h1 : c = 40 ∧ L.head? = some 42
    · obtain ⟨rfl, h1⟩ := h1
      obtain ⟨L', rfl⟩ : ∃ L', L = 42 :: L' := by cases L with | nil => cases h1 | cons a b => cases h1; exact ⟨b, rfl⟩
      rw [closes_open] at h
      obtain ⟨j, hj, e⟩ := Option.map_eq_some_iff.1 h
      simp only [List.cons_append]
      rw [closes_open, closes_more X n _ L' (by simp only [List.length_cons] at hn; omega) j hj, ← e]; rfl
    · by_cases h2 : c = 42 ∧ L.head? = some 41
      · obtain ⟨rfl, h2⟩ := h2
        obtain ⟨L', rfl⟩ : ∃ L', L = 41 :: L' := by cases L with | nil => cases h2 | cons a b => cases h2; exact ⟨b, rfl⟩
        rw [closes_shut] at h
        obtain ⟨j, hj, e⟩ := Option.map_eq_some_iff.1 h
        simp only [List.cons_append]
        rw [closes_shut, closes_more X n _ L' (by simp only [List.length_cons] at hn; omega) j hj, ← e]; rfl
      · rw [closes_other d h1 h2] at h
        obtain ⟨j, hj, e⟩ := Option.map_eq_some_iff.1 h
        cases L with
        | nil => rw [closes_nil] at hj; cases hj
        | cons a L =>
          rw [List.cons_append, closes_other d (by simpa using h1) (by simpa using h2), closes_more X n _ (a :: L) (by omega) j hj, ← e]; rfl
theorem signLen_joint {A : List Nat} (hA : A ≠ []) (B : List Nat) : signLen (A ++ 32 :: B) = signLen A := by
  match A, hA with
  | [a], _ =>
    unfold signLen
    have e1 : pairs.contains (([a] ++ 32 :: B).take 2) = false := by
      simp [pairs]
    have e2 : pairs.contains (([a] : List Nat).take 2) = false := by
      simp [pairs]
    rw [e1, e2]; rfl
  | a :: b :: A, _ => rfl
theorem tok_joint {A : List Nat} {x : Tok × Nat} (B : List Nat) (hA : A ≠ []) (h : tok A = some x) : tok (A ++ 32 :: B) = some x := by
  obtain ⟨c, L, rfl⟩ := List.exists_cons_of_ne_nil hA
  have e1 := signLen_joint hA B
  have e2 := takeWhile_joint (p := dig) (by decide) B (c :: L)
  have e3 := takeWhile_joint (p := inName) (by decide) B (c :: L)
  rw [List.cons_append] at e1 e2 e3 ⊢
  rw [tok_cons] at h ⊢
  rw [e1, e2, e3]
  split
  · rename_i hd; rw [if_pos hd] at h; exact h
  · rename_i hd
    rw [if_neg hd] at h
    split
    · rename_i hc
      rw [if_pos hc] at h
      obtain ⟨y, hy, e⟩ := Option.map_eq_some_iff.1 h
      rw [text_more _ _ L (Nat.le_refl _) y hy, ← e]; rfl
    · rename_i hc
      rw [if_neg hc] at h
      split
      · rename_i h39
        rw [if_pos h39] at h
        rw [takeWhile_joint (by decide)]; exact h
      · rename_i h39
        rw [if_neg h39] at h
        split
        · rename_i hs; rw [if_pos hs] at h; exact h
        · rename_i hs
          rw [if_neg hs] at h
          split
          · rename_i h0; rw [if_pos h0] at h; cases h
          · rename_i h0
            rw [if_neg h0] at h
            have hle : signLen (c :: L) ≤ (c :: L).length := by
              unfold signLen
              split
              · rename_i hp
                match L, hp with
                | [], hp => simp [pairs] at hp
                | b :: L, _ => simp
              · split <;> simp
            rw [← List.cons_append, List.take_append_of_le_length hle]; exact h
end Lx
end Go.Proofs.YtpccfimjkffkfaaDoor
