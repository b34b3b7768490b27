/- Tokens that are printed are cut into the same ones, in lists. -/
import Derived.Test.YtpccfimjkffkfaaDoorLxErrN
import Derived.Test.YtpccfimjkffkfaaDoorLxTextN
import Derived.Test.YtpccfimjkffkfaaDoorLxNumN
namespace Go.Proofs.YtpccfimjkffkfaaDoor
set_option linter.unusedVariables false
namespace Lx
/-- A token as it is printed. -/
def pc (t : Tok) : List Nat := if t.kind = 1 then dd t.n else if t.kind = 2 then 34 :: (qbs t.text ++ [34]) else t.text
/-- What may stand behind a token that was printed. -/
def Sep (X : List Nat) : Prop := X = [] ∨ ∃ Y, X = 32 :: Y
theorem takeWhile_sep {p : Nat → Bool} (hp : p 32 = false) {X : List Nat} (hX : Sep X) : ∀ A : List Nat, (∀ c ∈ A, p c = true) → (A ++ X).takeWhile p = A
  | [], _ => by
    rcases hX with rfl | ⟨Y, rfl⟩
    · rfl
    · rw [List.nil_append, List.takeWhile_cons, hp]; rfl
  | c :: A, h => by
    rw [List.cons_append, List.takeWhile_cons, h c (List.mem_cons_self ..), if_pos rfl, takeWhile_sep hp hX A fun d hd => h d (List.mem_cons_of_mem _ hd)]
theorem twm (p : Nat → Bool) (L : List Nat) : ∀ d ∈ L.takeWhile p, p d = true := fun d hd => List.all_eq_true.1 List.all_takeWhile d hd
theorem twl (p : Nat → Bool) (L : List Nat) : (L.takeWhile p).length ≤ L.length := (List.takeWhile_prefix p).length_le
/-- A token that is cut out of a text. -/
inductive Good : Tok → Nat → Prop
  | num (n k : Nat) (hn : n ≤ 4611686018427387903) (hk : (dd n).length ≤ k) : Good ⟨1, [], n⟩ k
  | text (T : List Nat) (k : Nat) (hT : ∀ c ∈ T, c < 256) (hk : T.length + 2 ≤ k) : Good ⟨2, T, 0⟩ k
  | var (w : List Nat) (hw : w ≠ []) (h : ∀ c ∈ w, inName c = true) : Good ⟨5, 39 :: w, 0⟩ (w.length + 1)
  | word (c : Nat) (w : List Nat) (hc : (small c || great c) = true) (h : ∀ d ∈ w, inName d = true) : Good ⟨kind (c :: w), c :: w, 0⟩ (w.length + 1)
  | two (x : List Nat) (hx : x ∈ pairs) : Good ⟨6, x, 0⟩ 2
  | one (c : Nat) (hc : c ∈ ones) : Good ⟨6, [c], 0⟩ 1
theorem num_lt : ∀ L : List Nat, (∀ c ∈ L, dig c = true) → num L < 10 ^ L.length := by
  intro L
  have : ∀ (M : List Nat) (a b : Nat), a < 10 ^ b → (∀ c ∈ M, dig c = true) → M.foldl (fun n c => 10 * n + (c - 48)) a < 10 ^ (b + M.length) := by
    intro M
    induction M with
    | nil => intro a b h _; exact h
    | cons c M ih =>
      intro a b h hd
      have hc : 48 ≤ c ∧ c ≤ 57 := by simpa [dig] using hd c (List.mem_cons_self ..)
      have := ih (10 * a + (c - 48)) (b + 1) (by rw [Nat.pow_succ]; omega) (fun d hd' => hd d (List.mem_cons_of_mem _ hd'))
      rw [List.foldl_cons, List.length_cons, show b + (M.length + 1) = b + 1 + M.length by omega]
      exact this
  intro h
  have := this L 0 0 (by decide) h
  rwa [Nat.zero_add] at this
theorem text_len : ∀ (n : Nat) (L : List Nat), L.length ≤ n → (∀ c ∈ L, c < 256) → ∀ x, text L = some x → x.1.length + 1 ≤ x.2 ∧ ∀ c ∈ x.1, c < 256
  | _, [], _, _, x, h => by rw [text_nil] at h; cases h
  | 0, c :: L, hn, _, x, h => by simp at hn
  | n + 1, c :: L, hn, hs, x, h => by
    by_cases hc : c = 34
    · subst hc
      rw [text_end] at h
      cases h
      exact ⟨by simp, fun d hd => by cases hd⟩
    · rw [text_step hc] at h
      cases hu : unit (c :: L) with
      | none => rw [hu] at h; cases h
      | some y =>
        obtain ⟨v, k⟩ := y
        rw [hu] at h
        obtain ⟨z, hz, rfl⟩ := Option.map_eq_some_iff.1 h
        have hp := unit_pos hu
        have ih := text_len n _ (by rw [List.length_drop]; simp only [List.length_cons] at hn ⊢; omega) (fun e he => hs e (List.mem_of_mem_drop he)) z hz
        refine ⟨by simp only [List.length_cons]; omega, fun d hd => ?_⟩
        rcases List.mem_cons.1 hd with rfl | hd
        · rw [unit_cons] at hu
          split at hu
          · obtain ⟨⟨a, b⟩, hb, e⟩ := Option.map_eq_some_iff.1 hu
            cases e
            unfold esc at hb
            split at hb
            · cases hb
            · split at hb
              · split at hb
                · split at hb
                  · rename_i h3; cases hb; have := h3.2.2; omega
                  · cases hb
                · cases hb
              · split at hb
                · cases hb; omega
                · split at hb
                  · cases hb; omega
                  · split at hb
                    · cases hb; omega
                    · split at hb
                      · cases hb; omega
                      · cases hb
          · split at hu
            · cases hu
            · cases hu; exact hs _ (List.mem_cons_self ..)
        · exact ih.2 d hd
theorem tok_good {L : List Nat} (hs : ∀ c ∈ L, c < 256) {t : Tok} {k : Nat} (h : tok L = some (t, k)) : Good t k := by
  cases L with
  | nil =>
    rw [show tok [] = none from rfl] at h
    cases h
  | cons c L =>
    rw [tok_cons] at h
    split at h
    · rename_i hd
      split at h
      · rename_i hn
        cases h
        have hall := twm dig (c :: L)
        have hne : (c :: L).takeWhile dig ≠ [] := by rw [List.takeWhile_cons, hd]; simp
        refine .num _ _ hn ?_
        have hlt := num_lt _ hall
        obtain ⟨m, hm⟩ : ∃ m, ((c :: L).takeWhile dig).length = m + 1 := ⟨((c :: L).takeWhile dig).length - 1, by
          have : ((c :: L).takeWhile dig).length ≠ 0 := fun e => hne (List.length_eq_zero_iff.1 e)
          omega⟩
        rw [hm] at hlt ⊢
        exact dd_len2 m _ hlt
      · cases h
    · split at h
      · obtain ⟨x, hx, e⟩ := Option.map_eq_some_iff.1 h
        cases e
        have := text_len _ L (Nat.le_refl _) (fun d hd => hs d (List.mem_cons_of_mem _ hd)) x hx
        exact .text _ _ this.2 (by omega)
      · split at h
        · split at h
          · cases h
          · rename_i hw
            cases h
            exact .var _ hw (twm _ _)
        · split at h
          · rename_i hc
            cases h
            have hin : inName c = true := by unfold inName; rw [hc]; rfl
            rw [List.takeWhile_cons, hin, if_pos rfl]
            exact .word c _ hc (twm _ _)
          · split at h
            · cases h
            · rename_i h0
              unfold signLen at h h0
              split at h0
              · rename_i hp
                rw [if_pos hp] at h
                cases h
                exact .two _ (List.contains_iff_mem.1 hp)
              · rename_i hp
                rw [if_neg hp] at h
                split at h0
                · rename_i ho
                  rw [if_pos ho] at h
                  cases h
                  exact .one c (List.contains_iff_mem.1 ho)
                · exact absurd rfl h0
end Lx
end Go.Proofs.YtpccfimjkffkfaaDoor
