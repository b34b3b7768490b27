/- Two texts with a blank between them: their tokens. No program in sight. -/
import Derived.Test.YtpccfimjkffkfaaDoorLxJoinL
namespace Go.Proofs.YtpccfimjkffkfaaDoor
set_option linter.unusedVariables false
set_option linter.unusedSimpArgs false
namespace Lx
theorem tok_pos_le {L : List Nat} {t : Tok} {n : Nat} (h : tok L = some (t, n)) : 1 ≤ n ∧ n ≤ L.length := by
  cases L with
  | nil => cases h
  | cons c L =>
    rw [tok_cons] at h
    have hp : ∀ p : Nat → Bool, ((c :: L).takeWhile p).length ≤ (c :: L).length := fun p => (List.takeWhile_prefix p).length_le
    have hq : ∀ p : Nat → Bool, (L.takeWhile p).length ≤ L.length := fun p => (List.takeWhile_prefix p).length_le
    split at h
    · rename_i hd
      split at h
      · cases h
        refine ⟨?_, hp _⟩
        rw [List.takeWhile_cons, hd]; simp
      · cases h
    · split at h
      · obtain ⟨x, hx, e⟩ := Option.map_eq_some_iff.1 h
        cases e
        have : ∀ (m : Nat) (L : List Nat), L.length ≤ m → ∀ x, text L = some x → x.2 ≤ L.length := by
          intro m
          induction m with
          | zero => intro L hL x hx; rw [List.length_eq_zero_iff.1 (Nat.le_zero.1 hL)] at hx; cases hx
          | succ m ih =>
            intro L hL x hx
            cases L with
            | nil => cases hx
            | cons a L =>
              by_cases ha : a = 34
              · subst ha; rw [text_end] at hx; cases hx; simp
              · rw [text_step ha] at hx
                cases hu : unit (a :: L) with
                | none => rw [hu] at hx; cases hx
                | some y =>
                  obtain ⟨v, k⟩ := y
                  rw [hu] at hx
                  obtain ⟨z, hz, e⟩ := Option.map_eq_some_iff.1 hx
                  have hk := unit_pos hu
                  have := ih ((a :: L).drop k) (by rw [List.length_drop]; omega) z hz
                  rw [List.length_drop] at this
                  cases e
                  simp only
                  omega
        have := this L.length L (Nat.le_refl _) x hx
        simp only [List.length_cons]
        omega
      · split at h
        · split at h
          · cases h
          · cases h
            have := hq inName
            simp only [List.length_cons]; omega
        · split at h
          · rename_i hs
            cases h
            refine ⟨?_, hp _⟩
            have : inName c = true := by
              unfold inName
              rw [hs]; rfl
            rw [List.takeWhile_cons, this]; simp
          · split at h
            · cases h
            · rename_i h0
              cases h
              refine ⟨by omega, ?_⟩
              unfold signLen
              split
              · rename_i hp
                match L, hp with
                | [], hp => simp [pairs] at hp
                | b :: L, _ => simp
              · split <;> simp
/-- More tokens in front. -/
def pre (l : List (Tok × Nat)) : Except (Nat × Nat) (List (Tok × Nat)) → Except (Nat × Nat) (List (Tok × Nat))
  | .ok m => .ok (l ++ m)
  | .error e => .error e
theorem lexF_succ (f cnt a : Nat) (L : List Nat) : lexF (f + 1) cnt a L = (match skip L with
    | .error n => .error (10, a + n)
    | .ok n => if L.drop n = [] then .ok [] else
      (match tok (L.drop n) with
      | none => .error (10, a + n)
      | some (t, k) => if cnt = 4000 then .error (2, a + n) else pre [(t, a + n)] (lexF f (cnt + 1) (a + n + k) ((L.drop n).drop k)))) := by
  rw [lexF]
  cases skip L with
  | error n => rfl
  | ok n =>
    simp only
    split
    · rfl
    · cases tok (L.drop n) with
      | none => rfl
      | some x =>
        obtain ⟨t, k⟩ := x
        simp only
        split
        · rfl
        · cases lexF f (cnt + 1) (a + n + k) ((L.drop n).drop k) <;> rfl
theorem lexF_more : ∀ f g cnt a L, L.length < f → L.length < g → lexF f cnt a L = lexF g cnt a L
  | 0, _, _, _, _, h, _ => by omega
  | _, 0, _, _, _, _, h => by omega
  | f + 1, g + 1, cnt, a, L, h, h' => by
    rw [lexF_succ, lexF_succ]
    cases skip L with
    | error n => rfl
    | ok n =>
      simp only
      split
      · rfl
      · cases ht : tok (L.drop n) with
        | none => rfl
        | some x =>
          obtain ⟨t, k⟩ := x
          have := tok_pos_le ht
          rw [List.length_drop] at this
          simp only
          rw [lexF_more f g (cnt + 1) (a + n + k) ((L.drop n).drop k) (by rw [List.length_drop, List.length_drop]; omega) (by rw [List.length_drop, List.length_drop]; omega)]
theorem pre_pre (l m : List (Tok × Nat)) (r) : pre l (pre m r) = pre (l ++ m) r := by cases r <;> simp [pre]
theorem pre_nil (r) : pre [] r = r := by cases r <;> simp [pre]
theorem lexF_joint (B : List Nat) : ∀ f A cnt a l, A.length < f → lexF f cnt a A = .ok l → ∀ g, A.length + 1 + B.length < g → lexF g cnt a (A ++ 32 :: B) = pre l (lexF (B.length + 1) (cnt + l.length) (a + A.length + 1) B)
  | 0, A, cnt, a, l, h, _ => by omega
  | f + 1, A, cnt, a, l, hf, h => by
    intro g hg
    obtain ⟨g, rfl⟩ : ∃ g', g = g' + 1 := ⟨g - 1, by omega⟩
    rw [lexF_succ] at h ⊢
    cases hs : skip A with
    | error e => rw [hs] at h; cases h
    | ok n =>
      rw [hs] at h
      simp only at h
      rw [skip_joint B A.length A (Nat.le_refl _) n hs]
      have hn := skip_le A.length A (Nat.le_refl _) n hs
      by_cases hd : A.drop n = []
      · rw [if_pos hd] at h
        cases h
        rw [if_pos hd, List.length_nil, Nat.add_zero, lexF_succ]
        cases hb : skip B with
        | error e =>
          simp only [sh, pre]
          rw [show a + (A.length + 1 + e) = a + A.length + 1 + e by omega]
        | ok m =>
          have e1 : (A ++ 32 :: B).drop (A.length + 1 + m) = B.drop m := by
            rw [show A ++ 32 :: B = (A ++ [32]) ++ B by simp, show A.length + 1 + m = (A ++ [32]).length + m by simp, List.drop_append]
            simp
          simp only [sh]
          rw [e1, show a + (A.length + 1 + m) = a + A.length + 1 + m by omega]
          by_cases hbd : B.drop m = []
          · rw [if_pos hbd, if_pos hbd]; rfl
          · rw [if_neg hbd, if_neg hbd]
            cases ht : tok (B.drop m) with
            | none => rfl
            | some x =>
              obtain ⟨t, k⟩ := x
              have := tok_pos_le ht
              rw [List.length_drop] at this
              simp only
              rw [lexF_more g B.length (cnt + 1) (a + A.length + 1 + m + k) ((B.drop m).drop k) (by rw [List.length_drop, List.length_drop]; omega) (by rw [List.length_drop, List.length_drop]; omega)]
              rw [pre_nil]; rfl
      · rw [if_neg hd] at h
        rw [if_neg hd]
        cases ht : tok (A.drop n) with
        | none => rw [ht] at h; cases h
        | some x =>
          obtain ⟨t, k⟩ := x
          have hk := tok_pos_le ht
          rw [ht] at h
          simp only at h
          split at h
          · cases h
          · rename_i hc
            cases hr : lexF f (cnt + 1) (a + n + k) ((A.drop n).drop k) with
            | error e => rw [hr] at h; cases h
            | ok l' =>
              rw [hr] at h
              cases h
              have hlen : ((A.drop n).drop k).length = A.length - n - k := by rw [List.length_drop, List.length_drop]
              rw [List.length_drop] at hk
              have ih := lexF_joint B f ((A.drop n).drop k) (cnt + 1) (a + n + k) l' (by rw [hlen]; omega) hr g (by rw [hlen]; omega)
              simp only
              rw [List.drop_append_of_le_length hn, if_neg (by simp), tok_joint B hd ht]
              simp only
              rw [if_neg hc, List.drop_append_of_le_length (by rw [List.length_drop]; omega), ih, pre_pre, hlen, List.length_append, List.length_singleton]
              rw [show cnt + 1 + l'.length = cnt + (1 + l'.length) by omega, show a + n + k + (A.length - n - k) + 1 = a + A.length + 1 by omega]
end Lx
end Go.Proofs.YtpccfimjkffkfaaDoor
