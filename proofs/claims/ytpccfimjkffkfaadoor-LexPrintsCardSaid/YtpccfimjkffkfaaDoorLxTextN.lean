/- What quote writes is read as the text. -/
import Derived.Test.YtpccfimjkffkfaaDoorLxQuote
namespace Go.Proofs.YtpccfimjkffkfaaDoor
set_option linter.unusedVariables false
set_option linter.unusedSimpArgs false
namespace Lx
theorem unit_qb {c : Nat} (hc : c < 256) (X : List Nat) : unit (qb c ++ X) = some (c, (qb c).length) ∧ ∃ a l, qb c = a :: l ∧ a ≠ 34 := by
  by_cases h10 : c = 10
  · subst h10; exact ⟨rfl, 92, [110], rfl, by decide⟩
  by_cases h9 : c = 9
  · subst h9; exact ⟨rfl, 92, [116], rfl, by decide⟩
  by_cases h34 : c = 34
  · subst h34; exact ⟨rfl, 92, [34], rfl, by decide⟩
  by_cases h92 : c = 92
  · subst h92; exact ⟨rfl, 92, [92], rfl, by decide⟩
  have hn : ¬ (c = 34 ∨ c = 92) := by omega
  by_cases hr : c < 32 ∨ 126 < c
  · have e : qb c = [92, 48 + c / 100, 48 + c / 10 % 10, 48 + c % 10] := by unfold qb; rw [if_neg h10, if_neg h9, if_neg hn, if_pos hr]
    rw [e]
    refine ⟨?_, 92, _, rfl, by decide⟩
    have d1 : dig (48 + c / 100) = true := by simp only [dig, Bool.and_eq_true, decide_eq_true_eq]; omega
    have d2 : dig (48 + c / 10 % 10) = true := by simp only [dig, Bool.and_eq_true, decide_eq_true_eq]; omega
    have d3 : dig (48 + c % 10) = true := by simp only [dig, Bool.and_eq_true, decide_eq_true_eq]; omega
    have hv : num [48 + c / 100, 48 + c / 10 % 10, 48 + c % 10] = c := by simp only [num, List.foldl_cons, List.foldl_nil]; omega
    have he : esc ((48 + c / 100) :: (48 + c / 10 % 10) :: (48 + c % 10) :: X) = some (c, 3) := by
      unfold esc
      simp only [d1, if_true]
      rw [if_pos ⟨d2, d3, by rw [hv]; omega⟩, hv]
    show (esc ((48 + c / 100) :: (48 + c / 10 % 10) :: (48 + c % 10) :: X)).map (fun x => (x.1, x.2 + 1)) = _
    rw [he]; rfl
  · have e : qb c = [c] := by unfold qb; rw [if_neg h10, if_neg h9, if_neg hn, if_neg hr]
    rw [e]
    refine ⟨?_, c, [], rfl, h34⟩
    show (if c = 92 then _ else if c < 32 then none else some (c, 1)) = _
    rw [if_neg h92, if_neg (by omega)]; rfl
theorem text_qbs (T : List Nat) : ∀ L : List Nat, (∀ c ∈ L, c < 256) → text (qbs L ++ 34 :: T) = some (L, (qbs L).length + 1)
  | [], _ => rfl
  | c :: L, h => by
    obtain ⟨h1, a, l, h2, h3⟩ := unit_qb (h c List.mem_cons_self) (qbs L ++ 34 :: T)
    have e : qbs (c :: L) ++ 34 :: T = a :: (l ++ (qbs L ++ 34 :: T)) := by
      show (qb c ++ qbs L) ++ 34 :: T = _
      rw [h2, List.append_assoc]; rfl
    rw [e, text_step h3]
    have e2 : (a :: (l ++ (qbs L ++ 34 :: T))) = qb c ++ (qbs L ++ 34 :: T) := by rw [h2]; rfl
    rw [e2, h1]
    simp only
    rw [List.drop_left' rfl, text_qbs T L fun x hx => h x (List.mem_cons_of_mem _ hx)]
    simp only [Option.map_some, Option.some.injEq, Prod.mk.injEq, true_and]
    show (qbs L).length + 1 + (qb c).length = (qb c ++ qbs L).length + 1
    rw [List.length_append]; omega
theorem lex_text {L : List Nat} (h : ∀ c ∈ L, c < 256) (hl : L.length ≤ 3000) : lex (34 :: (qbs L ++ [34])) = .ok [(⟨2, L, 0⟩, 0)] := by
  have hq := qbs_len L
  have hlen : (34 :: (qbs L ++ [34])).length = (qbs L).length + 1 + 1 := by simp
  unfold lex
  rw [if_neg (by rw [hlen]; omega), hlen, lexF, skip_here (by decide) (by simp)]
  simp only [List.drop_zero]
  have ht : tok (34 :: (qbs L ++ [34])) = some (⟨2, L, 0⟩, (qbs L).length + 1 + 1) := by
    unfold tok
    simp only [List.headD_cons, List.tail_cons]
    rw [if_neg (by decide), if_pos trivial, text_qbs [] L h]; rfl
  rw [if_neg (by simp), ht]
  simp only
  rw [if_neg (by decide), List.drop_eq_nil_of_le (by rw [hlen]; exact Nat.le_refl _), lexF, skip_nil]
  rfl
theorem qbs_small {L : List Nat} (h : ∀ c ∈ L, c < 256) : ∀ c ∈ qbs L, c < 256 := by
  intro c hc
  obtain ⟨x, hx, hc⟩ := List.mem_flatMap.1 hc
  have := h x hx
  unfold qb at hc
  split at hc
  · simp at hc; omega
  · split at hc
    · simp at hc; omega
    · split at hc
      · simp at hc; omega
      · split at hc
        · simp at hc; omega
        · simp at hc; omega
end Lx
end Go.Proofs.YtpccfimjkffkfaaDoor
