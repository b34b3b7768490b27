/- Remarks in one another, in lists, by the length of each. -/
import Derived.Test.YtpccfimjkffkfaaDoorLxM
namespace Go.Proofs.YtpccfimjkffkfaaDoor
set_option linter.unusedVariables false
namespace Lx
/-- Two remarks are closed one behind the other. -/
theorem closes_split : ∀ (n d : Nat) (L : List Nat), L.length ≤ n → closes (d + 2) L = (match closes 1 L with
    | none => none
    | some k => (closes (d + 1) (L.drop k)).map (· + k)) := by
  have hgen : ∀ (n a d : Nat) (L : List Nat), L.length ≤ n → closes (d + 1 + a) L = (match closes a L with
    | none => none
    | some k => (closes (d + 1) (L.drop k)).map (· + k)) := by
    intro n
    induction n with
    | zero =>
      intro a d L h
      obtain rfl : L = [] := List.length_eq_zero_iff.1 (by omega)
      cases a with
      | zero => rw [closes_zero]; simp [closes_nil]
      | succ a => rw [closes_nil, show d + 1 + (a + 1) = (d + 1 + a) + 1 by omega, closes_nil]
    | succ n ih =>
      intro a d L h
      cases a with
      | zero =>
        rw [closes_zero]
        simp only [List.drop_zero, Nat.add_zero]
        cases closes (d + 1) L <;> rfl
      | succ a =>
        cases L with
        | nil => rw [closes_nil, show d + 1 + (a + 1) = (d + 1 + a) + 1 by omega, closes_nil]
        | cons c L =>
          simp only [List.length_cons] at h
          by_cases h1 : c = 40 ∧ L.head? = some 42
          · obtain ⟨rfl, h1⟩ := h1
            obtain ⟨L', rfl⟩ : ∃ L', L = 42 :: L' := by cases L with | nil => cases h1 | cons a b => cases h1; exact ⟨b, rfl⟩
            simp only [List.length_cons] at h
            rw [closes_open, show d + 1 + (a + 1) = (d + 1 + a) + 1 by omega, closes_open, show d + 1 + a + 2 = d + 1 + (a + 2) by omega, ih (a + 2) d L' (by omega)]
            cases closes (a + 2) L' with
            | none => rfl
            | some k =>
              simp only [Option.map_some]
              rw [show (40 :: 42 :: L').drop (k + 2) = L'.drop k from rfl]
              cases closes (d + 1) (L'.drop k) with
              | none => rfl
              | some j => simp only [Option.map_some]; congr 1
          · by_cases h2 : c = 42 ∧ L.head? = some 41
            · obtain ⟨rfl, h2⟩ := h2
              obtain ⟨L', rfl⟩ : ∃ L', L = 41 :: L' := by cases L with | nil => cases h2 | cons a b => cases h2; exact ⟨b, rfl⟩
              simp only [List.length_cons] at h
              rw [closes_shut, show d + 1 + (a + 1) = (d + 1 + a) + 1 by omega, closes_shut, ih a d L' (by omega)]
              cases closes a L' with
              | none => rfl
              | some k =>
                simp only [Option.map_some]
                rw [show (42 :: 41 :: L').drop (k + 2) = L'.drop k from rfl]
                cases closes (d + 1) (L'.drop k) with
                | none => rfl
                | some j => simp only [Option.map_some]; congr 1
            · rw [closes_other a h1 h2, show d + 1 + (a + 1) = (d + 1 + a) + 1 by omega, closes_other _ h1 h2, show d + 1 + a + 1 = d + 1 + (a + 1) by omega, ih (a + 1) d L (by omega)]
              cases closes (a + 1) L with
              | none => rfl
              | some k =>
                simp only [Option.map_some]
                rw [show (c :: L).drop (k + 1) = L.drop k from rfl]
                cases closes (d + 1) (L.drop k) with
                | none => rfl
                | some j => simp only [Option.map_some]; congr 1
  intro n d L h
  exact hgen n 1 d L h
/-- What the document's Remark answers. -/
def remI (L : List Nat) : Int := if L.head? = some 40 ∧ L.tail.head? = some 42 then (match closes 1 L.tail.tail with | none => -1 | some n => ((n + 2 : Nat) : Int)) else 0
theorem remI_no {L : List Nat} (h : ([40, 42] : List Nat).isPrefixOf L = false) : remI L = 0 := by
  unfold remI
  rw [if_neg]
  rintro ⟨h1, h2⟩
  cases L with
  | nil => cases h1
  | cons a L =>
    cases L with
    | nil => cases h2
    | cons b L =>
      simp only [List.head?_cons, Option.some.injEq, List.tail_cons] at h1 h2
      subst h1; subst h2
      simp at h
theorem pre2 {a b : Nat} {L : List Nat} : ([a, b] : List Nat).isPrefixOf L = true ↔ ∃ M, L = a :: b :: M := by
  rw [List.isPrefixOf_iff_prefix]
  constructor
  · rintro ⟨t, rfl⟩; exact ⟨t, rfl⟩
  · rintro ⟨t, rfl⟩; exact ⟨t, rfl⟩
theorem remI_yes {L M : List Nat} (h : L = 40 :: 42 :: M) : remI L = (match closes 1 M with | none => -1 | some n => ((n + 2 : Nat) : Int)) := by
  subst h
  unfold remI
  rw [if_pos ⟨rfl, rfl⟩]
  rfl
/-- One step of the search within a remark. -/
theorem close_step_open {L M : List Nat} (h : L = 40 :: 42 :: M) : closes 1 L = (match closes 1 M with | none => none | some n => (closes 1 (L.drop (n + 2))).map (· + (n + 2))) := by
  subst h
  rw [closes_open, closes_split M.length 0 M (Nat.le_refl _)]
  cases closes 1 M with
  | none => rfl
  | some n =>
    show Option.map _ (Option.map _ (closes 1 (M.drop n))) = Option.map _ (closes 1 (M.drop n))
    rw [Option.map_map]
    rfl
end Lx
end Go.Proofs.YtpccfimjkffkfaaDoor
