/- Heads one behind the other up to a top: what Close's walks go by. Plain facts. -/
import Derived.Test.YteanlncnhncpbaaAgree
namespace Go.Proofs.Yteanlncnhncpbaa
set_option linter.unusedVariables false
open M (W)

/-- How many words the object takes whose head the word at p is. -/
def St.nd (s : St) (p : Nat) : Nat := (s.ob (s.ws p)).need.toNat
/-- From a to p stand the heads l, one behind the other, each read within top and good. -/
def ChainTo (s : St) (top : Nat) (good : Nat → Bool) : Nat → Nat → List Nat → Prop
  | a, p, [] => a = p
  | a, p, b :: l => b = a ∧ a < top ∧ s.reads a top = true ∧ good a = true ∧ ChainTo s top good (a + s.nd a) p l
variable {s : St} {top : Nat} {good : Nat → Bool}
theorem St.reads_need {p : Nat} (h : s.reads p top = true) : (s.ob (s.ws p)).need = (s.nd p : Int) ∧ 1 ≤ s.nd p ∧ p + s.nd p ≤ top := by
  unfold St.reads at h
  rw [Bool.and_eq_true, decide_eq_true_eq, decide_eq_true_eq] at h
  obtain ⟨h1, h2⟩ := h
  have h3 : 1 ≤ (s.ob (s.ws p)).need := by
    unfold St.obE St.needE at h1
    unfold St.ob St.need
    show 1 ≤ M.need _ _ _
    generalize s.kind (M.sh (s.ws p)) = K at *
    generalize s.len (M.sh (s.ws p)) = N at *
    have hn := M.ln_lo (s.ws p)
    unfold M.needE at h1
    unfold M.need
    by_cases c1 : K = 0 ∨ M.ln (s.ws p) < 0 ∨ (K = 1 ∧ M.ln (s.ws p) ≠ N)
    · rw [if_pos c1] at h1; omega
    · rw [if_neg c1] at h1 ⊢
      by_cases c2 : 65536 < M.ln (s.ws p)
      · rw [if_pos c2] at h1; omega
      · rw [if_neg c2]; split <;> omega
  unfold St.nd
  omega
theorem ChainTo.le : ∀ {l : List Nat} {a p : Nat}, ChainTo s top good a p l → a ≤ p
  | [], a, p, h => Nat.le_of_eq h
  | b :: l, a, p, h => by have := ChainTo.le h.2.2.2.2; omega
theorem ChainTo.snoc : ∀ {l : List Nat} {a p : Nat}, ChainTo s top good a p l → p < top → s.reads p top = true → good p = true → ChainTo s top good a (p + s.nd p) (l ++ [p])
  | [], a, p, h, h1, h2, h3 => by
    have h' : a = p := h
    subst h'
    exact ⟨rfl, h1, h2, h3, rfl⟩
  | b :: l, a, p, h, h1, h2, h3 => ⟨h.1, h.2.1, h.2.2.1, h.2.2.2.1, ChainTo.snoc h.2.2.2.2 h1 h2 h3⟩
/-- There is but one way to the top. -/
theorem ChainTo.det : ∀ {l hs : List Nat} {a p : Nat}, ChainTo s top good a p l → ChainTo s top good a top hs → p < top → s.reads p top = true ∧ good p = true
  | [], [], a, p, h, h', hp => by
    have e1 : a = p := h
    have e2 : a = top := h'
    omega
  | [], b :: hs, a, p, h, h', hp => by
    have e1 : a = p := h
    subst e1
    exact ⟨h'.2.2.1, h'.2.2.2.1⟩
  | b :: l, [], a, p, h, h', hp => by
    have e2 : a = top := h'
    have := h.2.1
    omega
  | b :: l, c :: hs, a, p, h, h', hp => ChainTo.det h.2.2.2.2 h'.2.2.2.2 hp
theorem ChainTo.same : ∀ {l m : List Nat} {good' : Nat → Bool} {a p : Nat}, ChainTo s top good a p l → ChainTo s top good' a p m → l = m
  | [], [], _, a, p, h, h' => rfl
  | [], b :: m, _, a, p, h, h' => by
    have e1 : a = p := h
    have := ChainTo.le h'.2.2.2.2
    have := St.reads_need h'.2.2.1
    omega
  | b :: l, [], _, a, p, h, h' => by
    have e1 : a = p := h'
    have := ChainTo.le h.2.2.2.2
    have := St.reads_need h.2.2.1
    omega
  | b :: l, c :: m, _, a, p, h, h' => by
    rw [h.1, h'.1, ChainTo.same h.2.2.2.2 h'.2.2.2.2]
theorem ChainTo.mem : ∀ {l : List Nat} {a p : Nat}, ChainTo s top good a p l → ∀ q ∈ l, a ≤ q ∧ q < top ∧ s.reads q top = true ∧ good q = true ∧ q + s.nd q ≤ p
  | [], a, p, h, q, hq => by simp at hq
  | b :: l, a, p, h, q, hq => by
    have h5 := ChainTo.le h.2.2.2.2
    rcases List.mem_cons.1 hq with rfl | hq
    · have := h.1; subst this
      exact ⟨Nat.le_refl _, h.2.1, h.2.2.1, h.2.2.2.1, h5⟩
    · have := ChainTo.mem h.2.2.2.2 q hq
      exact ⟨by omega, this.2⟩
end Go.Proofs.Yteanlncnhncpbaa
