/- Which fields an instruction uses. -/
import Derived.Test.YtjeehbcbflofpaaStill
namespace Go.Proofs.Ytjeehbcbflofpaa
set_option linter.unusedVariables false
open Go.ChangeShapes Go.WideShapes Go.ChangeAt Go.RowKit
open M (W)
def M.uses (op : Int) : ByteArray := match op with
  | 1 => ⟨#[68, 78]⟩
  | 2 => ⟨#[68, 65, 108]⟩
  | 3 => ⟨#[68, 65]⟩
  | 4 => ⟨#[68, 65, 66, 78]⟩
  | 5 => ⟨#[68, 65, 76, 108]⟩
  | 6 => ⟨#[68, 65, 66]⟩
  | 7 => ⟨#[65, 66, 67]⟩
  | 8 => ⟨#[68, 65, 66, 67, 108]⟩
  | 9 => ⟨#[68, 65, 66]⟩
  | 10 => ⟨#[65, 66, 67]⟩
  | 11 => ⟨#[68, 65]⟩
  | 12 => ⟨#[68, 65, 66]⟩
  | 13 => ⟨#[68, 65, 66, 108]⟩
  | 14 => ⟨#[68, 65, 66]⟩
  | 15 => ⟨#[68]⟩
  | 16 => ⟨#[65]⟩
  | 17 => ⟨#[68, 65, 66, 67, 76, 108]⟩
  | 18 => ⟨#[65]⟩
  | 19 => ⟨#[65, 66, 67]⟩
  | 20 => ⟨#[65, 76, 77, 66]⟩
  | 21 => ⟨#[65, 76]⟩
  | 22 => ⟨#[65]⟩
  | 23 => ⟨#[65]⟩
  | _ => ⟨#[]⟩
theorem uses_out {op : Int} (h : op < 1 ∨ 23 < op) : M.uses op = ⟨#[]⟩ := by
  unfold M.uses
  split <;> first | rfl | omega
set_option maxRecDepth 100000 in
set_option maxHeartbeats 8000000 in
theorem uses_any (op : Int) (w : World) : Calls Try.prog 17 #[.int .i64 op] w fun e w' => e = .returned (.string (M.uses op)) ∧ w' = w := by
  by_cases h : op < 1 ∨ 23 < op
  · rw [uses_out h]
    have hk : ∀ i : Int, 1 ≤ i → i ≤ 23 → (op == i) = false := fun i h1 h2 => beq_eq_false_iff_ne.2 (by omega)
    have e1 : (op == 1) = false := hk 1 (by decide) (by decide)
    have e2 : (op == 2) = false := hk 2 (by decide) (by decide)
    have e3 : (op == 3) = false := hk 3 (by decide) (by decide)
    have e4 : (op == 4) = false := hk 4 (by decide) (by decide)
    have e5 : (op == 5) = false := hk 5 (by decide) (by decide)
    have e6 : (op == 6) = false := hk 6 (by decide) (by decide)
    have e7 : (op == 7) = false := hk 7 (by decide) (by decide)
    have e8 : (op == 8) = false := hk 8 (by decide) (by decide)
    have e9 : (op == 9) = false := hk 9 (by decide) (by decide)
    have e10 : (op == 10) = false := hk 10 (by decide) (by decide)
    have e11 : (op == 11) = false := hk 11 (by decide) (by decide)
    have e12 : (op == 12) = false := hk 12 (by decide) (by decide)
    have e13 : (op == 13) = false := hk 13 (by decide) (by decide)
    have e14 : (op == 14) = false := hk 14 (by decide) (by decide)
    have e15 : (op == 15) = false := hk 15 (by decide) (by decide)
    have e16 : (op == 16) = false := hk 16 (by decide) (by decide)
    have e17 : (op == 17) = false := hk 17 (by decide) (by decide)
    have e18 : (op == 18) = false := hk 18 (by decide) (by decide)
    have e19 : (op == 19) = false := hk 19 (by decide) (by decide)
    have e20 : (op == 20) = false := hk 20 (by decide) (by decide)
    have e21 : (op == 21) = false := hk 21 (by decide) (by decide)
    have e22 : (op == 22) = false := hk 22 (by decide) (by decide)
    have e23 : (op == 23) = false := hk 23 (by decide) (by decide)
    clear hk h
    go_enter Try.func17, Try.ntmps17
    go_wp2_with fail
    go_ret
    exact ⟨rfl, rfl⟩
  · have hc : op = 1 ∨ op = 2 ∨ op = 3 ∨ op = 4 ∨ op = 5 ∨ op = 6 ∨ op = 7 ∨ op = 8 ∨ op = 9 ∨ op = 10 ∨ op = 11 ∨ op = 12 ∨ op = 13 ∨ op = 14 ∨ op = 15 ∨ op = 16 ∨ op = 17 ∨ op = 18 ∨ op = 19 ∨ op = 20 ∨ op = 21 ∨ op = 22 ∨ op = 23 := by omega
    clear h
    rcases hc with rfl | rfl | rfl | rfl | rfl | rfl | rfl | rfl | rfl | rfl | rfl | rfl | rfl | rfl | rfl | rfl | rfl | rfl | rfl | rfl | rfl | rfl | rfl
    all_goals
      go_enter Try.func17, Try.ntmps17
      go_wp2_with fail
      go_ret
      exact ⟨rfl, rfl⟩
set_option maxRecDepth 100000 in
set_option maxHeartbeats 8000000 in
theorem refUses_any (op : Int) (w : World) : Calls Try.prog 37 #[.int .i64 op] w fun e w' => e = .returned (.string (M.uses op)) ∧ Still w w' := by
  by_cases h : op < 0 ∨ 23 < op
  · rw [uses_out (by omega)]
    by_cases h0 : op < 0
    · have x0 : decide (op < 0) = true := decide_eq_true h0
      go_enter Try.func37, Try.ntmps37
      go_wp2_with fail
      go_ret
      exact ⟨rfl, (Still.refl w).alloc _⟩
    · have x1 : decide (op < 0) = false := decide_eq_false h0
      have x2 : decide (op < 24) = false := decide_eq_false (by omega)
      have x3 : ¬ op < 24 := by omega
      clear h
      go_enter Try.func37, Try.ntmps37
      go_wp2_with fail
      go_ret
      exact ⟨rfl, (Still.refl w).alloc _⟩
  · have hc : op = 0 ∨ op = 1 ∨ op = 2 ∨ op = 3 ∨ op = 4 ∨ op = 5 ∨ op = 6 ∨ op = 7 ∨ op = 8 ∨ op = 9 ∨ op = 10 ∨ op = 11 ∨ op = 12 ∨ op = 13 ∨ op = 14 ∨ op = 15 ∨ op = 16 ∨ op = 17 ∨ op = 18 ∨ op = 19 ∨ op = 20 ∨ op = 21 ∨ op = 22 ∨ op = 23 := by omega
    clear h
    rcases hc with rfl | rfl | rfl | rfl | rfl | rfl | rfl | rfl | rfl | rfl | rfl | rfl | rfl | rfl | rfl | rfl | rfl | rfl | rfl | rfl | rfl | rfl | rfl | rfl
    all_goals
      go_enter Try.func37, Try.ntmps37
      go_wp2_with fail
      go_ret
      exact ⟨rfl, (Still.refl w).alloc _⟩
end Go.Proofs.Ytjeehbcbflofpaa
