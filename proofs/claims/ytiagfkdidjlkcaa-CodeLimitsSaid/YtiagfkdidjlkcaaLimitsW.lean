/- CodeLimits, for any two numbers. -/
import Derived.Test.YtiagfkdidjlkcaaLimA
import Derived.Test.YtiagfkdidjlkcaaLimB
import Derived.Test.YtiagfkdidjlkcaaLimC
import Derived.Test.YtiagfkdidjlkcaaLimD
namespace Go.Proofs.Ytiagfkdidjlkcaa
set_option linter.unusedVariables false
set_option linter.unusedSimpArgs false
open Go.ChangeShapes Go.WideShapes Go.ChangeAt Go.RowKit Go.Deep
open M (W)
set_option maxRecDepth 100000 in
set_option maxHeartbeats 8000000 in
theorem limO_w {a n : Int} {w : World} (h0 : ¬ a = 0) (h1 : ¬ a = 1) (h2 : ¬ a = 2) (h3 : ¬ a = 3) (h4 : ¬ a = 4) (h5 : ¬ a = 5) (h6 : ¬ a = 6) (h7 : ¬ a = 7) (h8 : ¬ a = 8) (h9 : ¬ a = 9) (h10 : ¬ a = 10) (h11 : ¬ a = 11) (h12 : ¬ a = 12) :
    Calls Try.prog 3 #[.int .i64 a, .int .i64 n] w fun e w' => e = .returned (.bool true) ∧ Below w.heap.size w w' := by
  have e0 : (a == (0 : Int)) = false := beq_eq_false_iff_ne.2 h0
  have e1 : (a == (1 : Int)) = false := beq_eq_false_iff_ne.2 h1
  have e2 : (a == (2 : Int)) = false := beq_eq_false_iff_ne.2 h2
  have e3 : (a == (3 : Int)) = false := beq_eq_false_iff_ne.2 h3
  have e4 : (a == (4 : Int)) = false := beq_eq_false_iff_ne.2 h4
  have e5 : (a == (5 : Int)) = false := beq_eq_false_iff_ne.2 h5
  have e6 : (a == (6 : Int)) = false := beq_eq_false_iff_ne.2 h6
  have e7 : (a == (7 : Int)) = false := beq_eq_false_iff_ne.2 h7
  have e8 : (a == (8 : Int)) = false := beq_eq_false_iff_ne.2 h8
  have e9 : (a == (9 : Int)) = false := beq_eq_false_iff_ne.2 h9
  have e10 : (a == (10 : Int)) = false := beq_eq_false_iff_ne.2 h10
  have e11 : (a == (11 : Int)) = false := beq_eq_false_iff_ne.2 h11
  have e12 : (a == (12 : Int)) = false := beq_eq_false_iff_ne.2 h12
  have HB1 : Hid (Below w.heap.size w (((w.alloc (.cells #[.slice none 0 0, .slice none 0 0, .slice none 0 0, .slice none 0 0, .slice none 0 0, .int .i64 0, .int .i64 0] 27)).alloc (.cells #[.int .i64 5, .int .i64 0, .int .i64 0, .int .i64 0, .int .i64 0, .int .i64 0, .slice none 0 0, .slice none 0 0, .slice none 0 0] 30)).alloc (.cells #[.slice none 0 0, .int .i64 0, .int .i64 0, .slice none 0 0] 33))) := Still.below ((((Still.refl w).alloc _).alloc _).alloc _)
  clear h0 h1 h2 h3 h4 h5 h6 h7 h8 h9 h10 h11 h12
  go_enter Try.func3, Try.ntmps3
  go_wp2_with fail
  all_goals
    refine (lives4_any _).mono ?_; rintro e w4 ⟨rfl, t4⟩
    have HB4 := Lib.hid (below_next HB1.out t4)
    clear t4
    go_wp2_with fail
    go_ret
    exact ⟨rfl, HB4.out⟩
theorem codeLimits_w (a n : Int) (w : World) :
    Calls Try.prog 3 #[.int .i64 a, .int .i64 n] w fun e w' => e = .returned (.bool true) ∧ Below w.heap.size w w' := by
  have hp : (∃ p : Nat, (if 2100 < n then 2100 else n) = (p : Int) ∧ (0 : Int) < (p : Int) ∧ p ≤ 2100) ∨ ∃ q, (if 2100 < n then 2100 else n) = q ∧ q ≤ 0 := by
    by_cases h : 0 < n
    · refine .inl ⟨(if 2100 < n then 2100 else n).toNat, ?_, ?_, ?_⟩ <;> split <;> omega
    · refine .inr ⟨_, rfl, ?_⟩
      split <;> omega
  by_cases h0 : a = 0
  · subst h0
    rcases hp with ⟨p, hp, h0, hp2⟩ | ⟨q, hq, h0⟩
    · exact lim0_w hp h0 hp2
    · exact lim0_z hq h0
  by_cases h1 : a = 1
  · subst h1
    rcases hp with ⟨p, hp, h0, hp2⟩ | ⟨q, hq, h0⟩
    · exact lim1_w hp h0 hp2
    · exact lim1_z hq h0
  by_cases h2 : a = 2
  · subst h2
    rcases hp with ⟨p, hp, h0, hp2⟩ | ⟨q, hq, h0⟩
    · exact lim2_w hp h0 hp2
    · exact lim2_z hq h0
  by_cases h3 : a = 3
  · subst h3
    rcases hp with ⟨p, hp, h0, hp2⟩ | ⟨q, hq, h0⟩
    · exact lim3_w hp h0 hp2
    · exact lim3_z hq h0
  by_cases h4 : a = 4
  · subst h4
    rcases hp with ⟨p, hp, h0, hp2⟩ | ⟨q, hq, h0⟩
    · exact lim4_w hp h0 hp2
    · exact lim4_z hq h0
  by_cases h5 : a = 5
  · subst h5
    rcases hp with ⟨p, hp, h0, hp2⟩ | ⟨q, hq, h0⟩
    · exact lim5_w hp h0 hp2
    · exact lim5_z hq h0
  by_cases h6 : a = 6
  · subst h6
    rcases hp with ⟨p, hp, h0, hp2⟩ | ⟨q, hq, h0⟩
    · exact lim6_w hp h0 hp2
    · exact lim6_z hq h0
  by_cases h7 : a = 7
  · subst h7
    rcases hp with ⟨p, hp, h0, hp2⟩ | ⟨q, hq, h0⟩
    · exact lim7_w hp h0 hp2
    · exact lim7_z hq h0
  by_cases h8 : a = 8
  · subst h8
    rcases hp with ⟨p, hp, h0, hp2⟩ | ⟨q, hq, h0⟩
    · exact lim8_w hp h0 hp2
    · exact lim8_z hq h0
  by_cases h9 : a = 9
  · subst h9
    rcases hp with ⟨p, hp, h0, hp2⟩ | ⟨q, hq, h0⟩
    · exact lim9_w hp h0 hp2
    · exact lim9_z hq h0
  by_cases h10 : a = 10
  · subst h10
    rcases hp with ⟨p, hp, h0, hp2⟩ | ⟨q, hq, h0⟩
    · exact lim10_w hp h0 hp2
    · exact lim10_z hq h0
  by_cases h11 : a = 11
  · subst h11
    rcases hp with ⟨p, hp, h0, hp2⟩ | ⟨q, hq, h0⟩
    · exact lim11_w hp h0 hp2
    · exact lim11_z hq h0
  by_cases h12 : a = 12
  · subst h12
    rcases hp with ⟨p, hp, h0, hp2⟩ | ⟨q, hq, h0⟩
    · exact lim12_w hp h0 hp2
    · exact lim12_z hq h0
  exact limO_w h0 h1 h2 h3 h4 h5 h6 h7 h8 h9 h10 h11 h12
end Go.Proofs.Ytiagfkdidjlkcaa
