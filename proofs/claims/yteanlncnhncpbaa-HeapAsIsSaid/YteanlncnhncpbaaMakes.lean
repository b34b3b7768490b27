/- What the laws on New and Need want besides. -/
import Derived.Test.YteanlncnhncpbaaRefA
import Derived.Test.YteanlncnhncpbaaOpenLays
namespace Go.Proofs.Yteanlncnhncpbaa
set_option linter.unusedVariables false
open Go.ChangeShapes Go.WideShapes Go.ChangeAt Go.RowKit
open M (W)

theorem IsLays.lays {w : World} {a : Option Addr} {len cap : Nat} {K N : Nat → Int} (h : IsLays w a len cap K N) : Lays w a len K N :=
  ⟨fun hl => by
    obtain ⟨b, off, e, hb, hc⟩ := h.at_ (Nat.lt_of_lt_of_le hl h.le)
    exact ⟨b, off, e, hb, fun j hj => ⟨(hc j (Nat.lt_of_lt_of_le hj h.le)).1, (hc j (Nat.lt_of_lt_of_le hj h.le)).2.1⟩⟩⟩
theorem objects_0 (s : St) (w : World) (h : HpIs w s) (ht : s.top = 0) : Calls Try.prog 42 #[s.ptr] w fun e w' => e = .returned (.slice none 0 0) ∧ w' = w := by
  have HT := top_any s w h
  rw [ht] at HT
  clear h ht
  go_enter Try.func42, Try.ntmps42
  go_wp2_with (go_at_call 19; (with_reducible refine HT.mono ?_); rintro e w ⟨rfl, rfl⟩)
  refine wp_loop_rounds 1 ?_
  rw [rounds_succ]
  go_wp2
  go_ret
  exact ⟨rfl, rfl⟩
theorem mayBe_all (len : Nat) (K N : Nat → Int) : ∃ b : Bool, b = true ↔ ∀ j, j < len → M.mayBe (K j) (N j) = true := by
  by_cases h : ∀ j, j < len → M.mayBe (K j) (N j) = true
  · exact ⟨true, by simpa using h⟩
  · exact ⟨false, by simpa using h⟩
end Go.Proofs.Yteanlncnhncpbaa
