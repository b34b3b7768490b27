/- The document's examples are as it says: the contract of 'lives'; Get beside the edges. -/
import Derived.Test.YtmcciopahbijaaaRefGet
import Derived.WalkSmall
namespace Go.Proofs.Ytmcciopahbijaaa
set_option linter.unusedVariables false
open Go.ChangeShapes Go.WideShapes Go.ChangeAt Go.RowKit
open M (W)

theorem refGet_neg (a : Option Addr) (len cap : Nat) (i : Int) (w : World) (h : i < 0) : Calls Try.prog 45 #[.slice a len cap, .int .i64 i] w fun e w' => e = .returned (.tuple #[.int .i64 0, .int .i64 0, .bool false]) ∧ w' = w := by
  go_enter Try.func45, Try.ntmps45
  go_wp2
  go_ret3
  exact ⟨rfl, rfl⟩
theorem refGet_far (a : Option Addr) (len cap : Nat) (i : Int) (w : World) (h0 : 0 ≤ i) (h : (len : Int) ≤ i) : Calls Try.prog 45 #[.slice a len cap, .int .i64 i] w fun e w' => e = .returned (.tuple #[.int .i64 0, .int .i64 0, .bool false]) ∧ w' = w := by
  go_enter Try.func45, Try.ntmps45
  go_wp2
  go_ret3
  exact ⟨rfl, rfl⟩

theorem div_m7 (w : World) : Calls Try.prog 24 #[.int .i64 (-7), .int .i64 2] w fun e w' => e = .returned (.tuple #[.int .i64 (-4), .bool true]) ∧ ∃ n, w' = w.drewN n :=
  (div_any (-7) 2 w (by decide) (by decide) (by decide)).mono fun _ _ ⟨he, hw⟩ => ⟨by rw [he]; rfl, hw⟩
theorem mod_m7 (w : World) : Calls Try.prog 25 #[.int .i64 (-7), .int .i64 2] w fun e w' => e = .returned (.tuple #[.int .i64 1, .bool true]) ∧ ∃ n, w' = w.drewN n :=
  (mod_any (-7) 2 w (by decide) (by decide) (by decide)).mono fun _ _ ⟨he, hw⟩ => ⟨by rw [he]; rfl, hw⟩
theorem imm_5 (w : World) : Calls Try.prog 27 #[.int .i64 5] w fun e w' => e = .returned (.int .u64 11) ∧ w' = w := (imm_any 5 w).mono fun _ _ ⟨he, hw⟩ => ⟨by rw [he]; rfl, hw⟩
theorem int_11 (w : World) : Calls Try.prog 29 #[.int .u64 11] w fun e w' => e = .returned (.int .i64 5) ∧ w' = w := (int_any 11 w (by decide) (by decide)).mono fun _ _ ⟨he, hw⟩ => ⟨by rw [he]; rfl, hw⟩
theorem wrap_62 (w : World) : Calls Try.prog 16 #[.int .i64 4611686018427387904] w fun e w' => e = .returned (.int .i64 (-4611686018427387904)) ∧ w' = w := (wrap_any 4611686018427387904 w).mono fun _ _ ⟨he, hw⟩ => ⟨by rw [he]; exact ret_int (by decide), hw⟩
theorem head_37 (w : World) : Calls Try.prog 34 #[.int .i64 3, .int .i64 7] w fun e w' => e = .returned (.int .u64 14680071) ∧ ∃ n, w' = w.drewN n := (head_any 3 7 w).mono fun _ _ ⟨he, hw⟩ => ⟨by rw [he]; exact ret_int (by decide), hw⟩
theorem len_37 (w : World) : Calls Try.prog 38 #[.int .u64 14680071] w fun e w' => e = .returned (.int .i64 7) ∧ w' = w := (len_any 14680071 w (by decide) (by decide)).mono fun _ _ ⟨he, hw⟩ => ⟨by rw [he]; exact ret_int (by decide), hw⟩
theorem get_64 (b off cap : Nat) (w : World) (h0 : w.cell? ⟨b, off, none⟩ = some (.int .u8 128)) (h1 : w.cell? ⟨b, off + 1, none⟩ = some (.int .u8 1)) : Calls Try.prog 44 #[.slice (some ⟨b, off, none⟩) 2 cap, .int .i64 0] w fun e w' => e = .returned (.tuple #[.int .i64 64, .int .i64 2, .bool true]) ∧ w' = w :=
  (get_in b off cap [128, 1] 0 w (by decide) (by decide) (fun j hj => by
    match j, hj with
    | 0, _ => exact h0
    | 1, _ => exact h1) (by decide)).mono fun _ _ ⟨he, hw⟩ => ⟨by rw [he]; rfl, hw⟩

theorem lives_any (w : World) : Calls Try.prog 18 #[] w fun e w' => e = .returned (.bool true) ∧ Below w.heap.size w w' := by
  go_enter Try.func18, Try.ntmps18
  go_wp2_with fail
  refine (div_m7 _).mono ?_; rintro e w1 ⟨rfl, n1, rfl⟩
  go_wp2_with fail
  refine (mod_m7 _).mono ?_; rintro e w1 ⟨rfl, n2, rfl⟩
  go_wp2_with fail
  refine (div_zero _ _).mono ?_; rintro e w1 ⟨rfl, rfl⟩
  go_wp2_with fail
  have hb : Below w.heap.size w ((w.drewN (n1 + n2)).alloc (.cells #[.int .u8 128, .int .u8 1] 5)) := (below_drewN (Below.refl _ _) _).alloc (by simp) _
  refine (get_64 _ _ _ _ (by rw [World.cell?_alloc_at _ _ _ _ (by simp)]; rfl) (by rw [World.cell?_alloc_at _ _ _ _ (by simp)]; rfl)).mono ?_; rintro e w1 ⟨rfl, rfl⟩
  generalize ((w.drewN (n1 + n2)).alloc (.cells #[.int .u8 128, .int .u8 1] 5)) = W1 at hb ⊢
  go_wp2_with (first
    | (go_at_call 27; refine (imm_5 _).mono ?_; rintro e w ⟨rfl, rfl⟩)
    | (go_at_call 29; refine (int_11 _).mono ?_; rintro e w ⟨rfl, rfl⟩)
    | (go_at_call 16; refine (wrap_62 _).mono ?_; rintro e w ⟨rfl, rfl⟩)
    | (go_at_call 34; refine (head_37 _).mono ?_; rintro e w3 ⟨rfl, k, rfl⟩)
    | (go_at_call 38; refine (len_37 _).mono ?_; rintro e w ⟨rfl, rfl⟩))
  go_ret
  exact ⟨rfl, below_drewN hb _⟩
end Go.Proofs.Ytmcciopahbijaaa
