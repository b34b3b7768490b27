/- Contracts of layer 1's reckonings: word.Wrap, Add, Sub, Mul, Div, Mod, and the document's own Wrap, Sum, Product, Div. -/
import Derived.Test.YtmcciopahbijaaaRows
import Derived.WalkKit
import Derived.ProofKit
import Derived.OpenShut
import Derived.Deep.QuietTactic
import Derived.BigQuiet
import Derived.Lib.Hide
import Derived.Outline
import Derived.Test.YtmcciopahbijaaaMath
namespace Go.Proofs.Ytmcciopahbijaaa
set_option linter.unusedVariables false
open Go.ChangeShapes Go.WideShapes Go.ChangeAt Go.RowKit
open M (W)

theorem ret_int {k : IntKind} {a b : Int} (h : a = b) : Ending.returned (.int k a) = .returned (.int k b) := by rw [h]

theorem wrap_any (n : Int) (w : World) : Calls Try.prog 16 #[.int .i64 n] w fun e w' => e = .returned (.int .i64 (W n)) ∧ w' = w := by
  go_enter Try.func16, Try.ntmps16
  go_wp2
  go_ret

  exact ⟨ret_int (by rw [← M.shl_shr]), rfl⟩

theorem refWrap_any (n : Int) (w : World) (h0 : -9223372036854775808 ≤ n) (h1 : n ≤ 9223372036854775807) :
    Calls Try.prog 17 #[.int .i64 n] w fun e w' => e = .returned (.int .i64 (W n)) ∧ w' = w := by
  go_enter Try.func17, Try.ntmps17
  go_wp2
  go_loop [0] (fun v => ∃ m : Int, v = .int .i64 m ∧ -9223372036854775808 ≤ m ∧ m ≤ 9223372036854775807 ∧ W m = W n) (fun v => (intOf v + 9223372036854775808).toNat)
  case atStart => exact ⟨n, rfl, h0, h1, rfl⟩
  case round =>
    obtain ⟨m, rfl, m0, m1, hm⟩ := hrel
    have HM := Lib.hid hm; clear hm
    by_cases hc : 4611686018427387904 ≤ m
    · go_wp2
      go_round
      case rel => exact ⟨_, rfl, by omega, by omega, by rw [← HM.out]; exact M.W_eq (-1) (by omega)⟩
      case measure => simp [intOf]; omega
    · go_wp2
      go_loop [0] (fun v => ∃ m : Int, v = .int .i64 m ∧ -9223372036854775808 ≤ m ∧ m < 4611686018427387904 ∧ W m = W n) (fun v => (9223372036854775808 - intOf v).toNat)
      case atStart => exact ⟨m, rfl, m0, by omega, HM.out⟩
      case round =>
        clear HM hc m0 m1
        obtain ⟨j, rfl, j0, j1, hj⟩ := hrel
        have HJ := Lib.hid hj; clear hj
        by_cases hd : j < -4611686018427387904
        · go_wp2
          go_round
          case rel => exact ⟨_, rfl, by omega, by omega, by rw [← HJ.out]; exact M.W_eq 1 (by omega)⟩
          case measure => simp [intOf]; omega
        · go_wp2
          go_ret
          exact ⟨ret_int (by rw [← HJ.out, M.W_id (by omega) (by omega)]), rfl⟩

theorem sum_any (a b : Int) (w : World) (a0 : -9223372036854775808 ≤ a) (a1 : a ≤ 9223372036854775807) (b0 : -9223372036854775808 ≤ b) (b1 : b ≤ 9223372036854775807) :
    Calls Try.prog 20 #[.int .i64 a, .int .i64 b] w fun e w' => e = .returned (.int .i64 (W (a + b))) ∧ w' = w := by
  have la := M.W_lo a
  have ha := M.W_hi a
  have lb := M.W_lo b
  have hb := M.W_hi b
  go_enter Try.func20, Try.ntmps20
  go_wp2_with fail
  refine (refWrap_any a _ a0 a1).mono ?_; rintro e w' ⟨rfl, rfl⟩
  go_wp2_with fail
  refine (refWrap_any b _ b0 b1).mono ?_; rintro e w' ⟨rfl, rfl⟩
  go_wp2_with fail
  refine (refWrap_any (W a + W b) _ (by omega) (by omega)).mono ?_; rintro e w' ⟨rfl, rfl⟩
  go_wp2_with fail
  go_ret
  exact ⟨ret_int (by rw [M.W_add_l, M.W_add_r]), rfl⟩

theorem reckon_add (a b : Int) (w : World) : Calls Try.prog 49 #[.int .i64 1, .int .i64 a, .int .i64 b] w fun e w' => e = .returned (.tuple #[.int .i64 (W (a + b)), .bool true]) ∧ w' = w := by
  go_enter Try.func49, Try.ntmps49
  go_wp2_with (go_at_call 16; refine (wrap_any _ _).mono ?_; rintro e w' ⟨rfl, rfl⟩)
  go_ret2
  exact ⟨by rw [M.W_wrap64]; rfl, rfl⟩
theorem reckon_sub (a b : Int) (w : World) : Calls Try.prog 49 #[.int .i64 2, .int .i64 a, .int .i64 b] w fun e w' => e = .returned (.tuple #[.int .i64 (W (a - b)), .bool true]) ∧ w' = w := by
  go_enter Try.func49, Try.ntmps49
  go_wp2_with (go_at_call 16; refine (wrap_any _ _).mono ?_; rintro e w' ⟨rfl, rfl⟩)
  go_ret2
  exact ⟨by rw [M.W_wrap64]; rfl, rfl⟩
theorem reckon_mul (a b : Int) (w : World) : Calls Try.prog 49 #[.int .i64 3, .int .i64 a, .int .i64 b] w fun e w' => e = .returned (.tuple #[.int .i64 (W (a * b)), .bool true]) ∧ w' = w := by
  go_enter Try.func49, Try.ntmps49
  go_wp2_with (go_at_call 16; refine (wrap_any _ _).mono ?_; rintro e w' ⟨rfl, rfl⟩)
  go_ret2
  exact ⟨by rw [M.W_wrap64]; rfl, rfl⟩

theorem add_any (a b : Int) (w : World) : Calls Try.prog 19 #[.int .i64 a, .int .i64 b] w fun e w' => e = .returned (.int .i64 (W (a + b))) ∧ w' = w := by
  go_enter Try.func19, Try.ntmps19
  go_wp2_with (first | (go_at_call 48; go_in) | (go_at_call 49; refine (reckon_add _ _ _).mono ?_; rintro e w' ⟨rfl, rfl⟩))
  go_ret
  exact ⟨rfl, rfl⟩
theorem sub_any (a b : Int) (w : World) : Calls Try.prog 21 #[.int .i64 a, .int .i64 b] w fun e w' => e = .returned (.int .i64 (W (a - b))) ∧ w' = w := by
  go_enter Try.func21, Try.ntmps21
  go_wp2_with (first | (go_at_call 48; go_in) | (go_at_call 49; refine (reckon_sub _ _ _).mono ?_; rintro e w' ⟨rfl, rfl⟩))
  go_ret
  exact ⟨rfl, rfl⟩
theorem mul_any (a b : Int) (w : World) : Calls Try.prog 22 #[.int .i64 a, .int .i64 b] w fun e w' => e = .returned (.int .i64 (W (a * b))) ∧ w' = w := by
  go_enter Try.func22, Try.ntmps22
  go_wp2_with (first | (go_at_call 48; go_in) | (go_at_call 49; refine (reckon_mul _ _ _).mono ?_; rintro e w' ⟨rfl, rfl⟩))
  go_ret
  exact ⟨rfl, rfl⟩
theorem add_to (a b : Int) (w : World) (v : Int) (h : W (a + b) = v) : Calls Try.prog 19 #[.int .i64 a, .int .i64 b] w fun e w' => e = .returned (.int .i64 v) ∧ w' = w := h ▸ add_any a b w
theorem sub_to (a b : Int) (w : World) (v : Int) (h : W (a - b) = v) : Calls Try.prog 21 #[.int .i64 a, .int .i64 b] w fun e w' => e = .returned (.int .i64 v) ∧ w' = w := h ▸ sub_any a b w
theorem mul_to (a b : Int) (w : World) (v : Int) (h : W (a * b) = v) : Calls Try.prog 22 #[.int .i64 a, .int .i64 b] w fun e w' => e = .returned (.int .i64 v) ∧ w' = w := h ▸ mul_any a b w

theorem divide_zero (a : Int) (w : World) : Calls Try.prog 56 #[.int .i64 a, .int .i64 0] w fun e w' => e = .returned (.tuple #[.int .i64 0, .int .i64 0, .bool false]) ∧ w' = w := by
  go_enter Try.func56, Try.ntmps56
  go_wp2
  go_ret3
  exact ⟨rfl, rfl⟩
theorem divide_any (a b : Int) (w : World) (hb : b ≠ 0) (b0 : -9223372036854775808 ≤ b) (b1 : b ≤ 9223372036854775807) :
    Calls Try.prog 56 #[.int .i64 a, .int .i64 b] w fun e w' => (∃ q r : Int, e = .returned (.tuple #[.int .i64 q, .int .i64 r, .bool true]) ∧ W q = W (M.dq a b) ∧ r = M.dr a b) ∧ ∃ n, w' = w.drewN n := by
  have hz : ((b : Int) == 0) = false := by simpa using hb
  go_enter Try.func56, Try.ntmps56
  go_wp2
  go_quiet (fail)
  go_wp2
  all_goals first
    | (have hd := M.dd_y ‹_› (And.right ‹_›)
       go_ret3
       exact ⟨⟨_, _, rfl, by rw [M.W_dq]; simp [M.dq, hd], by rw [← M.dr_i64 a b hb b0 b1]; simp [M.dr, hd]⟩, _, rfl⟩)
    | (have hd := M.dd_n ‹_›
       go_ret3
       exact ⟨⟨_, _, rfl, by rw [M.W_wrap64]; simp [M.dq, hd], by simp [M.dr, hd]⟩, _, rfl⟩)
    | (have hd := M.dd_z ‹_›
       go_ret3
       exact ⟨⟨_, _, rfl, by rw [M.W_wrap64]; simp [M.dq, hd], by simp [M.dr, hd]; symm; assumption⟩, _, rfl⟩)
theorem refDiv_zero (a : Int) (w : World) : Calls Try.prog 26 #[.int .i64 a, .int .i64 0] w fun e w' => e = .returned (.tuple #[.int .i64 0, .int .i64 0, .bool false]) ∧ w' = w := by
  go_enter Try.func26, Try.ntmps26
  go_wp2
  go_ret3
  exact ⟨rfl, rfl⟩
theorem refWrap_w (x : Int) (w : World) : Calls Try.prog 17 #[.int .i64 (wrap64 x)] w fun e w' => e = .returned (.int .i64 (W x)) ∧ w' = w :=
  (refWrap_any (wrap64 x) w (by unfold wrap64; omega) (by unfold wrap64; omega)).mono fun _ _ ⟨h1, h2⟩ => ⟨by rw [h1, M.W_wrap64], h2⟩
theorem refDiv_any (a b : Int) (w : World) (hb : b ≠ 0) (b0 : -9223372036854775808 ≤ b) (b1 : b ≤ 9223372036854775807) :
    Calls Try.prog 26 #[.int .i64 a, .int .i64 b] w fun e w' => e = .returned (.tuple #[.int .i64 (W (M.dq a b)), .int .i64 (W (M.dr a b)), .bool true]) ∧ w' = w := by
  have hz : ((b : Int) == 0) = false := by simpa using hb
  have hr := M.rest64 a b hb b0 b1
  have ht := M.tmod_bd a b hb
  have hd : M.dd a b = (a.tmod b != 0 && (decide (a.tmod b < 0) != decide (b < 0))) := rfl
  have HD := Lib.hid hd; clear hd
  rcases Int.lt_trichotomy (a.tmod b) 0 with h | h | h
  · rcases Int.lt_or_gt_of_ne hb with k | k
    · obtain ⟨t0, t1⟩ := ht.2 k
      clear ht
      have e1 : (a.tmod b != 0) = true := by simp; omega
      go_enter Try.func26, Try.ntmps26
      go_wp2_with (go_at_call 17; first | ((with_reducible refine (refWrap_w _ _).mono ?_); rintro e w' ⟨rfl, rfl⟩) | ((with_reducible refine (refWrap_any _ _ (by omega) (by omega)).mono ?_); rintro e w' ⟨rfl, rfl⟩))
      have hd : M.dd a b = false := by rw [HD.out]; simp [h, k]
      go_ret3
      exact ⟨by simp [M.dq, M.dr, hd], rfl⟩
    · obtain ⟨t0, t1⟩ := ht.1 k
      clear ht
      have e1 : (a.tmod b != 0) = true := by simp; omega
      go_enter Try.func26, Try.ntmps26
      go_wp2_with (go_at_call 17; first | ((with_reducible refine (refWrap_w _ _).mono ?_); rintro e w' ⟨rfl, rfl⟩) | ((with_reducible refine (refWrap_any _ _ (by omega) (by omega)).mono ?_); rintro e w' ⟨rfl, rfl⟩))
      have hd : M.dd a b = true := by rw [HD.out, e1]; simp [h]; omega
      go_ret3
      refine ⟨?_, rfl⟩
      show Ending.returned (.tuple #[.int .i64 (W (wrap64 (a.tdiv b) - 1)), .int .i64 (W (a.tmod b + b)), .bool true]) = _
      rw [M.W_dq']; simp only [M.dq, M.dr, hd, if_true]
  · clear ht
    go_enter Try.func26, Try.ntmps26
    go_wp2_with (go_at_call 17; first | ((with_reducible refine (refWrap_w _ _).mono ?_); rintro e w' ⟨rfl, rfl⟩) | ((with_reducible refine (refWrap_any _ _ (by omega) (by omega)).mono ?_); rintro e w' ⟨rfl, rfl⟩))
    have hd : M.dd a b = false := M.dd_z h
    go_ret3
    exact ⟨by simp [M.dq, M.dr, hd, h], rfl⟩
  · rcases Int.lt_or_gt_of_ne hb with k | k
    · obtain ⟨t0, t1⟩ := ht.2 k
      clear ht
      have e1 : (a.tmod b != 0) = true := by simp; omega
      have e2 : ¬ a.tmod b < 0 := by omega
      go_enter Try.func26, Try.ntmps26
      go_wp2_with (go_at_call 17; first | ((with_reducible refine (refWrap_w _ _).mono ?_); rintro e w' ⟨rfl, rfl⟩) | ((with_reducible refine (refWrap_any _ _ (by omega) (by omega)).mono ?_); rintro e w' ⟨rfl, rfl⟩))
      have hd : M.dd a b = true := by rw [HD.out, e1]; simp [k]; omega
      go_ret3
      refine ⟨?_, rfl⟩
      show Ending.returned (.tuple #[.int .i64 (W (wrap64 (a.tdiv b) - 1)), .int .i64 (W (a.tmod b + b)), .bool true]) = _
      rw [M.W_dq']; simp only [M.dq, M.dr, hd, if_true]
    · obtain ⟨t0, t1⟩ := ht.1 k
      clear ht
      have e1 : (a.tmod b != 0) = true := by simp; omega
      have e2 : ¬ a.tmod b < 0 := by omega
      have e3 : ¬ b < 0 := by omega
      go_enter Try.func26, Try.ntmps26
      go_wp2_with (go_at_call 17; first | ((with_reducible refine (refWrap_w _ _).mono ?_); rintro e w' ⟨rfl, rfl⟩) | ((with_reducible refine (refWrap_any _ _ (by omega) (by omega)).mono ?_); rintro e w' ⟨rfl, rfl⟩))
      have hd : M.dd a b = false := by rw [HD.out]; simp; omega
      go_ret3
      exact ⟨by simp [M.dq, M.dr, hd], rfl⟩
theorem reckon_div (a b : Int) (w : World) (hb : b ≠ 0) (b0 : -9223372036854775808 ≤ b) (b1 : b ≤ 9223372036854775807) :
    Calls Try.prog 49 #[.int .i64 4, .int .i64 a, .int .i64 b] w fun e w' => e = .returned (.tuple #[.int .i64 (W (M.dq a b)), .bool true]) ∧ ∃ n, w' = w.drewN n := by
  go_enter Try.func49, Try.ntmps49
  go_wp2_with (first | (go_at_call 16; refine (wrap_any _ _).mono ?_; rintro e w' ⟨rfl, rfl⟩) | (go_at_call 56; refine (divide_any _ _ _ hb b0 b1).mono ?_; rintro e w' ⟨⟨q, r, rfl, hq, rfl⟩, n, rfl⟩; have HQ := Lib.hid hq; clear hq))
  go_ret2
  exact ⟨by rw [← HQ.out]; rfl, _, rfl⟩
theorem reckon_mod (a b : Int) (w : World) (hb : b ≠ 0) (b0 : -9223372036854775808 ≤ b) (b1 : b ≤ 9223372036854775807) :
    Calls Try.prog 49 #[.int .i64 5, .int .i64 a, .int .i64 b] w fun e w' => e = .returned (.tuple #[.int .i64 (W (M.dr a b)), .bool true]) ∧ ∃ n, w' = w.drewN n := by
  go_enter Try.func49, Try.ntmps49
  go_wp2_with (first | (go_at_call 16; refine (wrap_any _ _).mono ?_; rintro e w' ⟨rfl, rfl⟩) | (go_at_call 56; refine (divide_any _ _ _ hb b0 b1).mono ?_; rintro e w' ⟨⟨q, r, rfl, hq, rfl⟩, n, rfl⟩; clear hq))
  go_ret2
  exact ⟨rfl, _, rfl⟩
theorem reckon_div0 (a : Int) (w : World) : Calls Try.prog 49 #[.int .i64 4, .int .i64 a, .int .i64 0] w fun e w' => e = .returned (.tuple #[.int .i64 0, .bool false]) ∧ w' = w := by
  go_enter Try.func49, Try.ntmps49
  go_wp2_with (first | (go_at_call 16; refine (wrap_any _ _).mono ?_; rintro e w' ⟨rfl, rfl⟩) | (go_at_call 56; refine (divide_zero _ _).mono ?_; rintro e w' ⟨rfl, rfl⟩))
  go_ret2
  exact ⟨rfl, rfl⟩
theorem reckon_mod0 (a : Int) (w : World) : Calls Try.prog 49 #[.int .i64 5, .int .i64 a, .int .i64 0] w fun e w' => e = .returned (.tuple #[.int .i64 0, .bool false]) ∧ w' = w := by
  go_enter Try.func49, Try.ntmps49
  go_wp2_with (first | (go_at_call 16; refine (wrap_any _ _).mono ?_; rintro e w' ⟨rfl, rfl⟩) | (go_at_call 56; refine (divide_zero _ _).mono ?_; rintro e w' ⟨rfl, rfl⟩))
  go_ret2
  exact ⟨rfl, rfl⟩
theorem div_any (a b : Int) (w : World) (hb : b ≠ 0) (b0 : -9223372036854775808 ≤ b) (b1 : b ≤ 9223372036854775807) :
    Calls Try.prog 24 #[.int .i64 a, .int .i64 b] w fun e w' => e = .returned (.tuple #[.int .i64 (W (M.dq a b)), .bool true]) ∧ ∃ n, w' = w.drewN n := by
  go_enter Try.func24, Try.ntmps24
  go_wp2_with (go_at_call 49; refine (reckon_div _ _ _ hb b0 b1).mono ?_; rintro e w' ⟨rfl, n, rfl⟩)
  go_ret2
  exact ⟨rfl, _, rfl⟩
theorem mod_any (a b : Int) (w : World) (hb : b ≠ 0) (b0 : -9223372036854775808 ≤ b) (b1 : b ≤ 9223372036854775807) :
    Calls Try.prog 25 #[.int .i64 a, .int .i64 b] w fun e w' => e = .returned (.tuple #[.int .i64 (W (M.dr a b)), .bool true]) ∧ ∃ n, w' = w.drewN n := by
  go_enter Try.func25, Try.ntmps25
  go_wp2_with (go_at_call 49; refine (reckon_mod _ _ _ hb b0 b1).mono ?_; rintro e w' ⟨rfl, n, rfl⟩)
  go_ret2
  exact ⟨rfl, _, rfl⟩
theorem div_zero (a : Int) (w : World) : Calls Try.prog 24 #[.int .i64 a, .int .i64 0] w fun e w' => e = .returned (.tuple #[.int .i64 0, .bool false]) ∧ w' = w := by
  go_enter Try.func24, Try.ntmps24
  go_wp2_with (go_at_call 49; refine (reckon_div0 _ _).mono ?_; rintro e w' ⟨rfl, rfl⟩)
  go_ret2
  exact ⟨rfl, rfl⟩
theorem mod_zero (a : Int) (w : World) : Calls Try.prog 25 #[.int .i64 a, .int .i64 0] w fun e w' => e = .returned (.tuple #[.int .i64 0, .bool false]) ∧ w' = w := by
  go_enter Try.func25, Try.ntmps25
  go_wp2_with (go_at_call 49; refine (reckon_mod0 _ _).mono ?_; rintro e w' ⟨rfl, rfl⟩)
  go_ret2
  exact ⟨rfl, rfl⟩
theorem div_nil (a b : Int) (w : World) (h : b = 0) : Calls Try.prog 24 #[.int .i64 a, .int .i64 b] w fun e w' => e = .returned (.tuple #[.int .i64 0, .bool false]) ∧ w' = w := by subst h; exact div_zero a w
theorem mod_nil (a b : Int) (w : World) (h : b = 0) : Calls Try.prog 25 #[.int .i64 a, .int .i64 b] w fun e w' => e = .returned (.tuple #[.int .i64 0, .bool false]) ∧ w' = w := by subst h; exact mod_zero a w
theorem mod_to (a b : Int) (w : World) (hb : b ≠ 0) (b0 : -9223372036854775808 ≤ b) (b1 : b ≤ 9223372036854775807) (v : Int) (hv : W (M.dr a b) = v) :
    Calls Try.prog 25 #[.int .i64 a, .int .i64 b] w fun e w' => e = .returned (.tuple #[.int .i64 v, .bool true]) ∧ ∃ n, w' = w.drewN n := hv ▸ mod_any a b w hb b0 b1

theorem product_pos (a b : Int) (w : World) (a0 : -9223372036854775808 ≤ a) (a1 : a ≤ 9223372036854775807) (b0 : -9223372036854775808 ≤ b) (b1 : b ≤ 9223372036854775807) (hb : 0 ≤ W b) :
    Calls Try.prog 23 #[.int .i64 a, .int .i64 b] w fun e w' => e = .returned (.int .i64 (W (a * b))) ∧ w' = w := by
  have la := M.W_lo a
  have ha := M.W_hi a
  have hb1 := M.W_hi b
  have hn : ¬ W b < 0 := by omega
  go_enter Try.func23, Try.ntmps23
  go_wp2_with (go_at_call 17; (with_reducible refine (refWrap_any _ _ (by assumption) (by assumption)).mono ?_); rintro e w' ⟨rfl, rfl⟩)
  go_loop [0, 1, 5] (fun v0 v1 v5 => ∃ x y o : Int, v0 = .int .i64 x ∧ v1 = .int .i64 y ∧ v5 = .int .i64 o ∧ 0 ≤ y ∧ y ≤ 4611686018427387903 ∧ W x = x ∧ W o = o ∧ W (o + x * y) = W (a * b)) (fun _ v1 _ => (intOf v1).toNat)
  case atStart => exact ⟨_, _, _, rfl, rfl, rfl, hb, hb1, M.W_W _, M.W_id (by omega) (by omega), by rw [Int.zero_add, M.W_mul_l, M.W_mul_r]⟩
  case round =>
    obtain ⟨x, y, o, rfl, rfl, rfl, y0, y1, hx, ho, hs⟩ := hrel
    clear la ha hb1
    have lx := M.W_lo x
    have ux := M.W_hi x
    rw [hx] at lx ux
    have lo := M.W_lo o
    have uo := M.W_hi o
    rw [ho] at lo uo
    have HX := Lib.hid hx; clear hx
    have HO := Lib.hid ho; clear ho
    have HS := Lib.hid hs; clear hs
    by_cases hz : y = 0
    · subst hz
      go_wp2
      go_ret
      refine ⟨ret_int ?_, rfl⟩
      have := HS.out; rw [Int.mul_zero, Int.add_zero, HO.out] at this; exact this
    · have hnz : ((y : Int) != 0) = true := by simpa using hz
      by_cases hp : y % 2 = 0
      · have HP := Lib.hid hp
        have hp1 : ((y % 2 : Int) != 0) = false := by simpa using hp
        clear hp
        go_wp2_with (go_at_call 20; (with_reducible refine (sum_any _ _ _ (by omega) (by omega) (by omega) (by omega)).mono ?_); rintro e w' ⟨rfl, rfl⟩)
        go_round
        case rel => exact ⟨_, _, _, rfl, rfl, rfl, by omega, by omega, M.W_W _, HO.out, by rw [← HS.out]; exact M.prod_even HP.out⟩
        case measure => simp [intOf]; omega
      · have HP := Lib.hid hp
        have hp1 : ((y % 2 : Int) != 0) = true := by simpa using hp
        clear hp
        go_wp2_with (go_at_call 20; (with_reducible refine (sum_any _ _ _ (by omega) (by omega) (by omega) (by omega)).mono ?_); rintro e w' ⟨rfl, rfl⟩)
        go_round
        case rel => exact ⟨_, _, _, rfl, rfl, rfl, by omega, by omega, M.W_W _, M.W_W _, by rw [← HS.out]; exact M.prod_odd (by have := HP.out; omega)⟩
        case measure => simp [intOf]; omega
theorem product_neg (a b : Int) (w : World) (a0 : -9223372036854775808 ≤ a) (a1 : a ≤ 9223372036854775807) (b0 : -9223372036854775808 ≤ b) (b1 : b ≤ 9223372036854775807) (hb : W b < 0) :
    Calls Try.prog 23 #[.int .i64 a, .int .i64 b] w fun e w' => e = .returned (.int .i64 (W (a * b))) ∧ w' = w := by
  have la := M.W_lo a
  have ha := M.W_hi a
  have hb1 := M.W_lo b
  go_enter Try.func23, Try.ntmps23
  go_wp2_with (go_at_call 17; (with_reducible refine (refWrap_any _ _ (by assumption) (by assumption)).mono ?_); rintro e w' ⟨rfl, rfl⟩)
  go_loop [0, 1, 5] (fun v0 v1 v5 => ∃ x y o : Int, v0 = .int .i64 x ∧ v1 = .int .i64 y ∧ v5 = .int .i64 o ∧ y ≤ 0 ∧ -4611686018427387904 ≤ y ∧ W x = x ∧ W o = o ∧ W (-o + x * y) = W (a * b)) (fun _ v1 _ => (-intOf v1).toNat)
  case atStart => exact ⟨_, _, _, rfl, rfl, rfl, by omega, hb1, M.W_W _, M.W_id (by omega) (by omega), by rw [Int.neg_zero, Int.zero_add, M.W_mul_l, M.W_mul_r]⟩
  case round =>
    obtain ⟨x, y, o, rfl, rfl, rfl, y0, y1, hx, ho, hs⟩ := hrel
    clear la ha hb1
    have lx := M.W_lo x
    have ux := M.W_hi x
    rw [hx] at lx ux
    have lo := M.W_lo o
    have uo := M.W_hi o
    rw [ho] at lo uo
    have HX := Lib.hid hx; clear hx
    have HO := Lib.hid ho; clear ho
    have HS := Lib.hid hs; clear hs
    by_cases hz : y = 0
    · subst hz
      go_wp2_with (go_at_call 17; (with_reducible refine (refWrap_any _ _ (by omega) (by omega)).mono ?_); rintro e w' ⟨rfl, rfl⟩)
      go_ret
      refine ⟨ret_int ?_, rfl⟩
      have := HS.out; rw [Int.mul_zero, Int.add_zero] at this; exact this
    · have hnz : ((y : Int) != 0) = true := by simpa using hz
      obtain ⟨td, tm⟩ := M.tdiv2_neg y0
      by_cases hp : y % 2 = 0
      · have HP := Lib.hid hp
        have hp1 : ((y.tmod 2 : Int) != 0) = false := by rw [tm]; simp [hp]
        clear hp
        have HT := Lib.hid td
        have d0 : -4611686018427387904 ≤ y.tdiv 2 := by omega
        have d1 : y.tdiv 2 ≤ 0 := by omega
        have d2 : y < y.tdiv 2 := by omega
        clear td tm
        go_wp2_with (go_at_call 20; (with_reducible refine (sum_any _ _ _ (by omega) (by omega) (by omega) (by omega)).mono ?_); rintro e w' ⟨rfl, rfl⟩)
        go_round
        case rel => exact ⟨_, _, _, rfl, rfl, rfl, by omega, by omega, M.W_W _, HO.out, by rw [← HS.out]; exact M.prodn_even HP.out HT.out⟩
        case measure => simp [intOf]; omega
      · have HP := Lib.hid hp
        have hp1 : ((y.tmod 2 : Int) != 0) = true := by rw [tm]; simp; omega
        clear hp
        have HT := Lib.hid td
        have d0 : -4611686018427387904 ≤ y.tdiv 2 := by omega
        have d1 : y.tdiv 2 ≤ 0 := by omega
        have d2 : y < y.tdiv 2 := by omega
        clear td tm
        go_wp2_with (go_at_call 20; (with_reducible refine (sum_any _ _ _ (by omega) (by omega) (by omega) (by omega)).mono ?_); rintro e w' ⟨rfl, rfl⟩)
        go_round
        case rel => exact ⟨_, _, _, rfl, rfl, rfl, by omega, by omega, M.W_W _, M.W_W _, by rw [← HS.out]; exact M.prodn_odd (by have := HP.out; omega) HT.out⟩
        case measure => simp [intOf]; omega
theorem product_any (a b : Int) (w : World) (a0 : -9223372036854775808 ≤ a) (a1 : a ≤ 9223372036854775807) (b0 : -9223372036854775808 ≤ b) (b1 : b ≤ 9223372036854775807) :
    Calls Try.prog 23 #[.int .i64 a, .int .i64 b] w fun e w' => e = .returned (.int .i64 (W (a * b))) ∧ w' = w := by
  by_cases hb : 0 ≤ W b
  · exact product_pos a b w a0 a1 b0 b1 hb
  · exact product_neg a b w a0 a1 b0 b1 (by omega)
end Go.Proofs.Ytmcciopahbijaaa
