/- Contracts of layer 1's words and heads, as far as layer 2 uses them, and of the document's own ones. -/
import Derived.Test.YteanlncnhncpbaaRows
import Derived.WalkKit
import Derived.ProofKit
import Derived.OpenShut
import Derived.Deep.QuietTactic
import Derived.BigQuiet
import Derived.Lib.Hide
import Derived.Outline
import Derived.Test.YteanlncnhncpbaaMath
import Derived.Test.YteanlncnhncpbaaBits
namespace Go.Proofs.Yteanlncnhncpbaa
set_option linter.unusedVariables false
open Go.ChangeShapes Go.WideShapes Go.ChangeAt Go.RowKit
open M (W)

theorem ret_int {k : IntKind} {a b : Int} (h : a = b) : Ending.returned (.int k a) = .returned (.int k b) := by rw [h]
theorem ret_u {k : IntKind} {a b : Int} {w : World} (h : a = b) : Ending.returned (.int k a) = .returned (.int k b) ∧ w = w := ⟨by rw [h], rfl⟩
theorem ret_b {a b : Bool} {w : World} (h : a = b) : Ending.returned (.bool a) = .returned (.bool b) ∧ w = w := ⟨by rw [h], rfl⟩

theorem part1_any (h : Int) (w : World) (h0 : 0 ≤ h) (h1 : h < 18446744073709551616) : Calls Try.prog 113 #[.int .u64 h, .int .i64 1] w fun e w' => e = .returned (.int .i64 (M.fld h 2 1048576)) ∧ w' = w := by
  go_enter Try.func113, Try.ntmps113
  go_wp2
  go_ret
  exact ret_u (by rw [M.and20 _ (by omega) (by omega)]; unfold M.fld wrap64; omega)
theorem with1_any (h n : Int) (w : World) (h0 : 0 ≤ h) (h1 : h < 18446744073709551616) : Calls Try.prog 63 #[.int .u64 h, .int .i64 1, .int .i64 n] w fun e w' => e = .returned (.int .u64 (M.put h 2 1048576 n)) ∧ ∃ n, w' = w.drewN n := by
  have u0 := M.u64_nn n
  have u1 := M.u64_lt n
  have hm := M.and20 _ u0 u1
  have hj := M.with_int h n 1 20 (by decide) h0 h1
  have HM := Lib.hid hm; clear hm
  have HJ := Lib.hid hj; clear hj
  go_enter Try.func63, Try.ntmps63
  go_wp2
  go_quiet (fail)
  go_wp2
  go_ret
  refine ⟨ret_int ?_, _, rfl⟩
  rw [HM.out, IntKind.wrap_u64, IntKind.wrap_u64]
  have := HJ.out
  simp only [Nat.reducePow, Nat.reduceSub, Nat.reduceMul, Int.cast_ofNat_Int] at this
  rw [← this]
  congr 1; omega

theorem part21_any (h : Int) (w : World) (h0 : 0 ≤ h) (h1 : h < 18446744073709551616) : Calls Try.prog 113 #[.int .u64 h, .int .i64 21] w fun e w' => e = .returned (.int .i64 (M.fld h 2097152 1048576)) ∧ w' = w := by
  go_enter Try.func113, Try.ntmps113
  go_wp2
  go_ret
  exact ret_u (by rw [M.and20 _ (by omega) (by omega)]; unfold M.fld wrap64; omega)
theorem with21_any (h n : Int) (w : World) (h0 : 0 ≤ h) (h1 : h < 18446744073709551616) : Calls Try.prog 63 #[.int .u64 h, .int .i64 21, .int .i64 n] w fun e w' => e = .returned (.int .u64 (M.put h 2097152 1048576 n)) ∧ ∃ n, w' = w.drewN n := by
  have u0 := M.u64_nn n
  have u1 := M.u64_lt n
  have hm := M.and20 _ u0 u1
  have hj := M.with_int h n 21 20 (by decide) h0 h1
  have HM := Lib.hid hm; clear hm
  have HJ := Lib.hid hj; clear hj
  go_enter Try.func63, Try.ntmps63
  go_wp2
  go_quiet (fail)
  go_wp2
  go_ret
  refine ⟨ret_int ?_, _, rfl⟩
  rw [HM.out, IntKind.wrap_u64, IntKind.wrap_u64]
  have := HJ.out
  simp only [Nat.reducePow, Nat.reduceSub, Nat.reduceMul, Int.cast_ofNat_Int] at this
  rw [← this]
  congr 1; omega

theorem part42_any (h : Int) (w : World) (h0 : 0 ≤ h) (h1 : h < 18446744073709551616) : Calls Try.prog 113 #[.int .u64 h, .int .i64 42] w fun e w' => e = .returned (.int .i64 (M.fld h 4398046511104 1048576)) ∧ w' = w := by
  go_enter Try.func113, Try.ntmps113
  go_wp2
  go_ret
  exact ret_u (by rw [M.and20 _ (by omega) (by omega)]; unfold M.fld wrap64; omega)
theorem with42_any (h n : Int) (w : World) (h0 : 0 ≤ h) (h1 : h < 18446744073709551616) : Calls Try.prog 63 #[.int .u64 h, .int .i64 42, .int .i64 n] w fun e w' => e = .returned (.int .u64 (M.put h 4398046511104 1048576 n)) ∧ ∃ n, w' = w.drewN n := by
  have u0 := M.u64_nn n
  have u1 := M.u64_lt n
  have hm := M.and20 _ u0 u1
  have hj := M.with_int h n 42 20 (by decide) h0 h1
  have HM := Lib.hid hm; clear hm
  have HJ := Lib.hid hj; clear hj
  go_enter Try.func63, Try.ntmps63
  go_wp2
  go_quiet (fail)
  go_wp2
  go_ret
  refine ⟨ret_int ?_, _, rfl⟩
  rw [HM.out, IntKind.wrap_u64, IntKind.wrap_u64]
  have := HJ.out
  simp only [Nat.reducePow, Nat.reduceSub, Nat.reduceMul, Int.cast_ofNat_Int] at this
  rw [← this]
  congr 1; omega

theorem head_any (a n : Int) (w : World) : Calls Try.prog 78 #[.int .i64 a, .int .i64 n] w fun e w' => e = .returned (.int .u64 (M.put (M.put 1 2 1048576 a) 2097152 1048576 n)) ∧ ∃ n, w' = w.drewN n := by
  have p0 : 0 ≤ M.put 1 2 1048576 a ∧ M.put 1 2 1048576 a < 18446744073709551616 := by unfold M.put; omega
  obtain ⟨p0, p1⟩ := p0
  go_enter Try.func78, Try.ntmps78
  go_wp2_with fail
  refine (with1_any _ _ _ (by omega) (by omega)).mono ?_; rintro e w' ⟨rfl, k, rfl⟩
  go_wp2_with fail
  refine (with21_any _ _ _ p0 p1).mono ?_; rintro e w' ⟨rfl, j, rfl⟩
  go_wp2_with fail
  go_ret
  exact ⟨rfl, k + j, by simp⟩
theorem shape_any (h : Int) (w : World) (h0 : 0 ≤ h) (h1 : h < 18446744073709551616) : Calls Try.prog 111 #[.int .u64 h] w fun e w' => e = .returned (.int .i64 (M.fld h 2 1048576)) ∧ w' = w := by
  go_enter Try.func111, Try.ntmps111
  go_wp2_with fail
  refine (part1_any _ _ h0 h1).mono ?_; rintro e w' ⟨rfl, rfl⟩
  go_wp2_with fail
  go_ret
  exact ⟨rfl, rfl⟩
theorem len_any (h : Int) (w : World) (h0 : 0 ≤ h) (h1 : h < 18446744073709551616) : Calls Try.prog 112 #[.int .u64 h] w fun e w' => e = .returned (.int .i64 (M.fld h 2097152 1048576)) ∧ w' = w := by
  go_enter Try.func112, Try.ntmps112
  go_wp2_with fail
  refine (part21_any _ _ h0 h1).mono ?_; rintro e w' ⟨rfl, rfl⟩
  go_wp2_with fail
  go_ret
  exact ⟨rfl, rfl⟩
theorem turned_any (h : Int) (w : World) (h0 : 0 ≤ h) (h1 : h < 18446744073709551616) : Calls Try.prog 106 #[.int .u64 h] w fun e w' => e = .returned (.int .i64 (M.fld h 4398046511104 1048576)) ∧ w' = w := by
  go_enter Try.func106, Try.ntmps106
  go_wp2_with fail
  refine (part42_any _ _ h0 h1).mono ?_; rintro e w' ⟨rfl, rfl⟩
  go_wp2_with fail
  go_ret
  exact ⟨rfl, rfl⟩
theorem turn_any (h k : Int) (w : World) (h0 : 0 ≤ h) (h1 : h < 18446744073709551616) : Calls Try.prog 28 #[.int .u64 h, .int .i64 k] w fun e w' => e = .returned (.int .u64 (M.put h 4398046511104 1048576 k)) ∧ ∃ n, w' = w.drewN n := by
  go_enter Try.func28, Try.ntmps28
  go_wp2_with fail
  refine (with42_any _ _ _ h0 h1).mono ?_; rintro e w' ⟨rfl, n, rfl⟩
  go_wp2_with fail
  go_ret
  exact ⟨rfl, n, rfl⟩
theorem marked_any (h : Int) (w : World) (h0 : 0 ≤ h) (h1 : h < 18446744073709551616) : Calls Try.prog 105 #[.int .u64 h] w fun e w' => e = .returned (.bool (M.fld h 2199023255552 2 == 1)) ∧ w' = w := by
  go_enter Try.func105, Try.ntmps105
  go_wp2
  go_ret
  exact ret_b (by rw [M.and1 _ (by omega) (by omega)]; rfl)
theorem mark_on (h : Int) (w : World) (h0 : 0 ≤ h) (h1 : h < 18446744073709551616) : Calls Try.prog 27 #[.int .u64 h, .bool true] w fun e w' => e = .returned (.int .u64 (M.put h 2199023255552 2 1)) ∧ w' = w := by
  go_enter Try.func27, Try.ntmps27
  go_wp2
  go_ret
  exact ret_u (M.mark_on_int h h0 h1)
theorem mark_off (h : Int) (w : World) (h0 : 0 ≤ h) (h1 : h < 18446744073709551616) : Calls Try.prog 27 #[.int .u64 h, .bool false] w fun e w' => e = .returned (.int .u64 (M.put h 2199023255552 2 0)) ∧ w' = w := by
  go_enter Try.func27, Try.ntmps27
  go_wp2
  go_ret
  exact ret_u (M.mark_off_int h h0 h1)
theorem imm_any (n : Int) (w : World) : Calls Try.prog 44 #[.int .i64 n] w fun e w' => e = .returned (.int .u64 ((2 * n + 1) % 18446744073709551616)) ∧ w' = w := by
  go_enter Try.func44, Try.ntmps44
  go_wp2
  go_ret
  exact ret_u (by rw [M.or1 _ (M.u64_nn _) (M.u64_lt _) (by rw [IntKind.wrap_u64]; omega), IntKind.wrap_u64, IntKind.wrap_u64]; omega)
theorem isImm_any (h : Int) (w : World) (h0 : 0 ≤ h) (h1 : h < 18446744073709551616) : Calls Try.prog 71 #[.int .u64 h] w fun e w' => e = .returned (.bool (h % 2 == 1)) ∧ w' = w := by
  go_enter Try.func71, Try.ntmps71
  go_wp2
  go_ret
  exact ret_b (by rw [M.and1 _ (by omega) (by omega)])
theorem ptr_wrap (n : Int) : IntKind.u64.wrap (IntKind.u64.wrap n * 2) = M.ptr n := by rw [IntKind.wrap_u64, IntKind.wrap_u64]; unfold M.ptr; omega
theorem ptr_any (n : Int) (w : World) : Calls Try.prog 43 #[.int .i64 n] w fun e w' => e = .returned (.int .u64 (M.ptr n)) ∧ w' = w := by
  go_enter Try.func43, Try.ntmps43
  go_wp2
  go_ret
  exact ret_u (ptr_wrap n)
theorem at_any (h : Int) (w : World) (h0 : 0 ≤ h) (h1 : h < 18446744073709551616) : Calls Try.prog 49 #[.int .u64 h] w fun e w' => e = .returned (.int .i64 (h / 2)) ∧ w' = w := by
  go_enter Try.func49, Try.ntmps49
  go_wp2
  go_ret
  exact ret_u (by first | rfl | (unfold wrap64; omega))

theorem power_any (n : Nat) (w : World) (hn : n < 64) : Calls Try.prog 85 #[.int .i64 n] w fun e w' => e = .returned (.int .u64 (M.pw n)) ∧ w' = w := by
  go_enter Try.func85, Try.ntmps85
  go_wp2
  go_loop [3, 4] (fun x i => ∃ k : Nat, k ≤ n ∧ i = .int .i64 k ∧ x = .int .u64 (M.pw k)) (fun _ i => n - (intOf i).toNat)
  case atStart => exact ⟨0, by omega, rfl, rfl⟩
  case round =>
    obtain ⟨k, hk, rfl, rfl⟩ := hrel
    by_cases hlt : k < n
    · have hp := M.pw_lt (k + 1) (by omega)
      have hp2 := M.pw_succ k
      have hq : M.pw k * 2 < 18446744073709551616 := by omega
      have HP := Lib.hid hp2; clear hp2 hp
      go_wp2
      go_round
      case rel => exact ⟨k + 1, by omega, by go_num, by rw [HP.out]; go_num⟩
      case measure => simp [intOf]; omega
    · have : k = n := by omega
      subst this
      go_wp2
      go_ret
      exact ⟨rfl, rfl⟩
theorem power1 (w : World) : Calls Try.prog 85 #[.int .i64 1] w fun e w' => e = .returned (.int .u64 2) ∧ w' = w := power_any 1 w (by decide)
theorem power20 (w : World) : Calls Try.prog 85 #[.int .i64 20] w fun e w' => e = .returned (.int .u64 1048576) ∧ w' = w := power_any 20 w (by decide)
theorem power21 (w : World) : Calls Try.prog 85 #[.int .i64 21] w fun e w' => e = .returned (.int .u64 2097152) ∧ w' = w := power_any 21 w (by decide)
theorem power41 (w : World) : Calls Try.prog 85 #[.int .i64 41] w fun e w' => e = .returned (.int .u64 2199023255552) ∧ w' = w := power_any 41 w (by decide)
theorem power42 (w : World) : Calls Try.prog 85 #[.int .i64 42] w fun e w' => e = .returned (.int .u64 4398046511104) ∧ w' = w := power_any 42 w (by decide)
theorem power62 (w : World) : Calls Try.prog 85 #[.int .i64 62] w fun e w' => e = .returned (.int .u64 4611686018427387904) ∧ w' = w := power_any 62 w (by decide)

theorem refField1 (h : Int) (w : World) (h0 : 0 ≤ h) (h1 : h < 18446744073709551616) : Calls Try.prog 58 #[.int .u64 h, .int .i64 1, .int .i64 20] w fun e w' => e = .returned (.int .u64 (h / 2 % 1048576)) ∧ ∃ n, w' = w.drewN n := by
  go_enter Try.func58, Try.ntmps58
  go_wp2_with fail
  go_quiet ((go_at_call 85; (first | (with_reducible exact Calls.quiet_of_same (power1 _)) | (with_reducible exact Calls.quiet_of_same (power20 _)) | (with_reducible exact Calls.quiet_of_same (power21 _)) | (with_reducible exact Calls.quiet_of_same (power41 _)) | (with_reducible exact Calls.quiet_of_same (power42 _)))))
  go_wp2
  go_ret
  exact ⟨ret_int (by first | rfl | (simp only [IntKind.wrap_u64]; omega)), _, rfl⟩
theorem refWith1 (h x : Int) (w : World) (h0 : 0 ≤ h) (h1 : h < 18446744073709551616) (x0 : 0 ≤ x) (x1 : x < 18446744073709551616) : Calls Try.prog 84 #[.int .u64 h, .int .i64 1, .int .i64 20, .int .u64 x] w fun e w' => e = .returned (.int .u64 (M.put h 2 1048576 x)) ∧ ∃ n, w' = w.drewN n := by
  go_enter Try.func84, Try.ntmps84
  go_wp2_with fail
  go_quiet (first | (go_at_call 58; exact Calls.quiet_of (refField1 _ _ h0 h1)) | (go_at_call 85; (first | (with_reducible exact Calls.quiet_of_same (power1 _)) | (with_reducible exact Calls.quiet_of_same (power20 _)) | (with_reducible exact Calls.quiet_of_same (power21 _)) | (with_reducible exact Calls.quiet_of_same (power41 _)) | (with_reducible exact Calls.quiet_of_same (power42 _)))))
  go_wp2
  go_ret
  exact ⟨ret_int (by unfold M.put; omega), _, rfl⟩

theorem refField21 (h : Int) (w : World) (h0 : 0 ≤ h) (h1 : h < 18446744073709551616) : Calls Try.prog 58 #[.int .u64 h, .int .i64 21, .int .i64 20] w fun e w' => e = .returned (.int .u64 (h / 2097152 % 1048576)) ∧ ∃ n, w' = w.drewN n := by
  go_enter Try.func58, Try.ntmps58
  go_wp2_with fail
  go_quiet ((go_at_call 85; (first | (with_reducible exact Calls.quiet_of_same (power1 _)) | (with_reducible exact Calls.quiet_of_same (power20 _)) | (with_reducible exact Calls.quiet_of_same (power21 _)) | (with_reducible exact Calls.quiet_of_same (power41 _)) | (with_reducible exact Calls.quiet_of_same (power42 _)))))
  go_wp2
  go_ret
  exact ⟨ret_int (by first | rfl | (simp only [IntKind.wrap_u64]; omega)), _, rfl⟩
theorem refWith21 (h x : Int) (w : World) (h0 : 0 ≤ h) (h1 : h < 18446744073709551616) (x0 : 0 ≤ x) (x1 : x < 18446744073709551616) : Calls Try.prog 84 #[.int .u64 h, .int .i64 21, .int .i64 20, .int .u64 x] w fun e w' => e = .returned (.int .u64 (M.put h 2097152 1048576 x)) ∧ ∃ n, w' = w.drewN n := by
  go_enter Try.func84, Try.ntmps84
  go_wp2_with fail
  go_quiet (first | (go_at_call 58; exact Calls.quiet_of (refField21 _ _ h0 h1)) | (go_at_call 85; (first | (with_reducible exact Calls.quiet_of_same (power1 _)) | (with_reducible exact Calls.quiet_of_same (power20 _)) | (with_reducible exact Calls.quiet_of_same (power21 _)) | (with_reducible exact Calls.quiet_of_same (power41 _)) | (with_reducible exact Calls.quiet_of_same (power42 _)))))
  go_wp2
  go_ret
  exact ⟨ret_int (by unfold M.put; omega), _, rfl⟩

theorem refField42 (h : Int) (w : World) (h0 : 0 ≤ h) (h1 : h < 18446744073709551616) : Calls Try.prog 58 #[.int .u64 h, .int .i64 42, .int .i64 20] w fun e w' => e = .returned (.int .u64 (h / 4398046511104 % 1048576)) ∧ ∃ n, w' = w.drewN n := by
  go_enter Try.func58, Try.ntmps58
  go_wp2_with fail
  go_quiet ((go_at_call 85; (first | (with_reducible exact Calls.quiet_of_same (power1 _)) | (with_reducible exact Calls.quiet_of_same (power20 _)) | (with_reducible exact Calls.quiet_of_same (power21 _)) | (with_reducible exact Calls.quiet_of_same (power41 _)) | (with_reducible exact Calls.quiet_of_same (power42 _)))))
  go_wp2
  go_ret
  exact ⟨ret_int (by first | rfl | (simp only [IntKind.wrap_u64]; omega)), _, rfl⟩
theorem refWith42 (h x : Int) (w : World) (h0 : 0 ≤ h) (h1 : h < 18446744073709551616) (x0 : 0 ≤ x) (x1 : x < 18446744073709551616) : Calls Try.prog 84 #[.int .u64 h, .int .i64 42, .int .i64 20, .int .u64 x] w fun e w' => e = .returned (.int .u64 (M.put h 4398046511104 1048576 x)) ∧ ∃ n, w' = w.drewN n := by
  go_enter Try.func84, Try.ntmps84
  go_wp2_with fail
  go_quiet (first | (go_at_call 58; exact Calls.quiet_of (refField42 _ _ h0 h1)) | (go_at_call 85; (first | (with_reducible exact Calls.quiet_of_same (power1 _)) | (with_reducible exact Calls.quiet_of_same (power20 _)) | (with_reducible exact Calls.quiet_of_same (power21 _)) | (with_reducible exact Calls.quiet_of_same (power41 _)) | (with_reducible exact Calls.quiet_of_same (power42 _)))))
  go_wp2
  go_ret
  exact ⟨ret_int (by unfold M.put; omega), _, rfl⟩

theorem refField41 (h : Int) (w : World) (h0 : 0 ≤ h) (h1 : h < 18446744073709551616) : Calls Try.prog 58 #[.int .u64 h, .int .i64 41, .int .i64 1] w fun e w' => e = .returned (.int .u64 (h / 2199023255552 % 2)) ∧ ∃ n, w' = w.drewN n := by
  go_enter Try.func58, Try.ntmps58
  go_wp2_with fail
  go_quiet ((go_at_call 85; (first | (with_reducible exact Calls.quiet_of_same (power1 _)) | (with_reducible exact Calls.quiet_of_same (power20 _)) | (with_reducible exact Calls.quiet_of_same (power21 _)) | (with_reducible exact Calls.quiet_of_same (power41 _)) | (with_reducible exact Calls.quiet_of_same (power42 _)))))
  go_wp2
  go_ret
  exact ⟨ret_int (by first | rfl | (simp only [IntKind.wrap_u64]; omega)), _, rfl⟩
theorem refWith41 (h x : Int) (w : World) (h0 : 0 ≤ h) (h1 : h < 18446744073709551616) (x0 : 0 ≤ x) (x1 : x < 18446744073709551616) : Calls Try.prog 84 #[.int .u64 h, .int .i64 41, .int .i64 1, .int .u64 x] w fun e w' => e = .returned (.int .u64 (M.put h 2199023255552 2 x)) ∧ ∃ n, w' = w.drewN n := by
  go_enter Try.func84, Try.ntmps84
  go_wp2_with fail
  go_quiet (first | (go_at_call 58; exact Calls.quiet_of (refField41 _ _ h0 h1)) | (go_at_call 85; (first | (with_reducible exact Calls.quiet_of_same (power1 _)) | (with_reducible exact Calls.quiet_of_same (power20 _)) | (with_reducible exact Calls.quiet_of_same (power21 _)) | (with_reducible exact Calls.quiet_of_same (power41 _)) | (with_reducible exact Calls.quiet_of_same (power42 _)))))
  go_wp2
  go_ret
  exact ⟨ret_int (by unfold M.put; omega), _, rfl⟩

theorem refHead_any (a n : Int) (w : World) : Calls Try.prog 57 #[.int .i64 a, .int .i64 n] w fun e w' => e = .returned (.int .u64 (M.put (M.put 1 2 1048576 a) 2097152 1048576 n)) ∧ ∃ n, w' = w.drewN n := by
  have p0 : 0 ≤ M.put 1 2 1048576 (IntKind.u64.wrap a) ∧ M.put 1 2 1048576 (IntKind.u64.wrap a) < 18446744073709551616 := by unfold M.put; omega
  obtain ⟨p0, p1⟩ := p0
  go_enter Try.func57, Try.ntmps57
  go_wp2_with fail
  refine (refWith1 _ _ _ (by omega) (by omega) (M.u64_nn _) (M.u64_lt _)).mono ?_; rintro e w' ⟨rfl, k, rfl⟩
  go_wp2_with fail
  refine (refWith21 _ _ _ p0 p1 (M.u64_nn _) (M.u64_lt _)).mono ?_; rintro e w' ⟨rfl, j, rfl⟩
  go_wp2_with fail
  go_ret
  exact ⟨ret_int (by rw [IntKind.wrap_u64, IntKind.wrap_u64]; unfold M.put; omega), k + j, by simp⟩
theorem refFld1 (h : Int) (w : World) (h0 : 0 ≤ h) (h1 : h < 18446744073709551616) : Calls Try.prog 58 #[.int .u64 h, .int .i64 1, .int .i64 20] w fun e w' => e = .returned (.int .u64 (M.fld h 2 1048576)) ∧ ∃ n, w' = w.drewN n := refField1 h w h0 h1
theorem refFld21 (h : Int) (w : World) (h0 : 0 ≤ h) (h1 : h < 18446744073709551616) : Calls Try.prog 58 #[.int .u64 h, .int .i64 21, .int .i64 20] w fun e w' => e = .returned (.int .u64 (M.fld h 2097152 1048576)) ∧ ∃ n, w' = w.drewN n := refField21 h w h0 h1
theorem refFld42 (h : Int) (w : World) (h0 : 0 ≤ h) (h1 : h < 18446744073709551616) : Calls Try.prog 58 #[.int .u64 h, .int .i64 42, .int .i64 20] w fun e w' => e = .returned (.int .u64 (M.fld h 4398046511104 1048576)) ∧ ∃ n, w' = w.drewN n := refField42 h w h0 h1
theorem refFld41 (h : Int) (w : World) (h0 : 0 ≤ h) (h1 : h < 18446744073709551616) : Calls Try.prog 58 #[.int .u64 h, .int .i64 41, .int .i64 1] w fun e w' => e = .returned (.int .u64 (M.fld h 2199023255552 2)) ∧ ∃ n, w' = w.drewN n := refField41 h w h0 h1
theorem refTurn (h k : Int) (w : World) (h0 : 0 ≤ h) (h1 : h < 18446744073709551616) : Calls Try.prog 84 #[.int .u64 h, .int .i64 42, .int .i64 20, .int .u64 (IntKind.u64.wrap k)] w fun e w' => e = .returned (.int .u64 (M.put h 4398046511104 1048576 k)) ∧ ∃ n, w' = w.drewN n :=
  M.put_wrap h k ▸ refWith42 h _ w h0 h1 (M.u64_nn _) (M.u64_lt _)
/-! heads, all parts told -/
theorem head_hd (a n : Int) (w : World) : Calls Try.prog 78 #[.int .i64 a, .int .i64 n] w fun e w' => e = .returned (.int .u64 (M.hd a n 0 0)) ∧ ∃ n, w' = w.drewN n := M.hd_head a n ▸ head_any a n w
theorem mark_hd (a n o k : Int) (b : Bool) (p : Int) (hp : p = if b then 1 else 0) (w : World) : Calls Try.prog 27 #[.int .u64 (M.hd a n o k), .bool b] w fun e w' => e = .returned (.int .u64 (M.hd a n p k)) ∧ w' = w := by
  subst hp
  cases b
  · exact M.hd_mark a n o k 0 ▸ mark_off _ w (M.hd_lo ..) (M.hd_hi ..)
  · exact M.hd_mark a n o k 1 ▸ mark_on _ w (M.hd_lo ..) (M.hd_hi ..)
theorem turn_hd (a n o k j : Int) (w : World) : Calls Try.prog 28 #[.int .u64 (M.hd a n o k), .int .i64 j] w fun e w' => e = .returned (.int .u64 (M.hd a n o j)) ∧ ∃ n, w' = w.drewN n := M.hd_turn a n o k j ▸ turn_any _ j w (M.hd_lo ..) (M.hd_hi ..)
theorem shape_hd (a n o k : Int) (w : World) : Calls Try.prog 111 #[.int .u64 (M.hd a n o k)] w fun e w' => e = .returned (.int .i64 (a % 1048576)) ∧ w' = w := M.hd_shape a n o k ▸ shape_any _ w (M.hd_lo ..) (M.hd_hi ..)
theorem len_hd (a n o k : Int) (w : World) : Calls Try.prog 112 #[.int .u64 (M.hd a n o k)] w fun e w' => e = .returned (.int .i64 (n % 1048576)) ∧ w' = w := M.hd_len a n o k ▸ len_any _ w (M.hd_lo ..) (M.hd_hi ..)
theorem turned_hd (a n o k : Int) (w : World) : Calls Try.prog 106 #[.int .u64 (M.hd a n o k)] w fun e w' => e = .returned (.int .i64 (k % 1048576)) ∧ w' = w := M.hd_turned a n o k ▸ turned_any _ w (M.hd_lo ..) (M.hd_hi ..)
theorem marked_hd (a n o k : Int) (b : Bool) (hb : o = if b then 1 else 0) (w : World) : Calls Try.prog 105 #[.int .u64 (M.hd a n o k)] w fun e w' => e = .returned (.bool b) ∧ w' = w :=
  (marked_any _ w (M.hd_lo a n o k) (M.hd_hi a n o k)).mono fun _ _ ⟨he, hw⟩ => ⟨by rw [he, M.hd_marked, hb]; cases b <;> rfl, hw⟩
theorem isImm_hd (a n o k : Int) (w : World) : Calls Try.prog 71 #[.int .u64 (M.hd a n o k)] w fun e w' => e = .returned (.bool true) ∧ w' = w :=
  (isImm_any _ w (M.hd_lo a n o k) (M.hd_hi a n o k)).mono fun _ _ ⟨he, hw⟩ => ⟨by rw [he, M.hd_odd]; rfl, hw⟩


end Go.Proofs.Yteanlncnhncpbaa
