/- The examples of layer 4's laws. -/
import Derived.Test.YtjeehbcbflofpaaCode8
import Derived.Test.YtjeehbcbflofpaaPlain
namespace Go.Proofs.Ytjeehbcbflofpaa
set_option linter.unusedVariables false
open Go.ChangeShapes Go.WideShapes Go.ChangeAt Go.RowKit
open M (W)
theorem conv11 {w : World} {B : Nat} {a : Option Addr} {c : Nat} (h : w.ownsRow B 5 1 (.slice a 11 c) 11 (M.bel.map (Value.int .u8))) :
    (convert 30 9 (.slice a 11 c)).run Try.prog w = .ok (.string ⟨#[66, 69, 76, 49, 0, 0, 0, 0, 0, 0, 0]⟩) w := by
  obtain ⟨r, rfl, hr, hnc, hcm, hcell, _⟩ := own_form h (by decide)
  exact run_convert_bytes_arg w 30 5 Try.underlying30 Try.underlying5 r 0 11 c M.bel rfl (fun j hj => by
    have h11 : j = 0 ∨ j = 1 ∨ j = 2 ∨ j = 3 ∨ j = 4 ∨ j = 5 ∨ j = 6 ∨ j = 7 ∨ j = 8 ∨ j = 9 ∨ j = 10 := by omega
    rcases h11 with rfl | rfl | rfl | rfl | rfl | rfl | rfl | rfl | rfl | rfl | rfl <;> (rw [Nat.zero_add]; exact hcell _ _ rfl)) 9 Try.underlying9
theorem plain_jump : M.plain (M.uses 18) 0 3 0 0 0 0 0 0 = true := by unfold M.plain; rw [ByteArray.toList_eq]; first | decide | rfl | kernel_rfl
theorem plain_jumpD : M.plain (M.uses 18) 1 3 0 0 0 0 0 0 = false := by unfold M.plain; rw [ByteArray.toList_eq]; first | decide | rfl | kernel_rfl
theorem uses_if (W : World) : Calls Try.prog 17 #[.int .i64 19] W fun e w' => e = .returned (.string ⟨#[65, 66, 67]⟩) ∧ w' = W := uses_any 19 W
theorem jump_plain (W : World) : Calls Try.prog 18 #[.agg #[.int .i64 18, .int .i64 0, .int .i64 3, .int .i64 0, .int .i64 0, .int .i64 0, .slice none 0 0, .slice none 0 0, .slice none 0 0]] W fun e w' => e = .returned (.bool true) ∧ Still W w' := by
  have := plain_any 18 0 3 0 0 0 none 0 0 none 0 0 none 0 0 W
  rwa [plain_jump] at this
theorem jumpD_plain (W : World) : Calls Try.prog 18 #[.agg #[.int .i64 18, .int .i64 1, .int .i64 3, .int .i64 0, .int .i64 0, .int .i64 0, .slice none 0 0, .slice none 0 0, .slice none 0 0]] W fun e w' => e = .returned (.bool false) ∧ Still W w' := by
  have := plain_any 18 1 3 0 0 0 none 0 0 none 0 0 none 0 0 W
  rwa [plain_jumpD] at this
set_option maxRecDepth 100000 in
set_option maxHeartbeats 4000000 in
theorem lives4_any (w : World) : Calls Try.prog 9 #[] w fun e w' => e = .returned (.bool true) ∧ Below w.heap.size w w' := by
  go_enter Try.func9, Try.ntmps9
  go_wp2_with fail
  refine (encode_nil _).mono ?_; rintro e w1 ⟨a, c, rfl, ho1, hb1⟩
  have hcv := Go.Joins.run_convert_bytes_const_at (P := Try.prog) w1 30 5 #[.int .u8 66, .int .u8 69, .int .u8 76] 3 3 w1.heap.size rfl Try.underlying30 Try.underlying5
  have HO1 := Lib.hid ho1
  have HB1 := Lib.hid hb1
  clear ho1 hb1
  go_wp2_with fail
  refine (decode_short _ _ 3).mono ?_; rintro e w2 ⟨rfl, t2⟩
  have S2 : Hid (Still w1 w2) := Still.trans ((Still.refl w1).alloc _) t2
  clear t2
  go_wp2_with fail
  have S3 : Hid (Still w1 (w2.alloc (.cells #[.slice none 0 0, .slice none 0 0, .slice none 0 0, .slice none 0 0, .slice none 0 0, .int .i64 0, .int .i64 0] 27))) := S2.out.alloc _
  refine (decode_bel (own_keep HO1.out S3.out (fun _ _ e => e))).mono ?_; rintro e w3 ⟨rfl, t3⟩
  have S4 : Hid (Still w1 w3) := Still.trans S3.out t3
  have S5 : Hid (Still w1 (w3.alloc (.cells #[.slice none 0 0, .slice none 0 0, .slice none 0 0, .slice none 0 0, .slice none 0 0, .int .i64 0, .int .i64 0] 27))) := S4.out.alloc _
  have cv := conv11 (own_keep HO1.out S5.out (fun _ _ e => e))
  clear t3 hcv
  go_wp2_with (first
    | (go_at_call 17; (with_reducible refine (uses_if _).mono ?_); rintro e w8 ⟨rfl, rfl⟩)
    | (go_at_call 18; (with_reducible refine (jump_plain _).mono ?_); rintro e w6 ⟨rfl, t6⟩; have S6 := Lib.hid (Still.trans S5.out t6); clear t6)
    | (go_at_call 18; (with_reducible refine (jumpD_plain _).mono ?_); rintro e w7 ⟨rfl, t7⟩; have S7 := Lib.hid (Still.trans S6.out t7); clear t7))
  go_ret
  exact ⟨rfl, HB1.out.trans ((Still.below S7.out).mono HB1.out.size)⟩
end Go.Proofs.Ytjeehbcbflofpaa
