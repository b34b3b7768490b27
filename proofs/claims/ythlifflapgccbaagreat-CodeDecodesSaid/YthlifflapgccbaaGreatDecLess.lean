/- Decode of fewer than four bytes, from anywhere. -/
import Derived.Test.YthlifflapgccbaaGreatL04
namespace Go.Proofs.YthlifflapgccbaaGreat
set_option linter.unusedVariables false
open Go.ChangeShapes Go.WideShapes Go.ChangeAt Go.RowKit
open M (W)
theorem hasPrefix_less {n : Nat} (hn : n < 4) (w : World) (a : Option Addr) (c : Nat) (s : Option Addr) (c' : Nat) :
    Calls Tryz.prog 29 #[.slice a n c, .slice s 4 c'] w fun e w' => e = .returned (.bool false) ∧ w' = w := by
  go_enter Tryz.func29, Tryz.ntmps29
  go_wp2_with fail
  go_ret
  exact ⟨rfl, rfl⟩
theorem cut_less {n : Nat} (hn : n < 4) (w : World) (a : Option Addr) (c : Nat) (s : Option Addr) (c' : Nat) :
    Calls Tryz.prog 9 #[.slice a n c, .slice s 4 c'] w fun e w' => e = .returned (.tuple #[.slice a n c, .bool false]) ∧ w' = w := by
  go_enter Tryz.func9, Tryz.ntmps9
  go_wp2_with fail
  refine (hasPrefix_less hn w a c s c').mono ?_; rintro e w1 ⟨rfl, rfl⟩
  go_wp2_with fail
  go_ret2
  exact ⟨rfl, rfl⟩
set_option maxRecDepth 100000 in
theorem decode_less {n : Nat} (hn : n < 4) (w : World) (a : Option Addr) (c : Nat) :
    Calls Tryz.prog 4 #[.slice a n c] w fun e w' => e = .returned (.tuple #[.agg #[.slice none 0 0, .slice none 0 0, .slice none 0 0, .slice none 0 0, .slice none 0 0, .int .i64 0, .int .i64 0], .int .i64 20]) ∧ Still w w' := by
  have hcv := Go.Joins.run_convert_bytes_const_at (P := Tryz.prog) (w.alloc (.cells #[.slice none 0 0, .slice none 0 0, .slice none 0 0, .slice none 0 0, .slice none 0 0, .int .i64 0, .int .i64 0] 28)) 22 5 #[.int .u8 66, .int .u8 69, .int .u8 76, .int .u8 49] 4 4 (w.heap.size + 1) (by simp) Tryz.underlying22 Tryz.underlying5
  go_enter Tryz.func4, Tryz.ntmps4
  go_wp2_with fail
  refine (cut_less hn _ a c _ 4).mono ?_; rintro e w2 ⟨rfl, rfl⟩
  go_wp2_with fail
  have hb0 : Blk ((w.alloc (.cells #[.slice none 0 0, .slice none 0 0, .slice none 0 0, .slice none 0 0, .slice none 0 0, .int .i64 0, .int .i64 0] 28)).alloc (.cells #[.int .u8 66, .int .u8 69, .int .u8 76, .int .u8 49] 5 (4, 5))) w.heap.size 28 #[.slice none 0 0, .slice none 0 0, .slice none 0 0, .slice none 0 0, .slice none 0 0, .int .i64 0, .int .i64 0] := (Blk.new w _ _).alloc _
  refine bodyPost_ret (results_row_tmp rfl _ _ w.heap.size 28 #[.slice none 0 0, .slice none 0 0, .slice none 0 0, .slice none 0 0, .slice none 0 0, .int .i64 0, .int .i64 0] (0, 0) _ rfl hb0 Tryz.underlying28 rfl (by kernel_rfl)) rfl ?_
  refine ⟨rfl, ?_⟩
  have h0 : Still w ((w.alloc (.cells #[.slice none 0 0, .slice none 0 0, .slice none 0 0, .slice none 0 0, .slice none 0 0, .int .i64 0, .int .i64 0] 28)).alloc (.cells #[.int .u8 66, .int .u8 69, .int .u8 76, .int .u8 49] 5 (4, 5))) := ((Still.refl w).alloc _).alloc _
  exact h0
end Go.Proofs.YthlifflapgccbaaGreat
