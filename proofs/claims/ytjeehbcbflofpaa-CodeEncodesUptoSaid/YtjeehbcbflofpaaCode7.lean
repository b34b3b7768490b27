/- Decode of an empty image's bytes, and of no image's. -/
import Derived.Test.YtjeehbcbflofpaaCode6
import Derived.Laws.BytesArg
namespace Go.Proofs.Ytjeehbcbflofpaa
set_option linter.unusedVariables false
open Go.ChangeShapes Go.WideShapes Go.ChangeAt Go.RowKit
open M (W)
theorem conv4 {w : World} {r off : Nat} (c : Nat) (hc : ∀ j, j < 4 → w.cell? ⟨r, off + j, none⟩ = some (.int .u8 ([66, 69, 76, 49].getD j 0))) :
    (convert 30 9 (.slice (some ⟨r, off, none⟩) 4 c)).run Try.prog w = .ok (.string (strOfNums [66, 69, 76, 49])) w :=
  run_convert_bytes_arg w 30 5 Try.underlying30 Try.underlying5 r off 4 c [66, 69, 76, 49] rfl hc 9 Try.underlying9
theorem equal_bel {w : World} {r s : Nat} (c c' : Nat) (h1 : ∀ j, j < 4 → w.cell? ⟨r, 0 + j, none⟩ = some (.int .u8 ([66, 69, 76, 49].getD j 0))) (h2 : ∀ j, j < 4 → w.cell? ⟨s, 0 + j, none⟩ = some (.int .u8 ([66, 69, 76, 49].getD j 0))) :
    Calls Try.prog 88 #[.slice (some ⟨r, 0, none⟩) 4 c, .slice (some ⟨s, 0, none⟩) 4 c'] w fun e w' => e = .returned (.bool true) ∧ w' = w := by
  have e1 := conv4 c h1
  have e2 := conv4 c' h2
  have hss : ((strOfNums [66, 69, 76, 49]).toList == (strOfNums [66, 69, 76, 49]).toList) = true := by simp
  generalize strOfNums [66, 69, 76, 49] = X at *
  clear h1 h2
  go_enter Try.func88, Try.ntmps88
  go_wp2_with fail
  go_ret
  exact ⟨by simp, rfl⟩
theorem hasPrefix_bel {w : World} {r s : Nat} (c c' : Nat) (hc : 11 ≤ c) (hcm : c ≤ maxLen) (h1 : ∀ j, j < 4 → w.cell? ⟨r, 0 + j, none⟩ = some (.int .u8 ([66, 69, 76, 49].getD j 0))) (h2 : ∀ j, j < 4 → w.cell? ⟨s, 0 + j, none⟩ = some (.int .u8 ([66, 69, 76, 49].getD j 0))) :
    Calls Try.prog 62 #[.slice (some ⟨r, 0, none⟩) 11 c, .slice (some ⟨s, 0, none⟩) 4 c'] w fun e w' => e = .returned (.bool true) ∧ w' = w := by
  have H := Lib.hid (equal_bel c c' h1 h2)
  clear h1 h2
  unfold maxLen at hcm
  go_enter Try.func62, Try.ntmps62
  go_wp2_with (go_at_call 88; (with_reducible refine H.out.mono ?_); rintro e w1 ⟨rfl, rfl⟩)
  go_ret
  exact ⟨rfl, rfl⟩
theorem hasPrefix_short (w : World) (a : Option Addr) (c : Nat) (s : Option Addr) (c' : Nat) :
    Calls Try.prog 62 #[.slice a 3 c, .slice s 4 c'] w fun e w' => e = .returned (.bool false) ∧ w' = w := by
  go_enter Try.func62, Try.ntmps62
  go_wp2_with fail
  go_ret
  exact ⟨rfl, rfl⟩
theorem cut_bel {w : World} {r s : Nat} (c c' : Nat) (hc : 11 ≤ c) (hcm : c ≤ maxLen) (h1 : ∀ j, j < 4 → w.cell? ⟨r, 0 + j, none⟩ = some (.int .u8 ([66, 69, 76, 49].getD j 0))) (h2 : ∀ j, j < 4 → w.cell? ⟨s, 0 + j, none⟩ = some (.int .u8 ([66, 69, 76, 49].getD j 0))) :
    Calls Try.prog 28 #[.slice (some ⟨r, 0, none⟩) 11 c, .slice (some ⟨s, 0, none⟩) 4 c'] w fun e w' => e = .returned (.tuple #[.slice (some ⟨r, 4, none⟩) 7 (c - 4), .bool true]) ∧ w' = w := by
  have H := Lib.hid (hasPrefix_bel c c' hc hcm h1 h2)
  clear h1 h2
  unfold maxLen at hcm
  go_enter Try.func28, Try.ntmps28
  go_wp2_with fail
  refine H.out.mono ?_; rintro e w1 ⟨rfl, rfl⟩
  go_wp2_with fail
  go_ret2
  exact ⟨rfl, rfl⟩
theorem cut_short (w : World) (a : Option Addr) (c : Nat) (s : Option Addr) (c' : Nat) :
    Calls Try.prog 28 #[.slice a 3 c, .slice s 4 c'] w fun e w' => e = .returned (.tuple #[.slice a 3 c, .bool false]) ∧ w' = w := by
  go_enter Try.func28, Try.ntmps28
  go_wp2_with fail
  refine (hasPrefix_short w a c s c').mono ?_; rintro e w1 ⟨rfl, rfl⟩
  go_wp2_with fail
  go_ret2
  exact ⟨rfl, rfl⟩
theorem Still.later {S : Nat → Prop} {w w1 w2 : World} (h : Still w w1) (t : Turn S w1 w2) (hs : ∀ k, S k → w.heap.size ≤ k) : Still w w2 :=
  ⟨t.os.trans h.os, t.tape.trans h.tape, t.output.trans h.output, Nat.le_trans h.size t.size, fun k hk _ => (t.block k (Nat.lt_of_lt_of_le hk h.size) (fun e => by have := hs k e; omega)).trans (h.block k hk (fun e => e))⟩
theorem results_row_tmp {P : Program} {fn : Func} {p u : Tmp} {ty : TypeId} (h : fn.results = #[.cell p ty, .tmp u]) (tmps : Array Value) (w : World) (g : Nat) (t : TypeId) (cs : Array Value) (fr : Nat × Nat) (d : TypeDesc)
    (hp : tmps.getD p undef = .pointer (some ⟨g, 0, none⟩)) (hg : w.heap[g]? = some (.cells cs t fr))
    (hu : P.underlying ty = some d) (hd : (match d with | .struct _ | .array _ _ => true | _ => false) = true) (hi : (P.info? ty).map (·.size) = some cs.size) :
    (results fn tmps).run P w = .ok (.tuple #[.agg cs, tmps.getD u undef]) w := by
  rw [results_cell_tmp h, hp]
  simp [asAddr, run_loadVar_row w g t ty cs fr d hg hu hd hi]
set_option maxRecDepth 100000 in
theorem decode_short (w : World) (a : Option Addr) (c : Nat) :
    Calls Try.prog 14 #[.slice a 3 c] w fun e w' => e = .returned (.tuple #[.agg #[.slice none 0 0, .slice none 0 0, .slice none 0 0, .slice none 0 0, .slice none 0 0, .int .i64 0, .int .i64 0], .int .i64 20]) ∧ Still w w' := by
  have hcv := Go.Joins.run_convert_bytes_const_at (P := Try.prog) (w.alloc (.cells #[.slice none 0 0, .slice none 0 0, .slice none 0 0, .slice none 0 0, .slice none 0 0, .int .i64 0, .int .i64 0] 27)) 30 5 #[.int .u8 66, .int .u8 69, .int .u8 76, .int .u8 49] 4 4 (w.heap.size + 1) (by simp) Try.underlying30 Try.underlying5
  go_enter Try.func14, Try.ntmps14
  go_wp2_with fail
  refine (cut_short _ a c _ 4).mono ?_; rintro e w2 ⟨rfl, rfl⟩
  go_wp2_with fail
  have hb0 : Blk ((w.alloc (.cells #[.slice none 0 0, .slice none 0 0, .slice none 0 0, .slice none 0 0, .slice none 0 0, .int .i64 0, .int .i64 0] 27)).alloc (.cells #[.int .u8 66, .int .u8 69, .int .u8 76, .int .u8 49] 5 (4, 5))) w.heap.size 27 #[.slice none 0 0, .slice none 0 0, .slice none 0 0, .slice none 0 0, .slice none 0 0, .int .i64 0, .int .i64 0] := (Blk.new w _ _).alloc _
  refine bodyPost_ret (results_row_tmp rfl _ _ w.heap.size 27 #[.slice none 0 0, .slice none 0 0, .slice none 0 0, .slice none 0 0, .slice none 0 0, .int .i64 0, .int .i64 0] (0, 0) _ rfl hb0 Try.underlying27 rfl (by kernel_rfl)) rfl ?_
  refine ⟨rfl, ?_⟩
  have h0 : Still w ((w.alloc (.cells #[.slice none 0 0, .slice none 0 0, .slice none 0 0, .slice none 0 0, .slice none 0 0, .int .i64 0, .int .i64 0] 27)).alloc (.cells #[.int .u8 66, .int .u8 69, .int .u8 76, .int .u8 49] 5 (4, 5))) := ((Still.refl w).alloc _).alloc _
  exact h0
end Go.Proofs.Ytjeehbcbflofpaa
