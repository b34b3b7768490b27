/- Encode and Decode of an empty image. -/
import Derived.Test.YtjeehbcbflofpaaCode3
import Derived.Lib.SmallJoins
namespace Go.Proofs.Ytjeehbcbflofpaa
set_option linter.unusedVariables false
open Go.ChangeShapes Go.WideShapes Go.ChangeAt Go.RowKit
open M (W)
def M.bel : List Int := [66, 69, 76, 49, 0, 0, 0, 0, 0, 0, 0]
set_option maxRecDepth 100000 in
theorem encode_nil (w : World) :
    Calls Try.prog 10 #[.agg #[.slice none 0 0, .slice none 0 0, .slice none 0 0, .slice none 0 0, .slice none 0 0, .int .i64 0, .int .i64 0]] w fun e w' => ∃ a c, e = .returned (.tuple #[.slice a 11 c, .int .i64 0]) ∧ w'.ownsRow w.heap.size 5 1 (.slice a 11 c) 11 (M.bel.map (Value.int .u8)) ∧ Below w.heap.size w w' := by
  go_enter Try.func10, Try.ntmps10
  go_wp2_with fail
  refine (check_nil 0 0 _).mono ?_; rintro e w2 ⟨rfl, t2⟩
  have hbx := t2.blk (Blk.new w 27 #[.slice none 0 0, .slice none 0 0, .slice none 0 0, .slice none 0 0, .slice none 0 0, .int .i64 0, .int .i64 0])
  obtain ⟨h0, c0, c1, c2, c3, c4, c5, c6⟩ := nilBox hbx
  have T2 := Lib.hid ((Still.trans ((Still.refl w).alloc _) t2))
  have HB := Lib.hid hbx
  have hcv := Go.Joins.run_convert_bytes_const_at (P := Try.prog) w2 30 5 #[.int .u8 66, .int .u8 69, .int .u8 76, .int .u8 49] 4 4 w2.heap.size rfl Try.underlying30 Try.underlying5
  clear t2 hbx
  go_wp2_with fail
  have hW : Hid (Still w2 ((w2.alloc (.cells #[.int .u8 66, .int .u8 69, .int .u8 76, .int .u8 49] 5 (4, 5))).alloc (.cells #[.slice (some ⟨w2.heap.size, 0, none⟩) 4 4] 59))) := ((Still.refl w2).alloc _).alloc _
  have hb1 : Blk ((w2.alloc (.cells #[.int .u8 66, .int .u8 69, .int .u8 76, .int .u8 49] 5 (4, 5))).alloc (.cells #[.slice (some ⟨w2.heap.size, 0, none⟩) 4 4] 59)) (w2.heap.size + 1) 59 #[.slice (some ⟨w2.heap.size, 0, none⟩) 4 4] := by
    have := Blk.new (w2.alloc (.cells #[.int .u8 66, .int .u8 69, .int .u8 76, .int .u8 49] 5 (4, 5))) 59 #[.slice (some ⟨w2.heap.size, 0, none⟩) 4 4]
    rwa [show (w2.alloc (.cells #[.int .u8 66, .int .u8 69, .int .u8 76, .int .u8 49] 5 (4, 5))).heap.size = w2.heap.size + 1 by simp] at this
  have hlit : Lit w2.heap.size ((w2.alloc (.cells #[.int .u8 66, .int .u8 69, .int .u8 76, .int .u8 49] 5 (4, 5))).alloc (.cells #[.slice (some ⟨w2.heap.size, 0, none⟩) 4 4] 59)) (w2.heap.size + 1) [66, 69, 76, 49] := ⟨⟨w2.heap.size, hb1, Nat.le_refl _, by simp; omega, fun j u hj => by
    rw [Still.cell ((Still.refl (w2.alloc (.cells #[.int .u8 66, .int .u8 69, .int .u8 76, .int .u8 49] 5 (4, 5)))).alloc _) (p := ⟨w2.heap.size, j, none⟩) (by simp)]
    rw [Go.Joins.cell_alloc_mark_at w2 _ _ _ _ j rfl]
    simpa using hj⟩, by omega⟩
  refine (image_nil hlit (by simp)).mono ?_; rintro e w3 ⟨rfl, hw3, hk3⟩
  obtain ⟨a, c, hb3, ho3⟩ := hw3.ex
  have c30 : w3.cell? ⟨w2.heap.size + 1, 0, none⟩ = some (.slice a 11 c) := hb3.cell 0
  have c3l : w2.heap.size + 1 < w3.heap.size := hb3.lt
  have HO3 : Hid (w3.ownsRow w2.heap.size 5 1 (.slice a 11 c) 11 (M.bel.map (Value.int .u8))) := ho3
  have HK3 := Lib.hid hk3
  clear hw3 hb3 ho3 hk3 hlit hb1
  go_wp2_with fail
  go_ret2
  exact ⟨a, c, rfl, ownsRow_base HO3.out T2.out.size, (Still.below (Still.trans T2.out hW.out)).trans (HK3.out.below.mono T2.out.size)⟩
end Go.Proofs.Ytjeehbcbflofpaa
