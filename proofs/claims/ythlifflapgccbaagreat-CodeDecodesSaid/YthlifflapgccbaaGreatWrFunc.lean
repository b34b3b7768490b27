/- The writer: blocks, functions, an image. -/
import Derived.Test.YthlifflapgccbaaGreatWrInstr
namespace Go.Proofs.YthlifflapgccbaaGreat
set_option linter.unusedVariables false
open Go.ChangeShapes Go.WideShapes Go.ChangeAt Go.RowKit
open M (W)
set_option maxRecDepth 100000 in
set_option maxHeartbeats 2000000 in
theorem block_any {B g : Nat} {xs : List Int} {w : World} {a2 : Option Addr} {n2 c2 : Nat} {a3 : Option Addr} {n3 c3 : Nat} {x : M.Bk} (h : Writes B w g xs) (hp : BkIs B w [.slice a2 n2 c2, .slice a3 n3 c3] x) (hx : (xs ++ M.bBk x).length ≤ 1000000000) :
    Calls Tryz.prog 102 #[.pointer (some ⟨g, 0, none⟩), .agg #[.slice a2 n2 c2, .slice a3 n3 c3]] w fun e w' => e = .returned (.tuple #[]) ∧ Writes B w' g (xs ++ M.bBk x) ∧ Wrote B w w' g := by
  obtain ⟨ia, inn, ic, ca, cn, cc, he, hn1, hn2, hi1, hi2⟩ := hp
  simp only [List.cons.injEq, Value.slice.injEq, and_true, true_and] at he
  obtain ⟨⟨rfl, rfl, rfl⟩, ⟨rfl, rfl, rfl⟩⟩ := he
  have HI1 := Lib.hid hi1
  have HI2 := Lib.hid hi2
  clear hi1 hi2
  have HX := Lib.hid hx
  have hx' := hx
  have HB := Lib.hid h.at
  have H0 := Lib.hid (At.start h 85 #[.slice a2 n2 c2, .slice a3 n3 c3])
  clear h hx hx'
  go_enter Tryz.func102, Tryz.ntmps102
  go_wp2_with fail
  refine (nums_put (c := c2) H0.out.wr (HI1.out.keep H0.out.wo.below HB.out) hn1 (by have := HX.out; simp only [M.bBk, M.num, List.length_append] at this ⊢; omega)).mono ?_; rintro e w1 ⟨rfl, v1, k1⟩
  have H1 := Lib.hid (H0.out.next v1 k1)
  clear v1 k1
  obtain ⟨bl, b0, b1⟩ : w.heap.size < w1.heap.size ∧ w1.cell? ⟨w.heap.size, 0, none⟩ = some (.slice a2 n2 c2) ∧ w1.cell? ⟨w.heap.size, 1, none⟩ = some (.slice a3 n3 c3) := ⟨H1.out.bx.lt, H1.out.bx.cell 0, H1.out.bx.cell 1⟩
  go_wp2_with fail
  refine (putIns_any M.bIns 110 (enters_of Tryz.func110 (by kernel_rfl) rfl) (number_any _ H1.out.wr (M.num_nat hn2).1 (M.num_nat hn2).2 (by have := HX.out; simp only [M.bBk, M.many, M.num, List.length_append] at this ⊢; omega)) (HI2.out.keep H1.out.wo.below HB.out (fun _ _ _ h => h.keep H1.out.wo.below HB.out)) H1.out.wr.at hn2 (by have := HX.out; simp only [M.bBk, M.num, List.length_append] at this ⊢; omega) (fun la ln lc ma mn mc va vn vc y W ys _ hp hw hl => instr_any hw hp hl)).mono ?_; rintro e w2 ⟨rfl, v2, k2⟩
  have H2 := Lib.hid (H1.out.next v2 k2)
  clear v2 k2
  clear bl b0 b1
  go_wp2_with fail
  go_end0
  refine ⟨rfl, ?_, H2.out.wo⟩
  have := H2.out.wr
  simpa only [M.bBk, M.num, List.append_assoc] using this
set_option maxRecDepth 100000 in
set_option maxHeartbeats 2000000 in
theorem function_any {B g : Nat} {xs : List Int} {w : World} {a2 : Option Addr} {n2 c2 : Nat} {a3 : Option Addr} {n3 c3 : Nat} {x : M.Fn} (h : Writes B w g xs) (hp : FnIs B w [.slice a2 n2 c2, .int .i64 x.result, .int .i64 x.slots, .slice a3 n3 c3] x) (hx : (xs ++ M.bFn x).length ≤ 1000000000) :
    Calls Tryz.prog 86 #[.pointer (some ⟨g, 0, none⟩), .agg #[.slice a2 n2 c2, .int .i64 x.result, .int .i64 x.slots, .slice a3 n3 c3]] w fun e w' => e = .returned (.tuple #[]) ∧ Writes B w' g (xs ++ M.bFn x) ∧ Wrote B w w' g := by
  obtain ⟨pa, pn, pc, ba, bn, bc, he, hn1, hn2, hr, hs, hi1, hi2⟩ := hp
  simp only [List.cons.injEq, Value.slice.injEq, and_true, true_and] at he
  obtain ⟨⟨rfl, rfl, rfl⟩, ⟨rfl, rfl, rfl⟩⟩ := he
  have HI1 := Lib.hid hi1
  have HI2 := Lib.hid hi2
  clear hi1 hi2
  have HX := Lib.hid hx
  have hx' := hx
  have HB := Lib.hid h.at
  have H0 := Lib.hid (At.start h 55 #[.slice a2 n2 c2, .int .i64 x.result, .int .i64 x.slots, .slice a3 n3 c3])
  clear h hx hx'
  go_enter Tryz.func86, Tryz.ntmps86
  go_wp2_with fail
  refine (nums_put (c := c2) H0.out.wr (HI1.out.keep H0.out.wo.below HB.out) hn1 (by have := HX.out; simp only [M.bFn, M.num, List.length_append] at this ⊢; omega)).mono ?_; rintro e w1 ⟨rfl, v1, k1⟩
  have H1 := Lib.hid (H0.out.next v1 k1)
  clear v1 k1
  obtain ⟨bl, b0, b1, b2, b3⟩ : w.heap.size < w1.heap.size ∧ w1.cell? ⟨w.heap.size, 0, none⟩ = some (.slice a2 n2 c2) ∧ w1.cell? ⟨w.heap.size, 1, none⟩ = some (.int .i64 x.result) ∧ w1.cell? ⟨w.heap.size, 2, none⟩ = some (.int .i64 x.slots) ∧ w1.cell? ⟨w.heap.size, 3, none⟩ = some (.slice a3 n3 c3) := ⟨H1.out.bx.lt, H1.out.bx.cell 0, H1.out.bx.cell 1, H1.out.bx.cell 2, H1.out.bx.cell 3⟩
  go_wp2_with fail
  refine (number_any x.result H1.out.wr hr.1 hr.2 (by have := HX.out; simp only [M.bFn, M.num, List.length_append] at this ⊢; omega)).mono ?_; rintro e w2 ⟨rfl, v2, k2⟩
  have H2 := Lib.hid (H1.out.next v2 k2)
  clear v2 k2
  clear bl b0 b1 b2 b3
  obtain ⟨bl, b0, b1, b2, b3⟩ : w.heap.size < w2.heap.size ∧ w2.cell? ⟨w.heap.size, 0, none⟩ = some (.slice a2 n2 c2) ∧ w2.cell? ⟨w.heap.size, 1, none⟩ = some (.int .i64 x.result) ∧ w2.cell? ⟨w.heap.size, 2, none⟩ = some (.int .i64 x.slots) ∧ w2.cell? ⟨w.heap.size, 3, none⟩ = some (.slice a3 n3 c3) := ⟨H2.out.bx.lt, H2.out.bx.cell 0, H2.out.bx.cell 1, H2.out.bx.cell 2, H2.out.bx.cell 3⟩
  go_wp2_with fail
  refine (number_any x.slots H2.out.wr hs.1 hs.2 (by have := HX.out; simp only [M.bFn, M.num, List.length_append] at this ⊢; omega)).mono ?_; rintro e w3 ⟨rfl, v3, k3⟩
  have H3 := Lib.hid (H2.out.next v3 k3)
  clear v3 k3
  clear bl b0 b1 b2 b3
  obtain ⟨bl, b0, b1, b2, b3⟩ : w.heap.size < w3.heap.size ∧ w3.cell? ⟨w.heap.size, 0, none⟩ = some (.slice a2 n2 c2) ∧ w3.cell? ⟨w.heap.size, 1, none⟩ = some (.int .i64 x.result) ∧ w3.cell? ⟨w.heap.size, 2, none⟩ = some (.int .i64 x.slots) ∧ w3.cell? ⟨w.heap.size, 3, none⟩ = some (.slice a3 n3 c3) := ⟨H3.out.bx.lt, H3.out.bx.cell 0, H3.out.bx.cell 1, H3.out.bx.cell 2, H3.out.bx.cell 3⟩
  go_wp2_with fail
  refine (putBk_any M.bBk 102 (enters_of Tryz.func102 (by kernel_rfl) rfl) (number_any _ H3.out.wr (M.num_nat hn2).1 (M.num_nat hn2).2 (by have := HX.out; simp only [M.bFn, M.many, M.num, List.length_append] at this ⊢; omega)) (HI2.out.keep H3.out.wo.below HB.out (fun _ _ _ h => h.keep H3.out.wo.below HB.out)) H3.out.wr.at hn2 (by have := HX.out; simp only [M.bFn, M.num, List.length_append] at this ⊢; omega) (fun a2 n2 c2 a3 n3 c3 y W ys _ hp hw hl => block_any hw hp hl)).mono ?_; rintro e w4 ⟨rfl, v4, k4⟩
  have H4 := Lib.hid (H3.out.next v4 k4)
  clear v4 k4
  clear bl b0 b1 b2 b3
  go_wp2_with fail
  go_end0
  refine ⟨rfl, ?_, H4.out.wo⟩
  have := H4.out.wr
  simpa only [M.bFn, M.num, List.append_assoc] using this
end Go.Proofs.YthlifflapgccbaaGreat
