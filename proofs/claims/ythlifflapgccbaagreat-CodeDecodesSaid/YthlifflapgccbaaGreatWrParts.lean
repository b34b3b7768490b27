/- The writer: the parts of an image. -/
import Derived.Test.YthlifflapgccbaaGreatPutList
import Derived.Shelf.Abstract
namespace Go.Proofs.YthlifflapgccbaaGreat
set_option linter.unusedVariables false
open Go.ChangeShapes Go.WideShapes Go.ChangeAt Go.RowKit
open M (W)
theorem nums_put {B g : Nat} {xs : List Int} {w : World} {a : Option Addr} {n c : Nat} {l : List Int} (h : Writes B w g xs) (hl : Ints B w a n l) (hn : n ≤ maxLen) (hx : (xs ++ M.nums l).length ≤ 1000000000) :
    Calls Tryz.prog 100 #[.pointer (some ⟨g, 0, none⟩), .slice a n c, .func (.func 87) #[.pointer (some ⟨g, 0, none⟩)] #[]] w fun e w' => e = .returned (.tuple #[]) ∧ Writes B w' g (xs ++ M.nums l) ∧ Wrote B w w' g := by
  have hz := M.num_nat hn
  have hx' := hx
  simp only [M.nums, M.many, List.length_append] at hx'
  exact putInt_any M.num 87 (enters_of Tryz.func87 (by kernel_rfl) rfl) (number_any (n : Int) h hz.1 hz.2 (by omega)) hl h.at hn hx (fun x W ys _ hp hw hy => by
    simp only [List.length_append] at hy
    exact number_any x hw hp.2.1 hp.2.2 (by omega))
theorem yes_any (b : Bool) {B g : Nat} {xs : List Int} {w : World} (h : Writes B w g xs) (hx : xs.length ≤ 1000000000) :
    Calls Tryz.prog 99 #[.pointer (some ⟨g, 0, none⟩), .bool b] w fun e w' => e = .returned (.tuple #[]) ∧ Writes B w' g (xs ++ M.num (if b then 1 else 0)) ∧ Wrote B w w' g := by
  cases b with
  | true =>
    have H := Lib.hid (number_any 1 h (by decide) (by decide) hx)
    clear h
    go_enter Tryz.func99, Tryz.ntmps99
    go_wp2_with fail
    refine H.out.mono ?_; rintro e w1 ⟨rfl, hw, hb⟩
    go_wp2_with fail
    go_end0
    exact ⟨rfl, hw, hb⟩
  | false =>
    have H := Lib.hid (number_any 0 h (by decide) (by decide) hx)
    clear h
    go_enter Tryz.func99, Tryz.ntmps99
    go_wp2_with fail
    refine H.out.mono ?_; rintro e w1 ⟨rfl, hw, hb⟩
    go_wp2_with fail
    go_end0
    exact ⟨rfl, hw, hb⟩
/-- Where a call stands that writes a part that it has in a box of its own. -/
structure At (B : Nat) (w : World) (g i : Nat) (t : TypeId) (cs : Array Value) (xs : List Int) (W : World) : Prop where
  wr : Writes B W g xs
  wo : Wrote B w W g
  bx : Blk W i t cs
  nm : ¬ Mine W g i
theorem At.start {B g : Nat} {xs : List Int} {w : World} (h : Writes B w g xs) (t : TypeId) (cs : Array Value) : At B w g w.heap.size t cs xs (w.alloc (.cells cs t)) :=
  ⟨h.alloc _, (h.behind _ _).1, Blk.new w _ _, (h.behind _ _).2⟩
theorem At.next {B g i : Nat} {t : TypeId} {cs : Array Value} {xs ys : List Int} {w W W' : World} (h : At B w g i t cs xs W) (hw : Writes B W' g ys) (k : Wrote B W W' g) : At B w g i t cs ys W' :=
  ⟨hw, h.wo.trans k, (k.blk h.bx h.nm).1, (k.blk h.bx h.nm).2⟩
set_option maxRecDepth 100000 in
theorem kind_any {B g : Nat} {xs : List Int} {w : World} {a2 : Option Addr} {n2 c2 : Nat} {x : M.Ty} (h : Writes B w g xs) (hp : TyIs B w [.bool x.imm, .slice a2 n2 c2] x) (hx : (xs ++ M.bTy x).length ≤ 1000000000) :
    Calls Tryz.prog 80 #[.pointer (some ⟨g, 0, none⟩), .agg #[.bool x.imm, .slice a2 n2 c2]] w fun e w' => e = .returned (.tuple #[]) ∧ Writes B w' g (xs ++ M.bTy x) ∧ Wrote B w w' g := by
  obtain ⟨a, n, c, he, hn, hi⟩ := hp
  simp only [List.cons.injEq, Value.slice.injEq, and_true, true_and] at he
  obtain ⟨rfl, rfl, rfl⟩ := he
  have HI := Lib.hid hi
  have HB := Lib.hid h.at
  have H0 := Lib.hid (At.start h 49 #[.bool x.imm, .slice a2 n2 c2])
  have HX := Lib.hid hx
  have hx' := hx
  simp only [M.bTy, List.length_append] at hx'
  have HY := Lib.hid (yes_any x.imm H0.out.wr (by omega))
  clear h hi hx hx'
  go_enter Tryz.func80, Tryz.ntmps80
  go_wp2_with fail
  refine HY.out.mono ?_; rintro e w1 ⟨rfl, v1, k1⟩
  have H1 := Lib.hid (H0.out.next v1 k1)
  obtain ⟨bl, b0, b1⟩ : w.heap.size < w1.heap.size ∧ w1.cell? ⟨w.heap.size, 0, none⟩ = some (.bool x.imm) ∧ w1.cell? ⟨w.heap.size, 1, none⟩ = some (.slice a2 n2 c2) := ⟨H1.out.bx.lt, H1.out.bx.cell 0, H1.out.bx.cell 1⟩
  clear v1 k1
  go_wp2_with fail
  refine (nums_put (c := c2) H1.out.wr (HI.out.keep H1.out.wo.below HB.out) hn (by have := HX.out; simpa only [M.bTy, List.append_assoc] using this)).mono ?_; rintro e w2 ⟨rfl, v2, k2⟩
  have H2 := Lib.hid (H1.out.next v2 k2)
  clear v2 k2
  go_wp2_with fail
  go_end0
  refine ⟨rfl, ?_, H2.out.wo⟩
  have := H2.out.wr
  simpa only [M.bTy, List.append_assoc] using this
set_option maxRecDepth 100000 in
theorem shape_any {B g : Nat} {xs : List Int} {w : World} {a2 : Option Addr} {n2 c2 : Nat} {x : M.Sh} (h : Writes B w g xs) (hp : ShIs B w [.int .i64 x.kind, .slice a2 n2 c2, .string x.name] x) (hx : (xs ++ M.bSh x).length ≤ 1000000000) :
    Calls Tryz.prog 82 #[.pointer (some ⟨g, 0, none⟩), .agg #[.int .i64 x.kind, .slice a2 n2 c2, .string x.name]] w fun e w' => e = .returned (.tuple #[]) ∧ Writes B w' g (xs ++ M.bSh x) ∧ Wrote B w w' g := by
  obtain ⟨a, n, c, he, hn, hk, hs, hi⟩ := hp
  simp only [List.cons.injEq, Value.slice.injEq, and_true, true_and] at he
  obtain ⟨rfl, rfl, rfl⟩ := he
  have HI := Lib.hid hi
  have HB := Lib.hid h.at
  have H0 := Lib.hid (At.start h 51 #[.int .i64 x.kind, .slice a2 n2 c2, .string x.name])
  have HX := Lib.hid hx
  have hx' := hx
  simp only [M.bSh, List.length_append] at hx'
  have HY := Lib.hid (number_any x.kind H0.out.wr hk.1 hk.2 (by omega))
  clear h hi hx hx'
  go_enter Tryz.func82, Tryz.ntmps82
  go_wp2_with fail
  refine HY.out.mono ?_; rintro e w1 ⟨rfl, v1, k1⟩
  have H1 := Lib.hid (H0.out.next v1 k1)
  obtain ⟨bl, b0, b1, b2⟩ : w.heap.size < w1.heap.size ∧ w1.cell? ⟨w.heap.size, 0, none⟩ = some (.int .i64 x.kind) ∧ w1.cell? ⟨w.heap.size, 1, none⟩ = some (.slice a2 n2 c2) ∧ w1.cell? ⟨w.heap.size, 2, none⟩ = some (.string x.name) := ⟨H1.out.bx.lt, H1.out.bx.cell 0, H1.out.bx.cell 1, H1.out.bx.cell 2⟩
  clear v1 k1
  go_wp2_with fail
  refine (nums_put (c := c2) H1.out.wr (HI.out.keep H1.out.wo.below HB.out) hn (by have := HX.out; simp only [M.bSh, List.length_append] at this; simp only [M.num, List.length_append] at this ⊢; omega)).mono ?_; rintro e w2 ⟨rfl, v2, k2⟩
  have H2 := Lib.hid (H1.out.next v2 k2)
  clear bl b0 b1 b2
  obtain ⟨bl, b0, b1, b2⟩ : w.heap.size < w2.heap.size ∧ w2.cell? ⟨w.heap.size, 0, none⟩ = some (.int .i64 x.kind) ∧ w2.cell? ⟨w.heap.size, 1, none⟩ = some (.slice a2 n2 c2) ∧ w2.cell? ⟨w.heap.size, 2, none⟩ = some (.string x.name) := ⟨H2.out.bx.lt, H2.out.bx.cell 0, H2.out.bx.cell 1, H2.out.bx.cell 2⟩
  clear v2 k2
  go_wp2_with fail
  refine (text_any x.name H2.out.wr hs (by have := HX.out; simp only [M.bSh, List.length_append] at this; simp only [M.num, List.length_append] at this ⊢; omega)).mono ?_; rintro e w3 ⟨rfl, v3, k3⟩
  have H3 := Lib.hid (H2.out.next v3 k3)
  clear v3 k3
  go_wp2_with fail
  go_end0
  refine ⟨rfl, ?_, H3.out.wo⟩
  have := H3.out.wr
  simpa only [M.bSh, M.num, List.append_assoc] using this
set_option maxRecDepth 100000 in
theorem field_any (ch : UInt8) (hch : ch = 68 ∨ ch = 65 ∨ ch = 66 ∨ ch = 67 ∨ ch = 78 ∨ ch = 76 ∨ ch = 77 ∨ ch = 108) {B g : Nat} {xs : List Int} {w : World} {la : Option Addr} {ln lc : Nat} {ma : Option Addr} {mn mc : Nat} {va : Option Addr} {vn vc : Nat} {x : M.Ins} (h : Writes B w g xs) (hp : InsIs B w [.int .i64 x.op, .int .i64 x.d, .int .i64 x.a, .int .i64 x.b, .int .i64 x.c, .int .i64 x.n, .slice la ln lc, .slice ma mn mc, .slice va vn vc] x) (hx : (xs ++ M.field x ch).length ≤ 1000000000) :
    Calls Tryz.prog 116 #[.pointer (some ⟨g, 0, none⟩), .agg #[.int .i64 x.op, .int .i64 x.d, .int .i64 x.a, .int .i64 x.b, .int .i64 x.c, .int .i64 x.n, .slice la ln lc, .slice ma mn mc, .slice va vn vc], .int .i32 (ch.toNat : Int)] w fun e w' => e = .returned (.tuple #[]) ∧ Writes B w' g (xs ++ M.field x ch) ∧ Wrote B w w' g := by
  obtain ⟨la', ln', lc', ma', mn', mc', va', vn', vc', he, hl, hm, hv, ⟨k0, k1, k2, k3, k4, k5⟩, il, im, iv⟩ := hp
  simp only [List.cons.injEq, Value.slice.injEq, and_true, true_and] at he
  obtain ⟨⟨rfl, rfl, rfl⟩, ⟨rfl, rfl, rfl⟩, ⟨rfl, rfl, rfl⟩⟩ := he
  have H0 := Lib.hid (At.start h 70 #[.int .i64 x.op, .int .i64 x.d, .int .i64 x.a, .int .i64 x.b, .int .i64 x.c, .int .i64 x.n, .slice la ln lc, .slice ma mn mc, .slice va vn vc])
  have hx' := hx
  simp only [List.length_append] at hx'
  have hB := h.at
  have HL := fun hx => Lib.hid (nums_put (c := lc) H0.out.wr (il.keep H0.out.wo.below hB) hl hx)
  have HM := fun hx => Lib.hid (nums_put (c := mc) H0.out.wr (im.keep H0.out.wo.below hB) hm hx)
  have HV := fun hx => Lib.hid (nums_put (c := vc) H0.out.wr (iv.keep H0.out.wo.below hB) hv hx)
  have N1 := Lib.hid (number_any x.d H0.out.wr k1.1 k1.2 (by omega))
  have N2 := Lib.hid (number_any x.a H0.out.wr k2.1 k2.2 (by omega))
  have N3 := Lib.hid (number_any x.b H0.out.wr k3.1 k3.2 (by omega))
  have N4 := Lib.hid (number_any x.c H0.out.wr k4.1 k4.2 (by omega))
  have N5 := Lib.hid (long_any x.n H0.out.wr k5.1 k5.2 (by omega))
  clear h hx' k0 k1 k2 k3 k4 k5 il im iv hB
  rcases hch with rfl | rfl | rfl | rfl | rfl | rfl | rfl | rfl
  · clear hl hm hv
    have H1 := Lib.hid N1.out
    clear N1 N2 N3 N4 N5 HL HM HV hx
    go_enter Tryz.func116, Tryz.ntmps116
    go_wp2_with fail
    refine H1.out.mono ?_; rintro e w1 ⟨rfl, v1, k1⟩
    have H2 := Lib.hid (And.intro v1 (H0.out.wo.trans k1))
    clear v1 k1
    go_wp2_with fail
    go_end0
    exact ⟨rfl, H2.out.1, H2.out.2⟩
  · clear hl hm hv
    have H1 := Lib.hid N2.out
    clear N1 N2 N3 N4 N5 HL HM HV hx
    go_enter Tryz.func116, Tryz.ntmps116
    go_wp2_with fail
    refine H1.out.mono ?_; rintro e w1 ⟨rfl, v1, k1⟩
    have H2 := Lib.hid (And.intro v1 (H0.out.wo.trans k1))
    clear v1 k1
    go_wp2_with fail
    go_end0
    exact ⟨rfl, H2.out.1, H2.out.2⟩
  · clear hl hm hv
    have H1 := Lib.hid N3.out
    clear N1 N2 N3 N4 N5 HL HM HV hx
    go_enter Tryz.func116, Tryz.ntmps116
    go_wp2_with fail
    refine H1.out.mono ?_; rintro e w1 ⟨rfl, v1, k1⟩
    have H2 := Lib.hid (And.intro v1 (H0.out.wo.trans k1))
    clear v1 k1
    go_wp2_with fail
    go_end0
    exact ⟨rfl, H2.out.1, H2.out.2⟩
  · clear hl hm hv
    have H1 := Lib.hid N4.out
    clear N1 N2 N3 N4 N5 HL HM HV hx
    go_enter Tryz.func116, Tryz.ntmps116
    go_wp2_with fail
    refine H1.out.mono ?_; rintro e w1 ⟨rfl, v1, k1⟩
    have H2 := Lib.hid (And.intro v1 (H0.out.wo.trans k1))
    clear v1 k1
    go_wp2_with fail
    go_end0
    exact ⟨rfl, H2.out.1, H2.out.2⟩
  · clear hl hm hv
    have H1 := Lib.hid N5.out
    clear N1 N2 N3 N4 N5 HL HM HV hx
    go_enter Tryz.func116, Tryz.ntmps116
    go_wp2_with fail
    refine H1.out.mono ?_; rintro e w1 ⟨rfl, v1, k1⟩
    have H2 := Lib.hid (And.intro v1 (H0.out.wo.trans k1))
    clear v1 k1
    go_wp2_with fail
    go_end0
    exact ⟨rfl, H2.out.1, H2.out.2⟩
  · clear hl hm hv
    have H1 := Lib.hid (HL hx).out
    clear N1 N2 N3 N4 N5 HL HM HV hx
    go_enter Tryz.func116, Tryz.ntmps116
    go_wp2_with fail
    refine H1.out.mono ?_; rintro e w1 ⟨rfl, v1, k1⟩
    have H2 := Lib.hid (And.intro v1 (H0.out.wo.trans k1))
    clear v1 k1
    go_wp2_with fail
    go_end0
    exact ⟨rfl, H2.out.1, H2.out.2⟩
  · clear hl hm hv
    have H1 := Lib.hid (HM hx).out
    clear N1 N2 N3 N4 N5 HL HM HV hx
    go_enter Tryz.func116, Tryz.ntmps116
    go_wp2_with fail
    refine H1.out.mono ?_; rintro e w1 ⟨rfl, v1, k1⟩
    have H2 := Lib.hid (And.intro v1 (H0.out.wo.trans k1))
    clear v1 k1
    go_wp2_with fail
    go_end0
    exact ⟨rfl, H2.out.1, H2.out.2⟩
  · clear hl hm hv
    have H1 := Lib.hid (HV hx).out
    clear N1 N2 N3 N4 N5 HL HM HV hx
    go_enter Tryz.func116, Tryz.ntmps116
    go_wp2_with fail
    refine H1.out.mono ?_; rintro e w1 ⟨rfl, v1, k1⟩
    have H2 := Lib.hid (And.intro v1 (H0.out.wo.trans k1))
    clear v1 k1
    go_wp2_with fail
    go_end0
    exact ⟨rfl, H2.out.1, H2.out.2⟩
end Go.Proofs.YthlifflapgccbaaGreat
