/- Lemmas, put together: RdFunc RdImage Cut. -/
import Derived.Test.YthlifflapgccbaaGreatRdBlock
import Derived.Test.YthlifflapgccbaaGreatL04
import Derived.Test.YthlifflapgccbaaGreatRefBytes
/- The reader in memory: a function. -/
namespace Go.Proofs.YthlifflapgccbaaGreat
set_option linter.unusedVariables false
set_option linter.unusedSimpArgs false
open Go.ChangeShapes Go.WideShapes Go.ChangeAt Go.RowKit
open M (W)
set_option maxRecDepth 100000 in
theorem rfunction_any {q : RP} (hq : q.ok) (w : World) (k sz : Nat) (bad : Bool) (h : Rd q w k sz bad) :
    Calls Tryz.prog 37 #[.pointer (some ⟨q.g, 0, none⟩)] w fun e w' => ∃ (a2 : Option Addr) (n2 c2 : Nat) (v0 : Int) (v1 : Int) (a3 : Option Addr) (n3 c3 : Nat) (k' sz' : Nat) (bad' : Bool), e = .returned (.agg #[.slice a2 n2 c2, .int .i64 v0, .int .i64 v1, .slice a3 n3 c3]) ∧ StepR q M.pFn (fun x => FnQ (Fresh w w') w' [.slice a2 n2 c2, .int .i64 v0, .int .i64 v1, .slice a3 n3 c3] x) w w' k sz bad k' sz' bad' := by
  have H0 : Hid (Rd q (w.alloc (.cells #[.slice none 0 0, .int .i64 0, .int .i64 0, .slice none 0 0] 55)) k sz bad ∧ Turn (fun i => i = q.g) w (w.alloc (.cells #[.slice none 0 0, .int .i64 0, .int .i64 0, .slice none 0 0] 55)) ∧ Blk (w.alloc (.cells #[.slice none 0 0, .int .i64 0, .int .i64 0, .slice none 0 0] 55)) w.heap.size 55 #[.slice none 0 0, .int .i64 0, .int .i64 0, .slice none 0 0]) := ⟨h.still ((Still.refl w).alloc _), (Turn.refl _ w).alloc _, Blk.new w _ _⟩
  have HN : Hid (q.g < w.heap.size ∧ q.b < w.heap.size) := ⟨h.blk.lt, h.lt⟩
  clear h
  go_enter Tryz.func37, Tryz.ntmps37
  go_wp2_with fail
  obtain ⟨w0, hw0⟩ : ∃ w0, (w.alloc (.cells #[.slice none 0 0, .int .i64 0, .int .i64 0, .slice none 0 0] 55)) = w0 := ⟨_, rfl⟩
  have HW0 : Hid (w.heap.size < w0.heap.size) := by show _ < _; rw [← hw0]; simp
  rw [hw0] at H0
  rw [hw0]
  clear hw0
  refine (takeInt_any M.pNum 38 (enters_of Tryz.func38 (by kernel_rfl) rfl) 200 (by decide) hq H0.out.1 (rnum_elem hq)).mono ?_; rintro e w1 ⟨a2, n2, c2, k1, s1, b1, rfl, hi2, u1⟩
  have U1 := Lib.hid u1
  have Ehi2 := Lib.hid hi2
  have H1 : Hid (Turn (fun i => i = q.g) w w1 ∧ Blk w1 w.heap.size 55 #[.slice none 0 0, .int .i64 0, .int .i64 0, .slice none 0 0]) := ⟨(H0.out.2.1).trans u1.turn, (H0.out.2.2).keep u1.turn (by have := HN.out; omega)⟩
  clear u1 hi2
  go_wp2_with fail
  refine (rnumber_any hq U1.out.rd).mono ?_; rintro e w2 ⟨v0, k2, b2, rfl, hi0, u2⟩
  have U2 := Lib.hid u2
  have Ehi0 := Lib.hid hi0
  have H2 : Hid (Turn (fun i => i = q.g) w w2 ∧ Blk w2 w.heap.size 55 #[.slice none 0 0, .int .i64 0, .int .i64 0, .slice none 0 0]) := ⟨(H1.out.1).trans u2.turn, (H1.out.2).keep u2.turn (by have := HN.out; omega)⟩
  clear u2 hi0
  go_wp2_with fail
  refine (rnumber_any hq U2.out.rd).mono ?_; rintro e w3 ⟨v1, k3, b3, rfl, hi1, u3⟩
  have U3 := Lib.hid u3
  have Ehi1 := Lib.hid hi1
  have H3 : Hid (Turn (fun i => i = q.g) w w3 ∧ Blk w3 w.heap.size 55 #[.slice none 0 0, .int .i64 0, .int .i64 0, .slice none 0 0]) := ⟨(H2.out.1).trans u3.turn, (H2.out.2).keep u3.turn (by have := HN.out; omega)⟩
  clear u3 hi1
  go_wp2_with fail
  refine (takeBk_any M.pBk 61 (enters_of Tryz.func61 (by kernel_rfl) rfl) 2000 (by decide) hq U3.out.rd (rblock_any hq)).mono ?_; rintro e w4 ⟨a3, n3, c3, k4, s4, b4, rfl, hi3, u4⟩
  have U4 := Lib.hid u4
  have Ehi3 := Lib.hid hi3
  have H4 : Hid (Turn (fun i => i = q.g) w w4 ∧ Blk w4 w.heap.size 55 #[.slice none 0 0, .int .i64 0, .int .i64 0, .slice none 0 0]) := ⟨(H3.out.1).trans u4.turn, (H3.out.2).keep u4.turn (by have := HN.out; omega)⟩
  clear u4 hi3
  have c90 := H4.out.2.cell 0
  have f90 := H4.out.2.frozen 0
  have c91 := H4.out.2.cell 1
  have f91 := H4.out.2.frozen 1
  have c92 := H4.out.2.cell 2
  have f92 := H4.out.2.frozen 2
  have c93 := H4.out.2.cell 3
  have f93 := H4.out.2.frozen 3
  have hl9 := H4.out.2.lt
  go_wp2_with fail
  have hb := setsB4 H4.out.2 (.slice a2 n2 c2) (.int .i64 v0) (.int .i64 v1) (.slice a3 n3 c3)
  have ht := setsT4 w4 w.heap.size (.slice a2 n2 c2) (.int .i64 v0) (.int .i64 v1) (.slice a3 n3 c3)
  refine bodyPost_ret (results_cell_row rfl _ _ w.heap.size 55 #[.slice a2 n2 c2, .int .i64 v0, .int .i64 v1, .slice a3 n3 c3] (0, 0) _ rfl hb Tryz.underlying55 rfl (by kernel_rfl)) rfl ?_
  obtain ⟨hgl, hbl⟩ := HN.out
  have hw0 := HW0.out
  have hi2 := Ehi2.out
  have hi0 := Ehi0.out
  have hi1 := Ehi1.out
  have hi3 := Ehi3.out
  generalize hW9 : ((((w4.setCell ⟨w.heap.size, 0, none⟩ (.slice a2 n2 c2)).setCell ⟨w.heap.size, 1, none⟩ (.int .i64 v0)).setCell ⟨w.heap.size, 2, none⟩ (.int .i64 v1)).setCell ⟨w.heap.size, 3, none⟩ (.slice a3 n3 c3)) = w9 at hb ht ⊢
  have tt := turn_box H4.out.1 ht (Nat.le_refl _)
  refine ⟨a2, n2, c2, v0, v1, a3, n3, c3, k4, s4, b4, rfl, ?_⟩
  have hz0 : w0.heap.size ≤ w0.heap.size := by omega
  have K0 : Kept (Fresh w0 w1) (Fresh w w9) w1 w9 := kept_fresh (g := q.g) (i := w.heap.size) (by omega) (by omega) (by omega) ((((Turn.refl _ _).trans U2.out.turn).trans U3.out.turn).trans U4.out.turn) ht
  have hz3 : w0.heap.size ≤ w3.heap.size := by have := U1.out.turn.size; have := U2.out.turn.size; have := U3.out.turn.size; omega
  have K3 : Kept (Fresh w3 w4) (Fresh w w9) w4 w9 := kept_fresh (g := q.g) (i := w.heap.size) (by omega) (by omega) (by omega) (Turn.refl _ _) ht
  have hrd := U4.out.rd.turn ht (by omega) (by omega)
  refine (StepR.pair (Z := fun x => FnQ (Fresh w w9) w9 [.slice a2 n2 c2, .int .i64 v0, .int .i64 v1, .slice a3 n3 c3] x) U1.out (StepR.pair (Z := fun x => v0 = x.1 ∧ v1 = x.2.1 ∧ LiesQ (Fresh w3 w4) w4 2 (BkQ (Fresh w3 w4) w4) a3 n3 x.2.2) U2.out (StepR.pair (Z := fun x => v1 = x.1 ∧ LiesQ (Fresh w3 w4) w4 2 (BkQ (Fresh w3 w4) w4) a3 n3 x.2) U3.out (U4.out) ((U3.out.turn).trans U4.out.turn) (fun x y hx hy => ⟨hx, hy⟩)) (((U2.out.turn).trans U3.out.turn).trans U4.out.turn) (fun x y hx hy => ⟨hx, hy⟩)) ((((U1.out.turn).trans U2.out.turn).trans U3.out.turn).trans U4.out.turn) ?_).into hrd tt fun x hx => hx
  rintro x0 ⟨x1, x2, x3⟩ y0 ⟨y1, y2, y3⟩
  dsimp only at y1 y2 y3 ⊢
  subst y1
  subst y2
  exact ⟨a2, n2, c2, a3, n3, c3, rfl, by unfold maxLen; omega, by unfold maxLen; omega, hi0, hi1, LiesQ.keep y0 K0 fun _ _ h => h, LiesQ.keep y3 K3 fun _ _ h => h.keep K3⟩
end Go.Proofs.YthlifflapgccbaaGreat
/- The reader in memory: an image. -/
namespace Go.Proofs.YthlifflapgccbaaGreat
set_option linter.unusedVariables false
set_option linter.unusedSimpArgs false
open Go.ChangeShapes Go.WideShapes Go.ChangeAt Go.RowKit
open M (W)
/-- An image in blocks of the kind Q. -/
structure ImgQ (Q : Nat → Prop) (w : World) (v : ImgV) (m : M.Img) : Prop where
  main : v.main = m.main
  exn : v.exn = m.exn
  in_main : In64 m.main
  in_exn : In64 m.exn
  le : v.tn ≤ maxLen ∧ v.sn ≤ maxLen ∧ v.xn ≤ maxLen ∧ v.nn ≤ maxLen ∧ v.fn ≤ maxLen
  types : LiesQ Q w 2 (TyQ Q w) v.ta v.tn m.types
  shapes : LiesQ Q w 3 (ShQ Q w) v.sa v.sn m.shapes
  strings : LiesQ Q w 1 TxIs v.xa v.xn m.strings
  names : LiesQ Q w 1 TxIs v.na v.nn m.names
  funcs : LiesQ Q w 4 (FnQ Q w) v.fa v.fn m.funcs
theorem ImgQ.keep {Q R : Nat → Prop} {w w' : World} {v : ImgV} {m : M.Img} (h : ImgQ Q w v m) (hk : Kept Q R w w') : ImgQ R w' v m :=
  ⟨h.main, h.exn, h.in_main, h.in_exn, h.le, h.types.keep hk fun _ _ h => h.keep hk, h.shapes.keep hk fun _ _ h => h.keep hk, h.strings.keep hk fun _ _ h => h, h.names.keep hk fun _ _ h => h, h.funcs.keep hk fun _ _ h => h.keep hk⟩
theorem LiesQ.lies {α : Type} {Q : Nat → Prop} {B k : Nat} {w : World} {P P' : List Value → α → Prop} {a : Option Addr} {n : Nat} {xs : List α} (h : LiesQ Q w k P a n xs) (hb : ∀ b, Q b → b < B) (hq : ∀ cs x, P cs x → P' cs x) : Lies B w k P' a n xs :=
  ⟨h.len, fun hn => by
    obtain ⟨b, off, ha, hB, hx⟩ := h.at_ hn
    refine ⟨b, off, ha, hb b hB, fun i x hi => ?_⟩
    obtain ⟨cs, h1, h2, h3⟩ := hx i x hi
    exact ⟨cs, h1, hq cs x h2, h3⟩⟩
theorem IntsQ.lies {Q : Nat → Prop} {B : Nat} {w : World} {a : Option Addr} {n : Nat} {xs : List Int} (h : IntsQ Q w a n xs) (hb : ∀ b, Q b → b < B) : Ints B w a n xs := LiesQ.lies h hb fun _ _ h => h
theorem TyQ.is {Q : Nat → Prop} {B : Nat} {w : World} {cs : List Value} {x : M.Ty} (h : TyQ Q w cs x) (hb : ∀ b, Q b → b < B) : TyIs B w cs x := by
  obtain ⟨a, n, c, h1, h2, h3⟩ := h
  exact ⟨a, n, c, h1, h2, h3.lies hb⟩
theorem ShQ.is {Q : Nat → Prop} {B : Nat} {w : World} {cs : List Value} {x : M.Sh} (h : ShQ Q w cs x) (hb : ∀ b, Q b → b < B) : ShIs B w cs x := by
  obtain ⟨a, n, c, h1, h2, h3, h4, h5⟩ := h
  exact ⟨a, n, c, h1, h2, h3, h4, h5.lies hb⟩
theorem InsQ.is {Q : Nat → Prop} {B : Nat} {w : World} {cs : List Value} {x : M.Ins} (h : InsQ Q w cs x) (hb : ∀ b, Q b → b < B) : InsIs B w cs x := by
  obtain ⟨la, ln, lc, ma, mn, mc, va, vn, vc, h1, h2, h3, h4, h5, h6, h7, h8⟩ := h
  exact ⟨la, ln, lc, ma, mn, mc, va, vn, vc, h1, h2, h3, h4, h5, h6.lies hb, h7.lies hb, h8.lies hb⟩
theorem BkQ.is {Q : Nat → Prop} {B : Nat} {w : World} {cs : List Value} {x : M.Bk} (h : BkQ Q w cs x) (hb : ∀ b, Q b → b < B) : BkIs B w cs x := by
  obtain ⟨ia, inn, ic, ca, cn, cc, h1, h2, h3, h4, h5⟩ := h
  exact ⟨ia, inn, ic, ca, cn, cc, h1, h2, h3, h4.lies hb, h5.lies hb fun _ _ h => h.is hb⟩
theorem FnQ.is {Q : Nat → Prop} {B : Nat} {w : World} {cs : List Value} {x : M.Fn} (h : FnQ Q w cs x) (hb : ∀ b, Q b → b < B) : FnIs B w cs x := by
  obtain ⟨pa, pn, pc, ba, bn, bc, h1, h2, h3, h4, h5, h6, h7⟩ := h
  exact ⟨pa, pn, pc, ba, bn, bc, h1, h2, h3, h4, h5, h6.lies hb, h7.lies hb fun _ _ h => h.is hb⟩
theorem ImgQ.is {Q : Nat → Prop} {B : Nat} {w : World} {v : ImgV} {m : M.Img} (h : ImgQ Q w v m) (hb : ∀ b, Q b → b < B) : ImgIs B w v m :=
  ⟨h.main, h.exn, h.in_main, h.in_exn, h.le, h.types.lies hb fun _ _ h => h.is hb, h.shapes.lies hb fun _ _ h => h.is hb, h.strings.lies hb fun _ _ h => h, h.names.lies hb fun _ _ h => h, h.funcs.lies hb fun _ _ h => h.is hb⟩
set_option maxRecDepth 100000 in
theorem rimage_any {q : RP} (hq : q.ok) (w : World) (k sz : Nat) (bad : Bool) (h : Rd q w k sz bad) :
    Calls Tryz.prog 10 #[.pointer (some ⟨q.g, 0, none⟩)] w fun e w' => ∃ (a10 : Option Addr) (n10 c10 : Nat) (a11 : Option Addr) (n11 c11 : Nat) (a12 : Option Addr) (n12 c12 : Nat) (a13 : Option Addr) (n13 c13 : Nat) (a14 : Option Addr) (n14 c14 : Nat) (v20 : Int) (v21 : Int) (k' sz' : Nat) (bad' : Bool), e = .returned (.agg #[.slice a10 n10 c10, .slice a11 n11 c11, .slice a12 n12 c12, .slice a13 n13 c13, .slice a14 n14 c14, .int .i64 v20, .int .i64 v21]) ∧ StepR q M.pImg (fun x => ImgQ (Fresh w w') w' ⟨a10, n10, c10, a11, n11, c11, a12, n12, c12, a13, n13, c13, a14, n14, c14, v20, v21⟩ x) w w' k sz bad k' sz' bad' := by
  have H0 : Hid (Rd q (w.alloc (.cells #[.slice none 0 0, .slice none 0 0, .slice none 0 0, .slice none 0 0, .slice none 0 0, .int .i64 0, .int .i64 0] 28)) k sz bad ∧ Turn (fun i => i = q.g) w (w.alloc (.cells #[.slice none 0 0, .slice none 0 0, .slice none 0 0, .slice none 0 0, .slice none 0 0, .int .i64 0, .int .i64 0] 28)) ∧ Blk (w.alloc (.cells #[.slice none 0 0, .slice none 0 0, .slice none 0 0, .slice none 0 0, .slice none 0 0, .int .i64 0, .int .i64 0] 28)) w.heap.size 28 #[.slice none 0 0, .slice none 0 0, .slice none 0 0, .slice none 0 0, .slice none 0 0, .int .i64 0, .int .i64 0]) := ⟨h.still ((Still.refl w).alloc _), (Turn.refl _ w).alloc _, Blk.new w _ _⟩
  have HN : Hid (q.g < w.heap.size ∧ q.b < w.heap.size) := ⟨h.blk.lt, h.lt⟩
  clear h
  go_enter Tryz.func10, Tryz.ntmps10
  go_wp2_with fail
  obtain ⟨w0, hw0⟩ : ∃ w0, (w.alloc (.cells #[.slice none 0 0, .slice none 0 0, .slice none 0 0, .slice none 0 0, .slice none 0 0, .int .i64 0, .int .i64 0] 28)) = w0 := ⟨_, rfl⟩
  have HW0 : Hid (w.heap.size < w0.heap.size) := by show _ < _; rw [← hw0]; simp
  rw [hw0] at H0
  rw [hw0]
  clear hw0
  refine (takeTy_any M.pTy 31 (enters_of Tryz.func31 (by kernel_rfl) rfl) 1024 (by decide) hq H0.out.1 (rkind_any hq)).mono ?_; rintro e w1 ⟨a10, n10, c10, k1, s1, b1, rfl, hi10, u1⟩
  have U1 := Lib.hid u1
  have Ehi10 := Lib.hid hi10
  have H1 : Hid (Turn (fun i => i = q.g) w w1 ∧ Blk w1 w.heap.size 28 #[.slice none 0 0, .slice none 0 0, .slice none 0 0, .slice none 0 0, .slice none 0 0, .int .i64 0, .int .i64 0]) := ⟨(H0.out.2.1).trans u1.turn, (H0.out.2.2).keep u1.turn (by have := HN.out; omega)⟩
  clear u1 hi10
  go_wp2_with fail
  refine (takeSh_any M.pSh 33 (enters_of Tryz.func33 (by kernel_rfl) rfl) 512 (by decide) hq U1.out.rd (rshape_any hq)).mono ?_; rintro e w2 ⟨a11, n11, c11, k2, s2, b2, rfl, hi11, u2⟩
  have U2 := Lib.hid u2
  have Ehi11 := Lib.hid hi11
  have H2 : Hid (Turn (fun i => i = q.g) w w2 ∧ Blk w2 w.heap.size 28 #[.slice none 0 0, .slice none 0 0, .slice none 0 0, .slice none 0 0, .slice none 0 0, .int .i64 0, .int .i64 0]) := ⟨(H1.out.1).trans u2.turn, (H1.out.2).keep u2.turn (by have := HN.out; omega)⟩
  clear u2 hi11
  go_wp2_with fail
  refine (takeTx_any M.pText 35 (enters_of Tryz.func35 (by kernel_rfl) rfl) 256 (by decide) hq U2.out.rd (rtext_elem hq)).mono ?_; rintro e w3 ⟨a12, n12, c12, k3, s3, b3, rfl, hi12, u3⟩
  have U3 := Lib.hid u3
  have Ehi12 := Lib.hid hi12
  have H3 : Hid (Turn (fun i => i = q.g) w w3 ∧ Blk w3 w.heap.size 28 #[.slice none 0 0, .slice none 0 0, .slice none 0 0, .slice none 0 0, .slice none 0 0, .int .i64 0, .int .i64 0]) := ⟨(H2.out.1).trans u3.turn, (H2.out.2).keep u3.turn (by have := HN.out; omega)⟩
  clear u3 hi12
  go_wp2_with fail
  refine (takeTx_any M.pText 35 (enters_of Tryz.func35 (by kernel_rfl) rfl) 256 (by decide) hq U3.out.rd (rtext_elem hq)).mono ?_; rintro e w4 ⟨a13, n13, c13, k4, s4, b4, rfl, hi13, u4⟩
  have U4 := Lib.hid u4
  have Ehi13 := Lib.hid hi13
  have H4 : Hid (Turn (fun i => i = q.g) w w4 ∧ Blk w4 w.heap.size 28 #[.slice none 0 0, .slice none 0 0, .slice none 0 0, .slice none 0 0, .slice none 0 0, .int .i64 0, .int .i64 0]) := ⟨(H3.out.1).trans u4.turn, (H3.out.2).keep u4.turn (by have := HN.out; omega)⟩
  clear u4 hi13
  go_wp2_with fail
  refine (takeFn_any M.pFn 37 (enters_of Tryz.func37 (by kernel_rfl) rfl) 1024 (by decide) hq U4.out.rd (rfunction_any hq)).mono ?_; rintro e w5 ⟨a14, n14, c14, k5, s5, b5, rfl, hi14, u5⟩
  have U5 := Lib.hid u5
  have Ehi14 := Lib.hid hi14
  have H5 : Hid (Turn (fun i => i = q.g) w w5 ∧ Blk w5 w.heap.size 28 #[.slice none 0 0, .slice none 0 0, .slice none 0 0, .slice none 0 0, .slice none 0 0, .int .i64 0, .int .i64 0]) := ⟨(H4.out.1).trans u5.turn, (H4.out.2).keep u5.turn (by have := HN.out; omega)⟩
  clear u5 hi14
  go_wp2_with fail
  refine (rnumber_any hq U5.out.rd).mono ?_; rintro e w6 ⟨v20, k6, b6, rfl, hi20, u6⟩
  have U6 := Lib.hid u6
  have Ehi20 := Lib.hid hi20
  have H6 : Hid (Turn (fun i => i = q.g) w w6 ∧ Blk w6 w.heap.size 28 #[.slice none 0 0, .slice none 0 0, .slice none 0 0, .slice none 0 0, .slice none 0 0, .int .i64 0, .int .i64 0]) := ⟨(H5.out.1).trans u6.turn, (H5.out.2).keep u6.turn (by have := HN.out; omega)⟩
  clear u6 hi20
  go_wp2_with fail
  refine (rnumber_any hq U6.out.rd).mono ?_; rintro e w7 ⟨v21, k7, b7, rfl, hi21, u7⟩
  have U7 := Lib.hid u7
  have Ehi21 := Lib.hid hi21
  have H7 : Hid (Turn (fun i => i = q.g) w w7 ∧ Blk w7 w.heap.size 28 #[.slice none 0 0, .slice none 0 0, .slice none 0 0, .slice none 0 0, .slice none 0 0, .int .i64 0, .int .i64 0]) := ⟨(H6.out.1).trans u7.turn, (H6.out.2).keep u7.turn (by have := HN.out; omega)⟩
  clear u7 hi21
  have c90 := H7.out.2.cell 0
  have f90 := H7.out.2.frozen 0
  have c91 := H7.out.2.cell 1
  have f91 := H7.out.2.frozen 1
  have c92 := H7.out.2.cell 2
  have f92 := H7.out.2.frozen 2
  have c93 := H7.out.2.cell 3
  have f93 := H7.out.2.frozen 3
  have c94 := H7.out.2.cell 4
  have f94 := H7.out.2.frozen 4
  have c95 := H7.out.2.cell 5
  have f95 := H7.out.2.frozen 5
  have c96 := H7.out.2.cell 6
  have f96 := H7.out.2.frozen 6
  have hl9 := H7.out.2.lt
  go_wp2_with fail
  have hb := sets7_blk H7.out.2 (.slice a10 n10 c10) (.slice a11 n11 c11) (.slice a12 n12 c12) (.slice a13 n13 c13) (.slice a14 n14 c14) (.int .i64 v20) (.int .i64 v21)
  have ht := sets7_turn w7 w.heap.size (.slice a10 n10 c10) (.slice a11 n11 c11) (.slice a12 n12 c12) (.slice a13 n13 c13) (.slice a14 n14 c14) (.int .i64 v20) (.int .i64 v21)
  refine bodyPost_ret (results_cell_row rfl _ _ w.heap.size 28 #[.slice a10 n10 c10, .slice a11 n11 c11, .slice a12 n12 c12, .slice a13 n13 c13, .slice a14 n14 c14, .int .i64 v20, .int .i64 v21] (0, 0) _ rfl hb Tryz.underlying28 rfl (by kernel_rfl)) rfl ?_
  obtain ⟨hgl, hbl⟩ := HN.out
  have hw0 := HW0.out
  have hi10 := Ehi10.out
  have hi11 := Ehi11.out
  have hi12 := Ehi12.out
  have hi13 := Ehi13.out
  have hi14 := Ehi14.out
  have hi20 := Ehi20.out
  have hi21 := Ehi21.out
  generalize hW9 : (((((((w7.setCell ⟨w.heap.size, 0, none⟩ (.slice a10 n10 c10)).setCell ⟨w.heap.size, 1, none⟩ (.slice a11 n11 c11)).setCell ⟨w.heap.size, 2, none⟩ (.slice a12 n12 c12)).setCell ⟨w.heap.size, 3, none⟩ (.slice a13 n13 c13)).setCell ⟨w.heap.size, 4, none⟩ (.slice a14 n14 c14)).setCell ⟨w.heap.size, 5, none⟩ (.int .i64 v20)).setCell ⟨w.heap.size, 6, none⟩ (.int .i64 v21)) = w9 at hb ht ⊢
  have tt := turn_box H7.out.1 ht (Nat.le_refl _)
  refine ⟨a10, n10, c10, a11, n11, c11, a12, n12, c12, a13, n13, c13, a14, n14, c14, v20, v21, k7, s5, b7, rfl, ?_⟩
  have hz0 : w0.heap.size ≤ w0.heap.size := by omega
  have K0 : Kept (Fresh w0 w1) (Fresh w w9) w1 w9 := kept_fresh (g := q.g) (i := w.heap.size) (by omega) (by omega) (by omega) (((((((Turn.refl _ _).trans U2.out.turn).trans U3.out.turn).trans U4.out.turn).trans U5.out.turn).trans U6.out.turn).trans U7.out.turn) ht
  have hz1 : w0.heap.size ≤ w1.heap.size := by have := U1.out.turn.size; omega
  have K1 : Kept (Fresh w1 w2) (Fresh w w9) w2 w9 := kept_fresh (g := q.g) (i := w.heap.size) (by omega) (by omega) (by omega) ((((((Turn.refl _ _).trans U3.out.turn).trans U4.out.turn).trans U5.out.turn).trans U6.out.turn).trans U7.out.turn) ht
  have hz2 : w0.heap.size ≤ w2.heap.size := by have := U1.out.turn.size; have := U2.out.turn.size; omega
  have K2 : Kept (Fresh w2 w3) (Fresh w w9) w3 w9 := kept_fresh (g := q.g) (i := w.heap.size) (by omega) (by omega) (by omega) (((((Turn.refl _ _).trans U4.out.turn).trans U5.out.turn).trans U6.out.turn).trans U7.out.turn) ht
  have hz3 : w0.heap.size ≤ w3.heap.size := by have := U1.out.turn.size; have := U2.out.turn.size; have := U3.out.turn.size; omega
  have K3 : Kept (Fresh w3 w4) (Fresh w w9) w4 w9 := kept_fresh (g := q.g) (i := w.heap.size) (by omega) (by omega) (by omega) ((((Turn.refl _ _).trans U5.out.turn).trans U6.out.turn).trans U7.out.turn) ht
  have hz4 : w0.heap.size ≤ w4.heap.size := by have := U1.out.turn.size; have := U2.out.turn.size; have := U3.out.turn.size; have := U4.out.turn.size; omega
  have K4 : Kept (Fresh w4 w5) (Fresh w w9) w5 w9 := kept_fresh (g := q.g) (i := w.heap.size) (by omega) (by omega) (by omega) (((Turn.refl _ _).trans U6.out.turn).trans U7.out.turn) ht
  have hrd := U7.out.rd.turn ht (by omega) (by omega)
  refine (StepR.pair (Z := fun x => ImgQ (Fresh w w9) w9 ⟨a10, n10, c10, a11, n11, c11, a12, n12, c12, a13, n13, c13, a14, n14, c14, v20, v21⟩ x) U1.out (StepR.pair (Z := fun x => LiesQ (Fresh w1 w2) w2 3 (ShQ (Fresh w1 w2) w2) a11 n11 x.1 ∧ LiesQ (Fresh w2 w3) w3 1 TxIs a12 n12 x.2.1 ∧ LiesQ (Fresh w3 w4) w4 1 TxIs a13 n13 x.2.2.1 ∧ LiesQ (Fresh w4 w5) w5 4 (FnQ (Fresh w4 w5) w5) a14 n14 x.2.2.2.1 ∧ v20 = x.2.2.2.2.1 ∧ v21 = x.2.2.2.2.2) U2.out (StepR.pair (Z := fun x => LiesQ (Fresh w2 w3) w3 1 TxIs a12 n12 x.1 ∧ LiesQ (Fresh w3 w4) w4 1 TxIs a13 n13 x.2.1 ∧ LiesQ (Fresh w4 w5) w5 4 (FnQ (Fresh w4 w5) w5) a14 n14 x.2.2.1 ∧ v20 = x.2.2.2.1 ∧ v21 = x.2.2.2.2) U3.out (StepR.pair (Z := fun x => LiesQ (Fresh w3 w4) w4 1 TxIs a13 n13 x.1 ∧ LiesQ (Fresh w4 w5) w5 4 (FnQ (Fresh w4 w5) w5) a14 n14 x.2.1 ∧ v20 = x.2.2.1 ∧ v21 = x.2.2.2) U4.out (StepR.pair (Z := fun x => LiesQ (Fresh w4 w5) w5 4 (FnQ (Fresh w4 w5) w5) a14 n14 x.1 ∧ v20 = x.2.1 ∧ v21 = x.2.2) U5.out (StepR.pair (Z := fun x => v20 = x.1 ∧ v21 = x.2) U6.out (U7.out) ((U6.out.turn).trans U7.out.turn) (fun x y hx hy => ⟨hx, hy⟩)) (((U5.out.turn).trans U6.out.turn).trans U7.out.turn) (fun x y hx hy => ⟨hx, hy⟩)) ((((U4.out.turn).trans U5.out.turn).trans U6.out.turn).trans U7.out.turn) (fun x y hx hy => ⟨hx, hy⟩)) (((((U3.out.turn).trans U4.out.turn).trans U5.out.turn).trans U6.out.turn).trans U7.out.turn) (fun x y hx hy => ⟨hx, hy⟩)) ((((((U2.out.turn).trans U3.out.turn).trans U4.out.turn).trans U5.out.turn).trans U6.out.turn).trans U7.out.turn) (fun x y hx hy => ⟨hx, hy⟩)) (((((((U1.out.turn).trans U2.out.turn).trans U3.out.turn).trans U4.out.turn).trans U5.out.turn).trans U6.out.turn).trans U7.out.turn) ?_).into hrd tt fun x hx => hx
  rintro x0 ⟨x1, x2, x3, x4, x5, x6⟩ y0 ⟨y1, y2, y3, y4, y5, y6⟩
  dsimp only at y1 y2 y3 y4 y5 y6 ⊢
  subst y5
  subst y6
  exact ⟨rfl, rfl, hi20, hi21, ⟨by show n10 ≤ maxLen; unfold maxLen; omega, by show n11 ≤ maxLen; unfold maxLen; omega, by show n12 ≤ maxLen; unfold maxLen; omega, by show n13 ≤ maxLen; unfold maxLen; omega, by show n14 ≤ maxLen; unfold maxLen; omega⟩, LiesQ.keep y0 K0 fun _ _ h => h.keep K0, LiesQ.keep y1 K1 fun _ _ h => h.keep K1, LiesQ.keep y2 K2 fun _ _ h => h, LiesQ.keep y3 K3 fun _ _ h => h, LiesQ.keep y4 K4 fun _ _ h => h.keep K4⟩
end Go.Proofs.YthlifflapgccbaaGreat
/- CutPrefix by the letters, over any bytes. -/
namespace Go.Proofs.YthlifflapgccbaaGreat
set_option linter.unusedVariables false
set_option linter.unusedSimpArgs false
open Go.ChangeShapes Go.WideShapes Go.ChangeAt Go.RowKit
open M (W)
/-- Bytes in memory. -/
structure Raw (w : World) (r o c : Nat) (L : List Int) : Prop where
  lt : r < w.heap.size
  le : L.length ≤ c ∧ c ≤ maxLen
  cells : ∀ j, j < L.length → w.cell? ⟨r, o + j, none⟩ = some (.int .u8 (L.getD j 0))
theorem Raw.still {w w' : World} {r o c : Nat} {L : List Int} (h : Raw w r o c L) (t : Still w w') : Raw w' r o c L :=
  ⟨Nat.lt_of_lt_of_le h.lt t.size, h.le, fun j hj => (t.cell (p := ⟨r, o + j, none⟩) h.lt).trans (h.cells j hj)⟩
theorem letters_inj {X : List Int} (hx : M.Bytes X) (h : strOfNums X = strOfNums M.bel4) : X = M.bel4 := by
  have := congrArg M.chars h
  rwa [M.chars_of hx, M.chars_of (by intro c hc; simp [M.bel4] at hc; omega)] at this
theorem raw_conv {w : World} {r o c : Nat} {L : List Int} (h : Raw w r o c L) (n c' : Nat) (hn : n ≤ L.length) :
    (convert 22 9 (.slice (some ⟨r, o, none⟩) n c')).run Tryz.prog w = .ok (.string (strOfNums (L.take n))) w := by
  refine run_convert_bytes_arg w 22 5 Tryz.underlying22 Tryz.underlying5 r o n c' (L.take n) (by rw [List.length_take]; omega) ?_ 9 Tryz.underlying9
  intro i hi
  have hi2 : i < n := hi
  rw [h.cells i (by omega)]
  simp [List.getD, List.getElem?_take, hi2]
theorem bytes_beq (s t : ByteArray) : (s.toList == t.toList) = true ↔ s = t := by
  rw [beq_iff_eq, ByteArray.toList_eq, ByteArray.toList_eq]
  constructor
  · intro h
    cases s; cases t
    congr 1
    exact Array.toList_inj.1 h
  · rintro rfl; rfl
theorem equal_any {w : World} {r o s c c' : Nat} {L : List Int} (h : Raw w r o c L) (hb : M.Bytes L) (h4 : 4 ≤ L.length) (hs : Raw w s 0 c' M.bel4) :
    Calls Tryz.prog 56 #[.slice (some ⟨r, o, none⟩) 4 c, .slice (some ⟨s, 0, none⟩) 4 c'] w fun e w' => e = .returned (.bool (decide (L.take 4 = M.bel4))) ∧ w' = w := by
  have e1 := raw_conv h 4 c h4
  have e2 := raw_conv hs 4 c' (by decide)
  have e3 : M.bel4.take 4 = M.bel4 := rfl
  rw [e3] at e2
  have hss : ((strOfNums (L.take 4)).toList == (strOfNums M.bel4).toList) = decide (L.take 4 = M.bel4) := by
    by_cases hx : L.take 4 = M.bel4
    · rw [hx]; simp
    · rw [decide_eq_false hx]
      cases hq : ((strOfNums (L.take 4)).toList == (strOfNums M.bel4).toList) with
      | false => rfl
      | true => exact absurd (letters_inj (fun c hc => hb c (List.mem_of_mem_take hc)) ((bytes_beq _ _).1 hq)) hx
  generalize strOfNums (L.take 4) = X at *
  generalize strOfNums M.bel4 = Y at *
  generalize decide (L.take 4 = M.bel4) = d at *
  clear h hb h4 hs e3
  go_enter Tryz.func56, Tryz.ntmps56
  go_wp2_with fail
  go_ret
  exact ⟨by simp, rfl⟩
theorem hasPrefix_any {w : World} {r o s c c' : Nat} {L : List Int} (h : Raw w r o c L) (hb : M.Bytes L) (hs : Raw w s 0 c' M.bel4) :
    Calls Tryz.prog 29 #[.slice (some ⟨r, o, none⟩) L.length c, .slice (some ⟨s, 0, none⟩) 4 c'] w fun e w' => e = .returned (.bool (decide (L.take 4 = M.bel4))) ∧ w' = w := by
  have hl := h.le
  by_cases h4 : 4 ≤ L.length
  · skip
    have H := Lib.hid (equal_any h hb h4 hs)
    clear h hb hs
    generalize L.length = n at *
    generalize decide (L.take 4 = M.bel4) = d at *
    obtain ⟨hl1, hl2⟩ := hl
    unfold maxLen at hl2
    go_enter Tryz.func29, Tryz.ntmps29
    go_wp2_with (go_at_call 56; (with_reducible refine H.out.mono ?_); rintro e w1 ⟨rfl, rfl⟩)
    go_ret
    exact ⟨rfl, rfl⟩
  · skip
    have hd : decide (L.take 4 = M.bel4) = false := decide_eq_false fun e => by
      have := congrArg List.length e
      rw [List.length_take] at this
      simp [M.bel4] at this
      omega
    rw [hd]
    clear h hb hs hd
    generalize L.length = n at *
    go_enter Tryz.func29, Tryz.ntmps29
    go_wp2_with fail
    go_ret
    exact ⟨rfl, rfl⟩
theorem cut_no {w : World} {r o s c c' : Nat} {L : List Int} (h : Raw w r o c L) (hb : M.Bytes L) (hs : Raw w s 0 c' M.bel4) (hx : L.take 4 ≠ M.bel4) :
    Calls Tryz.prog 9 #[.slice (some ⟨r, o, none⟩) L.length c, .slice (some ⟨s, 0, none⟩) 4 c'] w fun e w' => e = .returned (.tuple #[.slice (some ⟨r, o, none⟩) L.length c, .bool false]) ∧ w' = w := by
  have H := Lib.hid (hasPrefix_any h hb hs)
  rw [decide_eq_false hx] at H
  clear h hb hs hx
  generalize L.length = n at *
  go_enter Tryz.func9, Tryz.ntmps9
  go_wp2_with fail
  refine H.out.mono ?_; rintro e w1 ⟨rfl, rfl⟩
  go_wp2_with fail
  go_ret2
  exact ⟨rfl, rfl⟩
/-- Where what follows the letters begins. -/
def past4 (r o c : Nat) : Addr := if c = 4 then ⟨r, o, none⟩ else ⟨r, o + 4, none⟩
theorem cut_yes {w : World} {r o s c c' : Nat} {L : List Int} (h : Raw w r o c L) (hb : M.Bytes L) (hs : Raw w s 0 c' M.bel4) (hx : L.take 4 = M.bel4) :
    Calls Tryz.prog 9 #[.slice (some ⟨r, o, none⟩) L.length c, .slice (some ⟨s, 0, none⟩) 4 c'] w fun e w' => e = .returned (.tuple #[.slice (some (past4 r o c)) (L.length - 4) (c - 4), .bool true]) ∧ w' = w := by
  have H := Lib.hid (hasPrefix_any h hb hs)
  rw [decide_eq_true hx] at H
  have hl := h.le
  have h4 : 4 ≤ L.length := by
    have := congrArg List.length hx
    rw [List.length_take] at this
    simp [M.bel4] at this
    omega
  clear h hb hs hx
  generalize L.length = n at *
  obtain ⟨hl1, hl2⟩ := hl
  unfold maxLen at hl2
  by_cases hc : c = 4
  · subst hc
    obtain rfl : n = 4 := by omega
    go_enter Tryz.func9, Tryz.ntmps9
    go_wp2_with fail
    refine H.out.mono ?_; rintro e w1 ⟨rfl, rfl⟩
    go_wp2_with fail
    go_ret2
    exact ⟨rfl, rfl⟩
  · skip
    have hp : past4 r o c = ⟨r, o + 4, none⟩ := by simp [past4, hc]
    rw [hp]
    clear hp
    go_enter Tryz.func9, Tryz.ntmps9
    go_wp2_with fail
    refine H.out.mono ?_; rintro e w1 ⟨rfl, rfl⟩
    go_wp2_with fail
    go_ret2
    exact ⟨rfl, rfl⟩
end Go.Proofs.YthlifflapgccbaaGreat
