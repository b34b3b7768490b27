/- CodeInstrs. -/
import Derived.Test.YtfbedcnibkkpmaaLives4
import Derived.Test.YtfbedcnibkkpmaaRefPlain0
import Derived.Test.YtfbedcnibkkpmaaRefPlain1
import Derived.Test.YtfbedcnibkkpmaaRefPlain2
import Derived.Test.YtfbedcnibkkpmaaRefPlain3
import Derived.Test.YtfbedcnibkkpmaaRefPlain4
namespace Go.Proofs.Ytfbedcnibkkpmaa
set_option linter.unusedVariables false
open Go.ChangeShapes Go.WideShapes Go.ChangeAt Go.RowKit
open M (W)
theorem refPlain_any (op d a b c n : Int) (la : Option Addr) (ll lc : Nat) (ma : Option Addr) (ml mc : Nat) (va : Option Addr) (vl vc : Nat) (w : World) :
    Calls Try.prog 12 #[.agg #[.int .i64 op, .int .i64 d, .int .i64 a, .int .i64 b, .int .i64 c, .int .i64 n, .slice la ll lc, .slice ma ml mc, .slice va vl vc]] w fun e w' => e = .returned (.bool (M.plain (M.uses op) d a b c n ll ml vl)) ∧ Still w w' := by
  by_cases h : op < 1 ∨ 23 < op
  · have hu := uses_out h
    rw [hu]
    exact refPlain_0 op d a b c n la ll lc ma ml mc va vl vc w hu
  · have hc : op = 1 ∨ op = 2 ∨ op = 3 ∨ op = 4 ∨ op = 5 ∨ op = 6 ∨ op = 7 ∨ op = 8 ∨ op = 9 ∨ op = 10 ∨ op = 11 ∨ op = 12 ∨ op = 13 ∨ op = 14 ∨ op = 15 ∨ op = 16 ∨ op = 17 ∨ op = 18 ∨ op = 19 ∨ op = 20 ∨ op = 21 ∨ op = 22 ∨ op = 23 := by omega
    rcases hc with rfl | rfl | rfl | rfl | rfl | rfl | rfl | rfl | rfl | rfl | rfl | rfl | rfl | rfl | rfl | rfl | rfl | rfl | rfl | rfl | rfl | rfl | rfl
    · exact refPlain_1 1 d a b c n la ll lc ma ml mc va vl vc w rfl
    · exact refPlain_2 2 d a b c n la ll lc ma ml mc va vl vc w rfl
    · exact refPlain_3 3 d a b c n la ll lc ma ml mc va vl vc w rfl
    · exact refPlain_4 4 d a b c n la ll lc ma ml mc va vl vc w rfl
    · exact refPlain_5 5 d a b c n la ll lc ma ml mc va vl vc w rfl
    · exact refPlain_6 6 d a b c n la ll lc ma ml mc va vl vc w rfl
    · exact refPlain_7 7 d a b c n la ll lc ma ml mc va vl vc w rfl
    · exact refPlain_8 8 d a b c n la ll lc ma ml mc va vl vc w rfl
    · exact refPlain_6 9 d a b c n la ll lc ma ml mc va vl vc w rfl
    · exact refPlain_7 10 d a b c n la ll lc ma ml mc va vl vc w rfl
    · exact refPlain_3 11 d a b c n la ll lc ma ml mc va vl vc w rfl
    · exact refPlain_6 12 d a b c n la ll lc ma ml mc va vl vc w rfl
    · exact refPlain_9 13 d a b c n la ll lc ma ml mc va vl vc w rfl
    · exact refPlain_6 14 d a b c n la ll lc ma ml mc va vl vc w rfl
    · exact refPlain_10 15 d a b c n la ll lc ma ml mc va vl vc w rfl
    · exact refPlain_14 16 d a b c n la ll lc ma ml mc va vl vc w rfl
    · exact refPlain_11 17 d a b c n la ll lc ma ml mc va vl vc w rfl
    · exact refPlain_14 18 d a b c n la ll lc ma ml mc va vl vc w rfl
    · exact refPlain_7 19 d a b c n la ll lc ma ml mc va vl vc w rfl
    · exact refPlain_12 20 d a b c n la ll lc ma ml mc va vl vc w rfl
    · exact refPlain_13 21 d a b c n la ll lc ma ml mc va vl vc w rfl
    · exact refPlain_14 22 d a b c n la ll lc ma ml mc va vl vc w rfl
    · exact refPlain_14 23 d a b c n la ll lc ma ml mc va vl vc w rfl
theorem insBox {w : World} {k : Nat} {t : TypeId} {xo xd xa xb xc xn : Int} {la : Option Addr} {ll lc : Nat} {ma : Option Addr} {ml mc : Nat} {va : Option Addr} {vl vc : Nat} (h : Blk w k t #[.int .i64 xo, .int .i64 xd, .int .i64 xa, .int .i64 xb, .int .i64 xc, .int .i64 xn, .slice la ll lc, .slice ma ml mc, .slice va vl vc]) :
    k < w.heap.size ∧ w.cell? ⟨k, 0, none⟩ = some (.int .i64 xo) ∧ w.cell? ⟨k, 1, none⟩ = some (.int .i64 xd) ∧ w.cell? ⟨k, 2, none⟩ = some (.int .i64 xa) ∧ w.cell? ⟨k, 3, none⟩ = some (.int .i64 xb) ∧ w.cell? ⟨k, 4, none⟩ = some (.int .i64 xc) ∧ w.cell? ⟨k, 5, none⟩ = some (.int .i64 xn) ∧ w.cell? ⟨k, 6, none⟩ = some (.slice la ll lc) ∧ w.cell? ⟨k, 7, none⟩ = some (.slice ma ml mc) ∧ w.cell? ⟨k, 8, none⟩ = some (.slice va vl vc) :=
  ⟨h.lt, h.cell 0, h.cell 1, h.cell 2, h.cell 3, h.cell 4, h.cell 5, h.cell 6, h.cell 7, h.cell 8⟩
set_option maxRecDepth 100000 in
set_option maxHeartbeats 8000000 in
theorem codeInstrs_w (xo xd xa xb xc xn : Int) (la : Option Addr) (ll lc : Nat) (ma : Option Addr) (ml mc : Nat) (va : Option Addr) (vl vc : Nat) (op : Int) (w : World) :
    Calls Try.prog 3 #[.agg #[.int .i64 xo, .int .i64 xd, .int .i64 xa, .int .i64 xb, .int .i64 xc, .int .i64 xn, .slice la ll lc, .slice ma ml mc, .slice va vl vc], .int .i64 op] w fun e w' => e = .returned (.bool true) ∧ Below w.heap.size w w' := by
  have T0 : Hid (Still w (w.alloc (.cells #[.int .i64 xo, .int .i64 xd, .int .i64 xa, .int .i64 xb, .int .i64 xc, .int .i64 xn, .slice la ll lc, .slice ma ml mc, .slice va vl vc] 24)).drew) := Turn.drew ((Still.refl w).alloc _)
  have HBX : Hid (Blk (w.alloc (.cells #[.int .i64 xo, .int .i64 xd, .int .i64 xa, .int .i64 xb, .int .i64 xc, .int .i64 xn, .slice la ll lc, .slice ma ml mc, .slice va vl vc] 24)).drew w.heap.size 24 #[.int .i64 xo, .int .i64 xd, .int .i64 xa, .int .i64 xb, .int .i64 xc, .int .i64 xn, .slice la ll lc, .slice ma ml mc, .slice va vl vc]) := Blk.new w _ _
  have HR1 := Lib.hid (refUses_any op (w.alloc (.cells #[.int .i64 xo, .int .i64 xd, .int .i64 xa, .int .i64 xb, .int .i64 xc, .int .i64 xn, .slice la ll lc, .slice ma ml mc, .slice va vl vc] 24)).drew)
  have s1 : ((M.uses op).toList == (M.uses op).toList) = true := by simp
  have s2 : ((M.uses xo).toList == (M.uses xo).toList) = true := by simp
  have s3 : (M.plain (M.uses xo) xd xa xb xc xn ll ml vl == M.plain (M.uses xo) xd xa xb xc xn ll ml vl) = true := by simp
  go_enter Try.func3, Try.ntmps3
  go_wp2_with fail
  refine wp_region_any (by kernel_rfl) ?_
  change wpAny _ _ _ _ _ _ _ (World.drew _)
  refine wpAny_take (i := 0) (v := ?_) rfl (by kernel_rfl) (by kernel_rfl) (by kernel_rfl) (fun _ _ _ h => h) (Or.inl ⟨by rfl, ?_⟩) ?_
  rotate_left
  · intro w; go_simp; try with_reducible rfl
  go_simp
  refine wpAny_take (i := 2) (v := ?_) rfl (by kernel_rfl) (by kernel_rfl) (by kernel_rfl) (fun _ _ _ h => h) (Or.inl ⟨by rfl, ?_⟩) ?_
  rotate_left
  · intro w; go_simp; try with_reducible rfl
  go_simp
  refine wpAny_ready (rs := [1]) (by kernel_rfl) (by simp) ?_
  refine AllReady.cons rfl (fun K hK => ?_) AllReady.nil
  go_simp
  go_wp2_with (first | (go_at_call 9; (with_reducible refine (uses_any _ _).mono ?_); rintro e w9 ⟨rfl, rfl⟩) | (go_at_call 10; (with_reducible refine HR1.out.mono ?_); rintro e w2 ⟨rfl, t2⟩; have T2 := Lib.hid (Still.trans T0.out t2); have hbx := t2.blk HBX.out; obtain ⟨bl, b0, b1, b2, b3, b4, b5, b6, b7, b8⟩ := insBox hbx; have HB2 := Lib.hid hbx; have HR2 := Lib.hid (refUses_any xo w2); clear t2 hbx HR1) | (go_at_call 10; (with_reducible refine HR2.out.mono ?_); rintro e w3 ⟨rfl, t3⟩; have T3 := Lib.hid (Still.trans T2.out t3); have hbx := t3.blk HB2.out; obtain ⟨bl, b0, b1, b2, b3, b4, b5, b6, b7, b8⟩ := insBox hbx; have HB3 := Lib.hid hbx; clear t3 hbx HR2) | (go_at_call 11; (with_reducible refine (plain_any xo xd xa xb xc xn la ll lc ma ml mc va vl vc _).mono ?_); rintro e w4 ⟨rfl, t4⟩; have T4 := Lib.hid (Still.trans T3.out t4); have hbx := t4.blk HB3.out; obtain ⟨bl, b0, b1, b2, b3, b4, b5, b6, b7, b8⟩ := insBox hbx; clear t4 hbx) | (go_at_call 12; (with_reducible refine (refPlain_any xo xd xa xb xc xn la ll lc ma ml mc va vl vc _).mono ?_); rintro e w5 ⟨rfl, t5⟩; have T5 := Lib.hid (Still.trans T4.out t5); clear t5) | (go_at_call 13; (with_reducible refine (lives4_any _).mono ?_); rintro e w6 ⟨rfl, b6⟩; have HB6 := Lib.hid b6; clear b6))
  refine wpAny_ready (rs := [3]) (by kernel_rfl) (by simp) ?_
  refine AllReady.cons rfl (fun K hK => ?_) AllReady.nil
  go_simp
  go_wp2_with (first | (go_at_call 9; (with_reducible refine (uses_any _ _).mono ?_); rintro e w9 ⟨rfl, rfl⟩) | (go_at_call 10; (with_reducible refine HR1.out.mono ?_); rintro e w2 ⟨rfl, t2⟩; have T2 := Lib.hid (Still.trans T0.out t2); have hbx := t2.blk HBX.out; obtain ⟨bl, b0, b1, b2, b3, b4, b5, b6, b7, b8⟩ := insBox hbx; have HB2 := Lib.hid hbx; have HR2 := Lib.hid (refUses_any xo w2); clear t2 hbx HR1) | (go_at_call 10; (with_reducible refine HR2.out.mono ?_); rintro e w3 ⟨rfl, t3⟩; have T3 := Lib.hid (Still.trans T2.out t3); have hbx := t3.blk HB2.out; obtain ⟨bl, b0, b1, b2, b3, b4, b5, b6, b7, b8⟩ := insBox hbx; have HB3 := Lib.hid hbx; clear t3 hbx HR2) | (go_at_call 11; (with_reducible refine (plain_any xo xd xa xb xc xn la ll lc ma ml mc va vl vc _).mono ?_); rintro e w4 ⟨rfl, t4⟩; have T4 := Lib.hid (Still.trans T3.out t4); have hbx := t4.blk HB3.out; obtain ⟨bl, b0, b1, b2, b3, b4, b5, b6, b7, b8⟩ := insBox hbx; clear t4 hbx) | (go_at_call 12; (with_reducible refine (refPlain_any xo xd xa xb xc xn la ll lc ma ml mc va vl vc _).mono ?_); rintro e w5 ⟨rfl, t5⟩; have T5 := Lib.hid (Still.trans T4.out t5); clear t5) | (go_at_call 13; (with_reducible refine (lives4_any _).mono ?_); rintro e w6 ⟨rfl, b6⟩; have HB6 := Lib.hid b6; clear b6))
  refine wpAny_take (i := 4) (v := ?_) rfl (by kernel_rfl) (by kernel_rfl) (by kernel_rfl) (fun _ _ _ h => h) (Or.inl ⟨by rfl, ?_⟩) ?_
  rotate_left
  · intro w; go_simp; try with_reducible rfl
  go_simp
  refine wpAny_take (i := 5) (v := ?_) rfl (by kernel_rfl) (by kernel_rfl) (by kernel_rfl) (fun _ _ _ h => h) (Or.inl ⟨by rfl, ?_⟩) ?_
  rotate_left
  · intro w; go_simp; try with_reducible rfl
  go_simp
  refine wpAny_take (i := 6) (v := ?_) rfl (by kernel_rfl) (by kernel_rfl) (by kernel_rfl) (fun _ _ _ h => h) (Or.inl ⟨by rfl, ?_⟩) ?_
  rotate_left
  · intro w; go_simp; try with_reducible rfl
  go_simp
  refine wpAny_take (i := 9) (v := ?_) rfl (by kernel_rfl) (by kernel_rfl) (by kernel_rfl) (fun _ _ _ h => h) (Or.inl ⟨by rfl, ?_⟩) ?_
  rotate_left
  · intro w; go_simp; try with_reducible rfl
  go_simp
  refine wpAny_ready (rs := [7, 10]) (by kernel_rfl) (by simp) ?_
  refine AllReady.cons rfl (fun K hK => ?_) (AllReady.cons rfl (fun K hK => ?_) AllReady.nil)
  · go_simp
    refine hK _ _ ?_; clear hK K
    refine wpAny_ready (rs := [8, 10]) (by kernel_rfl) (by simp) ?_
    refine AllReady.cons rfl (fun K hK => ?_) (AllReady.cons rfl (fun K hK => ?_) AllReady.nil)
    · go_simp
      go_wp2_with (first | (go_at_call 9; (with_reducible refine (uses_any _ _).mono ?_); rintro e w9 ⟨rfl, rfl⟩) | (go_at_call 10; (with_reducible refine HR1.out.mono ?_); rintro e w2 ⟨rfl, t2⟩; have T2 := Lib.hid (Still.trans T0.out t2); have hbx := t2.blk HBX.out; obtain ⟨bl, b0, b1, b2, b3, b4, b5, b6, b7, b8⟩ := insBox hbx; have HB2 := Lib.hid hbx; have HR2 := Lib.hid (refUses_any xo w2); clear t2 hbx HR1) | (go_at_call 10; (with_reducible refine HR2.out.mono ?_); rintro e w3 ⟨rfl, t3⟩; have T3 := Lib.hid (Still.trans T2.out t3); have hbx := t3.blk HB2.out; obtain ⟨bl, b0, b1, b2, b3, b4, b5, b6, b7, b8⟩ := insBox hbx; have HB3 := Lib.hid hbx; clear t3 hbx HR2) | (go_at_call 11; (with_reducible refine (plain_any xo xd xa xb xc xn la ll lc ma ml mc va vl vc _).mono ?_); rintro e w4 ⟨rfl, t4⟩; have T4 := Lib.hid (Still.trans T3.out t4); have hbx := t4.blk HB3.out; obtain ⟨bl, b0, b1, b2, b3, b4, b5, b6, b7, b8⟩ := insBox hbx; clear t4 hbx) | (go_at_call 12; (with_reducible refine (refPlain_any xo xd xa xb xc xn la ll lc ma ml mc va vl vc _).mono ?_); rintro e w5 ⟨rfl, t5⟩; have T5 := Lib.hid (Still.trans T4.out t5); clear t5) | (go_at_call 13; (with_reducible refine (lives4_any _).mono ?_); rintro e w6 ⟨rfl, b6⟩; have HB6 := Lib.hid b6; clear b6))
      refine wpAny_ready (rs := [10]) (by kernel_rfl) (by simp) ?_
      refine AllReady.cons rfl (fun K hK => ?_) AllReady.nil
      go_simp
      refine hK _ _ ?_; clear hK K
      refine wpAny_ready (rs := [11]) (by kernel_rfl) (by simp) ?_
      refine AllReady.cons rfl (fun K hK => ?_) AllReady.nil
      go_simp
      go_wp2_with (first | (go_at_call 9; (with_reducible refine (uses_any _ _).mono ?_); rintro e w9 ⟨rfl, rfl⟩) | (go_at_call 10; (with_reducible refine HR1.out.mono ?_); rintro e w2 ⟨rfl, t2⟩; have T2 := Lib.hid (Still.trans T0.out t2); have hbx := t2.blk HBX.out; obtain ⟨bl, b0, b1, b2, b3, b4, b5, b6, b7, b8⟩ := insBox hbx; have HB2 := Lib.hid hbx; have HR2 := Lib.hid (refUses_any xo w2); clear t2 hbx HR1) | (go_at_call 10; (with_reducible refine HR2.out.mono ?_); rintro e w3 ⟨rfl, t3⟩; have T3 := Lib.hid (Still.trans T2.out t3); have hbx := t3.blk HB2.out; obtain ⟨bl, b0, b1, b2, b3, b4, b5, b6, b7, b8⟩ := insBox hbx; have HB3 := Lib.hid hbx; clear t3 hbx HR2) | (go_at_call 11; (with_reducible refine (plain_any xo xd xa xb xc xn la ll lc ma ml mc va vl vc _).mono ?_); rintro e w4 ⟨rfl, t4⟩; have T4 := Lib.hid (Still.trans T3.out t4); have hbx := t4.blk HB3.out; obtain ⟨bl, b0, b1, b2, b3, b4, b5, b6, b7, b8⟩ := insBox hbx; clear t4 hbx) | (go_at_call 12; (with_reducible refine (refPlain_any xo xd xa xb xc xn la ll lc ma ml mc va vl vc _).mono ?_); rintro e w5 ⟨rfl, t5⟩; have T5 := Lib.hid (Still.trans T4.out t5); clear t5) | (go_at_call 13; (with_reducible refine (lives4_any _).mono ?_); rintro e w6 ⟨rfl, b6⟩; have HB6 := Lib.hid b6; clear b6))
      refine wpAny_take (i := 12) (v := ?_) rfl (by kernel_rfl) (by kernel_rfl) (by kernel_rfl) (fun _ _ _ h => h) (Or.inl ⟨by rfl, ?_⟩) ?_
      rotate_left
      · intro w; go_simp; try with_reducible rfl
      go_simp
      refine wpAny_take (i := 13) (v := ?_) rfl (by kernel_rfl) (by kernel_rfl) (by kernel_rfl) (fun _ _ _ h => h) (Or.inl ⟨by rfl, ?_⟩) ?_
      rotate_left
      · intro w; go_simp; try with_reducible rfl
      go_simp
      refine wpAny_take (i := 14) (v := ?_) rfl (by kernel_rfl) (by kernel_rfl) (by kernel_rfl) (fun _ _ _ h => h) (Or.inl ⟨by rfl, ?_⟩) ?_
      rotate_left
      · intro w; go_simp; try with_reducible rfl
      go_simp
      refine wpAny_ready (rs := [15, 17]) (by kernel_rfl) (by simp) ?_
      refine AllReady.cons rfl (fun K hK => ?_) (AllReady.cons rfl (fun K hK => ?_) AllReady.nil)
      · go_simp
        refine hK _ _ ?_; clear hK K
        refine wpAny_ready (rs := [16, 17]) (by kernel_rfl) (by simp) ?_
        refine AllReady.cons rfl (fun K hK => ?_) (AllReady.cons rfl (fun K hK => ?_) AllReady.nil)
        · go_simp
          go_wp2_with (first | (go_at_call 9; (with_reducible refine (uses_any _ _).mono ?_); rintro e w9 ⟨rfl, rfl⟩) | (go_at_call 10; (with_reducible refine HR1.out.mono ?_); rintro e w2 ⟨rfl, t2⟩; have T2 := Lib.hid (Still.trans T0.out t2); have hbx := t2.blk HBX.out; obtain ⟨bl, b0, b1, b2, b3, b4, b5, b6, b7, b8⟩ := insBox hbx; have HB2 := Lib.hid hbx; have HR2 := Lib.hid (refUses_any xo w2); clear t2 hbx HR1) | (go_at_call 10; (with_reducible refine HR2.out.mono ?_); rintro e w3 ⟨rfl, t3⟩; have T3 := Lib.hid (Still.trans T2.out t3); have hbx := t3.blk HB2.out; obtain ⟨bl, b0, b1, b2, b3, b4, b5, b6, b7, b8⟩ := insBox hbx; have HB3 := Lib.hid hbx; clear t3 hbx HR2) | (go_at_call 11; (with_reducible refine (plain_any xo xd xa xb xc xn la ll lc ma ml mc va vl vc _).mono ?_); rintro e w4 ⟨rfl, t4⟩; have T4 := Lib.hid (Still.trans T3.out t4); have hbx := t4.blk HB3.out; obtain ⟨bl, b0, b1, b2, b3, b4, b5, b6, b7, b8⟩ := insBox hbx; clear t4 hbx) | (go_at_call 12; (with_reducible refine (refPlain_any xo xd xa xb xc xn la ll lc ma ml mc va vl vc _).mono ?_); rintro e w5 ⟨rfl, t5⟩; have T5 := Lib.hid (Still.trans T4.out t5); clear t5) | (go_at_call 13; (with_reducible refine (lives4_any _).mono ?_); rintro e w6 ⟨rfl, b6⟩; have HB6 := Lib.hid b6; clear b6))
          refine wpAny_ready (rs := [17]) (by kernel_rfl) (by simp) ?_
          refine AllReady.cons rfl (fun K hK => ?_) AllReady.nil
          go_simp
          refine hK _ _ ?_; clear hK K
          refine wpAny_ready (rs := [18]) (by kernel_rfl) (by simp) ?_
          refine AllReady.cons rfl (fun K hK => ?_) AllReady.nil
          go_simp
          go_wp2_with (first | (go_at_call 9; (with_reducible refine (uses_any _ _).mono ?_); rintro e w9 ⟨rfl, rfl⟩) | (go_at_call 10; (with_reducible refine HR1.out.mono ?_); rintro e w2 ⟨rfl, t2⟩; have T2 := Lib.hid (Still.trans T0.out t2); have hbx := t2.blk HBX.out; obtain ⟨bl, b0, b1, b2, b3, b4, b5, b6, b7, b8⟩ := insBox hbx; have HB2 := Lib.hid hbx; have HR2 := Lib.hid (refUses_any xo w2); clear t2 hbx HR1) | (go_at_call 10; (with_reducible refine HR2.out.mono ?_); rintro e w3 ⟨rfl, t3⟩; have T3 := Lib.hid (Still.trans T2.out t3); have hbx := t3.blk HB2.out; obtain ⟨bl, b0, b1, b2, b3, b4, b5, b6, b7, b8⟩ := insBox hbx; have HB3 := Lib.hid hbx; clear t3 hbx HR2) | (go_at_call 11; (with_reducible refine (plain_any xo xd xa xb xc xn la ll lc ma ml mc va vl vc _).mono ?_); rintro e w4 ⟨rfl, t4⟩; have T4 := Lib.hid (Still.trans T3.out t4); have hbx := t4.blk HB3.out; obtain ⟨bl, b0, b1, b2, b3, b4, b5, b6, b7, b8⟩ := insBox hbx; clear t4 hbx) | (go_at_call 12; (with_reducible refine (refPlain_any xo xd xa xb xc xn la ll lc ma ml mc va vl vc _).mono ?_); rintro e w5 ⟨rfl, t5⟩; have T5 := Lib.hid (Still.trans T4.out t5); clear t5) | (go_at_call 13; (with_reducible refine (lives4_any _).mono ?_); rintro e w6 ⟨rfl, b6⟩; have HB6 := Lib.hid b6; clear b6))
          refine wpAny_take (i := 19) (v := ?_) rfl (by kernel_rfl) (by kernel_rfl) (by kernel_rfl) (fun _ _ _ h => h) (Or.inl ⟨by rfl, ?_⟩) ?_
          rotate_left
          · intro w; go_simp; try with_reducible rfl
          go_simp
          refine wpAny_take (i := 20) (v := ?_) rfl (by kernel_rfl) (by kernel_rfl) (by kernel_rfl) (fun _ _ _ h => h) (Or.inl ⟨by rfl, ?_⟩) ?_
          rotate_left
          · intro w; go_simp; try with_reducible rfl
          go_simp
          refine wpAny_take (i := 21) (v := ?_) rfl (by kernel_rfl) (by kernel_rfl) (by kernel_rfl) (fun _ _ _ h => h) (Or.inl ⟨by rfl, ?_⟩) ?_
          rotate_left
          · intro w; go_simp; try with_reducible rfl
          go_simp
          refine wpAny_ready (rs := [22]) (by kernel_rfl) (by simp) ?_
          refine AllReady.cons rfl (fun K hK => ?_) AllReady.nil
          go_simp
          go_wp2_with (first | (go_at_call 9; (with_reducible refine (uses_any _ _).mono ?_); rintro e w9 ⟨rfl, rfl⟩) | (go_at_call 10; (with_reducible refine HR1.out.mono ?_); rintro e w2 ⟨rfl, t2⟩; have T2 := Lib.hid (Still.trans T0.out t2); have hbx := t2.blk HBX.out; obtain ⟨bl, b0, b1, b2, b3, b4, b5, b6, b7, b8⟩ := insBox hbx; have HB2 := Lib.hid hbx; have HR2 := Lib.hid (refUses_any xo w2); clear t2 hbx HR1) | (go_at_call 10; (with_reducible refine HR2.out.mono ?_); rintro e w3 ⟨rfl, t3⟩; have T3 := Lib.hid (Still.trans T2.out t3); have hbx := t3.blk HB2.out; obtain ⟨bl, b0, b1, b2, b3, b4, b5, b6, b7, b8⟩ := insBox hbx; have HB3 := Lib.hid hbx; clear t3 hbx HR2) | (go_at_call 11; (with_reducible refine (plain_any xo xd xa xb xc xn la ll lc ma ml mc va vl vc _).mono ?_); rintro e w4 ⟨rfl, t4⟩; have T4 := Lib.hid (Still.trans T3.out t4); have hbx := t4.blk HB3.out; obtain ⟨bl, b0, b1, b2, b3, b4, b5, b6, b7, b8⟩ := insBox hbx; clear t4 hbx) | (go_at_call 12; (with_reducible refine (refPlain_any xo xd xa xb xc xn la ll lc ma ml mc va vl vc _).mono ?_); rintro e w5 ⟨rfl, t5⟩; have T5 := Lib.hid (Still.trans T4.out t5); clear t5) | (go_at_call 13; (with_reducible refine (lives4_any _).mono ?_); rintro e w6 ⟨rfl, b6⟩; have HB6 := Lib.hid b6; clear b6))
          refine wpAny_take (i := 23) (v := ?_) rfl (by kernel_rfl) (by kernel_rfl) (by kernel_rfl) (fun _ _ _ h => h) (Or.inl ⟨by rfl, ?_⟩) ?_
          rotate_left
          · intro w; go_simp; try with_reducible rfl
          go_simp
          refine wpAny_take (i := 24) (v := ?_) rfl (by kernel_rfl) (by kernel_rfl) (by kernel_rfl) (fun _ _ _ h => h) (Or.inl ⟨by rfl, ?_⟩) ?_
          rotate_left
          · intro w; go_simp; try with_reducible rfl
          go_simp
          refine wpAny_done (by kernel_rfl) ?_ _
          go_wp2_with fail
          go_ret
          exact ⟨rfl, (Still.below T5.out).trans (HB6.out.mono T5.out.size)⟩
        · go_simp
          refine hK _ _ ?_; clear hK K
          refine wpAny_ready (rs := [16]) (by kernel_rfl) (by simp) ?_
          refine AllReady.cons rfl (fun K hK => ?_) AllReady.nil
          go_simp
          go_wp2_with (first | (go_at_call 9; (with_reducible refine (uses_any _ _).mono ?_); rintro e w9 ⟨rfl, rfl⟩) | (go_at_call 10; (with_reducible refine HR1.out.mono ?_); rintro e w2 ⟨rfl, t2⟩; have T2 := Lib.hid (Still.trans T0.out t2); have hbx := t2.blk HBX.out; obtain ⟨bl, b0, b1, b2, b3, b4, b5, b6, b7, b8⟩ := insBox hbx; have HB2 := Lib.hid hbx; have HR2 := Lib.hid (refUses_any xo w2); clear t2 hbx HR1) | (go_at_call 10; (with_reducible refine HR2.out.mono ?_); rintro e w3 ⟨rfl, t3⟩; have T3 := Lib.hid (Still.trans T2.out t3); have hbx := t3.blk HB2.out; obtain ⟨bl, b0, b1, b2, b3, b4, b5, b6, b7, b8⟩ := insBox hbx; have HB3 := Lib.hid hbx; clear t3 hbx HR2) | (go_at_call 11; (with_reducible refine (plain_any xo xd xa xb xc xn la ll lc ma ml mc va vl vc _).mono ?_); rintro e w4 ⟨rfl, t4⟩; have T4 := Lib.hid (Still.trans T3.out t4); have hbx := t4.blk HB3.out; obtain ⟨bl, b0, b1, b2, b3, b4, b5, b6, b7, b8⟩ := insBox hbx; clear t4 hbx) | (go_at_call 12; (with_reducible refine (refPlain_any xo xd xa xb xc xn la ll lc ma ml mc va vl vc _).mono ?_); rintro e w5 ⟨rfl, t5⟩; have T5 := Lib.hid (Still.trans T4.out t5); clear t5) | (go_at_call 13; (with_reducible refine (lives4_any _).mono ?_); rintro e w6 ⟨rfl, b6⟩; have HB6 := Lib.hid b6; clear b6))
          refine wpAny_ready (rs := [18]) (by kernel_rfl) (by simp) ?_
          refine AllReady.cons rfl (fun K hK => ?_) AllReady.nil
          go_simp
          go_wp2_with (first | (go_at_call 9; (with_reducible refine (uses_any _ _).mono ?_); rintro e w9 ⟨rfl, rfl⟩) | (go_at_call 10; (with_reducible refine HR1.out.mono ?_); rintro e w2 ⟨rfl, t2⟩; have T2 := Lib.hid (Still.trans T0.out t2); have hbx := t2.blk HBX.out; obtain ⟨bl, b0, b1, b2, b3, b4, b5, b6, b7, b8⟩ := insBox hbx; have HB2 := Lib.hid hbx; have HR2 := Lib.hid (refUses_any xo w2); clear t2 hbx HR1) | (go_at_call 10; (with_reducible refine HR2.out.mono ?_); rintro e w3 ⟨rfl, t3⟩; have T3 := Lib.hid (Still.trans T2.out t3); have hbx := t3.blk HB2.out; obtain ⟨bl, b0, b1, b2, b3, b4, b5, b6, b7, b8⟩ := insBox hbx; have HB3 := Lib.hid hbx; clear t3 hbx HR2) | (go_at_call 11; (with_reducible refine (plain_any xo xd xa xb xc xn la ll lc ma ml mc va vl vc _).mono ?_); rintro e w4 ⟨rfl, t4⟩; have T4 := Lib.hid (Still.trans T3.out t4); have hbx := t4.blk HB3.out; obtain ⟨bl, b0, b1, b2, b3, b4, b5, b6, b7, b8⟩ := insBox hbx; clear t4 hbx) | (go_at_call 12; (with_reducible refine (refPlain_any xo xd xa xb xc xn la ll lc ma ml mc va vl vc _).mono ?_); rintro e w5 ⟨rfl, t5⟩; have T5 := Lib.hid (Still.trans T4.out t5); clear t5) | (go_at_call 13; (with_reducible refine (lives4_any _).mono ?_); rintro e w6 ⟨rfl, b6⟩; have HB6 := Lib.hid b6; clear b6))
          refine wpAny_take (i := 19) (v := ?_) rfl (by kernel_rfl) (by kernel_rfl) (by kernel_rfl) (fun _ _ _ h => h) (Or.inl ⟨by rfl, ?_⟩) ?_
          rotate_left
          · intro w; go_simp; try with_reducible rfl
          go_simp
          refine wpAny_take (i := 20) (v := ?_) rfl (by kernel_rfl) (by kernel_rfl) (by kernel_rfl) (fun _ _ _ h => h) (Or.inl ⟨by rfl, ?_⟩) ?_
          rotate_left
          · intro w; go_simp; try with_reducible rfl
          go_simp
          refine wpAny_take (i := 21) (v := ?_) rfl (by kernel_rfl) (by kernel_rfl) (by kernel_rfl) (fun _ _ _ h => h) (Or.inl ⟨by rfl, ?_⟩) ?_
          rotate_left
          · intro w; go_simp; try with_reducible rfl
          go_simp
          refine wpAny_ready (rs := [22]) (by kernel_rfl) (by simp) ?_
          refine AllReady.cons rfl (fun K hK => ?_) AllReady.nil
          go_simp
          go_wp2_with (first | (go_at_call 9; (with_reducible refine (uses_any _ _).mono ?_); rintro e w9 ⟨rfl, rfl⟩) | (go_at_call 10; (with_reducible refine HR1.out.mono ?_); rintro e w2 ⟨rfl, t2⟩; have T2 := Lib.hid (Still.trans T0.out t2); have hbx := t2.blk HBX.out; obtain ⟨bl, b0, b1, b2, b3, b4, b5, b6, b7, b8⟩ := insBox hbx; have HB2 := Lib.hid hbx; have HR2 := Lib.hid (refUses_any xo w2); clear t2 hbx HR1) | (go_at_call 10; (with_reducible refine HR2.out.mono ?_); rintro e w3 ⟨rfl, t3⟩; have T3 := Lib.hid (Still.trans T2.out t3); have hbx := t3.blk HB2.out; obtain ⟨bl, b0, b1, b2, b3, b4, b5, b6, b7, b8⟩ := insBox hbx; have HB3 := Lib.hid hbx; clear t3 hbx HR2) | (go_at_call 11; (with_reducible refine (plain_any xo xd xa xb xc xn la ll lc ma ml mc va vl vc _).mono ?_); rintro e w4 ⟨rfl, t4⟩; have T4 := Lib.hid (Still.trans T3.out t4); have hbx := t4.blk HB3.out; obtain ⟨bl, b0, b1, b2, b3, b4, b5, b6, b7, b8⟩ := insBox hbx; clear t4 hbx) | (go_at_call 12; (with_reducible refine (refPlain_any xo xd xa xb xc xn la ll lc ma ml mc va vl vc _).mono ?_); rintro e w5 ⟨rfl, t5⟩; have T5 := Lib.hid (Still.trans T4.out t5); clear t5) | (go_at_call 13; (with_reducible refine (lives4_any _).mono ?_); rintro e w6 ⟨rfl, b6⟩; have HB6 := Lib.hid b6; clear b6))
          refine wpAny_take (i := 23) (v := ?_) rfl (by kernel_rfl) (by kernel_rfl) (by kernel_rfl) (fun _ _ _ h => h) (Or.inl ⟨by rfl, ?_⟩) ?_
          rotate_left
          · intro w; go_simp; try with_reducible rfl
          go_simp
          refine wpAny_take (i := 24) (v := ?_) rfl (by kernel_rfl) (by kernel_rfl) (by kernel_rfl) (fun _ _ _ h => h) (Or.inl ⟨by rfl, ?_⟩) ?_
          rotate_left
          · intro w; go_simp; try with_reducible rfl
          go_simp
          refine wpAny_done (by kernel_rfl) ?_ _
          go_wp2_with fail
          go_ret
          exact ⟨rfl, (Still.below T5.out).trans (HB6.out.mono T5.out.size)⟩
      · go_simp
        refine hK _ _ ?_; clear hK K
        refine wpAny_ready (rs := [15]) (by kernel_rfl) (by simp) ?_
        refine AllReady.cons rfl (fun K hK => ?_) AllReady.nil
        go_simp
        refine hK _ _ ?_; clear hK K
        refine wpAny_ready (rs := [16]) (by kernel_rfl) (by simp) ?_
        refine AllReady.cons rfl (fun K hK => ?_) AllReady.nil
        go_simp
        go_wp2_with (first | (go_at_call 9; (with_reducible refine (uses_any _ _).mono ?_); rintro e w9 ⟨rfl, rfl⟩) | (go_at_call 10; (with_reducible refine HR1.out.mono ?_); rintro e w2 ⟨rfl, t2⟩; have T2 := Lib.hid (Still.trans T0.out t2); have hbx := t2.blk HBX.out; obtain ⟨bl, b0, b1, b2, b3, b4, b5, b6, b7, b8⟩ := insBox hbx; have HB2 := Lib.hid hbx; have HR2 := Lib.hid (refUses_any xo w2); clear t2 hbx HR1) | (go_at_call 10; (with_reducible refine HR2.out.mono ?_); rintro e w3 ⟨rfl, t3⟩; have T3 := Lib.hid (Still.trans T2.out t3); have hbx := t3.blk HB2.out; obtain ⟨bl, b0, b1, b2, b3, b4, b5, b6, b7, b8⟩ := insBox hbx; have HB3 := Lib.hid hbx; clear t3 hbx HR2) | (go_at_call 11; (with_reducible refine (plain_any xo xd xa xb xc xn la ll lc ma ml mc va vl vc _).mono ?_); rintro e w4 ⟨rfl, t4⟩; have T4 := Lib.hid (Still.trans T3.out t4); have hbx := t4.blk HB3.out; obtain ⟨bl, b0, b1, b2, b3, b4, b5, b6, b7, b8⟩ := insBox hbx; clear t4 hbx) | (go_at_call 12; (with_reducible refine (refPlain_any xo xd xa xb xc xn la ll lc ma ml mc va vl vc _).mono ?_); rintro e w5 ⟨rfl, t5⟩; have T5 := Lib.hid (Still.trans T4.out t5); clear t5) | (go_at_call 13; (with_reducible refine (lives4_any _).mono ?_); rintro e w6 ⟨rfl, b6⟩; have HB6 := Lib.hid b6; clear b6))
        refine wpAny_ready (rs := [18]) (by kernel_rfl) (by simp) ?_
        refine AllReady.cons rfl (fun K hK => ?_) AllReady.nil
        go_simp
        go_wp2_with (first | (go_at_call 9; (with_reducible refine (uses_any _ _).mono ?_); rintro e w9 ⟨rfl, rfl⟩) | (go_at_call 10; (with_reducible refine HR1.out.mono ?_); rintro e w2 ⟨rfl, t2⟩; have T2 := Lib.hid (Still.trans T0.out t2); have hbx := t2.blk HBX.out; obtain ⟨bl, b0, b1, b2, b3, b4, b5, b6, b7, b8⟩ := insBox hbx; have HB2 := Lib.hid hbx; have HR2 := Lib.hid (refUses_any xo w2); clear t2 hbx HR1) | (go_at_call 10; (with_reducible refine HR2.out.mono ?_); rintro e w3 ⟨rfl, t3⟩; have T3 := Lib.hid (Still.trans T2.out t3); have hbx := t3.blk HB2.out; obtain ⟨bl, b0, b1, b2, b3, b4, b5, b6, b7, b8⟩ := insBox hbx; have HB3 := Lib.hid hbx; clear t3 hbx HR2) | (go_at_call 11; (with_reducible refine (plain_any xo xd xa xb xc xn la ll lc ma ml mc va vl vc _).mono ?_); rintro e w4 ⟨rfl, t4⟩; have T4 := Lib.hid (Still.trans T3.out t4); have hbx := t4.blk HB3.out; obtain ⟨bl, b0, b1, b2, b3, b4, b5, b6, b7, b8⟩ := insBox hbx; clear t4 hbx) | (go_at_call 12; (with_reducible refine (refPlain_any xo xd xa xb xc xn la ll lc ma ml mc va vl vc _).mono ?_); rintro e w5 ⟨rfl, t5⟩; have T5 := Lib.hid (Still.trans T4.out t5); clear t5) | (go_at_call 13; (with_reducible refine (lives4_any _).mono ?_); rintro e w6 ⟨rfl, b6⟩; have HB6 := Lib.hid b6; clear b6))
        refine wpAny_take (i := 19) (v := ?_) rfl (by kernel_rfl) (by kernel_rfl) (by kernel_rfl) (fun _ _ _ h => h) (Or.inl ⟨by rfl, ?_⟩) ?_
        rotate_left
        · intro w; go_simp; try with_reducible rfl
        go_simp
        refine wpAny_take (i := 20) (v := ?_) rfl (by kernel_rfl) (by kernel_rfl) (by kernel_rfl) (fun _ _ _ h => h) (Or.inl ⟨by rfl, ?_⟩) ?_
        rotate_left
        · intro w; go_simp; try with_reducible rfl
        go_simp
        refine wpAny_take (i := 21) (v := ?_) rfl (by kernel_rfl) (by kernel_rfl) (by kernel_rfl) (fun _ _ _ h => h) (Or.inl ⟨by rfl, ?_⟩) ?_
        rotate_left
        · intro w; go_simp; try with_reducible rfl
        go_simp
        refine wpAny_ready (rs := [22]) (by kernel_rfl) (by simp) ?_
        refine AllReady.cons rfl (fun K hK => ?_) AllReady.nil
        go_simp
        go_wp2_with (first | (go_at_call 9; (with_reducible refine (uses_any _ _).mono ?_); rintro e w9 ⟨rfl, rfl⟩) | (go_at_call 10; (with_reducible refine HR1.out.mono ?_); rintro e w2 ⟨rfl, t2⟩; have T2 := Lib.hid (Still.trans T0.out t2); have hbx := t2.blk HBX.out; obtain ⟨bl, b0, b1, b2, b3, b4, b5, b6, b7, b8⟩ := insBox hbx; have HB2 := Lib.hid hbx; have HR2 := Lib.hid (refUses_any xo w2); clear t2 hbx HR1) | (go_at_call 10; (with_reducible refine HR2.out.mono ?_); rintro e w3 ⟨rfl, t3⟩; have T3 := Lib.hid (Still.trans T2.out t3); have hbx := t3.blk HB2.out; obtain ⟨bl, b0, b1, b2, b3, b4, b5, b6, b7, b8⟩ := insBox hbx; have HB3 := Lib.hid hbx; clear t3 hbx HR2) | (go_at_call 11; (with_reducible refine (plain_any xo xd xa xb xc xn la ll lc ma ml mc va vl vc _).mono ?_); rintro e w4 ⟨rfl, t4⟩; have T4 := Lib.hid (Still.trans T3.out t4); have hbx := t4.blk HB3.out; obtain ⟨bl, b0, b1, b2, b3, b4, b5, b6, b7, b8⟩ := insBox hbx; clear t4 hbx) | (go_at_call 12; (with_reducible refine (refPlain_any xo xd xa xb xc xn la ll lc ma ml mc va vl vc _).mono ?_); rintro e w5 ⟨rfl, t5⟩; have T5 := Lib.hid (Still.trans T4.out t5); clear t5) | (go_at_call 13; (with_reducible refine (lives4_any _).mono ?_); rintro e w6 ⟨rfl, b6⟩; have HB6 := Lib.hid b6; clear b6))
        refine wpAny_take (i := 23) (v := ?_) rfl (by kernel_rfl) (by kernel_rfl) (by kernel_rfl) (fun _ _ _ h => h) (Or.inl ⟨by rfl, ?_⟩) ?_
        rotate_left
        · intro w; go_simp; try with_reducible rfl
        go_simp
        refine wpAny_take (i := 24) (v := ?_) rfl (by kernel_rfl) (by kernel_rfl) (by kernel_rfl) (fun _ _ _ h => h) (Or.inl ⟨by rfl, ?_⟩) ?_
        rotate_left
        · intro w; go_simp; try with_reducible rfl
        go_simp
        refine wpAny_done (by kernel_rfl) ?_ _
        go_wp2_with fail
        go_ret
        exact ⟨rfl, (Still.below T5.out).trans (HB6.out.mono T5.out.size)⟩
    · go_simp
      refine hK _ _ ?_; clear hK K
      refine wpAny_ready (rs := [8]) (by kernel_rfl) (by simp) ?_
      refine AllReady.cons rfl (fun K hK => ?_) AllReady.nil
      go_simp
      go_wp2_with (first | (go_at_call 9; (with_reducible refine (uses_any _ _).mono ?_); rintro e w9 ⟨rfl, rfl⟩) | (go_at_call 10; (with_reducible refine HR1.out.mono ?_); rintro e w2 ⟨rfl, t2⟩; have T2 := Lib.hid (Still.trans T0.out t2); have hbx := t2.blk HBX.out; obtain ⟨bl, b0, b1, b2, b3, b4, b5, b6, b7, b8⟩ := insBox hbx; have HB2 := Lib.hid hbx; have HR2 := Lib.hid (refUses_any xo w2); clear t2 hbx HR1) | (go_at_call 10; (with_reducible refine HR2.out.mono ?_); rintro e w3 ⟨rfl, t3⟩; have T3 := Lib.hid (Still.trans T2.out t3); have hbx := t3.blk HB2.out; obtain ⟨bl, b0, b1, b2, b3, b4, b5, b6, b7, b8⟩ := insBox hbx; have HB3 := Lib.hid hbx; clear t3 hbx HR2) | (go_at_call 11; (with_reducible refine (plain_any xo xd xa xb xc xn la ll lc ma ml mc va vl vc _).mono ?_); rintro e w4 ⟨rfl, t4⟩; have T4 := Lib.hid (Still.trans T3.out t4); have hbx := t4.blk HB3.out; obtain ⟨bl, b0, b1, b2, b3, b4, b5, b6, b7, b8⟩ := insBox hbx; clear t4 hbx) | (go_at_call 12; (with_reducible refine (refPlain_any xo xd xa xb xc xn la ll lc ma ml mc va vl vc _).mono ?_); rintro e w5 ⟨rfl, t5⟩; have T5 := Lib.hid (Still.trans T4.out t5); clear t5) | (go_at_call 13; (with_reducible refine (lives4_any _).mono ?_); rintro e w6 ⟨rfl, b6⟩; have HB6 := Lib.hid b6; clear b6))
      refine wpAny_ready (rs := [11]) (by kernel_rfl) (by simp) ?_
      refine AllReady.cons rfl (fun K hK => ?_) AllReady.nil
      go_simp
      go_wp2_with (first | (go_at_call 9; (with_reducible refine (uses_any _ _).mono ?_); rintro e w9 ⟨rfl, rfl⟩) | (go_at_call 10; (with_reducible refine HR1.out.mono ?_); rintro e w2 ⟨rfl, t2⟩; have T2 := Lib.hid (Still.trans T0.out t2); have hbx := t2.blk HBX.out; obtain ⟨bl, b0, b1, b2, b3, b4, b5, b6, b7, b8⟩ := insBox hbx; have HB2 := Lib.hid hbx; have HR2 := Lib.hid (refUses_any xo w2); clear t2 hbx HR1) | (go_at_call 10; (with_reducible refine HR2.out.mono ?_); rintro e w3 ⟨rfl, t3⟩; have T3 := Lib.hid (Still.trans T2.out t3); have hbx := t3.blk HB2.out; obtain ⟨bl, b0, b1, b2, b3, b4, b5, b6, b7, b8⟩ := insBox hbx; have HB3 := Lib.hid hbx; clear t3 hbx HR2) | (go_at_call 11; (with_reducible refine (plain_any xo xd xa xb xc xn la ll lc ma ml mc va vl vc _).mono ?_); rintro e w4 ⟨rfl, t4⟩; have T4 := Lib.hid (Still.trans T3.out t4); have hbx := t4.blk HB3.out; obtain ⟨bl, b0, b1, b2, b3, b4, b5, b6, b7, b8⟩ := insBox hbx; clear t4 hbx) | (go_at_call 12; (with_reducible refine (refPlain_any xo xd xa xb xc xn la ll lc ma ml mc va vl vc _).mono ?_); rintro e w5 ⟨rfl, t5⟩; have T5 := Lib.hid (Still.trans T4.out t5); clear t5) | (go_at_call 13; (with_reducible refine (lives4_any _).mono ?_); rintro e w6 ⟨rfl, b6⟩; have HB6 := Lib.hid b6; clear b6))
      refine wpAny_take (i := 12) (v := ?_) rfl (by kernel_rfl) (by kernel_rfl) (by kernel_rfl) (fun _ _ _ h => h) (Or.inl ⟨by rfl, ?_⟩) ?_
      rotate_left
      · intro w; go_simp; try with_reducible rfl
      go_simp
      refine wpAny_take (i := 13) (v := ?_) rfl (by kernel_rfl) (by kernel_rfl) (by kernel_rfl) (fun _ _ _ h => h) (Or.inl ⟨by rfl, ?_⟩) ?_
      rotate_left
      · intro w; go_simp; try with_reducible rfl
      go_simp
      refine wpAny_take (i := 14) (v := ?_) rfl (by kernel_rfl) (by kernel_rfl) (by kernel_rfl) (fun _ _ _ h => h) (Or.inl ⟨by rfl, ?_⟩) ?_
      rotate_left
      · intro w; go_simp; try with_reducible rfl
      go_simp
      refine wpAny_ready (rs := [15, 17]) (by kernel_rfl) (by simp) ?_
      refine AllReady.cons rfl (fun K hK => ?_) (AllReady.cons rfl (fun K hK => ?_) AllReady.nil)
      · go_simp
        refine hK _ _ ?_; clear hK K
        refine wpAny_ready (rs := [16, 17]) (by kernel_rfl) (by simp) ?_
        refine AllReady.cons rfl (fun K hK => ?_) (AllReady.cons rfl (fun K hK => ?_) AllReady.nil)
        · go_simp
          go_wp2_with (first | (go_at_call 9; (with_reducible refine (uses_any _ _).mono ?_); rintro e w9 ⟨rfl, rfl⟩) | (go_at_call 10; (with_reducible refine HR1.out.mono ?_); rintro e w2 ⟨rfl, t2⟩; have T2 := Lib.hid (Still.trans T0.out t2); have hbx := t2.blk HBX.out; obtain ⟨bl, b0, b1, b2, b3, b4, b5, b6, b7, b8⟩ := insBox hbx; have HB2 := Lib.hid hbx; have HR2 := Lib.hid (refUses_any xo w2); clear t2 hbx HR1) | (go_at_call 10; (with_reducible refine HR2.out.mono ?_); rintro e w3 ⟨rfl, t3⟩; have T3 := Lib.hid (Still.trans T2.out t3); have hbx := t3.blk HB2.out; obtain ⟨bl, b0, b1, b2, b3, b4, b5, b6, b7, b8⟩ := insBox hbx; have HB3 := Lib.hid hbx; clear t3 hbx HR2) | (go_at_call 11; (with_reducible refine (plain_any xo xd xa xb xc xn la ll lc ma ml mc va vl vc _).mono ?_); rintro e w4 ⟨rfl, t4⟩; have T4 := Lib.hid (Still.trans T3.out t4); have hbx := t4.blk HB3.out; obtain ⟨bl, b0, b1, b2, b3, b4, b5, b6, b7, b8⟩ := insBox hbx; clear t4 hbx) | (go_at_call 12; (with_reducible refine (refPlain_any xo xd xa xb xc xn la ll lc ma ml mc va vl vc _).mono ?_); rintro e w5 ⟨rfl, t5⟩; have T5 := Lib.hid (Still.trans T4.out t5); clear t5) | (go_at_call 13; (with_reducible refine (lives4_any _).mono ?_); rintro e w6 ⟨rfl, b6⟩; have HB6 := Lib.hid b6; clear b6))
          refine wpAny_ready (rs := [17]) (by kernel_rfl) (by simp) ?_
          refine AllReady.cons rfl (fun K hK => ?_) AllReady.nil
          go_simp
          refine hK _ _ ?_; clear hK K
          refine wpAny_ready (rs := [18]) (by kernel_rfl) (by simp) ?_
          refine AllReady.cons rfl (fun K hK => ?_) AllReady.nil
          go_simp
          go_wp2_with (first | (go_at_call 9; (with_reducible refine (uses_any _ _).mono ?_); rintro e w9 ⟨rfl, rfl⟩) | (go_at_call 10; (with_reducible refine HR1.out.mono ?_); rintro e w2 ⟨rfl, t2⟩; have T2 := Lib.hid (Still.trans T0.out t2); have hbx := t2.blk HBX.out; obtain ⟨bl, b0, b1, b2, b3, b4, b5, b6, b7, b8⟩ := insBox hbx; have HB2 := Lib.hid hbx; have HR2 := Lib.hid (refUses_any xo w2); clear t2 hbx HR1) | (go_at_call 10; (with_reducible refine HR2.out.mono ?_); rintro e w3 ⟨rfl, t3⟩; have T3 := Lib.hid (Still.trans T2.out t3); have hbx := t3.blk HB2.out; obtain ⟨bl, b0, b1, b2, b3, b4, b5, b6, b7, b8⟩ := insBox hbx; have HB3 := Lib.hid hbx; clear t3 hbx HR2) | (go_at_call 11; (with_reducible refine (plain_any xo xd xa xb xc xn la ll lc ma ml mc va vl vc _).mono ?_); rintro e w4 ⟨rfl, t4⟩; have T4 := Lib.hid (Still.trans T3.out t4); have hbx := t4.blk HB3.out; obtain ⟨bl, b0, b1, b2, b3, b4, b5, b6, b7, b8⟩ := insBox hbx; clear t4 hbx) | (go_at_call 12; (with_reducible refine (refPlain_any xo xd xa xb xc xn la ll lc ma ml mc va vl vc _).mono ?_); rintro e w5 ⟨rfl, t5⟩; have T5 := Lib.hid (Still.trans T4.out t5); clear t5) | (go_at_call 13; (with_reducible refine (lives4_any _).mono ?_); rintro e w6 ⟨rfl, b6⟩; have HB6 := Lib.hid b6; clear b6))
          refine wpAny_take (i := 19) (v := ?_) rfl (by kernel_rfl) (by kernel_rfl) (by kernel_rfl) (fun _ _ _ h => h) (Or.inl ⟨by rfl, ?_⟩) ?_
          rotate_left
          · intro w; go_simp; try with_reducible rfl
          go_simp
          refine wpAny_take (i := 20) (v := ?_) rfl (by kernel_rfl) (by kernel_rfl) (by kernel_rfl) (fun _ _ _ h => h) (Or.inl ⟨by rfl, ?_⟩) ?_
          rotate_left
          · intro w; go_simp; try with_reducible rfl
          go_simp
          refine wpAny_take (i := 21) (v := ?_) rfl (by kernel_rfl) (by kernel_rfl) (by kernel_rfl) (fun _ _ _ h => h) (Or.inl ⟨by rfl, ?_⟩) ?_
          rotate_left
          · intro w; go_simp; try with_reducible rfl
          go_simp
          refine wpAny_ready (rs := [22]) (by kernel_rfl) (by simp) ?_
          refine AllReady.cons rfl (fun K hK => ?_) AllReady.nil
          go_simp
          go_wp2_with (first | (go_at_call 9; (with_reducible refine (uses_any _ _).mono ?_); rintro e w9 ⟨rfl, rfl⟩) | (go_at_call 10; (with_reducible refine HR1.out.mono ?_); rintro e w2 ⟨rfl, t2⟩; have T2 := Lib.hid (Still.trans T0.out t2); have hbx := t2.blk HBX.out; obtain ⟨bl, b0, b1, b2, b3, b4, b5, b6, b7, b8⟩ := insBox hbx; have HB2 := Lib.hid hbx; have HR2 := Lib.hid (refUses_any xo w2); clear t2 hbx HR1) | (go_at_call 10; (with_reducible refine HR2.out.mono ?_); rintro e w3 ⟨rfl, t3⟩; have T3 := Lib.hid (Still.trans T2.out t3); have hbx := t3.blk HB2.out; obtain ⟨bl, b0, b1, b2, b3, b4, b5, b6, b7, b8⟩ := insBox hbx; have HB3 := Lib.hid hbx; clear t3 hbx HR2) | (go_at_call 11; (with_reducible refine (plain_any xo xd xa xb xc xn la ll lc ma ml mc va vl vc _).mono ?_); rintro e w4 ⟨rfl, t4⟩; have T4 := Lib.hid (Still.trans T3.out t4); have hbx := t4.blk HB3.out; obtain ⟨bl, b0, b1, b2, b3, b4, b5, b6, b7, b8⟩ := insBox hbx; clear t4 hbx) | (go_at_call 12; (with_reducible refine (refPlain_any xo xd xa xb xc xn la ll lc ma ml mc va vl vc _).mono ?_); rintro e w5 ⟨rfl, t5⟩; have T5 := Lib.hid (Still.trans T4.out t5); clear t5) | (go_at_call 13; (with_reducible refine (lives4_any _).mono ?_); rintro e w6 ⟨rfl, b6⟩; have HB6 := Lib.hid b6; clear b6))
          refine wpAny_take (i := 23) (v := ?_) rfl (by kernel_rfl) (by kernel_rfl) (by kernel_rfl) (fun _ _ _ h => h) (Or.inl ⟨by rfl, ?_⟩) ?_
          rotate_left
          · intro w; go_simp; try with_reducible rfl
          go_simp
          refine wpAny_take (i := 24) (v := ?_) rfl (by kernel_rfl) (by kernel_rfl) (by kernel_rfl) (fun _ _ _ h => h) (Or.inl ⟨by rfl, ?_⟩) ?_
          rotate_left
          · intro w; go_simp; try with_reducible rfl
          go_simp
          refine wpAny_done (by kernel_rfl) ?_ _
          go_wp2_with fail
          go_ret
          exact ⟨rfl, (Still.below T5.out).trans (HB6.out.mono T5.out.size)⟩
        · go_simp
          refine hK _ _ ?_; clear hK K
          refine wpAny_ready (rs := [16]) (by kernel_rfl) (by simp) ?_
          refine AllReady.cons rfl (fun K hK => ?_) AllReady.nil
          go_simp
          go_wp2_with (first | (go_at_call 9; (with_reducible refine (uses_any _ _).mono ?_); rintro e w9 ⟨rfl, rfl⟩) | (go_at_call 10; (with_reducible refine HR1.out.mono ?_); rintro e w2 ⟨rfl, t2⟩; have T2 := Lib.hid (Still.trans T0.out t2); have hbx := t2.blk HBX.out; obtain ⟨bl, b0, b1, b2, b3, b4, b5, b6, b7, b8⟩ := insBox hbx; have HB2 := Lib.hid hbx; have HR2 := Lib.hid (refUses_any xo w2); clear t2 hbx HR1) | (go_at_call 10; (with_reducible refine HR2.out.mono ?_); rintro e w3 ⟨rfl, t3⟩; have T3 := Lib.hid (Still.trans T2.out t3); have hbx := t3.blk HB2.out; obtain ⟨bl, b0, b1, b2, b3, b4, b5, b6, b7, b8⟩ := insBox hbx; have HB3 := Lib.hid hbx; clear t3 hbx HR2) | (go_at_call 11; (with_reducible refine (plain_any xo xd xa xb xc xn la ll lc ma ml mc va vl vc _).mono ?_); rintro e w4 ⟨rfl, t4⟩; have T4 := Lib.hid (Still.trans T3.out t4); have hbx := t4.blk HB3.out; obtain ⟨bl, b0, b1, b2, b3, b4, b5, b6, b7, b8⟩ := insBox hbx; clear t4 hbx) | (go_at_call 12; (with_reducible refine (refPlain_any xo xd xa xb xc xn la ll lc ma ml mc va vl vc _).mono ?_); rintro e w5 ⟨rfl, t5⟩; have T5 := Lib.hid (Still.trans T4.out t5); clear t5) | (go_at_call 13; (with_reducible refine (lives4_any _).mono ?_); rintro e w6 ⟨rfl, b6⟩; have HB6 := Lib.hid b6; clear b6))
          refine wpAny_ready (rs := [18]) (by kernel_rfl) (by simp) ?_
          refine AllReady.cons rfl (fun K hK => ?_) AllReady.nil
          go_simp
          go_wp2_with (first | (go_at_call 9; (with_reducible refine (uses_any _ _).mono ?_); rintro e w9 ⟨rfl, rfl⟩) | (go_at_call 10; (with_reducible refine HR1.out.mono ?_); rintro e w2 ⟨rfl, t2⟩; have T2 := Lib.hid (Still.trans T0.out t2); have hbx := t2.blk HBX.out; obtain ⟨bl, b0, b1, b2, b3, b4, b5, b6, b7, b8⟩ := insBox hbx; have HB2 := Lib.hid hbx; have HR2 := Lib.hid (refUses_any xo w2); clear t2 hbx HR1) | (go_at_call 10; (with_reducible refine HR2.out.mono ?_); rintro e w3 ⟨rfl, t3⟩; have T3 := Lib.hid (Still.trans T2.out t3); have hbx := t3.blk HB2.out; obtain ⟨bl, b0, b1, b2, b3, b4, b5, b6, b7, b8⟩ := insBox hbx; have HB3 := Lib.hid hbx; clear t3 hbx HR2) | (go_at_call 11; (with_reducible refine (plain_any xo xd xa xb xc xn la ll lc ma ml mc va vl vc _).mono ?_); rintro e w4 ⟨rfl, t4⟩; have T4 := Lib.hid (Still.trans T3.out t4); have hbx := t4.blk HB3.out; obtain ⟨bl, b0, b1, b2, b3, b4, b5, b6, b7, b8⟩ := insBox hbx; clear t4 hbx) | (go_at_call 12; (with_reducible refine (refPlain_any xo xd xa xb xc xn la ll lc ma ml mc va vl vc _).mono ?_); rintro e w5 ⟨rfl, t5⟩; have T5 := Lib.hid (Still.trans T4.out t5); clear t5) | (go_at_call 13; (with_reducible refine (lives4_any _).mono ?_); rintro e w6 ⟨rfl, b6⟩; have HB6 := Lib.hid b6; clear b6))
          refine wpAny_take (i := 19) (v := ?_) rfl (by kernel_rfl) (by kernel_rfl) (by kernel_rfl) (fun _ _ _ h => h) (Or.inl ⟨by rfl, ?_⟩) ?_
          rotate_left
          · intro w; go_simp; try with_reducible rfl
          go_simp
          refine wpAny_take (i := 20) (v := ?_) rfl (by kernel_rfl) (by kernel_rfl) (by kernel_rfl) (fun _ _ _ h => h) (Or.inl ⟨by rfl, ?_⟩) ?_
          rotate_left
          · intro w; go_simp; try with_reducible rfl
          go_simp
          refine wpAny_take (i := 21) (v := ?_) rfl (by kernel_rfl) (by kernel_rfl) (by kernel_rfl) (fun _ _ _ h => h) (Or.inl ⟨by rfl, ?_⟩) ?_
          rotate_left
          · intro w; go_simp; try with_reducible rfl
          go_simp
          refine wpAny_ready (rs := [22]) (by kernel_rfl) (by simp) ?_
          refine AllReady.cons rfl (fun K hK => ?_) AllReady.nil
          go_simp
          go_wp2_with (first | (go_at_call 9; (with_reducible refine (uses_any _ _).mono ?_); rintro e w9 ⟨rfl, rfl⟩) | (go_at_call 10; (with_reducible refine HR1.out.mono ?_); rintro e w2 ⟨rfl, t2⟩; have T2 := Lib.hid (Still.trans T0.out t2); have hbx := t2.blk HBX.out; obtain ⟨bl, b0, b1, b2, b3, b4, b5, b6, b7, b8⟩ := insBox hbx; have HB2 := Lib.hid hbx; have HR2 := Lib.hid (refUses_any xo w2); clear t2 hbx HR1) | (go_at_call 10; (with_reducible refine HR2.out.mono ?_); rintro e w3 ⟨rfl, t3⟩; have T3 := Lib.hid (Still.trans T2.out t3); have hbx := t3.blk HB2.out; obtain ⟨bl, b0, b1, b2, b3, b4, b5, b6, b7, b8⟩ := insBox hbx; have HB3 := Lib.hid hbx; clear t3 hbx HR2) | (go_at_call 11; (with_reducible refine (plain_any xo xd xa xb xc xn la ll lc ma ml mc va vl vc _).mono ?_); rintro e w4 ⟨rfl, t4⟩; have T4 := Lib.hid (Still.trans T3.out t4); have hbx := t4.blk HB3.out; obtain ⟨bl, b0, b1, b2, b3, b4, b5, b6, b7, b8⟩ := insBox hbx; clear t4 hbx) | (go_at_call 12; (with_reducible refine (refPlain_any xo xd xa xb xc xn la ll lc ma ml mc va vl vc _).mono ?_); rintro e w5 ⟨rfl, t5⟩; have T5 := Lib.hid (Still.trans T4.out t5); clear t5) | (go_at_call 13; (with_reducible refine (lives4_any _).mono ?_); rintro e w6 ⟨rfl, b6⟩; have HB6 := Lib.hid b6; clear b6))
          refine wpAny_take (i := 23) (v := ?_) rfl (by kernel_rfl) (by kernel_rfl) (by kernel_rfl) (fun _ _ _ h => h) (Or.inl ⟨by rfl, ?_⟩) ?_
          rotate_left
          · intro w; go_simp; try with_reducible rfl
          go_simp
          refine wpAny_take (i := 24) (v := ?_) rfl (by kernel_rfl) (by kernel_rfl) (by kernel_rfl) (fun _ _ _ h => h) (Or.inl ⟨by rfl, ?_⟩) ?_
          rotate_left
          · intro w; go_simp; try with_reducible rfl
          go_simp
          refine wpAny_done (by kernel_rfl) ?_ _
          go_wp2_with fail
          go_ret
          exact ⟨rfl, (Still.below T5.out).trans (HB6.out.mono T5.out.size)⟩
      · go_simp
        refine hK _ _ ?_; clear hK K
        refine wpAny_ready (rs := [15]) (by kernel_rfl) (by simp) ?_
        refine AllReady.cons rfl (fun K hK => ?_) AllReady.nil
        go_simp
        refine hK _ _ ?_; clear hK K
        refine wpAny_ready (rs := [16]) (by kernel_rfl) (by simp) ?_
        refine AllReady.cons rfl (fun K hK => ?_) AllReady.nil
        go_simp
        go_wp2_with (first | (go_at_call 9; (with_reducible refine (uses_any _ _).mono ?_); rintro e w9 ⟨rfl, rfl⟩) | (go_at_call 10; (with_reducible refine HR1.out.mono ?_); rintro e w2 ⟨rfl, t2⟩; have T2 := Lib.hid (Still.trans T0.out t2); have hbx := t2.blk HBX.out; obtain ⟨bl, b0, b1, b2, b3, b4, b5, b6, b7, b8⟩ := insBox hbx; have HB2 := Lib.hid hbx; have HR2 := Lib.hid (refUses_any xo w2); clear t2 hbx HR1) | (go_at_call 10; (with_reducible refine HR2.out.mono ?_); rintro e w3 ⟨rfl, t3⟩; have T3 := Lib.hid (Still.trans T2.out t3); have hbx := t3.blk HB2.out; obtain ⟨bl, b0, b1, b2, b3, b4, b5, b6, b7, b8⟩ := insBox hbx; have HB3 := Lib.hid hbx; clear t3 hbx HR2) | (go_at_call 11; (with_reducible refine (plain_any xo xd xa xb xc xn la ll lc ma ml mc va vl vc _).mono ?_); rintro e w4 ⟨rfl, t4⟩; have T4 := Lib.hid (Still.trans T3.out t4); have hbx := t4.blk HB3.out; obtain ⟨bl, b0, b1, b2, b3, b4, b5, b6, b7, b8⟩ := insBox hbx; clear t4 hbx) | (go_at_call 12; (with_reducible refine (refPlain_any xo xd xa xb xc xn la ll lc ma ml mc va vl vc _).mono ?_); rintro e w5 ⟨rfl, t5⟩; have T5 := Lib.hid (Still.trans T4.out t5); clear t5) | (go_at_call 13; (with_reducible refine (lives4_any _).mono ?_); rintro e w6 ⟨rfl, b6⟩; have HB6 := Lib.hid b6; clear b6))
        refine wpAny_ready (rs := [18]) (by kernel_rfl) (by simp) ?_
        refine AllReady.cons rfl (fun K hK => ?_) AllReady.nil
        go_simp
        go_wp2_with (first | (go_at_call 9; (with_reducible refine (uses_any _ _).mono ?_); rintro e w9 ⟨rfl, rfl⟩) | (go_at_call 10; (with_reducible refine HR1.out.mono ?_); rintro e w2 ⟨rfl, t2⟩; have T2 := Lib.hid (Still.trans T0.out t2); have hbx := t2.blk HBX.out; obtain ⟨bl, b0, b1, b2, b3, b4, b5, b6, b7, b8⟩ := insBox hbx; have HB2 := Lib.hid hbx; have HR2 := Lib.hid (refUses_any xo w2); clear t2 hbx HR1) | (go_at_call 10; (with_reducible refine HR2.out.mono ?_); rintro e w3 ⟨rfl, t3⟩; have T3 := Lib.hid (Still.trans T2.out t3); have hbx := t3.blk HB2.out; obtain ⟨bl, b0, b1, b2, b3, b4, b5, b6, b7, b8⟩ := insBox hbx; have HB3 := Lib.hid hbx; clear t3 hbx HR2) | (go_at_call 11; (with_reducible refine (plain_any xo xd xa xb xc xn la ll lc ma ml mc va vl vc _).mono ?_); rintro e w4 ⟨rfl, t4⟩; have T4 := Lib.hid (Still.trans T3.out t4); have hbx := t4.blk HB3.out; obtain ⟨bl, b0, b1, b2, b3, b4, b5, b6, b7, b8⟩ := insBox hbx; clear t4 hbx) | (go_at_call 12; (with_reducible refine (refPlain_any xo xd xa xb xc xn la ll lc ma ml mc va vl vc _).mono ?_); rintro e w5 ⟨rfl, t5⟩; have T5 := Lib.hid (Still.trans T4.out t5); clear t5) | (go_at_call 13; (with_reducible refine (lives4_any _).mono ?_); rintro e w6 ⟨rfl, b6⟩; have HB6 := Lib.hid b6; clear b6))
        refine wpAny_take (i := 19) (v := ?_) rfl (by kernel_rfl) (by kernel_rfl) (by kernel_rfl) (fun _ _ _ h => h) (Or.inl ⟨by rfl, ?_⟩) ?_
        rotate_left
        · intro w; go_simp; try with_reducible rfl
        go_simp
        refine wpAny_take (i := 20) (v := ?_) rfl (by kernel_rfl) (by kernel_rfl) (by kernel_rfl) (fun _ _ _ h => h) (Or.inl ⟨by rfl, ?_⟩) ?_
        rotate_left
        · intro w; go_simp; try with_reducible rfl
        go_simp
        refine wpAny_take (i := 21) (v := ?_) rfl (by kernel_rfl) (by kernel_rfl) (by kernel_rfl) (fun _ _ _ h => h) (Or.inl ⟨by rfl, ?_⟩) ?_
        rotate_left
        · intro w; go_simp; try with_reducible rfl
        go_simp
        refine wpAny_ready (rs := [22]) (by kernel_rfl) (by simp) ?_
        refine AllReady.cons rfl (fun K hK => ?_) AllReady.nil
        go_simp
        go_wp2_with (first | (go_at_call 9; (with_reducible refine (uses_any _ _).mono ?_); rintro e w9 ⟨rfl, rfl⟩) | (go_at_call 10; (with_reducible refine HR1.out.mono ?_); rintro e w2 ⟨rfl, t2⟩; have T2 := Lib.hid (Still.trans T0.out t2); have hbx := t2.blk HBX.out; obtain ⟨bl, b0, b1, b2, b3, b4, b5, b6, b7, b8⟩ := insBox hbx; have HB2 := Lib.hid hbx; have HR2 := Lib.hid (refUses_any xo w2); clear t2 hbx HR1) | (go_at_call 10; (with_reducible refine HR2.out.mono ?_); rintro e w3 ⟨rfl, t3⟩; have T3 := Lib.hid (Still.trans T2.out t3); have hbx := t3.blk HB2.out; obtain ⟨bl, b0, b1, b2, b3, b4, b5, b6, b7, b8⟩ := insBox hbx; have HB3 := Lib.hid hbx; clear t3 hbx HR2) | (go_at_call 11; (with_reducible refine (plain_any xo xd xa xb xc xn la ll lc ma ml mc va vl vc _).mono ?_); rintro e w4 ⟨rfl, t4⟩; have T4 := Lib.hid (Still.trans T3.out t4); have hbx := t4.blk HB3.out; obtain ⟨bl, b0, b1, b2, b3, b4, b5, b6, b7, b8⟩ := insBox hbx; clear t4 hbx) | (go_at_call 12; (with_reducible refine (refPlain_any xo xd xa xb xc xn la ll lc ma ml mc va vl vc _).mono ?_); rintro e w5 ⟨rfl, t5⟩; have T5 := Lib.hid (Still.trans T4.out t5); clear t5) | (go_at_call 13; (with_reducible refine (lives4_any _).mono ?_); rintro e w6 ⟨rfl, b6⟩; have HB6 := Lib.hid b6; clear b6))
        refine wpAny_take (i := 23) (v := ?_) rfl (by kernel_rfl) (by kernel_rfl) (by kernel_rfl) (fun _ _ _ h => h) (Or.inl ⟨by rfl, ?_⟩) ?_
        rotate_left
        · intro w; go_simp; try with_reducible rfl
        go_simp
        refine wpAny_take (i := 24) (v := ?_) rfl (by kernel_rfl) (by kernel_rfl) (by kernel_rfl) (fun _ _ _ h => h) (Or.inl ⟨by rfl, ?_⟩) ?_
        rotate_left
        · intro w; go_simp; try with_reducible rfl
        go_simp
        refine wpAny_done (by kernel_rfl) ?_ _
        go_wp2_with fail
        go_ret
        exact ⟨rfl, (Still.below T5.out).trans (HB6.out.mono T5.out.size)⟩
  · go_simp
    refine hK _ _ ?_; clear hK K
    refine wpAny_ready (rs := [7]) (by kernel_rfl) (by simp) ?_
    refine AllReady.cons rfl (fun K hK => ?_) AllReady.nil
    go_simp
    refine hK _ _ ?_; clear hK K
    refine wpAny_ready (rs := [8]) (by kernel_rfl) (by simp) ?_
    refine AllReady.cons rfl (fun K hK => ?_) AllReady.nil
    go_simp
    go_wp2_with (first | (go_at_call 9; (with_reducible refine (uses_any _ _).mono ?_); rintro e w9 ⟨rfl, rfl⟩) | (go_at_call 10; (with_reducible refine HR1.out.mono ?_); rintro e w2 ⟨rfl, t2⟩; have T2 := Lib.hid (Still.trans T0.out t2); have hbx := t2.blk HBX.out; obtain ⟨bl, b0, b1, b2, b3, b4, b5, b6, b7, b8⟩ := insBox hbx; have HB2 := Lib.hid hbx; have HR2 := Lib.hid (refUses_any xo w2); clear t2 hbx HR1) | (go_at_call 10; (with_reducible refine HR2.out.mono ?_); rintro e w3 ⟨rfl, t3⟩; have T3 := Lib.hid (Still.trans T2.out t3); have hbx := t3.blk HB2.out; obtain ⟨bl, b0, b1, b2, b3, b4, b5, b6, b7, b8⟩ := insBox hbx; have HB3 := Lib.hid hbx; clear t3 hbx HR2) | (go_at_call 11; (with_reducible refine (plain_any xo xd xa xb xc xn la ll lc ma ml mc va vl vc _).mono ?_); rintro e w4 ⟨rfl, t4⟩; have T4 := Lib.hid (Still.trans T3.out t4); have hbx := t4.blk HB3.out; obtain ⟨bl, b0, b1, b2, b3, b4, b5, b6, b7, b8⟩ := insBox hbx; clear t4 hbx) | (go_at_call 12; (with_reducible refine (refPlain_any xo xd xa xb xc xn la ll lc ma ml mc va vl vc _).mono ?_); rintro e w5 ⟨rfl, t5⟩; have T5 := Lib.hid (Still.trans T4.out t5); clear t5) | (go_at_call 13; (with_reducible refine (lives4_any _).mono ?_); rintro e w6 ⟨rfl, b6⟩; have HB6 := Lib.hid b6; clear b6))
    refine wpAny_ready (rs := [11]) (by kernel_rfl) (by simp) ?_
    refine AllReady.cons rfl (fun K hK => ?_) AllReady.nil
    go_simp
    go_wp2_with (first | (go_at_call 9; (with_reducible refine (uses_any _ _).mono ?_); rintro e w9 ⟨rfl, rfl⟩) | (go_at_call 10; (with_reducible refine HR1.out.mono ?_); rintro e w2 ⟨rfl, t2⟩; have T2 := Lib.hid (Still.trans T0.out t2); have hbx := t2.blk HBX.out; obtain ⟨bl, b0, b1, b2, b3, b4, b5, b6, b7, b8⟩ := insBox hbx; have HB2 := Lib.hid hbx; have HR2 := Lib.hid (refUses_any xo w2); clear t2 hbx HR1) | (go_at_call 10; (with_reducible refine HR2.out.mono ?_); rintro e w3 ⟨rfl, t3⟩; have T3 := Lib.hid (Still.trans T2.out t3); have hbx := t3.blk HB2.out; obtain ⟨bl, b0, b1, b2, b3, b4, b5, b6, b7, b8⟩ := insBox hbx; have HB3 := Lib.hid hbx; clear t3 hbx HR2) | (go_at_call 11; (with_reducible refine (plain_any xo xd xa xb xc xn la ll lc ma ml mc va vl vc _).mono ?_); rintro e w4 ⟨rfl, t4⟩; have T4 := Lib.hid (Still.trans T3.out t4); have hbx := t4.blk HB3.out; obtain ⟨bl, b0, b1, b2, b3, b4, b5, b6, b7, b8⟩ := insBox hbx; clear t4 hbx) | (go_at_call 12; (with_reducible refine (refPlain_any xo xd xa xb xc xn la ll lc ma ml mc va vl vc _).mono ?_); rintro e w5 ⟨rfl, t5⟩; have T5 := Lib.hid (Still.trans T4.out t5); clear t5) | (go_at_call 13; (with_reducible refine (lives4_any _).mono ?_); rintro e w6 ⟨rfl, b6⟩; have HB6 := Lib.hid b6; clear b6))
    refine wpAny_take (i := 12) (v := ?_) rfl (by kernel_rfl) (by kernel_rfl) (by kernel_rfl) (fun _ _ _ h => h) (Or.inl ⟨by rfl, ?_⟩) ?_
    rotate_left
    · intro w; go_simp; try with_reducible rfl
    go_simp
    refine wpAny_take (i := 13) (v := ?_) rfl (by kernel_rfl) (by kernel_rfl) (by kernel_rfl) (fun _ _ _ h => h) (Or.inl ⟨by rfl, ?_⟩) ?_
    rotate_left
    · intro w; go_simp; try with_reducible rfl
    go_simp
    refine wpAny_take (i := 14) (v := ?_) rfl (by kernel_rfl) (by kernel_rfl) (by kernel_rfl) (fun _ _ _ h => h) (Or.inl ⟨by rfl, ?_⟩) ?_
    rotate_left
    · intro w; go_simp; try with_reducible rfl
    go_simp
    refine wpAny_ready (rs := [15, 17]) (by kernel_rfl) (by simp) ?_
    refine AllReady.cons rfl (fun K hK => ?_) (AllReady.cons rfl (fun K hK => ?_) AllReady.nil)
    · go_simp
      refine hK _ _ ?_; clear hK K
      refine wpAny_ready (rs := [16, 17]) (by kernel_rfl) (by simp) ?_
      refine AllReady.cons rfl (fun K hK => ?_) (AllReady.cons rfl (fun K hK => ?_) AllReady.nil)
      · go_simp
        go_wp2_with (first | (go_at_call 9; (with_reducible refine (uses_any _ _).mono ?_); rintro e w9 ⟨rfl, rfl⟩) | (go_at_call 10; (with_reducible refine HR1.out.mono ?_); rintro e w2 ⟨rfl, t2⟩; have T2 := Lib.hid (Still.trans T0.out t2); have hbx := t2.blk HBX.out; obtain ⟨bl, b0, b1, b2, b3, b4, b5, b6, b7, b8⟩ := insBox hbx; have HB2 := Lib.hid hbx; have HR2 := Lib.hid (refUses_any xo w2); clear t2 hbx HR1) | (go_at_call 10; (with_reducible refine HR2.out.mono ?_); rintro e w3 ⟨rfl, t3⟩; have T3 := Lib.hid (Still.trans T2.out t3); have hbx := t3.blk HB2.out; obtain ⟨bl, b0, b1, b2, b3, b4, b5, b6, b7, b8⟩ := insBox hbx; have HB3 := Lib.hid hbx; clear t3 hbx HR2) | (go_at_call 11; (with_reducible refine (plain_any xo xd xa xb xc xn la ll lc ma ml mc va vl vc _).mono ?_); rintro e w4 ⟨rfl, t4⟩; have T4 := Lib.hid (Still.trans T3.out t4); have hbx := t4.blk HB3.out; obtain ⟨bl, b0, b1, b2, b3, b4, b5, b6, b7, b8⟩ := insBox hbx; clear t4 hbx) | (go_at_call 12; (with_reducible refine (refPlain_any xo xd xa xb xc xn la ll lc ma ml mc va vl vc _).mono ?_); rintro e w5 ⟨rfl, t5⟩; have T5 := Lib.hid (Still.trans T4.out t5); clear t5) | (go_at_call 13; (with_reducible refine (lives4_any _).mono ?_); rintro e w6 ⟨rfl, b6⟩; have HB6 := Lib.hid b6; clear b6))
        refine wpAny_ready (rs := [17]) (by kernel_rfl) (by simp) ?_
        refine AllReady.cons rfl (fun K hK => ?_) AllReady.nil
        go_simp
        refine hK _ _ ?_; clear hK K
        refine wpAny_ready (rs := [18]) (by kernel_rfl) (by simp) ?_
        refine AllReady.cons rfl (fun K hK => ?_) AllReady.nil
        go_simp
        go_wp2_with (first | (go_at_call 9; (with_reducible refine (uses_any _ _).mono ?_); rintro e w9 ⟨rfl, rfl⟩) | (go_at_call 10; (with_reducible refine HR1.out.mono ?_); rintro e w2 ⟨rfl, t2⟩; have T2 := Lib.hid (Still.trans T0.out t2); have hbx := t2.blk HBX.out; obtain ⟨bl, b0, b1, b2, b3, b4, b5, b6, b7, b8⟩ := insBox hbx; have HB2 := Lib.hid hbx; have HR2 := Lib.hid (refUses_any xo w2); clear t2 hbx HR1) | (go_at_call 10; (with_reducible refine HR2.out.mono ?_); rintro e w3 ⟨rfl, t3⟩; have T3 := Lib.hid (Still.trans T2.out t3); have hbx := t3.blk HB2.out; obtain ⟨bl, b0, b1, b2, b3, b4, b5, b6, b7, b8⟩ := insBox hbx; have HB3 := Lib.hid hbx; clear t3 hbx HR2) | (go_at_call 11; (with_reducible refine (plain_any xo xd xa xb xc xn la ll lc ma ml mc va vl vc _).mono ?_); rintro e w4 ⟨rfl, t4⟩; have T4 := Lib.hid (Still.trans T3.out t4); have hbx := t4.blk HB3.out; obtain ⟨bl, b0, b1, b2, b3, b4, b5, b6, b7, b8⟩ := insBox hbx; clear t4 hbx) | (go_at_call 12; (with_reducible refine (refPlain_any xo xd xa xb xc xn la ll lc ma ml mc va vl vc _).mono ?_); rintro e w5 ⟨rfl, t5⟩; have T5 := Lib.hid (Still.trans T4.out t5); clear t5) | (go_at_call 13; (with_reducible refine (lives4_any _).mono ?_); rintro e w6 ⟨rfl, b6⟩; have HB6 := Lib.hid b6; clear b6))
        refine wpAny_take (i := 19) (v := ?_) rfl (by kernel_rfl) (by kernel_rfl) (by kernel_rfl) (fun _ _ _ h => h) (Or.inl ⟨by rfl, ?_⟩) ?_
        rotate_left
        · intro w; go_simp; try with_reducible rfl
        go_simp
        refine wpAny_take (i := 20) (v := ?_) rfl (by kernel_rfl) (by kernel_rfl) (by kernel_rfl) (fun _ _ _ h => h) (Or.inl ⟨by rfl, ?_⟩) ?_
        rotate_left
        · intro w; go_simp; try with_reducible rfl
        go_simp
        refine wpAny_take (i := 21) (v := ?_) rfl (by kernel_rfl) (by kernel_rfl) (by kernel_rfl) (fun _ _ _ h => h) (Or.inl ⟨by rfl, ?_⟩) ?_
        rotate_left
        · intro w; go_simp; try with_reducible rfl
        go_simp
        refine wpAny_ready (rs := [22]) (by kernel_rfl) (by simp) ?_
        refine AllReady.cons rfl (fun K hK => ?_) AllReady.nil
        go_simp
        go_wp2_with (first | (go_at_call 9; (with_reducible refine (uses_any _ _).mono ?_); rintro e w9 ⟨rfl, rfl⟩) | (go_at_call 10; (with_reducible refine HR1.out.mono ?_); rintro e w2 ⟨rfl, t2⟩; have T2 := Lib.hid (Still.trans T0.out t2); have hbx := t2.blk HBX.out; obtain ⟨bl, b0, b1, b2, b3, b4, b5, b6, b7, b8⟩ := insBox hbx; have HB2 := Lib.hid hbx; have HR2 := Lib.hid (refUses_any xo w2); clear t2 hbx HR1) | (go_at_call 10; (with_reducible refine HR2.out.mono ?_); rintro e w3 ⟨rfl, t3⟩; have T3 := Lib.hid (Still.trans T2.out t3); have hbx := t3.blk HB2.out; obtain ⟨bl, b0, b1, b2, b3, b4, b5, b6, b7, b8⟩ := insBox hbx; have HB3 := Lib.hid hbx; clear t3 hbx HR2) | (go_at_call 11; (with_reducible refine (plain_any xo xd xa xb xc xn la ll lc ma ml mc va vl vc _).mono ?_); rintro e w4 ⟨rfl, t4⟩; have T4 := Lib.hid (Still.trans T3.out t4); have hbx := t4.blk HB3.out; obtain ⟨bl, b0, b1, b2, b3, b4, b5, b6, b7, b8⟩ := insBox hbx; clear t4 hbx) | (go_at_call 12; (with_reducible refine (refPlain_any xo xd xa xb xc xn la ll lc ma ml mc va vl vc _).mono ?_); rintro e w5 ⟨rfl, t5⟩; have T5 := Lib.hid (Still.trans T4.out t5); clear t5) | (go_at_call 13; (with_reducible refine (lives4_any _).mono ?_); rintro e w6 ⟨rfl, b6⟩; have HB6 := Lib.hid b6; clear b6))
        refine wpAny_take (i := 23) (v := ?_) rfl (by kernel_rfl) (by kernel_rfl) (by kernel_rfl) (fun _ _ _ h => h) (Or.inl ⟨by rfl, ?_⟩) ?_
        rotate_left
        · intro w; go_simp; try with_reducible rfl
        go_simp
        refine wpAny_take (i := 24) (v := ?_) rfl (by kernel_rfl) (by kernel_rfl) (by kernel_rfl) (fun _ _ _ h => h) (Or.inl ⟨by rfl, ?_⟩) ?_
        rotate_left
        · intro w; go_simp; try with_reducible rfl
        go_simp
        refine wpAny_done (by kernel_rfl) ?_ _
        go_wp2_with fail
        go_ret
        exact ⟨rfl, (Still.below T5.out).trans (HB6.out.mono T5.out.size)⟩
      · go_simp
        refine hK _ _ ?_; clear hK K
        refine wpAny_ready (rs := [16]) (by kernel_rfl) (by simp) ?_
        refine AllReady.cons rfl (fun K hK => ?_) AllReady.nil
        go_simp
        go_wp2_with (first | (go_at_call 9; (with_reducible refine (uses_any _ _).mono ?_); rintro e w9 ⟨rfl, rfl⟩) | (go_at_call 10; (with_reducible refine HR1.out.mono ?_); rintro e w2 ⟨rfl, t2⟩; have T2 := Lib.hid (Still.trans T0.out t2); have hbx := t2.blk HBX.out; obtain ⟨bl, b0, b1, b2, b3, b4, b5, b6, b7, b8⟩ := insBox hbx; have HB2 := Lib.hid hbx; have HR2 := Lib.hid (refUses_any xo w2); clear t2 hbx HR1) | (go_at_call 10; (with_reducible refine HR2.out.mono ?_); rintro e w3 ⟨rfl, t3⟩; have T3 := Lib.hid (Still.trans T2.out t3); have hbx := t3.blk HB2.out; obtain ⟨bl, b0, b1, b2, b3, b4, b5, b6, b7, b8⟩ := insBox hbx; have HB3 := Lib.hid hbx; clear t3 hbx HR2) | (go_at_call 11; (with_reducible refine (plain_any xo xd xa xb xc xn la ll lc ma ml mc va vl vc _).mono ?_); rintro e w4 ⟨rfl, t4⟩; have T4 := Lib.hid (Still.trans T3.out t4); have hbx := t4.blk HB3.out; obtain ⟨bl, b0, b1, b2, b3, b4, b5, b6, b7, b8⟩ := insBox hbx; clear t4 hbx) | (go_at_call 12; (with_reducible refine (refPlain_any xo xd xa xb xc xn la ll lc ma ml mc va vl vc _).mono ?_); rintro e w5 ⟨rfl, t5⟩; have T5 := Lib.hid (Still.trans T4.out t5); clear t5) | (go_at_call 13; (with_reducible refine (lives4_any _).mono ?_); rintro e w6 ⟨rfl, b6⟩; have HB6 := Lib.hid b6; clear b6))
        refine wpAny_ready (rs := [18]) (by kernel_rfl) (by simp) ?_
        refine AllReady.cons rfl (fun K hK => ?_) AllReady.nil
        go_simp
        go_wp2_with (first | (go_at_call 9; (with_reducible refine (uses_any _ _).mono ?_); rintro e w9 ⟨rfl, rfl⟩) | (go_at_call 10; (with_reducible refine HR1.out.mono ?_); rintro e w2 ⟨rfl, t2⟩; have T2 := Lib.hid (Still.trans T0.out t2); have hbx := t2.blk HBX.out; obtain ⟨bl, b0, b1, b2, b3, b4, b5, b6, b7, b8⟩ := insBox hbx; have HB2 := Lib.hid hbx; have HR2 := Lib.hid (refUses_any xo w2); clear t2 hbx HR1) | (go_at_call 10; (with_reducible refine HR2.out.mono ?_); rintro e w3 ⟨rfl, t3⟩; have T3 := Lib.hid (Still.trans T2.out t3); have hbx := t3.blk HB2.out; obtain ⟨bl, b0, b1, b2, b3, b4, b5, b6, b7, b8⟩ := insBox hbx; have HB3 := Lib.hid hbx; clear t3 hbx HR2) | (go_at_call 11; (with_reducible refine (plain_any xo xd xa xb xc xn la ll lc ma ml mc va vl vc _).mono ?_); rintro e w4 ⟨rfl, t4⟩; have T4 := Lib.hid (Still.trans T3.out t4); have hbx := t4.blk HB3.out; obtain ⟨bl, b0, b1, b2, b3, b4, b5, b6, b7, b8⟩ := insBox hbx; clear t4 hbx) | (go_at_call 12; (with_reducible refine (refPlain_any xo xd xa xb xc xn la ll lc ma ml mc va vl vc _).mono ?_); rintro e w5 ⟨rfl, t5⟩; have T5 := Lib.hid (Still.trans T4.out t5); clear t5) | (go_at_call 13; (with_reducible refine (lives4_any _).mono ?_); rintro e w6 ⟨rfl, b6⟩; have HB6 := Lib.hid b6; clear b6))
        refine wpAny_take (i := 19) (v := ?_) rfl (by kernel_rfl) (by kernel_rfl) (by kernel_rfl) (fun _ _ _ h => h) (Or.inl ⟨by rfl, ?_⟩) ?_
        rotate_left
        · intro w; go_simp; try with_reducible rfl
        go_simp
        refine wpAny_take (i := 20) (v := ?_) rfl (by kernel_rfl) (by kernel_rfl) (by kernel_rfl) (fun _ _ _ h => h) (Or.inl ⟨by rfl, ?_⟩) ?_
        rotate_left
        · intro w; go_simp; try with_reducible rfl
        go_simp
        refine wpAny_take (i := 21) (v := ?_) rfl (by kernel_rfl) (by kernel_rfl) (by kernel_rfl) (fun _ _ _ h => h) (Or.inl ⟨by rfl, ?_⟩) ?_
        rotate_left
        · intro w; go_simp; try with_reducible rfl
        go_simp
        refine wpAny_ready (rs := [22]) (by kernel_rfl) (by simp) ?_
        refine AllReady.cons rfl (fun K hK => ?_) AllReady.nil
        go_simp
        go_wp2_with (first | (go_at_call 9; (with_reducible refine (uses_any _ _).mono ?_); rintro e w9 ⟨rfl, rfl⟩) | (go_at_call 10; (with_reducible refine HR1.out.mono ?_); rintro e w2 ⟨rfl, t2⟩; have T2 := Lib.hid (Still.trans T0.out t2); have hbx := t2.blk HBX.out; obtain ⟨bl, b0, b1, b2, b3, b4, b5, b6, b7, b8⟩ := insBox hbx; have HB2 := Lib.hid hbx; have HR2 := Lib.hid (refUses_any xo w2); clear t2 hbx HR1) | (go_at_call 10; (with_reducible refine HR2.out.mono ?_); rintro e w3 ⟨rfl, t3⟩; have T3 := Lib.hid (Still.trans T2.out t3); have hbx := t3.blk HB2.out; obtain ⟨bl, b0, b1, b2, b3, b4, b5, b6, b7, b8⟩ := insBox hbx; have HB3 := Lib.hid hbx; clear t3 hbx HR2) | (go_at_call 11; (with_reducible refine (plain_any xo xd xa xb xc xn la ll lc ma ml mc va vl vc _).mono ?_); rintro e w4 ⟨rfl, t4⟩; have T4 := Lib.hid (Still.trans T3.out t4); have hbx := t4.blk HB3.out; obtain ⟨bl, b0, b1, b2, b3, b4, b5, b6, b7, b8⟩ := insBox hbx; clear t4 hbx) | (go_at_call 12; (with_reducible refine (refPlain_any xo xd xa xb xc xn la ll lc ma ml mc va vl vc _).mono ?_); rintro e w5 ⟨rfl, t5⟩; have T5 := Lib.hid (Still.trans T4.out t5); clear t5) | (go_at_call 13; (with_reducible refine (lives4_any _).mono ?_); rintro e w6 ⟨rfl, b6⟩; have HB6 := Lib.hid b6; clear b6))
        refine wpAny_take (i := 23) (v := ?_) rfl (by kernel_rfl) (by kernel_rfl) (by kernel_rfl) (fun _ _ _ h => h) (Or.inl ⟨by rfl, ?_⟩) ?_
        rotate_left
        · intro w; go_simp; try with_reducible rfl
        go_simp
        refine wpAny_take (i := 24) (v := ?_) rfl (by kernel_rfl) (by kernel_rfl) (by kernel_rfl) (fun _ _ _ h => h) (Or.inl ⟨by rfl, ?_⟩) ?_
        rotate_left
        · intro w; go_simp; try with_reducible rfl
        go_simp
        refine wpAny_done (by kernel_rfl) ?_ _
        go_wp2_with fail
        go_ret
        exact ⟨rfl, (Still.below T5.out).trans (HB6.out.mono T5.out.size)⟩
    · go_simp
      refine hK _ _ ?_; clear hK K
      refine wpAny_ready (rs := [15]) (by kernel_rfl) (by simp) ?_
      refine AllReady.cons rfl (fun K hK => ?_) AllReady.nil
      go_simp
      refine hK _ _ ?_; clear hK K
      refine wpAny_ready (rs := [16]) (by kernel_rfl) (by simp) ?_
      refine AllReady.cons rfl (fun K hK => ?_) AllReady.nil
      go_simp
      go_wp2_with (first | (go_at_call 9; (with_reducible refine (uses_any _ _).mono ?_); rintro e w9 ⟨rfl, rfl⟩) | (go_at_call 10; (with_reducible refine HR1.out.mono ?_); rintro e w2 ⟨rfl, t2⟩; have T2 := Lib.hid (Still.trans T0.out t2); have hbx := t2.blk HBX.out; obtain ⟨bl, b0, b1, b2, b3, b4, b5, b6, b7, b8⟩ := insBox hbx; have HB2 := Lib.hid hbx; have HR2 := Lib.hid (refUses_any xo w2); clear t2 hbx HR1) | (go_at_call 10; (with_reducible refine HR2.out.mono ?_); rintro e w3 ⟨rfl, t3⟩; have T3 := Lib.hid (Still.trans T2.out t3); have hbx := t3.blk HB2.out; obtain ⟨bl, b0, b1, b2, b3, b4, b5, b6, b7, b8⟩ := insBox hbx; have HB3 := Lib.hid hbx; clear t3 hbx HR2) | (go_at_call 11; (with_reducible refine (plain_any xo xd xa xb xc xn la ll lc ma ml mc va vl vc _).mono ?_); rintro e w4 ⟨rfl, t4⟩; have T4 := Lib.hid (Still.trans T3.out t4); have hbx := t4.blk HB3.out; obtain ⟨bl, b0, b1, b2, b3, b4, b5, b6, b7, b8⟩ := insBox hbx; clear t4 hbx) | (go_at_call 12; (with_reducible refine (refPlain_any xo xd xa xb xc xn la ll lc ma ml mc va vl vc _).mono ?_); rintro e w5 ⟨rfl, t5⟩; have T5 := Lib.hid (Still.trans T4.out t5); clear t5) | (go_at_call 13; (with_reducible refine (lives4_any _).mono ?_); rintro e w6 ⟨rfl, b6⟩; have HB6 := Lib.hid b6; clear b6))
      refine wpAny_ready (rs := [18]) (by kernel_rfl) (by simp) ?_
      refine AllReady.cons rfl (fun K hK => ?_) AllReady.nil
      go_simp
      go_wp2_with (first | (go_at_call 9; (with_reducible refine (uses_any _ _).mono ?_); rintro e w9 ⟨rfl, rfl⟩) | (go_at_call 10; (with_reducible refine HR1.out.mono ?_); rintro e w2 ⟨rfl, t2⟩; have T2 := Lib.hid (Still.trans T0.out t2); have hbx := t2.blk HBX.out; obtain ⟨bl, b0, b1, b2, b3, b4, b5, b6, b7, b8⟩ := insBox hbx; have HB2 := Lib.hid hbx; have HR2 := Lib.hid (refUses_any xo w2); clear t2 hbx HR1) | (go_at_call 10; (with_reducible refine HR2.out.mono ?_); rintro e w3 ⟨rfl, t3⟩; have T3 := Lib.hid (Still.trans T2.out t3); have hbx := t3.blk HB2.out; obtain ⟨bl, b0, b1, b2, b3, b4, b5, b6, b7, b8⟩ := insBox hbx; have HB3 := Lib.hid hbx; clear t3 hbx HR2) | (go_at_call 11; (with_reducible refine (plain_any xo xd xa xb xc xn la ll lc ma ml mc va vl vc _).mono ?_); rintro e w4 ⟨rfl, t4⟩; have T4 := Lib.hid (Still.trans T3.out t4); have hbx := t4.blk HB3.out; obtain ⟨bl, b0, b1, b2, b3, b4, b5, b6, b7, b8⟩ := insBox hbx; clear t4 hbx) | (go_at_call 12; (with_reducible refine (refPlain_any xo xd xa xb xc xn la ll lc ma ml mc va vl vc _).mono ?_); rintro e w5 ⟨rfl, t5⟩; have T5 := Lib.hid (Still.trans T4.out t5); clear t5) | (go_at_call 13; (with_reducible refine (lives4_any _).mono ?_); rintro e w6 ⟨rfl, b6⟩; have HB6 := Lib.hid b6; clear b6))
      refine wpAny_take (i := 19) (v := ?_) rfl (by kernel_rfl) (by kernel_rfl) (by kernel_rfl) (fun _ _ _ h => h) (Or.inl ⟨by rfl, ?_⟩) ?_
      rotate_left
      · intro w; go_simp; try with_reducible rfl
      go_simp
      refine wpAny_take (i := 20) (v := ?_) rfl (by kernel_rfl) (by kernel_rfl) (by kernel_rfl) (fun _ _ _ h => h) (Or.inl ⟨by rfl, ?_⟩) ?_
      rotate_left
      · intro w; go_simp; try with_reducible rfl
      go_simp
      refine wpAny_take (i := 21) (v := ?_) rfl (by kernel_rfl) (by kernel_rfl) (by kernel_rfl) (fun _ _ _ h => h) (Or.inl ⟨by rfl, ?_⟩) ?_
      rotate_left
      · intro w; go_simp; try with_reducible rfl
      go_simp
      refine wpAny_ready (rs := [22]) (by kernel_rfl) (by simp) ?_
      refine AllReady.cons rfl (fun K hK => ?_) AllReady.nil
      go_simp
      go_wp2_with (first | (go_at_call 9; (with_reducible refine (uses_any _ _).mono ?_); rintro e w9 ⟨rfl, rfl⟩) | (go_at_call 10; (with_reducible refine HR1.out.mono ?_); rintro e w2 ⟨rfl, t2⟩; have T2 := Lib.hid (Still.trans T0.out t2); have hbx := t2.blk HBX.out; obtain ⟨bl, b0, b1, b2, b3, b4, b5, b6, b7, b8⟩ := insBox hbx; have HB2 := Lib.hid hbx; have HR2 := Lib.hid (refUses_any xo w2); clear t2 hbx HR1) | (go_at_call 10; (with_reducible refine HR2.out.mono ?_); rintro e w3 ⟨rfl, t3⟩; have T3 := Lib.hid (Still.trans T2.out t3); have hbx := t3.blk HB2.out; obtain ⟨bl, b0, b1, b2, b3, b4, b5, b6, b7, b8⟩ := insBox hbx; have HB3 := Lib.hid hbx; clear t3 hbx HR2) | (go_at_call 11; (with_reducible refine (plain_any xo xd xa xb xc xn la ll lc ma ml mc va vl vc _).mono ?_); rintro e w4 ⟨rfl, t4⟩; have T4 := Lib.hid (Still.trans T3.out t4); have hbx := t4.blk HB3.out; obtain ⟨bl, b0, b1, b2, b3, b4, b5, b6, b7, b8⟩ := insBox hbx; clear t4 hbx) | (go_at_call 12; (with_reducible refine (refPlain_any xo xd xa xb xc xn la ll lc ma ml mc va vl vc _).mono ?_); rintro e w5 ⟨rfl, t5⟩; have T5 := Lib.hid (Still.trans T4.out t5); clear t5) | (go_at_call 13; (with_reducible refine (lives4_any _).mono ?_); rintro e w6 ⟨rfl, b6⟩; have HB6 := Lib.hid b6; clear b6))
      refine wpAny_take (i := 23) (v := ?_) rfl (by kernel_rfl) (by kernel_rfl) (by kernel_rfl) (fun _ _ _ h => h) (Or.inl ⟨by rfl, ?_⟩) ?_
      rotate_left
      · intro w; go_simp; try with_reducible rfl
      go_simp
      refine wpAny_take (i := 24) (v := ?_) rfl (by kernel_rfl) (by kernel_rfl) (by kernel_rfl) (fun _ _ _ h => h) (Or.inl ⟨by rfl, ?_⟩) ?_
      rotate_left
      · intro w; go_simp; try with_reducible rfl
      go_simp
      refine wpAny_done (by kernel_rfl) ?_ _
      go_wp2_with fail
      go_ret
      exact ⟨rfl, (Still.below T5.out).trans (HB6.out.mono T5.out.size)⟩
end Go.Proofs.Ytfbedcnibkkpmaa
