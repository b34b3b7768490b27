/- CodeLimits, cases 10 to 12. -/
import Derived.Test.YtiagfkdidjlkcaaTurnsW
import Derived.Test.YtiagfkdidjlkcaaFieldsW
import Derived.Test.YtiagfkdidjlkcaaLimN
namespace Go.Proofs.Ytiagfkdidjlkcaa
set_option linter.unusedVariables false
set_option linter.unusedSimpArgs false
open Go.ChangeShapes Go.WideShapes Go.ChangeAt Go.RowKit Go.Deep
open M (W)
set_option maxRecDepth 100000 in
set_option maxHeartbeats 8000000 in
theorem lim10_w {n : Int} {p : Nat} {w : World} (hq : (if 2100 < n then 2100 else n) = (p : Int)) (h0 : (0 : Int) < (p : Int)) (hp2 : p ≤ 2100) :
    Calls Try.prog 3 #[.int .i64 10, .int .i64 n] w fun e w' => e = .returned (.bool true) ∧ Below w.heap.size w w' := by
  have hpm : p ≤ maxLen := by unfold maxLen; omega
  have hpi : In64 (p : Int) := by unfold In64; omega
  have S0 : Hid (Still w ((((((w.alloc (.cells #[.slice none 0 0, .slice none 0 0, .slice none 0 0, .slice none 0 0, .slice (some ⟨w.heap.size + 1 + 1 + 1 + 1 + 1, 0, none⟩) 1 1, .int .i64 0, .int .i64 0] 27)).alloc (.cells #[.int .i64 5, .int .i64 0, .int .i64 0, .int .i64 0, .int .i64 0, .int .i64 0, .slice none 0 0, .slice none 0 0, .slice none 0 0] 30)).alloc (.cells #[.slice none 0 0, .int .i64 0, .int .i64 0, .slice (some ⟨w.heap.size + 1 + 1 + 1 + 1, 0, none⟩) 1 1] 33)).alloc (.cells (madeCells #[.int .i64 0] p) 3)).alloc (.cells #[.slice (some ⟨w.heap.size + 1 + 1 + 1, 0, none⟩) p p, .slice none 0 0] 40)).alloc (.cells #[.slice none 0 0, .int .i64 0, .int .i64 0, .slice (some ⟨w.heap.size + 1 + 1 + 1 + 1, 0, none⟩) 1 1] 33))) := ((((((Still.refl w).alloc _).alloc _).alloc _).alloc _).alloc _).alloc _
  have HB1 := Lib.hid (Still.below S0.out)
  have z1 := size_next (rfl : w.heap.size = w.heap.size) (.cells #[.slice none 0 0, .slice none 0 0, .slice none 0 0, .slice none 0 0, .slice (some ⟨w.heap.size + 1 + 1 + 1 + 1 + 1, 0, none⟩) 1 1, .int .i64 0, .int .i64 0] 27)
  have z2 := size_next z1 (.cells #[.int .i64 5, .int .i64 0, .int .i64 0, .int .i64 0, .int .i64 0, .int .i64 0, .slice none 0 0, .slice none 0 0, .slice none 0 0] 30)
  have z3 := size_next z2 (.cells #[.slice none 0 0, .int .i64 0, .int .i64 0, .slice (some ⟨w.heap.size + 1 + 1 + 1 + 1, 0, none⟩) 1 1] 33)
  have z4 := size_next z3 (.cells (madeCells #[.int .i64 0] p) 3)
  have z5 := size_next z4 (.cells #[.slice (some ⟨w.heap.size + 1 + 1 + 1, 0, none⟩) p p, .slice none 0 0] 40)
  have z6 := size_next z5 (.cells #[.slice none 0 0, .int .i64 0, .int .i64 0, .slice (some ⟨w.heap.size + 1 + 1 + 1 + 1, 0, none⟩) 1 1] 33)
  have r3 : Blk ((((((w.alloc (.cells #[.slice none 0 0, .slice none 0 0, .slice none 0 0, .slice none 0 0, .slice (some ⟨w.heap.size + 1 + 1 + 1 + 1 + 1, 0, none⟩) 1 1, .int .i64 0, .int .i64 0] 27)).alloc (.cells #[.int .i64 5, .int .i64 0, .int .i64 0, .int .i64 0, .int .i64 0, .int .i64 0, .slice none 0 0, .slice none 0 0, .slice none 0 0] 30)).alloc (.cells #[.slice none 0 0, .int .i64 0, .int .i64 0, .slice (some ⟨w.heap.size + 1 + 1 + 1 + 1, 0, none⟩) 1 1] 33)).alloc (.cells (madeCells #[.int .i64 0] p) 3)).alloc (.cells #[.slice (some ⟨w.heap.size + 1 + 1 + 1, 0, none⟩) p p, .slice none 0 0] 40)).alloc (.cells #[.slice none 0 0, .int .i64 0, .int .i64 0, .slice (some ⟨w.heap.size + 1 + 1 + 1 + 1, 0, none⟩) 1 1] 33)) (w.heap.size + 1 + 1 + 1) 3 (madeCells #[.int .i64 0] (p * 1)) := (by rw [Nat.mul_one]; exact ((blk_next z3 _ _).alloc _).alloc _)
  have g3 : w.heap.size + 1 + 1 + 1 < (((((((w.alloc (.cells #[.slice none 0 0, .slice none 0 0, .slice none 0 0, .slice none 0 0, .slice (some ⟨w.heap.size + 1 + 1 + 1 + 1 + 1, 0, none⟩) 1 1, .int .i64 0, .int .i64 0] 27)).alloc (.cells #[.int .i64 5, .int .i64 0, .int .i64 0, .int .i64 0, .int .i64 0, .int .i64 0, .slice none 0 0, .slice none 0 0, .slice none 0 0] 30)).alloc (.cells #[.slice none 0 0, .int .i64 0, .int .i64 0, .slice (some ⟨w.heap.size + 1 + 1 + 1 + 1, 0, none⟩) 1 1] 33)).alloc (.cells (madeCells #[.int .i64 0] p) 3)).alloc (.cells #[.slice (some ⟨w.heap.size + 1 + 1 + 1, 0, none⟩) p p, .slice none 0 0] 40)).alloc (.cells #[.slice none 0 0, .int .i64 0, .int .i64 0, .slice (some ⟨w.heap.size + 1 + 1 + 1 + 1, 0, none⟩) 1 1] 33))).heap.size := by rw [z6]; omega
  have r4 : Blk ((((((w.alloc (.cells #[.slice none 0 0, .slice none 0 0, .slice none 0 0, .slice none 0 0, .slice (some ⟨w.heap.size + 1 + 1 + 1 + 1 + 1, 0, none⟩) 1 1, .int .i64 0, .int .i64 0] 27)).alloc (.cells #[.int .i64 5, .int .i64 0, .int .i64 0, .int .i64 0, .int .i64 0, .int .i64 0, .slice none 0 0, .slice none 0 0, .slice none 0 0] 30)).alloc (.cells #[.slice none 0 0, .int .i64 0, .int .i64 0, .slice (some ⟨w.heap.size + 1 + 1 + 1 + 1, 0, none⟩) 1 1] 33)).alloc (.cells (madeCells #[.int .i64 0] p) 3)).alloc (.cells #[.slice (some ⟨w.heap.size + 1 + 1 + 1, 0, none⟩) p p, .slice none 0 0] 40)).alloc (.cells #[.slice none 0 0, .int .i64 0, .int .i64 0, .slice (some ⟨w.heap.size + 1 + 1 + 1 + 1, 0, none⟩) 1 1] 33)) (w.heap.size + 1 + 1 + 1 + 1) 40 #[.slice (some ⟨w.heap.size + 1 + 1 + 1, 0, none⟩) p p, .slice none 0 0] := (blk_next z4 _ _).alloc _
  have g4 : w.heap.size + 1 + 1 + 1 + 1 < (((((((w.alloc (.cells #[.slice none 0 0, .slice none 0 0, .slice none 0 0, .slice none 0 0, .slice (some ⟨w.heap.size + 1 + 1 + 1 + 1 + 1, 0, none⟩) 1 1, .int .i64 0, .int .i64 0] 27)).alloc (.cells #[.int .i64 5, .int .i64 0, .int .i64 0, .int .i64 0, .int .i64 0, .int .i64 0, .slice none 0 0, .slice none 0 0, .slice none 0 0] 30)).alloc (.cells #[.slice none 0 0, .int .i64 0, .int .i64 0, .slice (some ⟨w.heap.size + 1 + 1 + 1 + 1, 0, none⟩) 1 1] 33)).alloc (.cells (madeCells #[.int .i64 0] p) 3)).alloc (.cells #[.slice (some ⟨w.heap.size + 1 + 1 + 1, 0, none⟩) p p, .slice none 0 0] 40)).alloc (.cells #[.slice none 0 0, .int .i64 0, .int .i64 0, .slice (some ⟨w.heap.size + 1 + 1 + 1 + 1, 0, none⟩) 1 1] 33))).heap.size := by rw [z6]; omega
  have r5 : Blk ((((((w.alloc (.cells #[.slice none 0 0, .slice none 0 0, .slice none 0 0, .slice none 0 0, .slice (some ⟨w.heap.size + 1 + 1 + 1 + 1 + 1, 0, none⟩) 1 1, .int .i64 0, .int .i64 0] 27)).alloc (.cells #[.int .i64 5, .int .i64 0, .int .i64 0, .int .i64 0, .int .i64 0, .int .i64 0, .slice none 0 0, .slice none 0 0, .slice none 0 0] 30)).alloc (.cells #[.slice none 0 0, .int .i64 0, .int .i64 0, .slice (some ⟨w.heap.size + 1 + 1 + 1 + 1, 0, none⟩) 1 1] 33)).alloc (.cells (madeCells #[.int .i64 0] p) 3)).alloc (.cells #[.slice (some ⟨w.heap.size + 1 + 1 + 1, 0, none⟩) p p, .slice none 0 0] 40)).alloc (.cells #[.slice none 0 0, .int .i64 0, .int .i64 0, .slice (some ⟨w.heap.size + 1 + 1 + 1 + 1, 0, none⟩) 1 1] 33)) (w.heap.size + 1 + 1 + 1 + 1 + 1) 33 #[.slice none 0 0, .int .i64 0, .int .i64 0, .slice (some ⟨w.heap.size + 1 + 1 + 1 + 1, 0, none⟩) 1 1] := blk_next z5 _ _
  have g5 : w.heap.size + 1 + 1 + 1 + 1 + 1 < (((((((w.alloc (.cells #[.slice none 0 0, .slice none 0 0, .slice none 0 0, .slice none 0 0, .slice (some ⟨w.heap.size + 1 + 1 + 1 + 1 + 1, 0, none⟩) 1 1, .int .i64 0, .int .i64 0] 27)).alloc (.cells #[.int .i64 5, .int .i64 0, .int .i64 0, .int .i64 0, .int .i64 0, .int .i64 0, .slice none 0 0, .slice none 0 0, .slice none 0 0] 30)).alloc (.cells #[.slice none 0 0, .int .i64 0, .int .i64 0, .slice (some ⟨w.heap.size + 1 + 1 + 1 + 1, 0, none⟩) 1 1] 33)).alloc (.cells (madeCells #[.int .i64 0] p) 3)).alloc (.cells #[.slice (some ⟨w.heap.size + 1 + 1 + 1, 0, none⟩) p p, .slice none 0 0] 40)).alloc (.cells #[.slice none 0 0, .int .i64 0, .int .i64 0, .slice (some ⟨w.heap.size + 1 + 1 + 1 + 1, 0, none⟩) 1 1] 33))).heap.size := by rw [z6]; omega
  have HM1 : Hid (Blk ((((((w.alloc (.cells #[.slice none 0 0, .slice none 0 0, .slice none 0 0, .slice none 0 0, .slice (some ⟨w.heap.size + 1 + 1 + 1 + 1 + 1, 0, none⟩) 1 1, .int .i64 0, .int .i64 0] 27)).alloc (.cells #[.int .i64 5, .int .i64 0, .int .i64 0, .int .i64 0, .int .i64 0, .int .i64 0, .slice none 0 0, .slice none 0 0, .slice none 0 0] 30)).alloc (.cells #[.slice none 0 0, .int .i64 0, .int .i64 0, .slice (some ⟨w.heap.size + 1 + 1 + 1 + 1, 0, none⟩) 1 1] 33)).alloc (.cells (madeCells #[.int .i64 0] p) 3)).alloc (.cells #[.slice (some ⟨w.heap.size + 1 + 1 + 1, 0, none⟩) p p, .slice none 0 0] 40)).alloc (.cells #[.slice none 0 0, .int .i64 0, .int .i64 0, .slice (some ⟨w.heap.size + 1 + 1 + 1 + 1, 0, none⟩) 1 1] 33)) w.heap.size 27 #[.slice none 0 0, .slice none 0 0, .slice none 0 0, .slice none 0 0, .slice (some ⟨w.heap.size + 1 + 1 + 1 + 1 + 1, 0, none⟩) 1 1, .int .i64 0, .int .i64 0]) := (((((Blk.new w _ _).alloc _).alloc _).alloc _).alloc _).alloc _
  have HIM : Hid (ImgIs (((((((w.alloc (.cells #[.slice none 0 0, .slice none 0 0, .slice none 0 0, .slice none 0 0, .slice (some ⟨w.heap.size + 1 + 1 + 1 + 1 + 1, 0, none⟩) 1 1, .int .i64 0, .int .i64 0] 27)).alloc (.cells #[.int .i64 5, .int .i64 0, .int .i64 0, .int .i64 0, .int .i64 0, .int .i64 0, .slice none 0 0, .slice none 0 0, .slice none 0 0] 30)).alloc (.cells #[.slice none 0 0, .int .i64 0, .int .i64 0, .slice (some ⟨w.heap.size + 1 + 1 + 1 + 1, 0, none⟩) 1 1] 33)).alloc (.cells (madeCells #[.int .i64 0] p) 3)).alloc (.cells #[.slice (some ⟨w.heap.size + 1 + 1 + 1, 0, none⟩) p p, .slice none 0 0] 40)).alloc (.cells #[.slice none 0 0, .int .i64 0, .int .i64 0, .slice (some ⟨w.heap.size + 1 + 1 + 1 + 1, 0, none⟩) 1 1] 33))).heap.size ((((((w.alloc (.cells #[.slice none 0 0, .slice none 0 0, .slice none 0 0, .slice none 0 0, .slice (some ⟨w.heap.size + 1 + 1 + 1 + 1 + 1, 0, none⟩) 1 1, .int .i64 0, .int .i64 0] 27)).alloc (.cells #[.int .i64 5, .int .i64 0, .int .i64 0, .int .i64 0, .int .i64 0, .int .i64 0, .slice none 0 0, .slice none 0 0, .slice none 0 0] 30)).alloc (.cells #[.slice none 0 0, .int .i64 0, .int .i64 0, .slice (some ⟨w.heap.size + 1 + 1 + 1 + 1, 0, none⟩) 1 1] 33)).alloc (.cells (madeCells #[.int .i64 0] p) 3)).alloc (.cells #[.slice (some ⟨w.heap.size + 1 + 1 + 1, 0, none⟩) p p, .slice none 0 0] 40)).alloc (.cells #[.slice none 0 0, .int .i64 0, .int .i64 0, .slice (some ⟨w.heap.size + 1 + 1 + 1 + 1, 0, none⟩) 1 1] 33)) ⟨none, 0, 0, none, 0, 0, none, 0, 0, none, 0, 0, some ⟨w.heap.size + 1 + 1 + 1 + 1 + 1, 0, none⟩, 1, 1, 0, 0⟩ (M.lim10 p)) := ⟨rfl, rfl, in0, in0, ⟨Nat.zero_le _, Nat.zero_le _, Nat.zero_le _, Nat.zero_le _, (by decide : 1 ≤ maxLen)⟩, Lies.no, Lies.no, Lies.no, Lies.no, Lies.one _ g5 rfl ⟨_, 0, 0, _, 1, 1, rfl, by decide, by decide, in0, in0, Lies.no, Lies.one _ g4 rfl ⟨_, p, p, _, 0, 0, rfl, hpm, by decide, Lies.made rfl (by decide) ⟨rfl, in0⟩ g3 r3, Lies.no⟩ fun j _ => cells_blk r4 j⟩ fun j _ => cells_blk r5 j⟩
  have hck := M.lim10_check p hp2
  obtain ⟨hwt, hsz⟩ := M.lim10_small p hp2
  have hbl := HIM.out.len
  have HEB := Lib.hid (encode_bad (Nat.le_refl _) HIM.out (by omega))
  have HEG := Lib.hid (encode_good (Nat.le_refl _) HIM.out (by omega) (by omega))
  have hok := HIM.out.ok
  have hmk := makeINTS p hp2
  have hlen : (M.bImg (M.lim10 p)).length ≤ 9000000 := by omega
  clear z1 z2 z3 z4 z5 z6 r3 g3 r4 g4 r5 g5 hbl hwt hsz S0 hpi hpm
  by_cases hc : 200 < p
  · rw [if_pos hc] at hck
    rw [hck] at HEB
    have x0 : decide ((200 : Int) < (p : Int)) = true := decide_eq_true (by omega)
    clear HEG hck hok hlen
    go_enter Try.func3, Try.ntmps3
    go_wp2_with fail
    refine (HEB.out (by decide)).mono ?_; rintro e w2 ⟨rfl, t2⟩
    have HB2 := Lib.hid (below_next HB1.out (Still.below t2))
    clear t2 HEB
    go_wp2_with fail
    refine (lives4_any _).mono ?_; rintro e w4 ⟨rfl, t4⟩
    have HB4 := Lib.hid (below_next HB2.out t4)
    clear t4
    go_wp2_with fail
    go_ret
    exact ⟨rfl, HB4.out⟩
  · rw [if_neg hc] at hck
    have x0 : decide ((200 : Int) < (p : Int)) = false := decide_eq_false (by omega)
    have HG : Hid (M.Good (M.bel4 ++ M.bImg (M.lim10 p)) (M.lim10 p)) := ⟨rfl, hok (M.check_zero hck).2, hck⟩
    have HBT : Hid (M.Bytes (M.bel4 ++ M.bImg (M.lim10 p))) := M.Bytes.app (by intro c hc; simp [M.bel4] at hc; omega) (M.byt_Img _)
    have HLE : Hid (4 ≤ (M.bel4 ++ M.bImg (M.lim10 p)).length ∧ (M.bel4 ++ M.bImg (M.lim10 p)).length ≤ 9000010) := by
      show _ ∧ _
      simp only [List.length_append, M.bel4, List.length_cons, List.length_nil]
      omega
    rw [hck] at HEG
    clear HEB hck hok hlen
    go_enter Try.func3, Try.ntmps3
    go_wp2_with fail
    refine (HEG.out (by decide)).mono ?_; rintro e w2 ⟨a, c, rfl, ho, t2⟩
    have HB2 := Lib.hid (below_next HB1.out t2)
    have HM2 := Lib.hid (Below.blk t2 HM1.out)
    have HI2 := Lib.hid (HIM.out.later t2)
    clear t2 HEG HIM HM1
    obtain ⟨XS, hXS⟩ : ∃ XS, M.bel4 ++ M.bImg (M.lim10 p) = XS := ⟨_, rfl⟩
    rw [hXS] at ho HG HBT HLE
    rw [hXS]
    have hkk := HLE.out
    obtain ⟨r, rfl, hraw⟩ := own_raw ho (by omega)
    have HDEC := Lib.hid (decode_any hraw HBT.out (by omega))
    clear hXS ho hraw
    obtain ⟨kk, hk⟩ : ∃ kk, XS.length = kk := ⟨_, rfl⟩
    rw [hk] at HDEC ⊢
    clear hk hkk HLE
    go_wp2_with fail
    refine HDEC.out.mono ?_; rintro e w4 ⟨t4, hres⟩
    have HB4 := Lib.hid (below_next HB2.out (Still.below t4))
    have HM4 := Lib.hid (t4.blk HM2.out)
    have HI4 := Lib.hid (HI2.out.later (Still.below t4))
    clear t4 HDEC
    rcases hres with ⟨y, m', rfl, hq', hg⟩ | ⟨rfl, hno⟩
    · obtain rfl : m' = M.lim10 p := good_uniq HG.out hg
      have HIY := Lib.hid (hq'.is (B := w4.heap.size) fun b hb => hb.2)
      clear hq' hg HG HBT
      obtain ⟨ya, yb, yc, yd, ye, yf, yg, yh, yi, yj, yk, yl, ym, yn, yo, yp, yq⟩ := y
      have T6 : Hid (Still w4 (w4.alloc (.cells #[.slice ya yb yc, .slice yd ye yf, .slice yg yh yi, .slice yj yk yl, .slice ym yn yo, .int .i64 yp, .int .i64 yq] 27))) := (Still.refl w4).alloc _
      have HB6 := Lib.hid (below_next HB4.out (Still.below T6.out))
      have HSAME := Lib.hid (same_one (HIY.out.later (Still.below T6.out)) (HI4.out.later (Still.below T6.out)))
      obtain ⟨n0, n1, n2, n3, n4, n5, n6, n7⟩ := imgBox HM4.out
      dsimp only
      go_wp2_with fail
      clear n0 n1 n2 n3 n4 n5 n6 n7
      refine HSAME.out.mono ?_; rintro e w7 ⟨rfl, t7⟩
      have HB7 := Lib.hid (below_next HB6.out (Still.below t7))
      clear t7
      go_wp2_with fail
      refine (lives4_any _).mono ?_; rintro e w8 ⟨rfl, t8⟩
      have HB8 := Lib.hid (below_next HB7.out t8)
      clear t8
      go_wp2_with fail
      go_ret
      exact ⟨rfl, HB8.out⟩
    · exact absurd HG.out (hno _)
set_option maxRecDepth 100000 in
set_option maxHeartbeats 8000000 in
theorem lim10_z {n q : Int} {w : World} (hq : (if 2100 < n then 2100 else n) = q) (h0 : q ≤ 0) :
    Calls Try.prog 3 #[.int .i64 10, .int .i64 n] w fun e w' => e = .returned (.bool true) ∧ Below w.heap.size w w' := by
  have hpm : 0 ≤ maxLen := Nat.zero_le _
  have hpi : In64 0 := in0
  have S0 : Hid (Still w ((((((w.alloc (.cells #[.slice none 0 0, .slice none 0 0, .slice none 0 0, .slice none 0 0, .slice (some ⟨w.heap.size + 1 + 1 + 1 + 1 + 1, 0, none⟩) 1 1, .int .i64 0, .int .i64 0] 27)).alloc (.cells #[.int .i64 5, .int .i64 0, .int .i64 0, .int .i64 0, .int .i64 0, .int .i64 0, .slice none 0 0, .slice none 0 0, .slice none 0 0] 30)).alloc (.cells #[.slice none 0 0, .int .i64 0, .int .i64 0, .slice (some ⟨w.heap.size + 1 + 1 + 1 + 1, 0, none⟩) 1 1] 33)).alloc (.cells (madeCells #[.int .i64 0] 0) 3)).alloc (.cells #[.slice (some ⟨w.heap.size + 1 + 1 + 1, 0, none⟩) 0 0, .slice none 0 0] 40)).alloc (.cells #[.slice none 0 0, .int .i64 0, .int .i64 0, .slice (some ⟨w.heap.size + 1 + 1 + 1 + 1, 0, none⟩) 1 1] 33))) := ((((((Still.refl w).alloc _).alloc _).alloc _).alloc _).alloc _).alloc _
  have HB1 := Lib.hid (Still.below S0.out)
  have z1 := size_next (rfl : w.heap.size = w.heap.size) (.cells #[.slice none 0 0, .slice none 0 0, .slice none 0 0, .slice none 0 0, .slice (some ⟨w.heap.size + 1 + 1 + 1 + 1 + 1, 0, none⟩) 1 1, .int .i64 0, .int .i64 0] 27)
  have z2 := size_next z1 (.cells #[.int .i64 5, .int .i64 0, .int .i64 0, .int .i64 0, .int .i64 0, .int .i64 0, .slice none 0 0, .slice none 0 0, .slice none 0 0] 30)
  have z3 := size_next z2 (.cells #[.slice none 0 0, .int .i64 0, .int .i64 0, .slice (some ⟨w.heap.size + 1 + 1 + 1 + 1, 0, none⟩) 1 1] 33)
  have z4 := size_next z3 (.cells (madeCells #[.int .i64 0] 0) 3)
  have z5 := size_next z4 (.cells #[.slice (some ⟨w.heap.size + 1 + 1 + 1, 0, none⟩) 0 0, .slice none 0 0] 40)
  have z6 := size_next z5 (.cells #[.slice none 0 0, .int .i64 0, .int .i64 0, .slice (some ⟨w.heap.size + 1 + 1 + 1 + 1, 0, none⟩) 1 1] 33)
  have r3 : Blk ((((((w.alloc (.cells #[.slice none 0 0, .slice none 0 0, .slice none 0 0, .slice none 0 0, .slice (some ⟨w.heap.size + 1 + 1 + 1 + 1 + 1, 0, none⟩) 1 1, .int .i64 0, .int .i64 0] 27)).alloc (.cells #[.int .i64 5, .int .i64 0, .int .i64 0, .int .i64 0, .int .i64 0, .int .i64 0, .slice none 0 0, .slice none 0 0, .slice none 0 0] 30)).alloc (.cells #[.slice none 0 0, .int .i64 0, .int .i64 0, .slice (some ⟨w.heap.size + 1 + 1 + 1 + 1, 0, none⟩) 1 1] 33)).alloc (.cells (madeCells #[.int .i64 0] 0) 3)).alloc (.cells #[.slice (some ⟨w.heap.size + 1 + 1 + 1, 0, none⟩) 0 0, .slice none 0 0] 40)).alloc (.cells #[.slice none 0 0, .int .i64 0, .int .i64 0, .slice (some ⟨w.heap.size + 1 + 1 + 1 + 1, 0, none⟩) 1 1] 33)) (w.heap.size + 1 + 1 + 1) 3 (madeCells #[.int .i64 0] 0) := (by exact ((blk_next z3 _ _).alloc _).alloc _)
  have g3 : w.heap.size + 1 + 1 + 1 < (((((((w.alloc (.cells #[.slice none 0 0, .slice none 0 0, .slice none 0 0, .slice none 0 0, .slice (some ⟨w.heap.size + 1 + 1 + 1 + 1 + 1, 0, none⟩) 1 1, .int .i64 0, .int .i64 0] 27)).alloc (.cells #[.int .i64 5, .int .i64 0, .int .i64 0, .int .i64 0, .int .i64 0, .int .i64 0, .slice none 0 0, .slice none 0 0, .slice none 0 0] 30)).alloc (.cells #[.slice none 0 0, .int .i64 0, .int .i64 0, .slice (some ⟨w.heap.size + 1 + 1 + 1 + 1, 0, none⟩) 1 1] 33)).alloc (.cells (madeCells #[.int .i64 0] 0) 3)).alloc (.cells #[.slice (some ⟨w.heap.size + 1 + 1 + 1, 0, none⟩) 0 0, .slice none 0 0] 40)).alloc (.cells #[.slice none 0 0, .int .i64 0, .int .i64 0, .slice (some ⟨w.heap.size + 1 + 1 + 1 + 1, 0, none⟩) 1 1] 33))).heap.size := by rw [z6]; omega
  have r4 : Blk ((((((w.alloc (.cells #[.slice none 0 0, .slice none 0 0, .slice none 0 0, .slice none 0 0, .slice (some ⟨w.heap.size + 1 + 1 + 1 + 1 + 1, 0, none⟩) 1 1, .int .i64 0, .int .i64 0] 27)).alloc (.cells #[.int .i64 5, .int .i64 0, .int .i64 0, .int .i64 0, .int .i64 0, .int .i64 0, .slice none 0 0, .slice none 0 0, .slice none 0 0] 30)).alloc (.cells #[.slice none 0 0, .int .i64 0, .int .i64 0, .slice (some ⟨w.heap.size + 1 + 1 + 1 + 1, 0, none⟩) 1 1] 33)).alloc (.cells (madeCells #[.int .i64 0] 0) 3)).alloc (.cells #[.slice (some ⟨w.heap.size + 1 + 1 + 1, 0, none⟩) 0 0, .slice none 0 0] 40)).alloc (.cells #[.slice none 0 0, .int .i64 0, .int .i64 0, .slice (some ⟨w.heap.size + 1 + 1 + 1 + 1, 0, none⟩) 1 1] 33)) (w.heap.size + 1 + 1 + 1 + 1) 40 #[.slice (some ⟨w.heap.size + 1 + 1 + 1, 0, none⟩) 0 0, .slice none 0 0] := (blk_next z4 _ _).alloc _
  have g4 : w.heap.size + 1 + 1 + 1 + 1 < (((((((w.alloc (.cells #[.slice none 0 0, .slice none 0 0, .slice none 0 0, .slice none 0 0, .slice (some ⟨w.heap.size + 1 + 1 + 1 + 1 + 1, 0, none⟩) 1 1, .int .i64 0, .int .i64 0] 27)).alloc (.cells #[.int .i64 5, .int .i64 0, .int .i64 0, .int .i64 0, .int .i64 0, .int .i64 0, .slice none 0 0, .slice none 0 0, .slice none 0 0] 30)).alloc (.cells #[.slice none 0 0, .int .i64 0, .int .i64 0, .slice (some ⟨w.heap.size + 1 + 1 + 1 + 1, 0, none⟩) 1 1] 33)).alloc (.cells (madeCells #[.int .i64 0] 0) 3)).alloc (.cells #[.slice (some ⟨w.heap.size + 1 + 1 + 1, 0, none⟩) 0 0, .slice none 0 0] 40)).alloc (.cells #[.slice none 0 0, .int .i64 0, .int .i64 0, .slice (some ⟨w.heap.size + 1 + 1 + 1 + 1, 0, none⟩) 1 1] 33))).heap.size := by rw [z6]; omega
  have r5 : Blk ((((((w.alloc (.cells #[.slice none 0 0, .slice none 0 0, .slice none 0 0, .slice none 0 0, .slice (some ⟨w.heap.size + 1 + 1 + 1 + 1 + 1, 0, none⟩) 1 1, .int .i64 0, .int .i64 0] 27)).alloc (.cells #[.int .i64 5, .int .i64 0, .int .i64 0, .int .i64 0, .int .i64 0, .int .i64 0, .slice none 0 0, .slice none 0 0, .slice none 0 0] 30)).alloc (.cells #[.slice none 0 0, .int .i64 0, .int .i64 0, .slice (some ⟨w.heap.size + 1 + 1 + 1 + 1, 0, none⟩) 1 1] 33)).alloc (.cells (madeCells #[.int .i64 0] 0) 3)).alloc (.cells #[.slice (some ⟨w.heap.size + 1 + 1 + 1, 0, none⟩) 0 0, .slice none 0 0] 40)).alloc (.cells #[.slice none 0 0, .int .i64 0, .int .i64 0, .slice (some ⟨w.heap.size + 1 + 1 + 1 + 1, 0, none⟩) 1 1] 33)) (w.heap.size + 1 + 1 + 1 + 1 + 1) 33 #[.slice none 0 0, .int .i64 0, .int .i64 0, .slice (some ⟨w.heap.size + 1 + 1 + 1 + 1, 0, none⟩) 1 1] := blk_next z5 _ _
  have g5 : w.heap.size + 1 + 1 + 1 + 1 + 1 < (((((((w.alloc (.cells #[.slice none 0 0, .slice none 0 0, .slice none 0 0, .slice none 0 0, .slice (some ⟨w.heap.size + 1 + 1 + 1 + 1 + 1, 0, none⟩) 1 1, .int .i64 0, .int .i64 0] 27)).alloc (.cells #[.int .i64 5, .int .i64 0, .int .i64 0, .int .i64 0, .int .i64 0, .int .i64 0, .slice none 0 0, .slice none 0 0, .slice none 0 0] 30)).alloc (.cells #[.slice none 0 0, .int .i64 0, .int .i64 0, .slice (some ⟨w.heap.size + 1 + 1 + 1 + 1, 0, none⟩) 1 1] 33)).alloc (.cells (madeCells #[.int .i64 0] 0) 3)).alloc (.cells #[.slice (some ⟨w.heap.size + 1 + 1 + 1, 0, none⟩) 0 0, .slice none 0 0] 40)).alloc (.cells #[.slice none 0 0, .int .i64 0, .int .i64 0, .slice (some ⟨w.heap.size + 1 + 1 + 1 + 1, 0, none⟩) 1 1] 33))).heap.size := by rw [z6]; omega
  have HM1 : Hid (Blk ((((((w.alloc (.cells #[.slice none 0 0, .slice none 0 0, .slice none 0 0, .slice none 0 0, .slice (some ⟨w.heap.size + 1 + 1 + 1 + 1 + 1, 0, none⟩) 1 1, .int .i64 0, .int .i64 0] 27)).alloc (.cells #[.int .i64 5, .int .i64 0, .int .i64 0, .int .i64 0, .int .i64 0, .int .i64 0, .slice none 0 0, .slice none 0 0, .slice none 0 0] 30)).alloc (.cells #[.slice none 0 0, .int .i64 0, .int .i64 0, .slice (some ⟨w.heap.size + 1 + 1 + 1 + 1, 0, none⟩) 1 1] 33)).alloc (.cells (madeCells #[.int .i64 0] 0) 3)).alloc (.cells #[.slice (some ⟨w.heap.size + 1 + 1 + 1, 0, none⟩) 0 0, .slice none 0 0] 40)).alloc (.cells #[.slice none 0 0, .int .i64 0, .int .i64 0, .slice (some ⟨w.heap.size + 1 + 1 + 1 + 1, 0, none⟩) 1 1] 33)) w.heap.size 27 #[.slice none 0 0, .slice none 0 0, .slice none 0 0, .slice none 0 0, .slice (some ⟨w.heap.size + 1 + 1 + 1 + 1 + 1, 0, none⟩) 1 1, .int .i64 0, .int .i64 0]) := (((((Blk.new w _ _).alloc _).alloc _).alloc _).alloc _).alloc _
  have HIM : Hid (ImgIs (((((((w.alloc (.cells #[.slice none 0 0, .slice none 0 0, .slice none 0 0, .slice none 0 0, .slice (some ⟨w.heap.size + 1 + 1 + 1 + 1 + 1, 0, none⟩) 1 1, .int .i64 0, .int .i64 0] 27)).alloc (.cells #[.int .i64 5, .int .i64 0, .int .i64 0, .int .i64 0, .int .i64 0, .int .i64 0, .slice none 0 0, .slice none 0 0, .slice none 0 0] 30)).alloc (.cells #[.slice none 0 0, .int .i64 0, .int .i64 0, .slice (some ⟨w.heap.size + 1 + 1 + 1 + 1, 0, none⟩) 1 1] 33)).alloc (.cells (madeCells #[.int .i64 0] 0) 3)).alloc (.cells #[.slice (some ⟨w.heap.size + 1 + 1 + 1, 0, none⟩) 0 0, .slice none 0 0] 40)).alloc (.cells #[.slice none 0 0, .int .i64 0, .int .i64 0, .slice (some ⟨w.heap.size + 1 + 1 + 1 + 1, 0, none⟩) 1 1] 33))).heap.size ((((((w.alloc (.cells #[.slice none 0 0, .slice none 0 0, .slice none 0 0, .slice none 0 0, .slice (some ⟨w.heap.size + 1 + 1 + 1 + 1 + 1, 0, none⟩) 1 1, .int .i64 0, .int .i64 0] 27)).alloc (.cells #[.int .i64 5, .int .i64 0, .int .i64 0, .int .i64 0, .int .i64 0, .int .i64 0, .slice none 0 0, .slice none 0 0, .slice none 0 0] 30)).alloc (.cells #[.slice none 0 0, .int .i64 0, .int .i64 0, .slice (some ⟨w.heap.size + 1 + 1 + 1 + 1, 0, none⟩) 1 1] 33)).alloc (.cells (madeCells #[.int .i64 0] 0) 3)).alloc (.cells #[.slice (some ⟨w.heap.size + 1 + 1 + 1, 0, none⟩) 0 0, .slice none 0 0] 40)).alloc (.cells #[.slice none 0 0, .int .i64 0, .int .i64 0, .slice (some ⟨w.heap.size + 1 + 1 + 1 + 1, 0, none⟩) 1 1] 33)) ⟨none, 0, 0, none, 0, 0, none, 0, 0, none, 0, 0, some ⟨w.heap.size + 1 + 1 + 1 + 1 + 1, 0, none⟩, 1, 1, 0, 0⟩ (M.lim10 0)) := ⟨rfl, rfl, in0, in0, ⟨Nat.zero_le _, Nat.zero_le _, Nat.zero_le _, Nat.zero_le _, (by decide : 1 ≤ maxLen)⟩, Lies.no, Lies.no, Lies.no, Lies.no, Lies.one _ g5 rfl ⟨_, 0, 0, _, 1, 1, rfl, by decide, by decide, in0, in0, Lies.no, Lies.one _ g4 rfl ⟨_, 0, 0, _, 0, 0, rfl, hpm, by decide, Lies.made rfl (by decide) ⟨rfl, in0⟩ g3 r3, Lies.no⟩ fun j _ => cells_blk r4 j⟩ fun j _ => cells_blk r5 j⟩
  have hck := M.lim10_check 0 (by decide)
  obtain ⟨hwt, hsz⟩ := M.lim10_small 0 (by decide)
  have hbl := HIM.out.len
  have HEB := Lib.hid (encode_bad (Nat.le_refl _) HIM.out (by omega))
  have HEG := Lib.hid (encode_good (Nat.le_refl _) HIM.out (by omega) (by omega))
  have hok := HIM.out.ok
  have hmk : ∀ W, (Instr.makeSlice 28 (.int .i64 0) (.int .i64 0)).run Try.prog W = .ok (.slice (some ⟨W.heap.size, 0, none⟩) 0 0) (W.alloc (.cells (madeCells #[.int .i64 0] 0) 3)) := fun W => makeINTS 0 (by decide) W
  have hlen : (M.bImg (M.lim10 0)).length ≤ 9000000 := by omega
  clear z1 z2 z3 z4 z5 z6 r3 g3 r4 g4 r5 g5 hbl hwt hsz S0 hpi hpm
  · rw [if_neg (by decide)] at hck
    have HG : Hid (M.Good (M.bel4 ++ M.bImg (M.lim10 0)) (M.lim10 0)) := ⟨rfl, hok (M.check_zero hck).2, hck⟩
    have HBT : Hid (M.Bytes (M.bel4 ++ M.bImg (M.lim10 0))) := M.Bytes.app (by intro c hc; simp [M.bel4] at hc; omega) (M.byt_Img _)
    have HLE : Hid (4 ≤ (M.bel4 ++ M.bImg (M.lim10 0)).length ∧ (M.bel4 ++ M.bImg (M.lim10 0)).length ≤ 9000010) := by
      show _ ∧ _
      simp only [List.length_append, M.bel4, List.length_cons, List.length_nil]
      omega
    rw [hck] at HEG
    clear HEB hck hok hlen
    go_enter Try.func3, Try.ntmps3
    go_wp2_with fail
    refine (HEG.out (by decide)).mono ?_; rintro e w2 ⟨a, c, rfl, ho, t2⟩
    have HB2 := Lib.hid (below_next HB1.out t2)
    have HM2 := Lib.hid (Below.blk t2 HM1.out)
    have HI2 := Lib.hid (HIM.out.later t2)
    clear t2 HEG HIM HM1
    obtain ⟨XS, hXS⟩ : ∃ XS, M.bel4 ++ M.bImg (M.lim10 0) = XS := ⟨_, rfl⟩
    rw [hXS] at ho HG HBT HLE
    rw [hXS]
    have hkk := HLE.out
    obtain ⟨r, rfl, hraw⟩ := own_raw ho (by omega)
    have HDEC := Lib.hid (decode_any hraw HBT.out (by omega))
    clear hXS ho hraw
    obtain ⟨kk, hk⟩ : ∃ kk, XS.length = kk := ⟨_, rfl⟩
    rw [hk] at HDEC ⊢
    clear hk hkk HLE
    go_wp2_with fail
    refine HDEC.out.mono ?_; rintro e w4 ⟨t4, hres⟩
    have HB4 := Lib.hid (below_next HB2.out (Still.below t4))
    have HM4 := Lib.hid (t4.blk HM2.out)
    have HI4 := Lib.hid (HI2.out.later (Still.below t4))
    clear t4 HDEC
    rcases hres with ⟨y, m', rfl, hq', hg⟩ | ⟨rfl, hno⟩
    · obtain rfl : m' = M.lim10 0 := good_uniq HG.out hg
      have HIY := Lib.hid (hq'.is (B := w4.heap.size) fun b hb => hb.2)
      clear hq' hg HG HBT
      obtain ⟨ya, yb, yc, yd, ye, yf, yg, yh, yi, yj, yk, yl, ym, yn, yo, yp, yq⟩ := y
      have T6 : Hid (Still w4 (w4.alloc (.cells #[.slice ya yb yc, .slice yd ye yf, .slice yg yh yi, .slice yj yk yl, .slice ym yn yo, .int .i64 yp, .int .i64 yq] 27))) := (Still.refl w4).alloc _
      have HB6 := Lib.hid (below_next HB4.out (Still.below T6.out))
      have HSAME := Lib.hid (same_one (HIY.out.later (Still.below T6.out)) (HI4.out.later (Still.below T6.out)))
      obtain ⟨n0, n1, n2, n3, n4, n5, n6, n7⟩ := imgBox HM4.out
      dsimp only
      go_wp2_with fail
      clear n0 n1 n2 n3 n4 n5 n6 n7
      refine HSAME.out.mono ?_; rintro e w7 ⟨rfl, t7⟩
      have HB7 := Lib.hid (below_next HB6.out (Still.below t7))
      clear t7
      go_wp2_with fail
      refine (lives4_any _).mono ?_; rintro e w8 ⟨rfl, t8⟩
      have HB8 := Lib.hid (below_next HB7.out t8)
      clear t8
      go_wp2_with fail
      go_ret
      exact ⟨rfl, HB8.out⟩
    · exact absurd HG.out (hno _)
set_option maxRecDepth 100000 in
set_option maxHeartbeats 8000000 in
theorem lim11_w {n : Int} {p : Nat} {w : World} (hq : (if 2100 < n then 2100 else n) = (p : Int)) (h0 : (0 : Int) < (p : Int)) (hp2 : p ≤ 2100) :
    Calls Try.prog 3 #[.int .i64 11, .int .i64 n] w fun e w' => e = .returned (.bool true) ∧ Below w.heap.size w w' := by
  have hpm : p ≤ maxLen := by unfold maxLen; omega
  have hpi : In64 (p : Int) := by unfold In64; omega
  have S0 : Hid (Still w (((((((w.alloc (.cells #[.slice none 0 0, .slice none 0 0, .slice none 0 0, .slice none 0 0, .slice (some ⟨w.heap.size + 1 + 1 + 1 + 1 + 1 + 1, 0, none⟩) 1 1, .int .i64 0, .int .i64 0] 27)).alloc (.cells #[.int .i64 5, .int .i64 0, .int .i64 0, .int .i64 0, .int .i64 0, .int .i64 0, .slice (some ⟨w.heap.size + 1 + 1 + 1, 0, none⟩) p p, .slice none 0 0, .slice none 0 0] 30)).alloc (.cells #[.slice none 0 0, .int .i64 0, .int .i64 0, .slice none 0 0] 33)).alloc (.cells (madeCells #[.int .i64 0] p) 3)).alloc (.cells #[.int .i64 5, .int .i64 0, .int .i64 0, .int .i64 0, .int .i64 0, .int .i64 0, .slice (some ⟨w.heap.size + 1 + 1 + 1, 0, none⟩) p p, .slice none 0 0, .slice none 0 0] 30)).alloc (.cells #[.slice none 0 0, .slice (some ⟨w.heap.size + 1 + 1 + 1 + 1, 0, none⟩) 1 1] 40)).alloc (.cells #[.slice none 0 0, .int .i64 0, .int .i64 0, .slice (some ⟨w.heap.size + 1 + 1 + 1 + 1 + 1, 0, none⟩) 1 1] 33))) := (((((((Still.refl w).alloc _).alloc _).alloc _).alloc _).alloc _).alloc _).alloc _
  have HB1 := Lib.hid (Still.below S0.out)
  have z1 := size_next (rfl : w.heap.size = w.heap.size) (.cells #[.slice none 0 0, .slice none 0 0, .slice none 0 0, .slice none 0 0, .slice (some ⟨w.heap.size + 1 + 1 + 1 + 1 + 1 + 1, 0, none⟩) 1 1, .int .i64 0, .int .i64 0] 27)
  have z2 := size_next z1 (.cells #[.int .i64 5, .int .i64 0, .int .i64 0, .int .i64 0, .int .i64 0, .int .i64 0, .slice (some ⟨w.heap.size + 1 + 1 + 1, 0, none⟩) p p, .slice none 0 0, .slice none 0 0] 30)
  have z3 := size_next z2 (.cells #[.slice none 0 0, .int .i64 0, .int .i64 0, .slice none 0 0] 33)
  have z4 := size_next z3 (.cells (madeCells #[.int .i64 0] p) 3)
  have z5 := size_next z4 (.cells #[.int .i64 5, .int .i64 0, .int .i64 0, .int .i64 0, .int .i64 0, .int .i64 0, .slice (some ⟨w.heap.size + 1 + 1 + 1, 0, none⟩) p p, .slice none 0 0, .slice none 0 0] 30)
  have z6 := size_next z5 (.cells #[.slice none 0 0, .slice (some ⟨w.heap.size + 1 + 1 + 1 + 1, 0, none⟩) 1 1] 40)
  have z7 := size_next z6 (.cells #[.slice none 0 0, .int .i64 0, .int .i64 0, .slice (some ⟨w.heap.size + 1 + 1 + 1 + 1 + 1, 0, none⟩) 1 1] 33)
  have r3 : Blk (((((((w.alloc (.cells #[.slice none 0 0, .slice none 0 0, .slice none 0 0, .slice none 0 0, .slice (some ⟨w.heap.size + 1 + 1 + 1 + 1 + 1 + 1, 0, none⟩) 1 1, .int .i64 0, .int .i64 0] 27)).alloc (.cells #[.int .i64 5, .int .i64 0, .int .i64 0, .int .i64 0, .int .i64 0, .int .i64 0, .slice (some ⟨w.heap.size + 1 + 1 + 1, 0, none⟩) p p, .slice none 0 0, .slice none 0 0] 30)).alloc (.cells #[.slice none 0 0, .int .i64 0, .int .i64 0, .slice none 0 0] 33)).alloc (.cells (madeCells #[.int .i64 0] p) 3)).alloc (.cells #[.int .i64 5, .int .i64 0, .int .i64 0, .int .i64 0, .int .i64 0, .int .i64 0, .slice (some ⟨w.heap.size + 1 + 1 + 1, 0, none⟩) p p, .slice none 0 0, .slice none 0 0] 30)).alloc (.cells #[.slice none 0 0, .slice (some ⟨w.heap.size + 1 + 1 + 1 + 1, 0, none⟩) 1 1] 40)).alloc (.cells #[.slice none 0 0, .int .i64 0, .int .i64 0, .slice (some ⟨w.heap.size + 1 + 1 + 1 + 1 + 1, 0, none⟩) 1 1] 33)) (w.heap.size + 1 + 1 + 1) 3 (madeCells #[.int .i64 0] (p * 1)) := (by rw [Nat.mul_one]; exact (((blk_next z3 _ _).alloc _).alloc _).alloc _)
  have g3 : w.heap.size + 1 + 1 + 1 < ((((((((w.alloc (.cells #[.slice none 0 0, .slice none 0 0, .slice none 0 0, .slice none 0 0, .slice (some ⟨w.heap.size + 1 + 1 + 1 + 1 + 1 + 1, 0, none⟩) 1 1, .int .i64 0, .int .i64 0] 27)).alloc (.cells #[.int .i64 5, .int .i64 0, .int .i64 0, .int .i64 0, .int .i64 0, .int .i64 0, .slice (some ⟨w.heap.size + 1 + 1 + 1, 0, none⟩) p p, .slice none 0 0, .slice none 0 0] 30)).alloc (.cells #[.slice none 0 0, .int .i64 0, .int .i64 0, .slice none 0 0] 33)).alloc (.cells (madeCells #[.int .i64 0] p) 3)).alloc (.cells #[.int .i64 5, .int .i64 0, .int .i64 0, .int .i64 0, .int .i64 0, .int .i64 0, .slice (some ⟨w.heap.size + 1 + 1 + 1, 0, none⟩) p p, .slice none 0 0, .slice none 0 0] 30)).alloc (.cells #[.slice none 0 0, .slice (some ⟨w.heap.size + 1 + 1 + 1 + 1, 0, none⟩) 1 1] 40)).alloc (.cells #[.slice none 0 0, .int .i64 0, .int .i64 0, .slice (some ⟨w.heap.size + 1 + 1 + 1 + 1 + 1, 0, none⟩) 1 1] 33))).heap.size := by rw [z7]; omega
  have r4 : Blk (((((((w.alloc (.cells #[.slice none 0 0, .slice none 0 0, .slice none 0 0, .slice none 0 0, .slice (some ⟨w.heap.size + 1 + 1 + 1 + 1 + 1 + 1, 0, none⟩) 1 1, .int .i64 0, .int .i64 0] 27)).alloc (.cells #[.int .i64 5, .int .i64 0, .int .i64 0, .int .i64 0, .int .i64 0, .int .i64 0, .slice (some ⟨w.heap.size + 1 + 1 + 1, 0, none⟩) p p, .slice none 0 0, .slice none 0 0] 30)).alloc (.cells #[.slice none 0 0, .int .i64 0, .int .i64 0, .slice none 0 0] 33)).alloc (.cells (madeCells #[.int .i64 0] p) 3)).alloc (.cells #[.int .i64 5, .int .i64 0, .int .i64 0, .int .i64 0, .int .i64 0, .int .i64 0, .slice (some ⟨w.heap.size + 1 + 1 + 1, 0, none⟩) p p, .slice none 0 0, .slice none 0 0] 30)).alloc (.cells #[.slice none 0 0, .slice (some ⟨w.heap.size + 1 + 1 + 1 + 1, 0, none⟩) 1 1] 40)).alloc (.cells #[.slice none 0 0, .int .i64 0, .int .i64 0, .slice (some ⟨w.heap.size + 1 + 1 + 1 + 1 + 1, 0, none⟩) 1 1] 33)) (w.heap.size + 1 + 1 + 1 + 1) 30 #[.int .i64 5, .int .i64 0, .int .i64 0, .int .i64 0, .int .i64 0, .int .i64 0, .slice (some ⟨w.heap.size + 1 + 1 + 1, 0, none⟩) p p, .slice none 0 0, .slice none 0 0] := ((blk_next z4 _ _).alloc _).alloc _
  have g4 : w.heap.size + 1 + 1 + 1 + 1 < ((((((((w.alloc (.cells #[.slice none 0 0, .slice none 0 0, .slice none 0 0, .slice none 0 0, .slice (some ⟨w.heap.size + 1 + 1 + 1 + 1 + 1 + 1, 0, none⟩) 1 1, .int .i64 0, .int .i64 0] 27)).alloc (.cells #[.int .i64 5, .int .i64 0, .int .i64 0, .int .i64 0, .int .i64 0, .int .i64 0, .slice (some ⟨w.heap.size + 1 + 1 + 1, 0, none⟩) p p, .slice none 0 0, .slice none 0 0] 30)).alloc (.cells #[.slice none 0 0, .int .i64 0, .int .i64 0, .slice none 0 0] 33)).alloc (.cells (madeCells #[.int .i64 0] p) 3)).alloc (.cells #[.int .i64 5, .int .i64 0, .int .i64 0, .int .i64 0, .int .i64 0, .int .i64 0, .slice (some ⟨w.heap.size + 1 + 1 + 1, 0, none⟩) p p, .slice none 0 0, .slice none 0 0] 30)).alloc (.cells #[.slice none 0 0, .slice (some ⟨w.heap.size + 1 + 1 + 1 + 1, 0, none⟩) 1 1] 40)).alloc (.cells #[.slice none 0 0, .int .i64 0, .int .i64 0, .slice (some ⟨w.heap.size + 1 + 1 + 1 + 1 + 1, 0, none⟩) 1 1] 33))).heap.size := by rw [z7]; omega
  have r5 : Blk (((((((w.alloc (.cells #[.slice none 0 0, .slice none 0 0, .slice none 0 0, .slice none 0 0, .slice (some ⟨w.heap.size + 1 + 1 + 1 + 1 + 1 + 1, 0, none⟩) 1 1, .int .i64 0, .int .i64 0] 27)).alloc (.cells #[.int .i64 5, .int .i64 0, .int .i64 0, .int .i64 0, .int .i64 0, .int .i64 0, .slice (some ⟨w.heap.size + 1 + 1 + 1, 0, none⟩) p p, .slice none 0 0, .slice none 0 0] 30)).alloc (.cells #[.slice none 0 0, .int .i64 0, .int .i64 0, .slice none 0 0] 33)).alloc (.cells (madeCells #[.int .i64 0] p) 3)).alloc (.cells #[.int .i64 5, .int .i64 0, .int .i64 0, .int .i64 0, .int .i64 0, .int .i64 0, .slice (some ⟨w.heap.size + 1 + 1 + 1, 0, none⟩) p p, .slice none 0 0, .slice none 0 0] 30)).alloc (.cells #[.slice none 0 0, .slice (some ⟨w.heap.size + 1 + 1 + 1 + 1, 0, none⟩) 1 1] 40)).alloc (.cells #[.slice none 0 0, .int .i64 0, .int .i64 0, .slice (some ⟨w.heap.size + 1 + 1 + 1 + 1 + 1, 0, none⟩) 1 1] 33)) (w.heap.size + 1 + 1 + 1 + 1 + 1) 40 #[.slice none 0 0, .slice (some ⟨w.heap.size + 1 + 1 + 1 + 1, 0, none⟩) 1 1] := (blk_next z5 _ _).alloc _
  have g5 : w.heap.size + 1 + 1 + 1 + 1 + 1 < ((((((((w.alloc (.cells #[.slice none 0 0, .slice none 0 0, .slice none 0 0, .slice none 0 0, .slice (some ⟨w.heap.size + 1 + 1 + 1 + 1 + 1 + 1, 0, none⟩) 1 1, .int .i64 0, .int .i64 0] 27)).alloc (.cells #[.int .i64 5, .int .i64 0, .int .i64 0, .int .i64 0, .int .i64 0, .int .i64 0, .slice (some ⟨w.heap.size + 1 + 1 + 1, 0, none⟩) p p, .slice none 0 0, .slice none 0 0] 30)).alloc (.cells #[.slice none 0 0, .int .i64 0, .int .i64 0, .slice none 0 0] 33)).alloc (.cells (madeCells #[.int .i64 0] p) 3)).alloc (.cells #[.int .i64 5, .int .i64 0, .int .i64 0, .int .i64 0, .int .i64 0, .int .i64 0, .slice (some ⟨w.heap.size + 1 + 1 + 1, 0, none⟩) p p, .slice none 0 0, .slice none 0 0] 30)).alloc (.cells #[.slice none 0 0, .slice (some ⟨w.heap.size + 1 + 1 + 1 + 1, 0, none⟩) 1 1] 40)).alloc (.cells #[.slice none 0 0, .int .i64 0, .int .i64 0, .slice (some ⟨w.heap.size + 1 + 1 + 1 + 1 + 1, 0, none⟩) 1 1] 33))).heap.size := by rw [z7]; omega
  have r6 : Blk (((((((w.alloc (.cells #[.slice none 0 0, .slice none 0 0, .slice none 0 0, .slice none 0 0, .slice (some ⟨w.heap.size + 1 + 1 + 1 + 1 + 1 + 1, 0, none⟩) 1 1, .int .i64 0, .int .i64 0] 27)).alloc (.cells #[.int .i64 5, .int .i64 0, .int .i64 0, .int .i64 0, .int .i64 0, .int .i64 0, .slice (some ⟨w.heap.size + 1 + 1 + 1, 0, none⟩) p p, .slice none 0 0, .slice none 0 0] 30)).alloc (.cells #[.slice none 0 0, .int .i64 0, .int .i64 0, .slice none 0 0] 33)).alloc (.cells (madeCells #[.int .i64 0] p) 3)).alloc (.cells #[.int .i64 5, .int .i64 0, .int .i64 0, .int .i64 0, .int .i64 0, .int .i64 0, .slice (some ⟨w.heap.size + 1 + 1 + 1, 0, none⟩) p p, .slice none 0 0, .slice none 0 0] 30)).alloc (.cells #[.slice none 0 0, .slice (some ⟨w.heap.size + 1 + 1 + 1 + 1, 0, none⟩) 1 1] 40)).alloc (.cells #[.slice none 0 0, .int .i64 0, .int .i64 0, .slice (some ⟨w.heap.size + 1 + 1 + 1 + 1 + 1, 0, none⟩) 1 1] 33)) (w.heap.size + 1 + 1 + 1 + 1 + 1 + 1) 33 #[.slice none 0 0, .int .i64 0, .int .i64 0, .slice (some ⟨w.heap.size + 1 + 1 + 1 + 1 + 1, 0, none⟩) 1 1] := blk_next z6 _ _
  have g6 : w.heap.size + 1 + 1 + 1 + 1 + 1 + 1 < ((((((((w.alloc (.cells #[.slice none 0 0, .slice none 0 0, .slice none 0 0, .slice none 0 0, .slice (some ⟨w.heap.size + 1 + 1 + 1 + 1 + 1 + 1, 0, none⟩) 1 1, .int .i64 0, .int .i64 0] 27)).alloc (.cells #[.int .i64 5, .int .i64 0, .int .i64 0, .int .i64 0, .int .i64 0, .int .i64 0, .slice (some ⟨w.heap.size + 1 + 1 + 1, 0, none⟩) p p, .slice none 0 0, .slice none 0 0] 30)).alloc (.cells #[.slice none 0 0, .int .i64 0, .int .i64 0, .slice none 0 0] 33)).alloc (.cells (madeCells #[.int .i64 0] p) 3)).alloc (.cells #[.int .i64 5, .int .i64 0, .int .i64 0, .int .i64 0, .int .i64 0, .int .i64 0, .slice (some ⟨w.heap.size + 1 + 1 + 1, 0, none⟩) p p, .slice none 0 0, .slice none 0 0] 30)).alloc (.cells #[.slice none 0 0, .slice (some ⟨w.heap.size + 1 + 1 + 1 + 1, 0, none⟩) 1 1] 40)).alloc (.cells #[.slice none 0 0, .int .i64 0, .int .i64 0, .slice (some ⟨w.heap.size + 1 + 1 + 1 + 1 + 1, 0, none⟩) 1 1] 33))).heap.size := by rw [z7]; omega
  have HM1 : Hid (Blk (((((((w.alloc (.cells #[.slice none 0 0, .slice none 0 0, .slice none 0 0, .slice none 0 0, .slice (some ⟨w.heap.size + 1 + 1 + 1 + 1 + 1 + 1, 0, none⟩) 1 1, .int .i64 0, .int .i64 0] 27)).alloc (.cells #[.int .i64 5, .int .i64 0, .int .i64 0, .int .i64 0, .int .i64 0, .int .i64 0, .slice (some ⟨w.heap.size + 1 + 1 + 1, 0, none⟩) p p, .slice none 0 0, .slice none 0 0] 30)).alloc (.cells #[.slice none 0 0, .int .i64 0, .int .i64 0, .slice none 0 0] 33)).alloc (.cells (madeCells #[.int .i64 0] p) 3)).alloc (.cells #[.int .i64 5, .int .i64 0, .int .i64 0, .int .i64 0, .int .i64 0, .int .i64 0, .slice (some ⟨w.heap.size + 1 + 1 + 1, 0, none⟩) p p, .slice none 0 0, .slice none 0 0] 30)).alloc (.cells #[.slice none 0 0, .slice (some ⟨w.heap.size + 1 + 1 + 1 + 1, 0, none⟩) 1 1] 40)).alloc (.cells #[.slice none 0 0, .int .i64 0, .int .i64 0, .slice (some ⟨w.heap.size + 1 + 1 + 1 + 1 + 1, 0, none⟩) 1 1] 33)) w.heap.size 27 #[.slice none 0 0, .slice none 0 0, .slice none 0 0, .slice none 0 0, .slice (some ⟨w.heap.size + 1 + 1 + 1 + 1 + 1 + 1, 0, none⟩) 1 1, .int .i64 0, .int .i64 0]) := ((((((Blk.new w _ _).alloc _).alloc _).alloc _).alloc _).alloc _).alloc _
  have HIM : Hid (ImgIs ((((((((w.alloc (.cells #[.slice none 0 0, .slice none 0 0, .slice none 0 0, .slice none 0 0, .slice (some ⟨w.heap.size + 1 + 1 + 1 + 1 + 1 + 1, 0, none⟩) 1 1, .int .i64 0, .int .i64 0] 27)).alloc (.cells #[.int .i64 5, .int .i64 0, .int .i64 0, .int .i64 0, .int .i64 0, .int .i64 0, .slice (some ⟨w.heap.size + 1 + 1 + 1, 0, none⟩) p p, .slice none 0 0, .slice none 0 0] 30)).alloc (.cells #[.slice none 0 0, .int .i64 0, .int .i64 0, .slice none 0 0] 33)).alloc (.cells (madeCells #[.int .i64 0] p) 3)).alloc (.cells #[.int .i64 5, .int .i64 0, .int .i64 0, .int .i64 0, .int .i64 0, .int .i64 0, .slice (some ⟨w.heap.size + 1 + 1 + 1, 0, none⟩) p p, .slice none 0 0, .slice none 0 0] 30)).alloc (.cells #[.slice none 0 0, .slice (some ⟨w.heap.size + 1 + 1 + 1 + 1, 0, none⟩) 1 1] 40)).alloc (.cells #[.slice none 0 0, .int .i64 0, .int .i64 0, .slice (some ⟨w.heap.size + 1 + 1 + 1 + 1 + 1, 0, none⟩) 1 1] 33))).heap.size (((((((w.alloc (.cells #[.slice none 0 0, .slice none 0 0, .slice none 0 0, .slice none 0 0, .slice (some ⟨w.heap.size + 1 + 1 + 1 + 1 + 1 + 1, 0, none⟩) 1 1, .int .i64 0, .int .i64 0] 27)).alloc (.cells #[.int .i64 5, .int .i64 0, .int .i64 0, .int .i64 0, .int .i64 0, .int .i64 0, .slice (some ⟨w.heap.size + 1 + 1 + 1, 0, none⟩) p p, .slice none 0 0, .slice none 0 0] 30)).alloc (.cells #[.slice none 0 0, .int .i64 0, .int .i64 0, .slice none 0 0] 33)).alloc (.cells (madeCells #[.int .i64 0] p) 3)).alloc (.cells #[.int .i64 5, .int .i64 0, .int .i64 0, .int .i64 0, .int .i64 0, .int .i64 0, .slice (some ⟨w.heap.size + 1 + 1 + 1, 0, none⟩) p p, .slice none 0 0, .slice none 0 0] 30)).alloc (.cells #[.slice none 0 0, .slice (some ⟨w.heap.size + 1 + 1 + 1 + 1, 0, none⟩) 1 1] 40)).alloc (.cells #[.slice none 0 0, .int .i64 0, .int .i64 0, .slice (some ⟨w.heap.size + 1 + 1 + 1 + 1 + 1, 0, none⟩) 1 1] 33)) ⟨none, 0, 0, none, 0, 0, none, 0, 0, none, 0, 0, some ⟨w.heap.size + 1 + 1 + 1 + 1 + 1 + 1, 0, none⟩, 1, 1, 0, 0⟩ (M.lim11 p)) := ⟨rfl, rfl, in0, in0, ⟨Nat.zero_le _, Nat.zero_le _, Nat.zero_le _, Nat.zero_le _, (by decide : 1 ≤ maxLen)⟩, Lies.no, Lies.no, Lies.no, Lies.no, Lies.one _ g6 rfl ⟨_, 0, 0, _, 1, 1, rfl, by decide, by decide, in0, in0, Lies.no, Lies.one _ g5 rfl ⟨_, 0, 0, _, 1, 1, rfl, by decide, by decide, Lies.no, Lies.one _ g4 rfl ⟨_, p, p, _, 0, 0, _, 0, 0, rfl, hpm, by decide, by decide, ⟨(by unfold In64; dsimp only; omega), in0, in0, in0, in0, in0⟩, Lies.made rfl (by decide) ⟨rfl, in0⟩ g3 r3, Lies.no, Lies.no⟩ fun j _ => cells_blk r4 j⟩ fun j _ => cells_blk r5 j⟩ fun j _ => cells_blk r6 j⟩
  have hck := M.lim11_check p hp2
  obtain ⟨hwt, hsz⟩ := M.lim11_small p hp2
  have hbl := HIM.out.len
  have HEB := Lib.hid (encode_bad (Nat.le_refl _) HIM.out (by omega))
  have HEG := Lib.hid (encode_good (Nat.le_refl _) HIM.out (by omega) (by omega))
  have hok := HIM.out.ok
  have hmk := makeINTS p hp2
  have hlen : (M.bImg (M.lim11 p)).length ≤ 9000000 := by omega
  clear z1 z2 z3 z4 z5 z6 z7 r3 g3 r4 g4 r5 g5 r6 g6 hbl hwt hsz S0 hpi hpm
  by_cases hc : 1024 < p
  · rw [if_pos hc] at hck
    rw [hck] at HEB
    have x0 : decide ((1024 : Int) < (p : Int)) = true := decide_eq_true (by omega)
    clear HEG hck hok hlen
    go_enter Try.func3, Try.ntmps3
    go_wp2_with fail
    refine (HEB.out (by decide)).mono ?_; rintro e w2 ⟨rfl, t2⟩
    have HB2 := Lib.hid (below_next HB1.out (Still.below t2))
    clear t2 HEB
    go_wp2_with fail
    refine (lives4_any _).mono ?_; rintro e w4 ⟨rfl, t4⟩
    have HB4 := Lib.hid (below_next HB2.out t4)
    clear t4
    go_wp2_with fail
    go_ret
    exact ⟨rfl, HB4.out⟩
  · rw [if_neg hc] at hck
    have x0 : decide ((1024 : Int) < (p : Int)) = false := decide_eq_false (by omega)
    have HG : Hid (M.Good (M.bel4 ++ M.bImg (M.lim11 p)) (M.lim11 p)) := ⟨rfl, hok (M.check_zero hck).2, hck⟩
    have HBT : Hid (M.Bytes (M.bel4 ++ M.bImg (M.lim11 p))) := M.Bytes.app (by intro c hc; simp [M.bel4] at hc; omega) (M.byt_Img _)
    have HLE : Hid (4 ≤ (M.bel4 ++ M.bImg (M.lim11 p)).length ∧ (M.bel4 ++ M.bImg (M.lim11 p)).length ≤ 9000010) := by
      show _ ∧ _
      simp only [List.length_append, M.bel4, List.length_cons, List.length_nil]
      omega
    rw [hck] at HEG
    clear HEB hck hok hlen
    go_enter Try.func3, Try.ntmps3
    go_wp2_with fail
    refine (HEG.out (by decide)).mono ?_; rintro e w2 ⟨a, c, rfl, ho, t2⟩
    have HB2 := Lib.hid (below_next HB1.out t2)
    have HM2 := Lib.hid (Below.blk t2 HM1.out)
    have HI2 := Lib.hid (HIM.out.later t2)
    clear t2 HEG HIM HM1
    obtain ⟨XS, hXS⟩ : ∃ XS, M.bel4 ++ M.bImg (M.lim11 p) = XS := ⟨_, rfl⟩
    rw [hXS] at ho HG HBT HLE
    rw [hXS]
    have hkk := HLE.out
    obtain ⟨r, rfl, hraw⟩ := own_raw ho (by omega)
    have HDEC := Lib.hid (decode_any hraw HBT.out (by omega))
    clear hXS ho hraw
    obtain ⟨kk, hk⟩ : ∃ kk, XS.length = kk := ⟨_, rfl⟩
    rw [hk] at HDEC ⊢
    clear hk hkk HLE
    go_wp2_with fail
    refine HDEC.out.mono ?_; rintro e w4 ⟨t4, hres⟩
    have HB4 := Lib.hid (below_next HB2.out (Still.below t4))
    have HM4 := Lib.hid (t4.blk HM2.out)
    have HI4 := Lib.hid (HI2.out.later (Still.below t4))
    clear t4 HDEC
    rcases hres with ⟨y, m', rfl, hq', hg⟩ | ⟨rfl, hno⟩
    · obtain rfl : m' = M.lim11 p := good_uniq HG.out hg
      have HIY := Lib.hid (hq'.is (B := w4.heap.size) fun b hb => hb.2)
      clear hq' hg HG HBT
      obtain ⟨ya, yb, yc, yd, ye, yf, yg, yh, yi, yj, yk, yl, ym, yn, yo, yp, yq⟩ := y
      have T6 : Hid (Still w4 (w4.alloc (.cells #[.slice ya yb yc, .slice yd ye yf, .slice yg yh yi, .slice yj yk yl, .slice ym yn yo, .int .i64 yp, .int .i64 yq] 27))) := (Still.refl w4).alloc _
      have HB6 := Lib.hid (below_next HB4.out (Still.below T6.out))
      have HSAME := Lib.hid (same_one (HIY.out.later (Still.below T6.out)) (HI4.out.later (Still.below T6.out)))
      obtain ⟨n0, n1, n2, n3, n4, n5, n6, n7⟩ := imgBox HM4.out
      dsimp only
      go_wp2_with fail
      clear n0 n1 n2 n3 n4 n5 n6 n7
      refine HSAME.out.mono ?_; rintro e w7 ⟨rfl, t7⟩
      have HB7 := Lib.hid (below_next HB6.out (Still.below t7))
      clear t7
      go_wp2_with fail
      refine (lives4_any _).mono ?_; rintro e w8 ⟨rfl, t8⟩
      have HB8 := Lib.hid (below_next HB7.out t8)
      clear t8
      go_wp2_with fail
      go_ret
      exact ⟨rfl, HB8.out⟩
    · exact absurd HG.out (hno _)
set_option maxRecDepth 100000 in
set_option maxHeartbeats 8000000 in
theorem lim11_z {n q : Int} {w : World} (hq : (if 2100 < n then 2100 else n) = q) (h0 : q ≤ 0) :
    Calls Try.prog 3 #[.int .i64 11, .int .i64 n] w fun e w' => e = .returned (.bool true) ∧ Below w.heap.size w w' := by
  have hpm : 0 ≤ maxLen := Nat.zero_le _
  have hpi : In64 0 := in0
  have S0 : Hid (Still w (((((((w.alloc (.cells #[.slice none 0 0, .slice none 0 0, .slice none 0 0, .slice none 0 0, .slice (some ⟨w.heap.size + 1 + 1 + 1 + 1 + 1 + 1, 0, none⟩) 1 1, .int .i64 0, .int .i64 0] 27)).alloc (.cells #[.int .i64 5, .int .i64 0, .int .i64 0, .int .i64 0, .int .i64 0, .int .i64 0, .slice (some ⟨w.heap.size + 1 + 1 + 1, 0, none⟩) 0 0, .slice none 0 0, .slice none 0 0] 30)).alloc (.cells #[.slice none 0 0, .int .i64 0, .int .i64 0, .slice none 0 0] 33)).alloc (.cells (madeCells #[.int .i64 0] 0) 3)).alloc (.cells #[.int .i64 5, .int .i64 0, .int .i64 0, .int .i64 0, .int .i64 0, .int .i64 0, .slice (some ⟨w.heap.size + 1 + 1 + 1, 0, none⟩) 0 0, .slice none 0 0, .slice none 0 0] 30)).alloc (.cells #[.slice none 0 0, .slice (some ⟨w.heap.size + 1 + 1 + 1 + 1, 0, none⟩) 1 1] 40)).alloc (.cells #[.slice none 0 0, .int .i64 0, .int .i64 0, .slice (some ⟨w.heap.size + 1 + 1 + 1 + 1 + 1, 0, none⟩) 1 1] 33))) := (((((((Still.refl w).alloc _).alloc _).alloc _).alloc _).alloc _).alloc _).alloc _
  have HB1 := Lib.hid (Still.below S0.out)
  have z1 := size_next (rfl : w.heap.size = w.heap.size) (.cells #[.slice none 0 0, .slice none 0 0, .slice none 0 0, .slice none 0 0, .slice (some ⟨w.heap.size + 1 + 1 + 1 + 1 + 1 + 1, 0, none⟩) 1 1, .int .i64 0, .int .i64 0] 27)
  have z2 := size_next z1 (.cells #[.int .i64 5, .int .i64 0, .int .i64 0, .int .i64 0, .int .i64 0, .int .i64 0, .slice (some ⟨w.heap.size + 1 + 1 + 1, 0, none⟩) 0 0, .slice none 0 0, .slice none 0 0] 30)
  have z3 := size_next z2 (.cells #[.slice none 0 0, .int .i64 0, .int .i64 0, .slice none 0 0] 33)
  have z4 := size_next z3 (.cells (madeCells #[.int .i64 0] 0) 3)
  have z5 := size_next z4 (.cells #[.int .i64 5, .int .i64 0, .int .i64 0, .int .i64 0, .int .i64 0, .int .i64 0, .slice (some ⟨w.heap.size + 1 + 1 + 1, 0, none⟩) 0 0, .slice none 0 0, .slice none 0 0] 30)
  have z6 := size_next z5 (.cells #[.slice none 0 0, .slice (some ⟨w.heap.size + 1 + 1 + 1 + 1, 0, none⟩) 1 1] 40)
  have z7 := size_next z6 (.cells #[.slice none 0 0, .int .i64 0, .int .i64 0, .slice (some ⟨w.heap.size + 1 + 1 + 1 + 1 + 1, 0, none⟩) 1 1] 33)
  have r3 : Blk (((((((w.alloc (.cells #[.slice none 0 0, .slice none 0 0, .slice none 0 0, .slice none 0 0, .slice (some ⟨w.heap.size + 1 + 1 + 1 + 1 + 1 + 1, 0, none⟩) 1 1, .int .i64 0, .int .i64 0] 27)).alloc (.cells #[.int .i64 5, .int .i64 0, .int .i64 0, .int .i64 0, .int .i64 0, .int .i64 0, .slice (some ⟨w.heap.size + 1 + 1 + 1, 0, none⟩) 0 0, .slice none 0 0, .slice none 0 0] 30)).alloc (.cells #[.slice none 0 0, .int .i64 0, .int .i64 0, .slice none 0 0] 33)).alloc (.cells (madeCells #[.int .i64 0] 0) 3)).alloc (.cells #[.int .i64 5, .int .i64 0, .int .i64 0, .int .i64 0, .int .i64 0, .int .i64 0, .slice (some ⟨w.heap.size + 1 + 1 + 1, 0, none⟩) 0 0, .slice none 0 0, .slice none 0 0] 30)).alloc (.cells #[.slice none 0 0, .slice (some ⟨w.heap.size + 1 + 1 + 1 + 1, 0, none⟩) 1 1] 40)).alloc (.cells #[.slice none 0 0, .int .i64 0, .int .i64 0, .slice (some ⟨w.heap.size + 1 + 1 + 1 + 1 + 1, 0, none⟩) 1 1] 33)) (w.heap.size + 1 + 1 + 1) 3 (madeCells #[.int .i64 0] 0) := (by exact (((blk_next z3 _ _).alloc _).alloc _).alloc _)
  have g3 : w.heap.size + 1 + 1 + 1 < ((((((((w.alloc (.cells #[.slice none 0 0, .slice none 0 0, .slice none 0 0, .slice none 0 0, .slice (some ⟨w.heap.size + 1 + 1 + 1 + 1 + 1 + 1, 0, none⟩) 1 1, .int .i64 0, .int .i64 0] 27)).alloc (.cells #[.int .i64 5, .int .i64 0, .int .i64 0, .int .i64 0, .int .i64 0, .int .i64 0, .slice (some ⟨w.heap.size + 1 + 1 + 1, 0, none⟩) 0 0, .slice none 0 0, .slice none 0 0] 30)).alloc (.cells #[.slice none 0 0, .int .i64 0, .int .i64 0, .slice none 0 0] 33)).alloc (.cells (madeCells #[.int .i64 0] 0) 3)).alloc (.cells #[.int .i64 5, .int .i64 0, .int .i64 0, .int .i64 0, .int .i64 0, .int .i64 0, .slice (some ⟨w.heap.size + 1 + 1 + 1, 0, none⟩) 0 0, .slice none 0 0, .slice none 0 0] 30)).alloc (.cells #[.slice none 0 0, .slice (some ⟨w.heap.size + 1 + 1 + 1 + 1, 0, none⟩) 1 1] 40)).alloc (.cells #[.slice none 0 0, .int .i64 0, .int .i64 0, .slice (some ⟨w.heap.size + 1 + 1 + 1 + 1 + 1, 0, none⟩) 1 1] 33))).heap.size := by rw [z7]; omega
  have r4 : Blk (((((((w.alloc (.cells #[.slice none 0 0, .slice none 0 0, .slice none 0 0, .slice none 0 0, .slice (some ⟨w.heap.size + 1 + 1 + 1 + 1 + 1 + 1, 0, none⟩) 1 1, .int .i64 0, .int .i64 0] 27)).alloc (.cells #[.int .i64 5, .int .i64 0, .int .i64 0, .int .i64 0, .int .i64 0, .int .i64 0, .slice (some ⟨w.heap.size + 1 + 1 + 1, 0, none⟩) 0 0, .slice none 0 0, .slice none 0 0] 30)).alloc (.cells #[.slice none 0 0, .int .i64 0, .int .i64 0, .slice none 0 0] 33)).alloc (.cells (madeCells #[.int .i64 0] 0) 3)).alloc (.cells #[.int .i64 5, .int .i64 0, .int .i64 0, .int .i64 0, .int .i64 0, .int .i64 0, .slice (some ⟨w.heap.size + 1 + 1 + 1, 0, none⟩) 0 0, .slice none 0 0, .slice none 0 0] 30)).alloc (.cells #[.slice none 0 0, .slice (some ⟨w.heap.size + 1 + 1 + 1 + 1, 0, none⟩) 1 1] 40)).alloc (.cells #[.slice none 0 0, .int .i64 0, .int .i64 0, .slice (some ⟨w.heap.size + 1 + 1 + 1 + 1 + 1, 0, none⟩) 1 1] 33)) (w.heap.size + 1 + 1 + 1 + 1) 30 #[.int .i64 5, .int .i64 0, .int .i64 0, .int .i64 0, .int .i64 0, .int .i64 0, .slice (some ⟨w.heap.size + 1 + 1 + 1, 0, none⟩) 0 0, .slice none 0 0, .slice none 0 0] := ((blk_next z4 _ _).alloc _).alloc _
  have g4 : w.heap.size + 1 + 1 + 1 + 1 < ((((((((w.alloc (.cells #[.slice none 0 0, .slice none 0 0, .slice none 0 0, .slice none 0 0, .slice (some ⟨w.heap.size + 1 + 1 + 1 + 1 + 1 + 1, 0, none⟩) 1 1, .int .i64 0, .int .i64 0] 27)).alloc (.cells #[.int .i64 5, .int .i64 0, .int .i64 0, .int .i64 0, .int .i64 0, .int .i64 0, .slice (some ⟨w.heap.size + 1 + 1 + 1, 0, none⟩) 0 0, .slice none 0 0, .slice none 0 0] 30)).alloc (.cells #[.slice none 0 0, .int .i64 0, .int .i64 0, .slice none 0 0] 33)).alloc (.cells (madeCells #[.int .i64 0] 0) 3)).alloc (.cells #[.int .i64 5, .int .i64 0, .int .i64 0, .int .i64 0, .int .i64 0, .int .i64 0, .slice (some ⟨w.heap.size + 1 + 1 + 1, 0, none⟩) 0 0, .slice none 0 0, .slice none 0 0] 30)).alloc (.cells #[.slice none 0 0, .slice (some ⟨w.heap.size + 1 + 1 + 1 + 1, 0, none⟩) 1 1] 40)).alloc (.cells #[.slice none 0 0, .int .i64 0, .int .i64 0, .slice (some ⟨w.heap.size + 1 + 1 + 1 + 1 + 1, 0, none⟩) 1 1] 33))).heap.size := by rw [z7]; omega
  have r5 : Blk (((((((w.alloc (.cells #[.slice none 0 0, .slice none 0 0, .slice none 0 0, .slice none 0 0, .slice (some ⟨w.heap.size + 1 + 1 + 1 + 1 + 1 + 1, 0, none⟩) 1 1, .int .i64 0, .int .i64 0] 27)).alloc (.cells #[.int .i64 5, .int .i64 0, .int .i64 0, .int .i64 0, .int .i64 0, .int .i64 0, .slice (some ⟨w.heap.size + 1 + 1 + 1, 0, none⟩) 0 0, .slice none 0 0, .slice none 0 0] 30)).alloc (.cells #[.slice none 0 0, .int .i64 0, .int .i64 0, .slice none 0 0] 33)).alloc (.cells (madeCells #[.int .i64 0] 0) 3)).alloc (.cells #[.int .i64 5, .int .i64 0, .int .i64 0, .int .i64 0, .int .i64 0, .int .i64 0, .slice (some ⟨w.heap.size + 1 + 1 + 1, 0, none⟩) 0 0, .slice none 0 0, .slice none 0 0] 30)).alloc (.cells #[.slice none 0 0, .slice (some ⟨w.heap.size + 1 + 1 + 1 + 1, 0, none⟩) 1 1] 40)).alloc (.cells #[.slice none 0 0, .int .i64 0, .int .i64 0, .slice (some ⟨w.heap.size + 1 + 1 + 1 + 1 + 1, 0, none⟩) 1 1] 33)) (w.heap.size + 1 + 1 + 1 + 1 + 1) 40 #[.slice none 0 0, .slice (some ⟨w.heap.size + 1 + 1 + 1 + 1, 0, none⟩) 1 1] := (blk_next z5 _ _).alloc _
  have g5 : w.heap.size + 1 + 1 + 1 + 1 + 1 < ((((((((w.alloc (.cells #[.slice none 0 0, .slice none 0 0, .slice none 0 0, .slice none 0 0, .slice (some ⟨w.heap.size + 1 + 1 + 1 + 1 + 1 + 1, 0, none⟩) 1 1, .int .i64 0, .int .i64 0] 27)).alloc (.cells #[.int .i64 5, .int .i64 0, .int .i64 0, .int .i64 0, .int .i64 0, .int .i64 0, .slice (some ⟨w.heap.size + 1 + 1 + 1, 0, none⟩) 0 0, .slice none 0 0, .slice none 0 0] 30)).alloc (.cells #[.slice none 0 0, .int .i64 0, .int .i64 0, .slice none 0 0] 33)).alloc (.cells (madeCells #[.int .i64 0] 0) 3)).alloc (.cells #[.int .i64 5, .int .i64 0, .int .i64 0, .int .i64 0, .int .i64 0, .int .i64 0, .slice (some ⟨w.heap.size + 1 + 1 + 1, 0, none⟩) 0 0, .slice none 0 0, .slice none 0 0] 30)).alloc (.cells #[.slice none 0 0, .slice (some ⟨w.heap.size + 1 + 1 + 1 + 1, 0, none⟩) 1 1] 40)).alloc (.cells #[.slice none 0 0, .int .i64 0, .int .i64 0, .slice (some ⟨w.heap.size + 1 + 1 + 1 + 1 + 1, 0, none⟩) 1 1] 33))).heap.size := by rw [z7]; omega
  have r6 : Blk (((((((w.alloc (.cells #[.slice none 0 0, .slice none 0 0, .slice none 0 0, .slice none 0 0, .slice (some ⟨w.heap.size + 1 + 1 + 1 + 1 + 1 + 1, 0, none⟩) 1 1, .int .i64 0, .int .i64 0] 27)).alloc (.cells #[.int .i64 5, .int .i64 0, .int .i64 0, .int .i64 0, .int .i64 0, .int .i64 0, .slice (some ⟨w.heap.size + 1 + 1 + 1, 0, none⟩) 0 0, .slice none 0 0, .slice none 0 0] 30)).alloc (.cells #[.slice none 0 0, .int .i64 0, .int .i64 0, .slice none 0 0] 33)).alloc (.cells (madeCells #[.int .i64 0] 0) 3)).alloc (.cells #[.int .i64 5, .int .i64 0, .int .i64 0, .int .i64 0, .int .i64 0, .int .i64 0, .slice (some ⟨w.heap.size + 1 + 1 + 1, 0, none⟩) 0 0, .slice none 0 0, .slice none 0 0] 30)).alloc (.cells #[.slice none 0 0, .slice (some ⟨w.heap.size + 1 + 1 + 1 + 1, 0, none⟩) 1 1] 40)).alloc (.cells #[.slice none 0 0, .int .i64 0, .int .i64 0, .slice (some ⟨w.heap.size + 1 + 1 + 1 + 1 + 1, 0, none⟩) 1 1] 33)) (w.heap.size + 1 + 1 + 1 + 1 + 1 + 1) 33 #[.slice none 0 0, .int .i64 0, .int .i64 0, .slice (some ⟨w.heap.size + 1 + 1 + 1 + 1 + 1, 0, none⟩) 1 1] := blk_next z6 _ _
  have g6 : w.heap.size + 1 + 1 + 1 + 1 + 1 + 1 < ((((((((w.alloc (.cells #[.slice none 0 0, .slice none 0 0, .slice none 0 0, .slice none 0 0, .slice (some ⟨w.heap.size + 1 + 1 + 1 + 1 + 1 + 1, 0, none⟩) 1 1, .int .i64 0, .int .i64 0] 27)).alloc (.cells #[.int .i64 5, .int .i64 0, .int .i64 0, .int .i64 0, .int .i64 0, .int .i64 0, .slice (some ⟨w.heap.size + 1 + 1 + 1, 0, none⟩) 0 0, .slice none 0 0, .slice none 0 0] 30)).alloc (.cells #[.slice none 0 0, .int .i64 0, .int .i64 0, .slice none 0 0] 33)).alloc (.cells (madeCells #[.int .i64 0] 0) 3)).alloc (.cells #[.int .i64 5, .int .i64 0, .int .i64 0, .int .i64 0, .int .i64 0, .int .i64 0, .slice (some ⟨w.heap.size + 1 + 1 + 1, 0, none⟩) 0 0, .slice none 0 0, .slice none 0 0] 30)).alloc (.cells #[.slice none 0 0, .slice (some ⟨w.heap.size + 1 + 1 + 1 + 1, 0, none⟩) 1 1] 40)).alloc (.cells #[.slice none 0 0, .int .i64 0, .int .i64 0, .slice (some ⟨w.heap.size + 1 + 1 + 1 + 1 + 1, 0, none⟩) 1 1] 33))).heap.size := by rw [z7]; omega
  have HM1 : Hid (Blk (((((((w.alloc (.cells #[.slice none 0 0, .slice none 0 0, .slice none 0 0, .slice none 0 0, .slice (some ⟨w.heap.size + 1 + 1 + 1 + 1 + 1 + 1, 0, none⟩) 1 1, .int .i64 0, .int .i64 0] 27)).alloc (.cells #[.int .i64 5, .int .i64 0, .int .i64 0, .int .i64 0, .int .i64 0, .int .i64 0, .slice (some ⟨w.heap.size + 1 + 1 + 1, 0, none⟩) 0 0, .slice none 0 0, .slice none 0 0] 30)).alloc (.cells #[.slice none 0 0, .int .i64 0, .int .i64 0, .slice none 0 0] 33)).alloc (.cells (madeCells #[.int .i64 0] 0) 3)).alloc (.cells #[.int .i64 5, .int .i64 0, .int .i64 0, .int .i64 0, .int .i64 0, .int .i64 0, .slice (some ⟨w.heap.size + 1 + 1 + 1, 0, none⟩) 0 0, .slice none 0 0, .slice none 0 0] 30)).alloc (.cells #[.slice none 0 0, .slice (some ⟨w.heap.size + 1 + 1 + 1 + 1, 0, none⟩) 1 1] 40)).alloc (.cells #[.slice none 0 0, .int .i64 0, .int .i64 0, .slice (some ⟨w.heap.size + 1 + 1 + 1 + 1 + 1, 0, none⟩) 1 1] 33)) w.heap.size 27 #[.slice none 0 0, .slice none 0 0, .slice none 0 0, .slice none 0 0, .slice (some ⟨w.heap.size + 1 + 1 + 1 + 1 + 1 + 1, 0, none⟩) 1 1, .int .i64 0, .int .i64 0]) := ((((((Blk.new w _ _).alloc _).alloc _).alloc _).alloc _).alloc _).alloc _
  have HIM : Hid (ImgIs ((((((((w.alloc (.cells #[.slice none 0 0, .slice none 0 0, .slice none 0 0, .slice none 0 0, .slice (some ⟨w.heap.size + 1 + 1 + 1 + 1 + 1 + 1, 0, none⟩) 1 1, .int .i64 0, .int .i64 0] 27)).alloc (.cells #[.int .i64 5, .int .i64 0, .int .i64 0, .int .i64 0, .int .i64 0, .int .i64 0, .slice (some ⟨w.heap.size + 1 + 1 + 1, 0, none⟩) 0 0, .slice none 0 0, .slice none 0 0] 30)).alloc (.cells #[.slice none 0 0, .int .i64 0, .int .i64 0, .slice none 0 0] 33)).alloc (.cells (madeCells #[.int .i64 0] 0) 3)).alloc (.cells #[.int .i64 5, .int .i64 0, .int .i64 0, .int .i64 0, .int .i64 0, .int .i64 0, .slice (some ⟨w.heap.size + 1 + 1 + 1, 0, none⟩) 0 0, .slice none 0 0, .slice none 0 0] 30)).alloc (.cells #[.slice none 0 0, .slice (some ⟨w.heap.size + 1 + 1 + 1 + 1, 0, none⟩) 1 1] 40)).alloc (.cells #[.slice none 0 0, .int .i64 0, .int .i64 0, .slice (some ⟨w.heap.size + 1 + 1 + 1 + 1 + 1, 0, none⟩) 1 1] 33))).heap.size (((((((w.alloc (.cells #[.slice none 0 0, .slice none 0 0, .slice none 0 0, .slice none 0 0, .slice (some ⟨w.heap.size + 1 + 1 + 1 + 1 + 1 + 1, 0, none⟩) 1 1, .int .i64 0, .int .i64 0] 27)).alloc (.cells #[.int .i64 5, .int .i64 0, .int .i64 0, .int .i64 0, .int .i64 0, .int .i64 0, .slice (some ⟨w.heap.size + 1 + 1 + 1, 0, none⟩) 0 0, .slice none 0 0, .slice none 0 0] 30)).alloc (.cells #[.slice none 0 0, .int .i64 0, .int .i64 0, .slice none 0 0] 33)).alloc (.cells (madeCells #[.int .i64 0] 0) 3)).alloc (.cells #[.int .i64 5, .int .i64 0, .int .i64 0, .int .i64 0, .int .i64 0, .int .i64 0, .slice (some ⟨w.heap.size + 1 + 1 + 1, 0, none⟩) 0 0, .slice none 0 0, .slice none 0 0] 30)).alloc (.cells #[.slice none 0 0, .slice (some ⟨w.heap.size + 1 + 1 + 1 + 1, 0, none⟩) 1 1] 40)).alloc (.cells #[.slice none 0 0, .int .i64 0, .int .i64 0, .slice (some ⟨w.heap.size + 1 + 1 + 1 + 1 + 1, 0, none⟩) 1 1] 33)) ⟨none, 0, 0, none, 0, 0, none, 0, 0, none, 0, 0, some ⟨w.heap.size + 1 + 1 + 1 + 1 + 1 + 1, 0, none⟩, 1, 1, 0, 0⟩ (M.lim11 0)) := ⟨rfl, rfl, in0, in0, ⟨Nat.zero_le _, Nat.zero_le _, Nat.zero_le _, Nat.zero_le _, (by decide : 1 ≤ maxLen)⟩, Lies.no, Lies.no, Lies.no, Lies.no, Lies.one _ g6 rfl ⟨_, 0, 0, _, 1, 1, rfl, by decide, by decide, in0, in0, Lies.no, Lies.one _ g5 rfl ⟨_, 0, 0, _, 1, 1, rfl, by decide, by decide, Lies.no, Lies.one _ g4 rfl ⟨_, 0, 0, _, 0, 0, _, 0, 0, rfl, hpm, by decide, by decide, ⟨(by unfold In64; dsimp only; omega), in0, in0, in0, in0, in0⟩, Lies.made rfl (by decide) ⟨rfl, in0⟩ g3 r3, Lies.no, Lies.no⟩ fun j _ => cells_blk r4 j⟩ fun j _ => cells_blk r5 j⟩ fun j _ => cells_blk r6 j⟩
  have hck := M.lim11_check 0 (by decide)
  obtain ⟨hwt, hsz⟩ := M.lim11_small 0 (by decide)
  have hbl := HIM.out.len
  have HEB := Lib.hid (encode_bad (Nat.le_refl _) HIM.out (by omega))
  have HEG := Lib.hid (encode_good (Nat.le_refl _) HIM.out (by omega) (by omega))
  have hok := HIM.out.ok
  have hmk : ∀ W, (Instr.makeSlice 28 (.int .i64 0) (.int .i64 0)).run Try.prog W = .ok (.slice (some ⟨W.heap.size, 0, none⟩) 0 0) (W.alloc (.cells (madeCells #[.int .i64 0] 0) 3)) := fun W => makeINTS 0 (by decide) W
  have hlen : (M.bImg (M.lim11 0)).length ≤ 9000000 := by omega
  clear z1 z2 z3 z4 z5 z6 z7 r3 g3 r4 g4 r5 g5 r6 g6 hbl hwt hsz S0 hpi hpm
  · rw [if_neg (by decide)] at hck
    have HG : Hid (M.Good (M.bel4 ++ M.bImg (M.lim11 0)) (M.lim11 0)) := ⟨rfl, hok (M.check_zero hck).2, hck⟩
    have HBT : Hid (M.Bytes (M.bel4 ++ M.bImg (M.lim11 0))) := M.Bytes.app (by intro c hc; simp [M.bel4] at hc; omega) (M.byt_Img _)
    have HLE : Hid (4 ≤ (M.bel4 ++ M.bImg (M.lim11 0)).length ∧ (M.bel4 ++ M.bImg (M.lim11 0)).length ≤ 9000010) := by
      show _ ∧ _
      simp only [List.length_append, M.bel4, List.length_cons, List.length_nil]
      omega
    rw [hck] at HEG
    clear HEB hck hok hlen
    go_enter Try.func3, Try.ntmps3
    go_wp2_with fail
    refine (HEG.out (by decide)).mono ?_; rintro e w2 ⟨a, c, rfl, ho, t2⟩
    have HB2 := Lib.hid (below_next HB1.out t2)
    have HM2 := Lib.hid (Below.blk t2 HM1.out)
    have HI2 := Lib.hid (HIM.out.later t2)
    clear t2 HEG HIM HM1
    obtain ⟨XS, hXS⟩ : ∃ XS, M.bel4 ++ M.bImg (M.lim11 0) = XS := ⟨_, rfl⟩
    rw [hXS] at ho HG HBT HLE
    rw [hXS]
    have hkk := HLE.out
    obtain ⟨r, rfl, hraw⟩ := own_raw ho (by omega)
    have HDEC := Lib.hid (decode_any hraw HBT.out (by omega))
    clear hXS ho hraw
    obtain ⟨kk, hk⟩ : ∃ kk, XS.length = kk := ⟨_, rfl⟩
    rw [hk] at HDEC ⊢
    clear hk hkk HLE
    go_wp2_with fail
    refine HDEC.out.mono ?_; rintro e w4 ⟨t4, hres⟩
    have HB4 := Lib.hid (below_next HB2.out (Still.below t4))
    have HM4 := Lib.hid (t4.blk HM2.out)
    have HI4 := Lib.hid (HI2.out.later (Still.below t4))
    clear t4 HDEC
    rcases hres with ⟨y, m', rfl, hq', hg⟩ | ⟨rfl, hno⟩
    · obtain rfl : m' = M.lim11 0 := good_uniq HG.out hg
      have HIY := Lib.hid (hq'.is (B := w4.heap.size) fun b hb => hb.2)
      clear hq' hg HG HBT
      obtain ⟨ya, yb, yc, yd, ye, yf, yg, yh, yi, yj, yk, yl, ym, yn, yo, yp, yq⟩ := y
      have T6 : Hid (Still w4 (w4.alloc (.cells #[.slice ya yb yc, .slice yd ye yf, .slice yg yh yi, .slice yj yk yl, .slice ym yn yo, .int .i64 yp, .int .i64 yq] 27))) := (Still.refl w4).alloc _
      have HB6 := Lib.hid (below_next HB4.out (Still.below T6.out))
      have HSAME := Lib.hid (same_one (HIY.out.later (Still.below T6.out)) (HI4.out.later (Still.below T6.out)))
      obtain ⟨n0, n1, n2, n3, n4, n5, n6, n7⟩ := imgBox HM4.out
      dsimp only
      go_wp2_with fail
      clear n0 n1 n2 n3 n4 n5 n6 n7
      refine HSAME.out.mono ?_; rintro e w7 ⟨rfl, t7⟩
      have HB7 := Lib.hid (below_next HB6.out (Still.below t7))
      clear t7
      go_wp2_with fail
      refine (lives4_any _).mono ?_; rintro e w8 ⟨rfl, t8⟩
      have HB8 := Lib.hid (below_next HB7.out t8)
      clear t8
      go_wp2_with fail
      go_ret
      exact ⟨rfl, HB8.out⟩
    · exact absurd HG.out (hno _)
set_option maxRecDepth 100000 in
set_option maxHeartbeats 8000000 in
theorem lim12_w {n : Int} {p : Nat} {w : World} (hq : (if 2100 < n then 2100 else n) = (p : Int)) (h0 : (0 : Int) < (p : Int)) (hp2 : p ≤ 2100) :
    Calls Try.prog 3 #[.int .i64 12, .int .i64 n] w fun e w' => e = .returned (.bool true) ∧ Below w.heap.size w w' := by
  have hpm : p ≤ maxLen := by unfold maxLen; omega
  have hpi : In64 (p : Int) := by unfold In64; omega
  have S0 : Hid (Still w (((((((w.alloc (.cells #[.slice none 0 0, .slice none 0 0, .slice none 0 0, .slice none 0 0, .slice (some ⟨w.heap.size + 1 + 1 + 1 + 1 + 1 + 1, 0, none⟩) 1 1, .int .i64 0, .int .i64 0] 27)).alloc (.cells #[.int .i64 5, .int .i64 0, .int .i64 0, .int .i64 0, .int .i64 0, .int .i64 0, .slice none 0 0, .slice none 0 0, .slice (some ⟨w.heap.size + 1 + 1 + 1, 0, none⟩) p p] 30)).alloc (.cells #[.slice none 0 0, .int .i64 0, .int .i64 0, .slice none 0 0] 33)).alloc (.cells (madeCells #[.int .i64 0] p) 3)).alloc (.cells #[.int .i64 5, .int .i64 0, .int .i64 0, .int .i64 0, .int .i64 0, .int .i64 0, .slice none 0 0, .slice none 0 0, .slice (some ⟨w.heap.size + 1 + 1 + 1, 0, none⟩) p p] 30)).alloc (.cells #[.slice none 0 0, .slice (some ⟨w.heap.size + 1 + 1 + 1 + 1, 0, none⟩) 1 1] 40)).alloc (.cells #[.slice none 0 0, .int .i64 0, .int .i64 0, .slice (some ⟨w.heap.size + 1 + 1 + 1 + 1 + 1, 0, none⟩) 1 1] 33))) := (((((((Still.refl w).alloc _).alloc _).alloc _).alloc _).alloc _).alloc _).alloc _
  have HB1 := Lib.hid (Still.below S0.out)
  have z1 := size_next (rfl : w.heap.size = w.heap.size) (.cells #[.slice none 0 0, .slice none 0 0, .slice none 0 0, .slice none 0 0, .slice (some ⟨w.heap.size + 1 + 1 + 1 + 1 + 1 + 1, 0, none⟩) 1 1, .int .i64 0, .int .i64 0] 27)
  have z2 := size_next z1 (.cells #[.int .i64 5, .int .i64 0, .int .i64 0, .int .i64 0, .int .i64 0, .int .i64 0, .slice none 0 0, .slice none 0 0, .slice (some ⟨w.heap.size + 1 + 1 + 1, 0, none⟩) p p] 30)
  have z3 := size_next z2 (.cells #[.slice none 0 0, .int .i64 0, .int .i64 0, .slice none 0 0] 33)
  have z4 := size_next z3 (.cells (madeCells #[.int .i64 0] p) 3)
  have z5 := size_next z4 (.cells #[.int .i64 5, .int .i64 0, .int .i64 0, .int .i64 0, .int .i64 0, .int .i64 0, .slice none 0 0, .slice none 0 0, .slice (some ⟨w.heap.size + 1 + 1 + 1, 0, none⟩) p p] 30)
  have z6 := size_next z5 (.cells #[.slice none 0 0, .slice (some ⟨w.heap.size + 1 + 1 + 1 + 1, 0, none⟩) 1 1] 40)
  have z7 := size_next z6 (.cells #[.slice none 0 0, .int .i64 0, .int .i64 0, .slice (some ⟨w.heap.size + 1 + 1 + 1 + 1 + 1, 0, none⟩) 1 1] 33)
  have r3 : Blk (((((((w.alloc (.cells #[.slice none 0 0, .slice none 0 0, .slice none 0 0, .slice none 0 0, .slice (some ⟨w.heap.size + 1 + 1 + 1 + 1 + 1 + 1, 0, none⟩) 1 1, .int .i64 0, .int .i64 0] 27)).alloc (.cells #[.int .i64 5, .int .i64 0, .int .i64 0, .int .i64 0, .int .i64 0, .int .i64 0, .slice none 0 0, .slice none 0 0, .slice (some ⟨w.heap.size + 1 + 1 + 1, 0, none⟩) p p] 30)).alloc (.cells #[.slice none 0 0, .int .i64 0, .int .i64 0, .slice none 0 0] 33)).alloc (.cells (madeCells #[.int .i64 0] p) 3)).alloc (.cells #[.int .i64 5, .int .i64 0, .int .i64 0, .int .i64 0, .int .i64 0, .int .i64 0, .slice none 0 0, .slice none 0 0, .slice (some ⟨w.heap.size + 1 + 1 + 1, 0, none⟩) p p] 30)).alloc (.cells #[.slice none 0 0, .slice (some ⟨w.heap.size + 1 + 1 + 1 + 1, 0, none⟩) 1 1] 40)).alloc (.cells #[.slice none 0 0, .int .i64 0, .int .i64 0, .slice (some ⟨w.heap.size + 1 + 1 + 1 + 1 + 1, 0, none⟩) 1 1] 33)) (w.heap.size + 1 + 1 + 1) 3 (madeCells #[.int .i64 0] (p * 1)) := (by rw [Nat.mul_one]; exact (((blk_next z3 _ _).alloc _).alloc _).alloc _)
  have g3 : w.heap.size + 1 + 1 + 1 < ((((((((w.alloc (.cells #[.slice none 0 0, .slice none 0 0, .slice none 0 0, .slice none 0 0, .slice (some ⟨w.heap.size + 1 + 1 + 1 + 1 + 1 + 1, 0, none⟩) 1 1, .int .i64 0, .int .i64 0] 27)).alloc (.cells #[.int .i64 5, .int .i64 0, .int .i64 0, .int .i64 0, .int .i64 0, .int .i64 0, .slice none 0 0, .slice none 0 0, .slice (some ⟨w.heap.size + 1 + 1 + 1, 0, none⟩) p p] 30)).alloc (.cells #[.slice none 0 0, .int .i64 0, .int .i64 0, .slice none 0 0] 33)).alloc (.cells (madeCells #[.int .i64 0] p) 3)).alloc (.cells #[.int .i64 5, .int .i64 0, .int .i64 0, .int .i64 0, .int .i64 0, .int .i64 0, .slice none 0 0, .slice none 0 0, .slice (some ⟨w.heap.size + 1 + 1 + 1, 0, none⟩) p p] 30)).alloc (.cells #[.slice none 0 0, .slice (some ⟨w.heap.size + 1 + 1 + 1 + 1, 0, none⟩) 1 1] 40)).alloc (.cells #[.slice none 0 0, .int .i64 0, .int .i64 0, .slice (some ⟨w.heap.size + 1 + 1 + 1 + 1 + 1, 0, none⟩) 1 1] 33))).heap.size := by rw [z7]; omega
  have r4 : Blk (((((((w.alloc (.cells #[.slice none 0 0, .slice none 0 0, .slice none 0 0, .slice none 0 0, .slice (some ⟨w.heap.size + 1 + 1 + 1 + 1 + 1 + 1, 0, none⟩) 1 1, .int .i64 0, .int .i64 0] 27)).alloc (.cells #[.int .i64 5, .int .i64 0, .int .i64 0, .int .i64 0, .int .i64 0, .int .i64 0, .slice none 0 0, .slice none 0 0, .slice (some ⟨w.heap.size + 1 + 1 + 1, 0, none⟩) p p] 30)).alloc (.cells #[.slice none 0 0, .int .i64 0, .int .i64 0, .slice none 0 0] 33)).alloc (.cells (madeCells #[.int .i64 0] p) 3)).alloc (.cells #[.int .i64 5, .int .i64 0, .int .i64 0, .int .i64 0, .int .i64 0, .int .i64 0, .slice none 0 0, .slice none 0 0, .slice (some ⟨w.heap.size + 1 + 1 + 1, 0, none⟩) p p] 30)).alloc (.cells #[.slice none 0 0, .slice (some ⟨w.heap.size + 1 + 1 + 1 + 1, 0, none⟩) 1 1] 40)).alloc (.cells #[.slice none 0 0, .int .i64 0, .int .i64 0, .slice (some ⟨w.heap.size + 1 + 1 + 1 + 1 + 1, 0, none⟩) 1 1] 33)) (w.heap.size + 1 + 1 + 1 + 1) 30 #[.int .i64 5, .int .i64 0, .int .i64 0, .int .i64 0, .int .i64 0, .int .i64 0, .slice none 0 0, .slice none 0 0, .slice (some ⟨w.heap.size + 1 + 1 + 1, 0, none⟩) p p] := ((blk_next z4 _ _).alloc _).alloc _
  have g4 : w.heap.size + 1 + 1 + 1 + 1 < ((((((((w.alloc (.cells #[.slice none 0 0, .slice none 0 0, .slice none 0 0, .slice none 0 0, .slice (some ⟨w.heap.size + 1 + 1 + 1 + 1 + 1 + 1, 0, none⟩) 1 1, .int .i64 0, .int .i64 0] 27)).alloc (.cells #[.int .i64 5, .int .i64 0, .int .i64 0, .int .i64 0, .int .i64 0, .int .i64 0, .slice none 0 0, .slice none 0 0, .slice (some ⟨w.heap.size + 1 + 1 + 1, 0, none⟩) p p] 30)).alloc (.cells #[.slice none 0 0, .int .i64 0, .int .i64 0, .slice none 0 0] 33)).alloc (.cells (madeCells #[.int .i64 0] p) 3)).alloc (.cells #[.int .i64 5, .int .i64 0, .int .i64 0, .int .i64 0, .int .i64 0, .int .i64 0, .slice none 0 0, .slice none 0 0, .slice (some ⟨w.heap.size + 1 + 1 + 1, 0, none⟩) p p] 30)).alloc (.cells #[.slice none 0 0, .slice (some ⟨w.heap.size + 1 + 1 + 1 + 1, 0, none⟩) 1 1] 40)).alloc (.cells #[.slice none 0 0, .int .i64 0, .int .i64 0, .slice (some ⟨w.heap.size + 1 + 1 + 1 + 1 + 1, 0, none⟩) 1 1] 33))).heap.size := by rw [z7]; omega
  have r5 : Blk (((((((w.alloc (.cells #[.slice none 0 0, .slice none 0 0, .slice none 0 0, .slice none 0 0, .slice (some ⟨w.heap.size + 1 + 1 + 1 + 1 + 1 + 1, 0, none⟩) 1 1, .int .i64 0, .int .i64 0] 27)).alloc (.cells #[.int .i64 5, .int .i64 0, .int .i64 0, .int .i64 0, .int .i64 0, .int .i64 0, .slice none 0 0, .slice none 0 0, .slice (some ⟨w.heap.size + 1 + 1 + 1, 0, none⟩) p p] 30)).alloc (.cells #[.slice none 0 0, .int .i64 0, .int .i64 0, .slice none 0 0] 33)).alloc (.cells (madeCells #[.int .i64 0] p) 3)).alloc (.cells #[.int .i64 5, .int .i64 0, .int .i64 0, .int .i64 0, .int .i64 0, .int .i64 0, .slice none 0 0, .slice none 0 0, .slice (some ⟨w.heap.size + 1 + 1 + 1, 0, none⟩) p p] 30)).alloc (.cells #[.slice none 0 0, .slice (some ⟨w.heap.size + 1 + 1 + 1 + 1, 0, none⟩) 1 1] 40)).alloc (.cells #[.slice none 0 0, .int .i64 0, .int .i64 0, .slice (some ⟨w.heap.size + 1 + 1 + 1 + 1 + 1, 0, none⟩) 1 1] 33)) (w.heap.size + 1 + 1 + 1 + 1 + 1) 40 #[.slice none 0 0, .slice (some ⟨w.heap.size + 1 + 1 + 1 + 1, 0, none⟩) 1 1] := (blk_next z5 _ _).alloc _
  have g5 : w.heap.size + 1 + 1 + 1 + 1 + 1 < ((((((((w.alloc (.cells #[.slice none 0 0, .slice none 0 0, .slice none 0 0, .slice none 0 0, .slice (some ⟨w.heap.size + 1 + 1 + 1 + 1 + 1 + 1, 0, none⟩) 1 1, .int .i64 0, .int .i64 0] 27)).alloc (.cells #[.int .i64 5, .int .i64 0, .int .i64 0, .int .i64 0, .int .i64 0, .int .i64 0, .slice none 0 0, .slice none 0 0, .slice (some ⟨w.heap.size + 1 + 1 + 1, 0, none⟩) p p] 30)).alloc (.cells #[.slice none 0 0, .int .i64 0, .int .i64 0, .slice none 0 0] 33)).alloc (.cells (madeCells #[.int .i64 0] p) 3)).alloc (.cells #[.int .i64 5, .int .i64 0, .int .i64 0, .int .i64 0, .int .i64 0, .int .i64 0, .slice none 0 0, .slice none 0 0, .slice (some ⟨w.heap.size + 1 + 1 + 1, 0, none⟩) p p] 30)).alloc (.cells #[.slice none 0 0, .slice (some ⟨w.heap.size + 1 + 1 + 1 + 1, 0, none⟩) 1 1] 40)).alloc (.cells #[.slice none 0 0, .int .i64 0, .int .i64 0, .slice (some ⟨w.heap.size + 1 + 1 + 1 + 1 + 1, 0, none⟩) 1 1] 33))).heap.size := by rw [z7]; omega
  have r6 : Blk (((((((w.alloc (.cells #[.slice none 0 0, .slice none 0 0, .slice none 0 0, .slice none 0 0, .slice (some ⟨w.heap.size + 1 + 1 + 1 + 1 + 1 + 1, 0, none⟩) 1 1, .int .i64 0, .int .i64 0] 27)).alloc (.cells #[.int .i64 5, .int .i64 0, .int .i64 0, .int .i64 0, .int .i64 0, .int .i64 0, .slice none 0 0, .slice none 0 0, .slice (some ⟨w.heap.size + 1 + 1 + 1, 0, none⟩) p p] 30)).alloc (.cells #[.slice none 0 0, .int .i64 0, .int .i64 0, .slice none 0 0] 33)).alloc (.cells (madeCells #[.int .i64 0] p) 3)).alloc (.cells #[.int .i64 5, .int .i64 0, .int .i64 0, .int .i64 0, .int .i64 0, .int .i64 0, .slice none 0 0, .slice none 0 0, .slice (some ⟨w.heap.size + 1 + 1 + 1, 0, none⟩) p p] 30)).alloc (.cells #[.slice none 0 0, .slice (some ⟨w.heap.size + 1 + 1 + 1 + 1, 0, none⟩) 1 1] 40)).alloc (.cells #[.slice none 0 0, .int .i64 0, .int .i64 0, .slice (some ⟨w.heap.size + 1 + 1 + 1 + 1 + 1, 0, none⟩) 1 1] 33)) (w.heap.size + 1 + 1 + 1 + 1 + 1 + 1) 33 #[.slice none 0 0, .int .i64 0, .int .i64 0, .slice (some ⟨w.heap.size + 1 + 1 + 1 + 1 + 1, 0, none⟩) 1 1] := blk_next z6 _ _
  have g6 : w.heap.size + 1 + 1 + 1 + 1 + 1 + 1 < ((((((((w.alloc (.cells #[.slice none 0 0, .slice none 0 0, .slice none 0 0, .slice none 0 0, .slice (some ⟨w.heap.size + 1 + 1 + 1 + 1 + 1 + 1, 0, none⟩) 1 1, .int .i64 0, .int .i64 0] 27)).alloc (.cells #[.int .i64 5, .int .i64 0, .int .i64 0, .int .i64 0, .int .i64 0, .int .i64 0, .slice none 0 0, .slice none 0 0, .slice (some ⟨w.heap.size + 1 + 1 + 1, 0, none⟩) p p] 30)).alloc (.cells #[.slice none 0 0, .int .i64 0, .int .i64 0, .slice none 0 0] 33)).alloc (.cells (madeCells #[.int .i64 0] p) 3)).alloc (.cells #[.int .i64 5, .int .i64 0, .int .i64 0, .int .i64 0, .int .i64 0, .int .i64 0, .slice none 0 0, .slice none 0 0, .slice (some ⟨w.heap.size + 1 + 1 + 1, 0, none⟩) p p] 30)).alloc (.cells #[.slice none 0 0, .slice (some ⟨w.heap.size + 1 + 1 + 1 + 1, 0, none⟩) 1 1] 40)).alloc (.cells #[.slice none 0 0, .int .i64 0, .int .i64 0, .slice (some ⟨w.heap.size + 1 + 1 + 1 + 1 + 1, 0, none⟩) 1 1] 33))).heap.size := by rw [z7]; omega
  have HM1 : Hid (Blk (((((((w.alloc (.cells #[.slice none 0 0, .slice none 0 0, .slice none 0 0, .slice none 0 0, .slice (some ⟨w.heap.size + 1 + 1 + 1 + 1 + 1 + 1, 0, none⟩) 1 1, .int .i64 0, .int .i64 0] 27)).alloc (.cells #[.int .i64 5, .int .i64 0, .int .i64 0, .int .i64 0, .int .i64 0, .int .i64 0, .slice none 0 0, .slice none 0 0, .slice (some ⟨w.heap.size + 1 + 1 + 1, 0, none⟩) p p] 30)).alloc (.cells #[.slice none 0 0, .int .i64 0, .int .i64 0, .slice none 0 0] 33)).alloc (.cells (madeCells #[.int .i64 0] p) 3)).alloc (.cells #[.int .i64 5, .int .i64 0, .int .i64 0, .int .i64 0, .int .i64 0, .int .i64 0, .slice none 0 0, .slice none 0 0, .slice (some ⟨w.heap.size + 1 + 1 + 1, 0, none⟩) p p] 30)).alloc (.cells #[.slice none 0 0, .slice (some ⟨w.heap.size + 1 + 1 + 1 + 1, 0, none⟩) 1 1] 40)).alloc (.cells #[.slice none 0 0, .int .i64 0, .int .i64 0, .slice (some ⟨w.heap.size + 1 + 1 + 1 + 1 + 1, 0, none⟩) 1 1] 33)) w.heap.size 27 #[.slice none 0 0, .slice none 0 0, .slice none 0 0, .slice none 0 0, .slice (some ⟨w.heap.size + 1 + 1 + 1 + 1 + 1 + 1, 0, none⟩) 1 1, .int .i64 0, .int .i64 0]) := ((((((Blk.new w _ _).alloc _).alloc _).alloc _).alloc _).alloc _).alloc _
  have HIM : Hid (ImgIs ((((((((w.alloc (.cells #[.slice none 0 0, .slice none 0 0, .slice none 0 0, .slice none 0 0, .slice (some ⟨w.heap.size + 1 + 1 + 1 + 1 + 1 + 1, 0, none⟩) 1 1, .int .i64 0, .int .i64 0] 27)).alloc (.cells #[.int .i64 5, .int .i64 0, .int .i64 0, .int .i64 0, .int .i64 0, .int .i64 0, .slice none 0 0, .slice none 0 0, .slice (some ⟨w.heap.size + 1 + 1 + 1, 0, none⟩) p p] 30)).alloc (.cells #[.slice none 0 0, .int .i64 0, .int .i64 0, .slice none 0 0] 33)).alloc (.cells (madeCells #[.int .i64 0] p) 3)).alloc (.cells #[.int .i64 5, .int .i64 0, .int .i64 0, .int .i64 0, .int .i64 0, .int .i64 0, .slice none 0 0, .slice none 0 0, .slice (some ⟨w.heap.size + 1 + 1 + 1, 0, none⟩) p p] 30)).alloc (.cells #[.slice none 0 0, .slice (some ⟨w.heap.size + 1 + 1 + 1 + 1, 0, none⟩) 1 1] 40)).alloc (.cells #[.slice none 0 0, .int .i64 0, .int .i64 0, .slice (some ⟨w.heap.size + 1 + 1 + 1 + 1 + 1, 0, none⟩) 1 1] 33))).heap.size (((((((w.alloc (.cells #[.slice none 0 0, .slice none 0 0, .slice none 0 0, .slice none 0 0, .slice (some ⟨w.heap.size + 1 + 1 + 1 + 1 + 1 + 1, 0, none⟩) 1 1, .int .i64 0, .int .i64 0] 27)).alloc (.cells #[.int .i64 5, .int .i64 0, .int .i64 0, .int .i64 0, .int .i64 0, .int .i64 0, .slice none 0 0, .slice none 0 0, .slice (some ⟨w.heap.size + 1 + 1 + 1, 0, none⟩) p p] 30)).alloc (.cells #[.slice none 0 0, .int .i64 0, .int .i64 0, .slice none 0 0] 33)).alloc (.cells (madeCells #[.int .i64 0] p) 3)).alloc (.cells #[.int .i64 5, .int .i64 0, .int .i64 0, .int .i64 0, .int .i64 0, .int .i64 0, .slice none 0 0, .slice none 0 0, .slice (some ⟨w.heap.size + 1 + 1 + 1, 0, none⟩) p p] 30)).alloc (.cells #[.slice none 0 0, .slice (some ⟨w.heap.size + 1 + 1 + 1 + 1, 0, none⟩) 1 1] 40)).alloc (.cells #[.slice none 0 0, .int .i64 0, .int .i64 0, .slice (some ⟨w.heap.size + 1 + 1 + 1 + 1 + 1, 0, none⟩) 1 1] 33)) ⟨none, 0, 0, none, 0, 0, none, 0, 0, none, 0, 0, some ⟨w.heap.size + 1 + 1 + 1 + 1 + 1 + 1, 0, none⟩, 1, 1, 0, 0⟩ (M.lim12 p)) := ⟨rfl, rfl, in0, in0, ⟨Nat.zero_le _, Nat.zero_le _, Nat.zero_le _, Nat.zero_le _, (by decide : 1 ≤ maxLen)⟩, Lies.no, Lies.no, Lies.no, Lies.no, Lies.one _ g6 rfl ⟨_, 0, 0, _, 1, 1, rfl, by decide, by decide, in0, in0, Lies.no, Lies.one _ g5 rfl ⟨_, 0, 0, _, 1, 1, rfl, by decide, by decide, Lies.no, Lies.one _ g4 rfl ⟨_, 0, 0, _, 0, 0, _, p, p, rfl, by decide, by decide, hpm, ⟨(by unfold In64; dsimp only; omega), in0, in0, in0, in0, in0⟩, Lies.no, Lies.no, Lies.made rfl (by decide) ⟨rfl, in0⟩ g3 r3⟩ fun j _ => cells_blk r4 j⟩ fun j _ => cells_blk r5 j⟩ fun j _ => cells_blk r6 j⟩
  have hck := M.lim12_check p hp2
  obtain ⟨hwt, hsz⟩ := M.lim12_small p hp2
  have hbl := HIM.out.len
  have HEB := Lib.hid (encode_bad (Nat.le_refl _) HIM.out (by omega))
  have HEG := Lib.hid (encode_good (Nat.le_refl _) HIM.out (by omega) (by omega))
  have hok := HIM.out.ok
  have hmk := makeINTS p hp2
  have hlen : (M.bImg (M.lim12 p)).length ≤ 9000000 := by omega
  clear z1 z2 z3 z4 z5 z6 z7 r3 g3 r4 g4 r5 g5 r6 g6 hbl hwt hsz S0 hpi hpm
  by_cases hc : 200 < p
  · rw [if_pos hc] at hck
    rw [hck] at HEB
    have x0 : decide ((200 : Int) < (p : Int)) = true := decide_eq_true (by omega)
    clear HEG hck hok hlen
    go_enter Try.func3, Try.ntmps3
    go_wp2_with fail
    refine (HEB.out (by decide)).mono ?_; rintro e w2 ⟨rfl, t2⟩
    have HB2 := Lib.hid (below_next HB1.out (Still.below t2))
    clear t2 HEB
    go_wp2_with fail
    refine (lives4_any _).mono ?_; rintro e w4 ⟨rfl, t4⟩
    have HB4 := Lib.hid (below_next HB2.out t4)
    clear t4
    go_wp2_with fail
    go_ret
    exact ⟨rfl, HB4.out⟩
  · rw [if_neg hc] at hck
    have x0 : decide ((200 : Int) < (p : Int)) = false := decide_eq_false (by omega)
    have HG : Hid (M.Good (M.bel4 ++ M.bImg (M.lim12 p)) (M.lim12 p)) := ⟨rfl, hok (M.check_zero hck).2, hck⟩
    have HBT : Hid (M.Bytes (M.bel4 ++ M.bImg (M.lim12 p))) := M.Bytes.app (by intro c hc; simp [M.bel4] at hc; omega) (M.byt_Img _)
    have HLE : Hid (4 ≤ (M.bel4 ++ M.bImg (M.lim12 p)).length ∧ (M.bel4 ++ M.bImg (M.lim12 p)).length ≤ 9000010) := by
      show _ ∧ _
      simp only [List.length_append, M.bel4, List.length_cons, List.length_nil]
      omega
    rw [hck] at HEG
    clear HEB hck hok hlen
    go_enter Try.func3, Try.ntmps3
    go_wp2_with fail
    refine (HEG.out (by decide)).mono ?_; rintro e w2 ⟨a, c, rfl, ho, t2⟩
    have HB2 := Lib.hid (below_next HB1.out t2)
    have HM2 := Lib.hid (Below.blk t2 HM1.out)
    have HI2 := Lib.hid (HIM.out.later t2)
    clear t2 HEG HIM HM1
    obtain ⟨XS, hXS⟩ : ∃ XS, M.bel4 ++ M.bImg (M.lim12 p) = XS := ⟨_, rfl⟩
    rw [hXS] at ho HG HBT HLE
    rw [hXS]
    have hkk := HLE.out
    obtain ⟨r, rfl, hraw⟩ := own_raw ho (by omega)
    have HDEC := Lib.hid (decode_any hraw HBT.out (by omega))
    clear hXS ho hraw
    obtain ⟨kk, hk⟩ : ∃ kk, XS.length = kk := ⟨_, rfl⟩
    rw [hk] at HDEC ⊢
    clear hk hkk HLE
    go_wp2_with fail
    refine HDEC.out.mono ?_; rintro e w4 ⟨t4, hres⟩
    have HB4 := Lib.hid (below_next HB2.out (Still.below t4))
    have HM4 := Lib.hid (t4.blk HM2.out)
    have HI4 := Lib.hid (HI2.out.later (Still.below t4))
    clear t4 HDEC
    rcases hres with ⟨y, m', rfl, hq', hg⟩ | ⟨rfl, hno⟩
    · obtain rfl : m' = M.lim12 p := good_uniq HG.out hg
      have HIY := Lib.hid (hq'.is (B := w4.heap.size) fun b hb => hb.2)
      clear hq' hg HG HBT
      obtain ⟨ya, yb, yc, yd, ye, yf, yg, yh, yi, yj, yk, yl, ym, yn, yo, yp, yq⟩ := y
      have T6 : Hid (Still w4 (w4.alloc (.cells #[.slice ya yb yc, .slice yd ye yf, .slice yg yh yi, .slice yj yk yl, .slice ym yn yo, .int .i64 yp, .int .i64 yq] 27))) := (Still.refl w4).alloc _
      have HB6 := Lib.hid (below_next HB4.out (Still.below T6.out))
      have HSAME := Lib.hid (same_one (HIY.out.later (Still.below T6.out)) (HI4.out.later (Still.below T6.out)))
      obtain ⟨n0, n1, n2, n3, n4, n5, n6, n7⟩ := imgBox HM4.out
      dsimp only
      go_wp2_with fail
      clear n0 n1 n2 n3 n4 n5 n6 n7
      refine HSAME.out.mono ?_; rintro e w7 ⟨rfl, t7⟩
      have HB7 := Lib.hid (below_next HB6.out (Still.below t7))
      clear t7
      go_wp2_with fail
      refine (lives4_any _).mono ?_; rintro e w8 ⟨rfl, t8⟩
      have HB8 := Lib.hid (below_next HB7.out t8)
      clear t8
      go_wp2_with fail
      go_ret
      exact ⟨rfl, HB8.out⟩
    · exact absurd HG.out (hno _)
set_option maxRecDepth 100000 in
set_option maxHeartbeats 8000000 in
theorem lim12_z {n q : Int} {w : World} (hq : (if 2100 < n then 2100 else n) = q) (h0 : q ≤ 0) :
    Calls Try.prog 3 #[.int .i64 12, .int .i64 n] w fun e w' => e = .returned (.bool true) ∧ Below w.heap.size w w' := by
  have hpm : 0 ≤ maxLen := Nat.zero_le _
  have hpi : In64 0 := in0
  have S0 : Hid (Still w (((((((w.alloc (.cells #[.slice none 0 0, .slice none 0 0, .slice none 0 0, .slice none 0 0, .slice (some ⟨w.heap.size + 1 + 1 + 1 + 1 + 1 + 1, 0, none⟩) 1 1, .int .i64 0, .int .i64 0] 27)).alloc (.cells #[.int .i64 5, .int .i64 0, .int .i64 0, .int .i64 0, .int .i64 0, .int .i64 0, .slice none 0 0, .slice none 0 0, .slice (some ⟨w.heap.size + 1 + 1 + 1, 0, none⟩) 0 0] 30)).alloc (.cells #[.slice none 0 0, .int .i64 0, .int .i64 0, .slice none 0 0] 33)).alloc (.cells (madeCells #[.int .i64 0] 0) 3)).alloc (.cells #[.int .i64 5, .int .i64 0, .int .i64 0, .int .i64 0, .int .i64 0, .int .i64 0, .slice none 0 0, .slice none 0 0, .slice (some ⟨w.heap.size + 1 + 1 + 1, 0, none⟩) 0 0] 30)).alloc (.cells #[.slice none 0 0, .slice (some ⟨w.heap.size + 1 + 1 + 1 + 1, 0, none⟩) 1 1] 40)).alloc (.cells #[.slice none 0 0, .int .i64 0, .int .i64 0, .slice (some ⟨w.heap.size + 1 + 1 + 1 + 1 + 1, 0, none⟩) 1 1] 33))) := (((((((Still.refl w).alloc _).alloc _).alloc _).alloc _).alloc _).alloc _).alloc _
  have HB1 := Lib.hid (Still.below S0.out)
  have z1 := size_next (rfl : w.heap.size = w.heap.size) (.cells #[.slice none 0 0, .slice none 0 0, .slice none 0 0, .slice none 0 0, .slice (some ⟨w.heap.size + 1 + 1 + 1 + 1 + 1 + 1, 0, none⟩) 1 1, .int .i64 0, .int .i64 0] 27)
  have z2 := size_next z1 (.cells #[.int .i64 5, .int .i64 0, .int .i64 0, .int .i64 0, .int .i64 0, .int .i64 0, .slice none 0 0, .slice none 0 0, .slice (some ⟨w.heap.size + 1 + 1 + 1, 0, none⟩) 0 0] 30)
  have z3 := size_next z2 (.cells #[.slice none 0 0, .int .i64 0, .int .i64 0, .slice none 0 0] 33)
  have z4 := size_next z3 (.cells (madeCells #[.int .i64 0] 0) 3)
  have z5 := size_next z4 (.cells #[.int .i64 5, .int .i64 0, .int .i64 0, .int .i64 0, .int .i64 0, .int .i64 0, .slice none 0 0, .slice none 0 0, .slice (some ⟨w.heap.size + 1 + 1 + 1, 0, none⟩) 0 0] 30)
  have z6 := size_next z5 (.cells #[.slice none 0 0, .slice (some ⟨w.heap.size + 1 + 1 + 1 + 1, 0, none⟩) 1 1] 40)
  have z7 := size_next z6 (.cells #[.slice none 0 0, .int .i64 0, .int .i64 0, .slice (some ⟨w.heap.size + 1 + 1 + 1 + 1 + 1, 0, none⟩) 1 1] 33)
  have r3 : Blk (((((((w.alloc (.cells #[.slice none 0 0, .slice none 0 0, .slice none 0 0, .slice none 0 0, .slice (some ⟨w.heap.size + 1 + 1 + 1 + 1 + 1 + 1, 0, none⟩) 1 1, .int .i64 0, .int .i64 0] 27)).alloc (.cells #[.int .i64 5, .int .i64 0, .int .i64 0, .int .i64 0, .int .i64 0, .int .i64 0, .slice none 0 0, .slice none 0 0, .slice (some ⟨w.heap.size + 1 + 1 + 1, 0, none⟩) 0 0] 30)).alloc (.cells #[.slice none 0 0, .int .i64 0, .int .i64 0, .slice none 0 0] 33)).alloc (.cells (madeCells #[.int .i64 0] 0) 3)).alloc (.cells #[.int .i64 5, .int .i64 0, .int .i64 0, .int .i64 0, .int .i64 0, .int .i64 0, .slice none 0 0, .slice none 0 0, .slice (some ⟨w.heap.size + 1 + 1 + 1, 0, none⟩) 0 0] 30)).alloc (.cells #[.slice none 0 0, .slice (some ⟨w.heap.size + 1 + 1 + 1 + 1, 0, none⟩) 1 1] 40)).alloc (.cells #[.slice none 0 0, .int .i64 0, .int .i64 0, .slice (some ⟨w.heap.size + 1 + 1 + 1 + 1 + 1, 0, none⟩) 1 1] 33)) (w.heap.size + 1 + 1 + 1) 3 (madeCells #[.int .i64 0] 0) := (by exact (((blk_next z3 _ _).alloc _).alloc _).alloc _)
  have g3 : w.heap.size + 1 + 1 + 1 < ((((((((w.alloc (.cells #[.slice none 0 0, .slice none 0 0, .slice none 0 0, .slice none 0 0, .slice (some ⟨w.heap.size + 1 + 1 + 1 + 1 + 1 + 1, 0, none⟩) 1 1, .int .i64 0, .int .i64 0] 27)).alloc (.cells #[.int .i64 5, .int .i64 0, .int .i64 0, .int .i64 0, .int .i64 0, .int .i64 0, .slice none 0 0, .slice none 0 0, .slice (some ⟨w.heap.size + 1 + 1 + 1, 0, none⟩) 0 0] 30)).alloc (.cells #[.slice none 0 0, .int .i64 0, .int .i64 0, .slice none 0 0] 33)).alloc (.cells (madeCells #[.int .i64 0] 0) 3)).alloc (.cells #[.int .i64 5, .int .i64 0, .int .i64 0, .int .i64 0, .int .i64 0, .int .i64 0, .slice none 0 0, .slice none 0 0, .slice (some ⟨w.heap.size + 1 + 1 + 1, 0, none⟩) 0 0] 30)).alloc (.cells #[.slice none 0 0, .slice (some ⟨w.heap.size + 1 + 1 + 1 + 1, 0, none⟩) 1 1] 40)).alloc (.cells #[.slice none 0 0, .int .i64 0, .int .i64 0, .slice (some ⟨w.heap.size + 1 + 1 + 1 + 1 + 1, 0, none⟩) 1 1] 33))).heap.size := by rw [z7]; omega
  have r4 : Blk (((((((w.alloc (.cells #[.slice none 0 0, .slice none 0 0, .slice none 0 0, .slice none 0 0, .slice (some ⟨w.heap.size + 1 + 1 + 1 + 1 + 1 + 1, 0, none⟩) 1 1, .int .i64 0, .int .i64 0] 27)).alloc (.cells #[.int .i64 5, .int .i64 0, .int .i64 0, .int .i64 0, .int .i64 0, .int .i64 0, .slice none 0 0, .slice none 0 0, .slice (some ⟨w.heap.size + 1 + 1 + 1, 0, none⟩) 0 0] 30)).alloc (.cells #[.slice none 0 0, .int .i64 0, .int .i64 0, .slice none 0 0] 33)).alloc (.cells (madeCells #[.int .i64 0] 0) 3)).alloc (.cells #[.int .i64 5, .int .i64 0, .int .i64 0, .int .i64 0, .int .i64 0, .int .i64 0, .slice none 0 0, .slice none 0 0, .slice (some ⟨w.heap.size + 1 + 1 + 1, 0, none⟩) 0 0] 30)).alloc (.cells #[.slice none 0 0, .slice (some ⟨w.heap.size + 1 + 1 + 1 + 1, 0, none⟩) 1 1] 40)).alloc (.cells #[.slice none 0 0, .int .i64 0, .int .i64 0, .slice (some ⟨w.heap.size + 1 + 1 + 1 + 1 + 1, 0, none⟩) 1 1] 33)) (w.heap.size + 1 + 1 + 1 + 1) 30 #[.int .i64 5, .int .i64 0, .int .i64 0, .int .i64 0, .int .i64 0, .int .i64 0, .slice none 0 0, .slice none 0 0, .slice (some ⟨w.heap.size + 1 + 1 + 1, 0, none⟩) 0 0] := ((blk_next z4 _ _).alloc _).alloc _
  have g4 : w.heap.size + 1 + 1 + 1 + 1 < ((((((((w.alloc (.cells #[.slice none 0 0, .slice none 0 0, .slice none 0 0, .slice none 0 0, .slice (some ⟨w.heap.size + 1 + 1 + 1 + 1 + 1 + 1, 0, none⟩) 1 1, .int .i64 0, .int .i64 0] 27)).alloc (.cells #[.int .i64 5, .int .i64 0, .int .i64 0, .int .i64 0, .int .i64 0, .int .i64 0, .slice none 0 0, .slice none 0 0, .slice (some ⟨w.heap.size + 1 + 1 + 1, 0, none⟩) 0 0] 30)).alloc (.cells #[.slice none 0 0, .int .i64 0, .int .i64 0, .slice none 0 0] 33)).alloc (.cells (madeCells #[.int .i64 0] 0) 3)).alloc (.cells #[.int .i64 5, .int .i64 0, .int .i64 0, .int .i64 0, .int .i64 0, .int .i64 0, .slice none 0 0, .slice none 0 0, .slice (some ⟨w.heap.size + 1 + 1 + 1, 0, none⟩) 0 0] 30)).alloc (.cells #[.slice none 0 0, .slice (some ⟨w.heap.size + 1 + 1 + 1 + 1, 0, none⟩) 1 1] 40)).alloc (.cells #[.slice none 0 0, .int .i64 0, .int .i64 0, .slice (some ⟨w.heap.size + 1 + 1 + 1 + 1 + 1, 0, none⟩) 1 1] 33))).heap.size := by rw [z7]; omega
  have r5 : Blk (((((((w.alloc (.cells #[.slice none 0 0, .slice none 0 0, .slice none 0 0, .slice none 0 0, .slice (some ⟨w.heap.size + 1 + 1 + 1 + 1 + 1 + 1, 0, none⟩) 1 1, .int .i64 0, .int .i64 0] 27)).alloc (.cells #[.int .i64 5, .int .i64 0, .int .i64 0, .int .i64 0, .int .i64 0, .int .i64 0, .slice none 0 0, .slice none 0 0, .slice (some ⟨w.heap.size + 1 + 1 + 1, 0, none⟩) 0 0] 30)).alloc (.cells #[.slice none 0 0, .int .i64 0, .int .i64 0, .slice none 0 0] 33)).alloc (.cells (madeCells #[.int .i64 0] 0) 3)).alloc (.cells #[.int .i64 5, .int .i64 0, .int .i64 0, .int .i64 0, .int .i64 0, .int .i64 0, .slice none 0 0, .slice none 0 0, .slice (some ⟨w.heap.size + 1 + 1 + 1, 0, none⟩) 0 0] 30)).alloc (.cells #[.slice none 0 0, .slice (some ⟨w.heap.size + 1 + 1 + 1 + 1, 0, none⟩) 1 1] 40)).alloc (.cells #[.slice none 0 0, .int .i64 0, .int .i64 0, .slice (some ⟨w.heap.size + 1 + 1 + 1 + 1 + 1, 0, none⟩) 1 1] 33)) (w.heap.size + 1 + 1 + 1 + 1 + 1) 40 #[.slice none 0 0, .slice (some ⟨w.heap.size + 1 + 1 + 1 + 1, 0, none⟩) 1 1] := (blk_next z5 _ _).alloc _
  have g5 : w.heap.size + 1 + 1 + 1 + 1 + 1 < ((((((((w.alloc (.cells #[.slice none 0 0, .slice none 0 0, .slice none 0 0, .slice none 0 0, .slice (some ⟨w.heap.size + 1 + 1 + 1 + 1 + 1 + 1, 0, none⟩) 1 1, .int .i64 0, .int .i64 0] 27)).alloc (.cells #[.int .i64 5, .int .i64 0, .int .i64 0, .int .i64 0, .int .i64 0, .int .i64 0, .slice none 0 0, .slice none 0 0, .slice (some ⟨w.heap.size + 1 + 1 + 1, 0, none⟩) 0 0] 30)).alloc (.cells #[.slice none 0 0, .int .i64 0, .int .i64 0, .slice none 0 0] 33)).alloc (.cells (madeCells #[.int .i64 0] 0) 3)).alloc (.cells #[.int .i64 5, .int .i64 0, .int .i64 0, .int .i64 0, .int .i64 0, .int .i64 0, .slice none 0 0, .slice none 0 0, .slice (some ⟨w.heap.size + 1 + 1 + 1, 0, none⟩) 0 0] 30)).alloc (.cells #[.slice none 0 0, .slice (some ⟨w.heap.size + 1 + 1 + 1 + 1, 0, none⟩) 1 1] 40)).alloc (.cells #[.slice none 0 0, .int .i64 0, .int .i64 0, .slice (some ⟨w.heap.size + 1 + 1 + 1 + 1 + 1, 0, none⟩) 1 1] 33))).heap.size := by rw [z7]; omega
  have r6 : Blk (((((((w.alloc (.cells #[.slice none 0 0, .slice none 0 0, .slice none 0 0, .slice none 0 0, .slice (some ⟨w.heap.size + 1 + 1 + 1 + 1 + 1 + 1, 0, none⟩) 1 1, .int .i64 0, .int .i64 0] 27)).alloc (.cells #[.int .i64 5, .int .i64 0, .int .i64 0, .int .i64 0, .int .i64 0, .int .i64 0, .slice none 0 0, .slice none 0 0, .slice (some ⟨w.heap.size + 1 + 1 + 1, 0, none⟩) 0 0] 30)).alloc (.cells #[.slice none 0 0, .int .i64 0, .int .i64 0, .slice none 0 0] 33)).alloc (.cells (madeCells #[.int .i64 0] 0) 3)).alloc (.cells #[.int .i64 5, .int .i64 0, .int .i64 0, .int .i64 0, .int .i64 0, .int .i64 0, .slice none 0 0, .slice none 0 0, .slice (some ⟨w.heap.size + 1 + 1 + 1, 0, none⟩) 0 0] 30)).alloc (.cells #[.slice none 0 0, .slice (some ⟨w.heap.size + 1 + 1 + 1 + 1, 0, none⟩) 1 1] 40)).alloc (.cells #[.slice none 0 0, .int .i64 0, .int .i64 0, .slice (some ⟨w.heap.size + 1 + 1 + 1 + 1 + 1, 0, none⟩) 1 1] 33)) (w.heap.size + 1 + 1 + 1 + 1 + 1 + 1) 33 #[.slice none 0 0, .int .i64 0, .int .i64 0, .slice (some ⟨w.heap.size + 1 + 1 + 1 + 1 + 1, 0, none⟩) 1 1] := blk_next z6 _ _
  have g6 : w.heap.size + 1 + 1 + 1 + 1 + 1 + 1 < ((((((((w.alloc (.cells #[.slice none 0 0, .slice none 0 0, .slice none 0 0, .slice none 0 0, .slice (some ⟨w.heap.size + 1 + 1 + 1 + 1 + 1 + 1, 0, none⟩) 1 1, .int .i64 0, .int .i64 0] 27)).alloc (.cells #[.int .i64 5, .int .i64 0, .int .i64 0, .int .i64 0, .int .i64 0, .int .i64 0, .slice none 0 0, .slice none 0 0, .slice (some ⟨w.heap.size + 1 + 1 + 1, 0, none⟩) 0 0] 30)).alloc (.cells #[.slice none 0 0, .int .i64 0, .int .i64 0, .slice none 0 0] 33)).alloc (.cells (madeCells #[.int .i64 0] 0) 3)).alloc (.cells #[.int .i64 5, .int .i64 0, .int .i64 0, .int .i64 0, .int .i64 0, .int .i64 0, .slice none 0 0, .slice none 0 0, .slice (some ⟨w.heap.size + 1 + 1 + 1, 0, none⟩) 0 0] 30)).alloc (.cells #[.slice none 0 0, .slice (some ⟨w.heap.size + 1 + 1 + 1 + 1, 0, none⟩) 1 1] 40)).alloc (.cells #[.slice none 0 0, .int .i64 0, .int .i64 0, .slice (some ⟨w.heap.size + 1 + 1 + 1 + 1 + 1, 0, none⟩) 1 1] 33))).heap.size := by rw [z7]; omega
  have HM1 : Hid (Blk (((((((w.alloc (.cells #[.slice none 0 0, .slice none 0 0, .slice none 0 0, .slice none 0 0, .slice (some ⟨w.heap.size + 1 + 1 + 1 + 1 + 1 + 1, 0, none⟩) 1 1, .int .i64 0, .int .i64 0] 27)).alloc (.cells #[.int .i64 5, .int .i64 0, .int .i64 0, .int .i64 0, .int .i64 0, .int .i64 0, .slice none 0 0, .slice none 0 0, .slice (some ⟨w.heap.size + 1 + 1 + 1, 0, none⟩) 0 0] 30)).alloc (.cells #[.slice none 0 0, .int .i64 0, .int .i64 0, .slice none 0 0] 33)).alloc (.cells (madeCells #[.int .i64 0] 0) 3)).alloc (.cells #[.int .i64 5, .int .i64 0, .int .i64 0, .int .i64 0, .int .i64 0, .int .i64 0, .slice none 0 0, .slice none 0 0, .slice (some ⟨w.heap.size + 1 + 1 + 1, 0, none⟩) 0 0] 30)).alloc (.cells #[.slice none 0 0, .slice (some ⟨w.heap.size + 1 + 1 + 1 + 1, 0, none⟩) 1 1] 40)).alloc (.cells #[.slice none 0 0, .int .i64 0, .int .i64 0, .slice (some ⟨w.heap.size + 1 + 1 + 1 + 1 + 1, 0, none⟩) 1 1] 33)) w.heap.size 27 #[.slice none 0 0, .slice none 0 0, .slice none 0 0, .slice none 0 0, .slice (some ⟨w.heap.size + 1 + 1 + 1 + 1 + 1 + 1, 0, none⟩) 1 1, .int .i64 0, .int .i64 0]) := ((((((Blk.new w _ _).alloc _).alloc _).alloc _).alloc _).alloc _).alloc _
  have HIM : Hid (ImgIs ((((((((w.alloc (.cells #[.slice none 0 0, .slice none 0 0, .slice none 0 0, .slice none 0 0, .slice (some ⟨w.heap.size + 1 + 1 + 1 + 1 + 1 + 1, 0, none⟩) 1 1, .int .i64 0, .int .i64 0] 27)).alloc (.cells #[.int .i64 5, .int .i64 0, .int .i64 0, .int .i64 0, .int .i64 0, .int .i64 0, .slice none 0 0, .slice none 0 0, .slice (some ⟨w.heap.size + 1 + 1 + 1, 0, none⟩) 0 0] 30)).alloc (.cells #[.slice none 0 0, .int .i64 0, .int .i64 0, .slice none 0 0] 33)).alloc (.cells (madeCells #[.int .i64 0] 0) 3)).alloc (.cells #[.int .i64 5, .int .i64 0, .int .i64 0, .int .i64 0, .int .i64 0, .int .i64 0, .slice none 0 0, .slice none 0 0, .slice (some ⟨w.heap.size + 1 + 1 + 1, 0, none⟩) 0 0] 30)).alloc (.cells #[.slice none 0 0, .slice (some ⟨w.heap.size + 1 + 1 + 1 + 1, 0, none⟩) 1 1] 40)).alloc (.cells #[.slice none 0 0, .int .i64 0, .int .i64 0, .slice (some ⟨w.heap.size + 1 + 1 + 1 + 1 + 1, 0, none⟩) 1 1] 33))).heap.size (((((((w.alloc (.cells #[.slice none 0 0, .slice none 0 0, .slice none 0 0, .slice none 0 0, .slice (some ⟨w.heap.size + 1 + 1 + 1 + 1 + 1 + 1, 0, none⟩) 1 1, .int .i64 0, .int .i64 0] 27)).alloc (.cells #[.int .i64 5, .int .i64 0, .int .i64 0, .int .i64 0, .int .i64 0, .int .i64 0, .slice none 0 0, .slice none 0 0, .slice (some ⟨w.heap.size + 1 + 1 + 1, 0, none⟩) 0 0] 30)).alloc (.cells #[.slice none 0 0, .int .i64 0, .int .i64 0, .slice none 0 0] 33)).alloc (.cells (madeCells #[.int .i64 0] 0) 3)).alloc (.cells #[.int .i64 5, .int .i64 0, .int .i64 0, .int .i64 0, .int .i64 0, .int .i64 0, .slice none 0 0, .slice none 0 0, .slice (some ⟨w.heap.size + 1 + 1 + 1, 0, none⟩) 0 0] 30)).alloc (.cells #[.slice none 0 0, .slice (some ⟨w.heap.size + 1 + 1 + 1 + 1, 0, none⟩) 1 1] 40)).alloc (.cells #[.slice none 0 0, .int .i64 0, .int .i64 0, .slice (some ⟨w.heap.size + 1 + 1 + 1 + 1 + 1, 0, none⟩) 1 1] 33)) ⟨none, 0, 0, none, 0, 0, none, 0, 0, none, 0, 0, some ⟨w.heap.size + 1 + 1 + 1 + 1 + 1 + 1, 0, none⟩, 1, 1, 0, 0⟩ (M.lim12 0)) := ⟨rfl, rfl, in0, in0, ⟨Nat.zero_le _, Nat.zero_le _, Nat.zero_le _, Nat.zero_le _, (by decide : 1 ≤ maxLen)⟩, Lies.no, Lies.no, Lies.no, Lies.no, Lies.one _ g6 rfl ⟨_, 0, 0, _, 1, 1, rfl, by decide, by decide, in0, in0, Lies.no, Lies.one _ g5 rfl ⟨_, 0, 0, _, 1, 1, rfl, by decide, by decide, Lies.no, Lies.one _ g4 rfl ⟨_, 0, 0, _, 0, 0, _, 0, 0, rfl, by decide, by decide, hpm, ⟨(by unfold In64; dsimp only; omega), in0, in0, in0, in0, in0⟩, Lies.no, Lies.no, Lies.made rfl (by decide) ⟨rfl, in0⟩ g3 r3⟩ fun j _ => cells_blk r4 j⟩ fun j _ => cells_blk r5 j⟩ fun j _ => cells_blk r6 j⟩
  have hck := M.lim12_check 0 (by decide)
  obtain ⟨hwt, hsz⟩ := M.lim12_small 0 (by decide)
  have hbl := HIM.out.len
  have HEB := Lib.hid (encode_bad (Nat.le_refl _) HIM.out (by omega))
  have HEG := Lib.hid (encode_good (Nat.le_refl _) HIM.out (by omega) (by omega))
  have hok := HIM.out.ok
  have hmk : ∀ W, (Instr.makeSlice 28 (.int .i64 0) (.int .i64 0)).run Try.prog W = .ok (.slice (some ⟨W.heap.size, 0, none⟩) 0 0) (W.alloc (.cells (madeCells #[.int .i64 0] 0) 3)) := fun W => makeINTS 0 (by decide) W
  have hlen : (M.bImg (M.lim12 0)).length ≤ 9000000 := by omega
  clear z1 z2 z3 z4 z5 z6 z7 r3 g3 r4 g4 r5 g5 r6 g6 hbl hwt hsz S0 hpi hpm
  · rw [if_neg (by decide)] at hck
    have HG : Hid (M.Good (M.bel4 ++ M.bImg (M.lim12 0)) (M.lim12 0)) := ⟨rfl, hok (M.check_zero hck).2, hck⟩
    have HBT : Hid (M.Bytes (M.bel4 ++ M.bImg (M.lim12 0))) := M.Bytes.app (by intro c hc; simp [M.bel4] at hc; omega) (M.byt_Img _)
    have HLE : Hid (4 ≤ (M.bel4 ++ M.bImg (M.lim12 0)).length ∧ (M.bel4 ++ M.bImg (M.lim12 0)).length ≤ 9000010) := by
      show _ ∧ _
      simp only [List.length_append, M.bel4, List.length_cons, List.length_nil]
      omega
    rw [hck] at HEG
    clear HEB hck hok hlen
    go_enter Try.func3, Try.ntmps3
    go_wp2_with fail
    refine (HEG.out (by decide)).mono ?_; rintro e w2 ⟨a, c, rfl, ho, t2⟩
    have HB2 := Lib.hid (below_next HB1.out t2)
    have HM2 := Lib.hid (Below.blk t2 HM1.out)
    have HI2 := Lib.hid (HIM.out.later t2)
    clear t2 HEG HIM HM1
    obtain ⟨XS, hXS⟩ : ∃ XS, M.bel4 ++ M.bImg (M.lim12 0) = XS := ⟨_, rfl⟩
    rw [hXS] at ho HG HBT HLE
    rw [hXS]
    have hkk := HLE.out
    obtain ⟨r, rfl, hraw⟩ := own_raw ho (by omega)
    have HDEC := Lib.hid (decode_any hraw HBT.out (by omega))
    clear hXS ho hraw
    obtain ⟨kk, hk⟩ : ∃ kk, XS.length = kk := ⟨_, rfl⟩
    rw [hk] at HDEC ⊢
    clear hk hkk HLE
    go_wp2_with fail
    refine HDEC.out.mono ?_; rintro e w4 ⟨t4, hres⟩
    have HB4 := Lib.hid (below_next HB2.out (Still.below t4))
    have HM4 := Lib.hid (t4.blk HM2.out)
    have HI4 := Lib.hid (HI2.out.later (Still.below t4))
    clear t4 HDEC
    rcases hres with ⟨y, m', rfl, hq', hg⟩ | ⟨rfl, hno⟩
    · obtain rfl : m' = M.lim12 0 := good_uniq HG.out hg
      have HIY := Lib.hid (hq'.is (B := w4.heap.size) fun b hb => hb.2)
      clear hq' hg HG HBT
      obtain ⟨ya, yb, yc, yd, ye, yf, yg, yh, yi, yj, yk, yl, ym, yn, yo, yp, yq⟩ := y
      have T6 : Hid (Still w4 (w4.alloc (.cells #[.slice ya yb yc, .slice yd ye yf, .slice yg yh yi, .slice yj yk yl, .slice ym yn yo, .int .i64 yp, .int .i64 yq] 27))) := (Still.refl w4).alloc _
      have HB6 := Lib.hid (below_next HB4.out (Still.below T6.out))
      have HSAME := Lib.hid (same_one (HIY.out.later (Still.below T6.out)) (HI4.out.later (Still.below T6.out)))
      obtain ⟨n0, n1, n2, n3, n4, n5, n6, n7⟩ := imgBox HM4.out
      dsimp only
      go_wp2_with fail
      clear n0 n1 n2 n3 n4 n5 n6 n7
      refine HSAME.out.mono ?_; rintro e w7 ⟨rfl, t7⟩
      have HB7 := Lib.hid (below_next HB6.out (Still.below t7))
      clear t7
      go_wp2_with fail
      refine (lives4_any _).mono ?_; rintro e w8 ⟨rfl, t8⟩
      have HB8 := Lib.hid (below_next HB7.out t8)
      clear t8
      go_wp2_with fail
      go_ret
      exact ⟨rfl, HB8.out⟩
    · exact absurd HG.out (hno _)
end Go.Proofs.Ytiagfkdidjlkcaa
