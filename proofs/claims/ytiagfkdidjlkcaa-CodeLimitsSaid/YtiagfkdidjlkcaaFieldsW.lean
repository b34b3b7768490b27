/- CodeFields, for any instruction. -/
import Derived.Test.YtiagfkdidjlkcaaTurnsW
import Derived.Test.YtiagfkdidjlkcaaL06
import Derived.Test.YtiagfkdidjlkcaaOne
namespace Go.Proofs.Ytiagfkdidjlkcaa
set_option linter.unusedVariables false
set_option linter.unusedSimpArgs false
open Go.ChangeShapes Go.WideShapes Go.ChangeAt Go.RowKit
open M (W)
theorem good_uniq {L : List Int} {m m' : M.Img} (h : M.Good L m) (h' : M.Good L m') : m' = m :=
  (M.pre_Img m' m [] [] h'.2.1 h.2.1 (by rw [List.append_nil, List.append_nil]; exact List.append_cancel_left (h'.1.symm.trans h.1))).1
theorem same_one {u v : ImgV} {m : M.Img} {w : World} (h1 : ImgIs w.heap.size w u m) (h2 : ImgIs w.heap.size w v m) :
    Calls Try.prog 10 #[.agg #[.slice u.ta u.tn u.tc, .slice u.sa u.sn u.sc, .slice u.xa u.xn u.xc, .slice u.na u.nn u.nc, .slice u.fa u.fn u.fc, .int .i64 u.main, .int .i64 u.exn], .agg #[.slice v.ta v.tn v.tc, .slice v.sa v.sn v.sc, .slice v.xa v.xn v.xc, .slice v.na v.nn v.nc, .slice v.fa v.fn v.fc, .int .i64 v.main, .int .i64 v.exn]] w fun e w' => e = .returned (.bool true) ∧ Still w w' :=
  (Same_any h1 h2 (Nat.le_refl _)).mono fun e w' ⟨r, he, hr, ht⟩ => by
    cases r with
    | true => exact ⟨he, ht⟩
    | false => exact absurd (hr.2 rfl) (by decide)
set_option maxRecDepth 100000 in
set_option maxHeartbeats 8000000 in
theorem codeFields_w {xo xd xa xb xc xn : Int} {la : Option Addr} {ll lc : Nat} {ma : Option Addr} {ml mc : Nat} {va : Option Addr} {vl vc : Nat} {LL MM VV : List Int} {w : World} (hp : InsIs w.heap.size w [.int .i64 xo, .int .i64 xd, .int .i64 xa, .int .i64 xb, .int .i64 xc, .int .i64 xn, .slice la ll lc, .slice ma ml mc, .slice va vl vc] ⟨xo, xd, xa, xb, xc, xn, LL, MM, VV⟩) (el : LL.length = ll) (em : MM.length = ml) (ev : VV.length = vl) :
    Calls Try.prog 4 #[.agg #[.int .i64 xo, .int .i64 xd, .int .i64 xa, .int .i64 xb, .int .i64 xc, .int .i64 xn, .slice la ll lc, .slice ma ml mc, .slice va vl vc]] w fun e w' => e = .returned (.bool true) ∧ Below w.heap.size w w' := by
  have HPX := Lib.hid hp
  have HB0 : Hid (Below w.heap.size w (w.alloc (.cells #[.int .i64 xo, .int .i64 xd, .int .i64 xa, .int .i64 xb, .int .i64 xc, .int .i64 xn, .slice la ll lc, .slice ma ml mc, .slice va vl vc] 30))) := Still.below ((Still.refl w).alloc _)
  by_cases h1 : 200 < ll ∨ 200 < ml ∨ 200 < vl
  · clear hp el em ev
    go_enter Try.func4, Try.ntmps4
    go_wp2_with fail
    all_goals first
      | (exfalso; omega)
      | (refine (lives4_any _).mono ?_; rintro e w2 ⟨rfl, t2⟩
         have HB2 := Lib.hid (below_next HB0.out t2)
         clear t2
         go_wp2_with fail
         go_ret
         exact ⟨rfl, HB2.out⟩)
  have x1 : ll ≤ 200 := by omega
  have x2 : ml ≤ 200 := by omega
  have x3 : vl ≤ 200 := by omega
  clear h1
  have S0 : Hid (Still w (((((w.alloc (.cells #[.int .i64 xo, .int .i64 xd, .int .i64 xa, .int .i64 xb, .int .i64 xc, .int .i64 xn, .slice la ll lc, .slice ma ml mc, .slice va vl vc] 30)).alloc (.cells #[.int .i64 xo, .int .i64 xd, .int .i64 xa, .int .i64 xb, .int .i64 xc, .int .i64 xn, .slice la ll lc, .slice ma ml mc, .slice va vl vc] 30)).alloc (.cells #[.slice none 0 0, .slice (some ⟨w.heap.size + 1, 0, none⟩) 1 1] 40)).alloc (.cells #[.slice none 0 0, .int .i64 0, .int .i64 0, .slice (some ⟨w.heap.size + 1 + 1, 0, none⟩) 1 1] 33)).alloc (.cells #[.slice none 0 0, .slice none 0 0, .slice none 0 0, .slice none 0 0, .slice (some ⟨w.heap.size + 1 + 1 + 1, 0, none⟩) 1 1, .int .i64 0, .int .i64 0] 27))) := (((((Still.refl w).alloc _).alloc _).alloc _).alloc _).alloc _
  have HB1 := Lib.hid (Still.below S0.out)
  have z1 := size_next (rfl : w.heap.size = w.heap.size) (.cells #[.int .i64 xo, .int .i64 xd, .int .i64 xa, .int .i64 xb, .int .i64 xc, .int .i64 xn, .slice la ll lc, .slice ma ml mc, .slice va vl vc] 30)
  have z2 := size_next z1 (.cells #[.int .i64 xo, .int .i64 xd, .int .i64 xa, .int .i64 xb, .int .i64 xc, .int .i64 xn, .slice la ll lc, .slice ma ml mc, .slice va vl vc] 30)
  have z3 := size_next z2 (.cells #[.slice none 0 0, .slice (some ⟨w.heap.size + 1, 0, none⟩) 1 1] 40)
  have z4 := size_next z3 (.cells #[.slice none 0 0, .int .i64 0, .int .i64 0, .slice (some ⟨w.heap.size + 1 + 1, 0, none⟩) 1 1] 33)
  have z5 := size_next z4 (.cells #[.slice none 0 0, .slice none 0 0, .slice none 0 0, .slice none 0 0, .slice (some ⟨w.heap.size + 1 + 1 + 1, 0, none⟩) 1 1, .int .i64 0, .int .i64 0] 27)
  have HX1 : Hid (Blk (((((w.alloc (.cells #[.int .i64 xo, .int .i64 xd, .int .i64 xa, .int .i64 xb, .int .i64 xc, .int .i64 xn, .slice la ll lc, .slice ma ml mc, .slice va vl vc] 30)).alloc (.cells #[.int .i64 xo, .int .i64 xd, .int .i64 xa, .int .i64 xb, .int .i64 xc, .int .i64 xn, .slice la ll lc, .slice ma ml mc, .slice va vl vc] 30)).alloc (.cells #[.slice none 0 0, .slice (some ⟨w.heap.size + 1, 0, none⟩) 1 1] 40)).alloc (.cells #[.slice none 0 0, .int .i64 0, .int .i64 0, .slice (some ⟨w.heap.size + 1 + 1, 0, none⟩) 1 1] 33)).alloc (.cells #[.slice none 0 0, .slice none 0 0, .slice none 0 0, .slice none 0 0, .slice (some ⟨w.heap.size + 1 + 1 + 1, 0, none⟩) 1 1, .int .i64 0, .int .i64 0] 27)) w.heap.size 30 #[.int .i64 xo, .int .i64 xd, .int .i64 xa, .int .i64 xb, .int .i64 xc, .int .i64 xn, .slice la ll lc, .slice ma ml mc, .slice va vl vc]) := ((((Blk.new w _ _).alloc _).alloc _).alloc _).alloc _
  have HM1 : Hid (Blk (((((w.alloc (.cells #[.int .i64 xo, .int .i64 xd, .int .i64 xa, .int .i64 xb, .int .i64 xc, .int .i64 xn, .slice la ll lc, .slice ma ml mc, .slice va vl vc] 30)).alloc (.cells #[.int .i64 xo, .int .i64 xd, .int .i64 xa, .int .i64 xb, .int .i64 xc, .int .i64 xn, .slice la ll lc, .slice ma ml mc, .slice va vl vc] 30)).alloc (.cells #[.slice none 0 0, .slice (some ⟨w.heap.size + 1, 0, none⟩) 1 1] 40)).alloc (.cells #[.slice none 0 0, .int .i64 0, .int .i64 0, .slice (some ⟨w.heap.size + 1 + 1, 0, none⟩) 1 1] 33)).alloc (.cells #[.slice none 0 0, .slice none 0 0, .slice none 0 0, .slice none 0 0, .slice (some ⟨w.heap.size + 1 + 1 + 1, 0, none⟩) 1 1, .int .i64 0, .int .i64 0] 27)) (w.heap.size + 1 + 1 + 1 + 1) 27 #[.slice none 0 0, .slice none 0 0, .slice none 0 0, .slice none 0 0, .slice (some ⟨w.heap.size + 1 + 1 + 1, 0, none⟩) 1 1, .int .i64 0, .int .i64 0]) := blk_next z4 _ _
  have HIM : Hid (ImgIs ((((((w.alloc (.cells #[.int .i64 xo, .int .i64 xd, .int .i64 xa, .int .i64 xb, .int .i64 xc, .int .i64 xn, .slice la ll lc, .slice ma ml mc, .slice va vl vc] 30)).alloc (.cells #[.int .i64 xo, .int .i64 xd, .int .i64 xa, .int .i64 xb, .int .i64 xc, .int .i64 xn, .slice la ll lc, .slice ma ml mc, .slice va vl vc] 30)).alloc (.cells #[.slice none 0 0, .slice (some ⟨w.heap.size + 1, 0, none⟩) 1 1] 40)).alloc (.cells #[.slice none 0 0, .int .i64 0, .int .i64 0, .slice (some ⟨w.heap.size + 1 + 1, 0, none⟩) 1 1] 33)).alloc (.cells #[.slice none 0 0, .slice none 0 0, .slice none 0 0, .slice none 0 0, .slice (some ⟨w.heap.size + 1 + 1 + 1, 0, none⟩) 1 1, .int .i64 0, .int .i64 0] 27))).heap.size (((((w.alloc (.cells #[.int .i64 xo, .int .i64 xd, .int .i64 xa, .int .i64 xb, .int .i64 xc, .int .i64 xn, .slice la ll lc, .slice ma ml mc, .slice va vl vc] 30)).alloc (.cells #[.int .i64 xo, .int .i64 xd, .int .i64 xa, .int .i64 xb, .int .i64 xc, .int .i64 xn, .slice la ll lc, .slice ma ml mc, .slice va vl vc] 30)).alloc (.cells #[.slice none 0 0, .slice (some ⟨w.heap.size + 1, 0, none⟩) 1 1] 40)).alloc (.cells #[.slice none 0 0, .int .i64 0, .int .i64 0, .slice (some ⟨w.heap.size + 1 + 1, 0, none⟩) 1 1] 33)).alloc (.cells #[.slice none 0 0, .slice none 0 0, .slice none 0 0, .slice none 0 0, .slice (some ⟨w.heap.size + 1 + 1 + 1, 0, none⟩) 1 1, .int .i64 0, .int .i64 0] 27)) ⟨none, 0, 0, none, 0, 0, none, 0, 0, none, 0, 0, some ⟨w.heap.size + 1 + 1 + 1, 0, none⟩, 1, 1, 0, 0⟩ (M.one ⟨xo, xd, xa, xb, xc, xn, LL, MM, VV⟩)) := one_img ((HPX.out.keep HB1.out (Nat.le_refl _)).up HB1.out.size) rfl (by rw [z5]; omega) (by rw [z5]; omega) (by rw [z5]; omega) ((((blk_next z1 _ _).alloc _).alloc _).alloc _) (((blk_next z2 _ _).alloc _).alloc _) ((blk_next z3 _ _).alloc _)
  have hck := M.check_one (x := ⟨xo, xd, xa, xb, xc, xn, LL, MM, VV⟩) (by dsimp only; omega) (by dsimp only; omega) (by dsimp only; omega)
  obtain ⟨hwt, hsz⟩ := M.one_small (x := ⟨xo, xd, xa, xb, xc, xn, LL, MM, VV⟩) (by dsimp only; omega) (by dsimp only; omega) (by dsimp only; omega)
  have HPL := Lib.hid (fun W => refPlain_any xo xd xa xb xc xn la ll lc ma ml mc va vl vc W)
  have hpl : M.plainIns ⟨xo, xd, xa, xb, xc, xn, LL, MM, VV⟩ = M.plain (M.uses xo) xd xa xb xc xn ll ml vl := by unfold M.plainIns; dsimp only; rw [el, em, ev]
  rw [← hpl] at HPL
  have hbl := HIM.out.len
  have hlen : (M.bImg (M.one ⟨xo, xd, xa, xb, xc, xn, LL, MM, VV⟩)).length ≤ 300000 := by omega
  have HEB := Lib.hid (encode_bad (Nat.le_refl _) HIM.out (by omega))
  have HEG := Lib.hid (encode_good (Nat.le_refl _) HIM.out (by omega) (by omega))
  have hok := HIM.out.ok
  clear hpl z1 z2 z3 z4 z5 hsz hwt hbl S0 hp
  cases hpi : M.plainIns ⟨xo, xd, xa, xb, xc, xn, LL, MM, VV⟩ with
  | false =>
    rw [hpi] at hck HPL
    have hck1 : M.check (M.one ⟨xo, xd, xa, xb, xc, xn, LL, MM, VV⟩) = 1 := by rw [hck]; rfl
    rw [hck1] at HEB
    clear HEG hck hok hlen hck1 hpi
    go_enter Try.func4, Try.ntmps4
    go_wp2_with fail
    refine (HEB.out (by decide)).mono ?_; rintro e w2 ⟨rfl, t2⟩
    have HB2 := Lib.hid (below_next HB1.out (Still.below t2))
    have HX2 := Lib.hid (t2.blk HX1.out)
    clear t2 HEB
    obtain ⟨b0, b1, b2, b3, b4, b5, b6, b7, b8, b9⟩ := insBox HX2.out
    go_wp2_with fail
    clear b0 b1 b2 b3 b4 b5 b6 b7 b8 b9
    refine (HPL.out _).mono ?_; rintro e w3 ⟨rfl, t3⟩
    have HB3 := Lib.hid (below_next HB2.out (Still.below t3))
    clear t3
    go_wp2_with fail
    refine (lives4_any _).mono ?_; rintro e w4 ⟨rfl, t4⟩
    have HB4 := Lib.hid (below_next HB3.out t4)
    clear t4
    go_wp2_with fail
    go_ret
    exact ⟨rfl, HB4.out⟩
  | true =>
    rw [hpi] at hck HPL
    have hck1 : M.check (M.one ⟨xo, xd, xa, xb, xc, xn, LL, MM, VV⟩) = 0 := by rw [hck]; rfl
    have HG : Hid (M.Good (M.bel4 ++ M.bImg (M.one ⟨xo, xd, xa, xb, xc, xn, LL, MM, VV⟩)) (M.one ⟨xo, xd, xa, xb, xc, xn, LL, MM, VV⟩)) := ⟨rfl, hok (M.check_zero hck1).2, hck1⟩
    have HBT : Hid (M.Bytes (M.bel4 ++ M.bImg (M.one ⟨xo, xd, xa, xb, xc, xn, LL, MM, VV⟩))) := M.Bytes.app (by intro c hc; simp [M.bel4] at hc; omega) (M.byt_Img _)
    have HLE : Hid (4 ≤ (M.bel4 ++ M.bImg (M.one ⟨xo, xd, xa, xb, xc, xn, LL, MM, VV⟩)).length ∧ (M.bel4 ++ M.bImg (M.one ⟨xo, xd, xa, xb, xc, xn, LL, MM, VV⟩)).length ≤ 400000) := by
      show _ ∧ _
      simp only [List.length_append, M.bel4, List.length_cons, List.length_nil]
      omega
    rw [hck1] at HEG
    clear HEB hck hok hlen hck1 hpi
    go_enter Try.func4, Try.ntmps4
    go_wp2_with fail
    refine (HEG.out (by decide)).mono ?_; rintro e w2 ⟨a, c, rfl, ho, t2⟩
    have HB2 := Lib.hid (below_next HB1.out t2)
    have HX2 := Lib.hid (Below.blk t2 HX1.out)
    have HM2 := Lib.hid (Below.blk t2 HM1.out)
    have HI2 := Lib.hid (HIM.out.later t2)
    clear t2 HEG HIM HM1
    obtain ⟨mb, hmb⟩ : ∃ mb, w.heap.size + 1 + 1 + 1 + 1 = mb := ⟨_, rfl⟩
    rw [hmb] at HM2 ⊢
    clear hmb
    obtain ⟨gb, hgb⟩ : ∃ gb, w.heap.size + 1 + 1 + 1 = gb := ⟨_, rfl⟩
    rw [hgb] at HM2 HI2 ⊢
    clear hgb
    obtain ⟨XS, hXS⟩ : ∃ XS, M.bel4 ++ M.bImg (M.one ⟨xo, xd, xa, xb, xc, xn, LL, MM, VV⟩) = XS := ⟨_, rfl⟩
    rw [hXS] at ho HG HBT HLE
    rw [hXS]
    have hkk := HLE.out
    obtain ⟨r, rfl, hraw⟩ := own_raw ho (by omega)
    have hraw2 := hraw
    have HDEC := Lib.hid (fun W (t : Still w2 W) => decode_any (hraw2.still t) HBT.out (by omega))
    clear hXS ho hraw
    obtain ⟨kk, hk⟩ : ∃ kk, XS.length = kk := ⟨_, rfl⟩
    rw [hk] at HDEC ⊢
    clear hk hkk hraw2 HLE
    obtain ⟨b0, b1, b2, b3, b4, b5, b6, b7, b8, b9⟩ := insBox HX2.out
    go_wp2_with fail
    clear b0 b1 b2 b3 b4 b5 b6 b7 b8 b9
    refine (HPL.out _).mono ?_; rintro e w3 ⟨rfl, t3⟩
    have HB3 := Lib.hid (below_next HB2.out (Still.below t3))
    have HX3 := Lib.hid (t3.blk HX2.out)
    have HM3 := Lib.hid (t3.blk HM2.out)
    have HI3 := Lib.hid (HI2.out.later (Still.below t3))
    have T3 := Lib.hid t3
    clear t3
    go_wp2_with fail
    refine (HDEC.out _ T3.out).mono ?_; rintro e w4 ⟨t4, hres⟩
    have HB4 := Lib.hid (below_next HB3.out (Still.below t4))
    have HX4 := Lib.hid (t4.blk HX3.out)
    have HM4 := Lib.hid (t4.blk HM3.out)
    have HI4 := Lib.hid (HI3.out.later (Still.below t4))
    clear t4 HDEC T3
    rcases hres with ⟨y, m', rfl, hq, hg⟩ | ⟨rfl, hno⟩
    · obtain rfl : m' = M.one ⟨xo, xd, xa, xb, xc, xn, LL, MM, VV⟩ := good_uniq HG.out hg
      have HIY := Lib.hid (hq.is (B := w4.heap.size) fun b hb => hb.2)
      clear hq hg HG HBT
      obtain ⟨ya, yb, yc, yd, ye, yf, yg, yh, yi, yj, yk, yl, ym, yn, yo, yp, yq⟩ := y
      obtain ⟨ef, fb, fo, fcs, rfl, hfb, hfl, hfP, hfc⟩ := HIY.out.funcs.just
      obtain ⟨pa, pn, pc, ba, bn, bc, rfl, _, _, _, _, _, hbk⟩ := hfP
      obtain ⟨eb, bb, bo, bcs, rfl, hbb, hbl, hbP, hbc⟩ := hbk.just
      obtain ⟨ia, inn, ic, ca, cn, cc, rfl, _, _, _, hin⟩ := hbP
      obtain ⟨ei, ib, io, ics, rfl, hib, hil, hiP, hic⟩ := hin.just
      obtain ⟨za, zn, zc, zma, zmn, zmc, zva, zvn, zvc, rfl, _, _, _, _, hzl, hzm, hzv⟩ := hiP
      dsimp only at ef eb ei hfc hbc hic hzl hzm hzv
      subst ef eb ei
      obtain rfl : ll = zn := el.symm.trans hzl.len
      obtain rfl : ml = zmn := em.symm.trans hzm.len
      obtain rfl : vl = zvn := ev.symm.trans hzv.len
      have c0 : w4.cell? ⟨fb, fo + 3, none⟩ = some (.slice (some ⟨bb, bo, none⟩) 1 bc) := hfc 3 (by decide)
      have c1 : w4.cell? ⟨bb, bo + 1, none⟩ = some (.slice (some ⟨ib, io, none⟩) 1 cc) := hbc 1 (by decide)
      have d0 : w4.cell? ⟨ib, io, none⟩ = some (.int .i64 xo) := hic 0 (by decide)
      have d1 : w4.cell? ⟨ib, io + 1, none⟩ = some (.int .i64 xd) := hic 1 (by decide)
      have d2 : w4.cell? ⟨ib, io + 2, none⟩ = some (.int .i64 xa) := hic 2 (by decide)
      have d3 : w4.cell? ⟨ib, io + 3, none⟩ = some (.int .i64 xb) := hic 3 (by decide)
      have d4 : w4.cell? ⟨ib, io + 4, none⟩ = some (.int .i64 xc) := hic 4 (by decide)
      have d5 : w4.cell? ⟨ib, io + 5, none⟩ = some (.int .i64 xn) := hic 5 (by decide)
      have d6 : w4.cell? ⟨ib, io + 6, none⟩ = some (.slice za ll zc) := hic 6 (by decide)
      have d7 : w4.cell? ⟨ib, io + 7, none⟩ = some (.slice zma ml zmc) := hic 7 (by decide)
      have d8 : w4.cell? ⟨ib, io + 8, none⟩ = some (.slice zva vl zvc) := hic 8 (by decide)
      obtain ⟨b0, b1, b2, b3, b4, b5, b6, b7, b8, b9⟩ := insBox HX4.out
      obtain ⟨n0, n1, n2, n3, n4, n5, n6, n7⟩ := imgBox HM4.out
      have HSAME := Lib.hid (fun W (hW : Below w4.heap.size w4 W) => same_one (HIY.out.later hW) (HI4.out.later hW))
      have T6 : Hid (Still w4 ((w4.alloc (.cells #[.slice ya yb yc, .slice yd ye yf, .slice yg yh yi, .slice yj yk yl, .slice (some ⟨fb, fo, none⟩) 1 yo, .int .i64 yp, .int .i64 yq] 27)).alloc (.cells #[.int .i64 xo, .int .i64 xd, .int .i64 xa, .int .i64 xb, .int .i64 xc, .int .i64 xn, .slice za ll zc, .slice zma ml zmc, .slice zva vl zvc] 30))) := ((Still.refl w4).alloc _).alloc _
      have HB6 := Lib.hid (below_next HB4.out (Still.below T6.out))
      clear hfc hbc hic hzl hzm hzv hfl hbl hil hbk hin
      dsimp only
      go_wp2_with fail
      clear b0 b1 b2 b3 b4 b5 b6 b7 b8 b9 n0 n1 n2 n3 n4 n5 n6 n7 c0 c1 d0 d1 d2 d3 d4 d5 d6 d7 d8
      refine (HSAME.out _ (Still.below T6.out)).mono ?_; rintro e w7 ⟨rfl, t7⟩
      have HB7 := Lib.hid (below_next HB6.out (Still.below t7))
      clear t7
      go_wp2_with fail
      refine (lives4_any _).mono ?_; rintro e w8 ⟨rfl, t8⟩
      have HB8 := Lib.hid (below_next HB7.out t8)
      clear t8
      go_wp2_with fail
      go_ret
      exact ⟨rfl, HB8.out⟩
    · exact absurd HG.out (hno _)
end Go.Proofs.Ytiagfkdidjlkcaa
