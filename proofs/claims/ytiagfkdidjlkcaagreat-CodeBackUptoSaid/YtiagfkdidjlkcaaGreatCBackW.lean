/- CodeBack, for any image and any bytes. -/
import Derived.Test.YtiagfkdidjlkcaaGreatL15
import Derived.Test.YtiagfkdidjlkcaaGreatDecLess
import Derived.Test.YtiagfkdidjlkcaaGreatSameW
namespace Go.Proofs.YtiagfkdidjlkcaaGreat
set_option linter.unusedVariables false
set_option linter.unusedSimpArgs false
open Go.ChangeShapes Go.WideShapes Go.ChangeAt Go.RowKit
open M (W)
/-- Bytes that lie in old memory, and where, if there are four. -/
structure BysR (B : Nat) (w : World) (a : Option Addr) (n c : Nat) (L : List Int) : Prop where
  len : L.length = n
  bytes : M.Bytes L
  raw : 4 ≤ n → ∃ r o, a = some ⟨r, o, none⟩ ∧ r < B ∧ Raw w r o c L
theorem BysR.keep {B : Nat} {w w' : World} {a : Option Addr} {n c : Nat} {L : List Int} (h : BysR B w a n c L) (hb : Below B w w') (hB : B ≤ w.heap.size) : BysR B w' a n c L :=
  ⟨h.len, h.bytes, fun hn => by
    obtain ⟨r, o, h1, h2, h3⟩ := h.raw hn
    exact ⟨r, o, h1, h2, Nat.lt_of_lt_of_le h2 (Nat.le_trans hB hb.size), h3.le, fun j hj => (World.cell?_of_block (w := w) (hb.block r h2)).trans (h3.cells j hj)⟩⟩
theorem BysR.up {B C : Nat} {w : World} {a : Option Addr} {n c : Nat} {L : List Int} (h : BysR B w a n c L) (hB : B ≤ C) : BysR C w a n c L :=
  ⟨h.len, h.bytes, fun hn => by
    obtain ⟨r, o, h1, h2, h3⟩ := h.raw hn
    exact ⟨r, o, h1, Nat.lt_of_lt_of_le h2 hB, h3⟩⟩
theorem decB {B : Nat} {w : World} {ba : Option Addr} {bn bc : Nat} {LB : List Int} (hb : BysR B w ba bn bc LB) (hl : bn ≤ 100000000) :
    Calls Tryz.prog 5 #[.slice ba bn bc] w fun e w' => Still w w' ∧ ((∃ (v : ImgV) (m : M.Img), e = .returned (.tuple #[.agg v.cells, .int .i64 0]) ∧ ImgQ (Fresh w w') w' v m ∧ M.Good LB m) ∨ (e = .returned (.tuple #[.agg #[.slice none 0 0, .slice none 0 0, .slice none 0 0, .slice none 0 0, .slice none 0 0, .int .i64 0, .int .i64 0], .int .i64 20]) ∧ ∀ m, ¬ M.Good LB m)) := by
  by_cases h4 : 4 ≤ bn
  · obtain ⟨r, o, rfl, h2, h3⟩ := hb.raw h4
    have e := hb.len
    subst e
    exact decode_any h3 hb.bytes hl
  · exact (decode_less (by omega) w ba bc).mono fun e w' ⟨h1, h2⟩ => ⟨h2, .inr ⟨h1, fun m hm => by
      have h5 := congrArg List.length hm.1
      rw [List.length_append, hb.len] at h5
      simp [M.bel4] at h5
      omega⟩⟩
theorem good_one {L : List Int} {m m' : M.Img} (h : M.Good L m) (h' : M.Good L m') : m' = m :=
  (M.pre_Img m' m [] [] h'.2.1 h.2.1 (by rw [List.append_nil, List.append_nil]; exact List.append_cancel_left (h'.1.symm.trans h.1))).1
set_option maxRecDepth 100000 in
set_option maxHeartbeats 8000000 in
theorem codeBack_w {v : ImgV} {m : M.Img} {w : World} {ba : Option Addr} {bn bc : Nat} {LB : List Int} (hp : ImgIs w.heap.size w v m) (hf : M.fitImg m) (hb : BysR w.heap.size w ba bn bc LB) :
    Calls Tryz.prog 4 #[.agg #[.slice v.ta v.tn v.tc, .slice v.sa v.sn v.sc, .slice v.xa v.xn v.xc, .slice v.na v.nn v.nc, .slice v.fa v.fn v.fc, .int .i64 v.main, .int .i64 v.exn], .slice ba bn bc] w fun e w' => e = .returned (.bool true) ∧ Below w.heap.size w w' := by
  have HLI := Lib.hid (fun W (hW : Below w.heap.size w W) => light_any (Nat.le_refl _) (hp.later hW) hf)
  have hla : M.light m = true → M.wImg m ≤ 40000 := fun h => of_decide_eq_true h
  have hsz := size_le m
  have hbl := hp.len
  have HEB := Lib.hid (fun W (hW : Below w.heap.size w W) (h : M.light m = true) => encode_bad (Nat.le_refl _) (hp.later hW) (by have := hla h; omega))
  have HEG := Lib.hid (fun W (hW : Below w.heap.size w W) (h : M.light m = true) => encode_good (Nat.le_refl _) (hp.later hW) (by have := hla h; omega) (by have := hla h; omega))
  have HLEN : Hid (M.light m = true → (M.bImg m).length ≤ 9000000 ∧ 4 ≤ (M.bel4 ++ M.bImg m).length ∧ (M.bel4 ++ M.bImg m).length ≤ 9000000) := fun h => by
    have := hla h
    simp only [List.length_append, M.bel4, List.length_cons, List.length_nil]
    omega
  have HGOOD : Hid (M.check m = 0 → M.Good (M.bel4 ++ M.bImg m) m) := fun h => ⟨rfl, hp.ok (M.check_zero h).2, h⟩
  have HBYTES : Hid (M.check m = 0 → M.Bytes (M.bel4 ++ M.bImg m)) := fun h => M.Bytes.app (by intro c hc; simp [M.bel4] at hc; omega) (M.byt_Img m)
  have HBY := Lib.hid hb
  have HPM := Lib.hid hp
  clear hla hsz hbl hp hf hb
  obtain ⟨ta, tn, tc, sa, sn, sc, xa, xn, xc, na, nn, nc, fa, fn, fc, mi, ei⟩ := v
  dsimp only at HLI HEB HEG ⊢
  generalize M.light m = lt at *
  have hb0 : Below w.heap.size w (w.alloc (.cells #[.slice ta tn tc, .slice sa sn sc, .slice xa xn xc, .slice na nn nc, .slice fa fn fc, .int .i64 mi, .int .i64 ei] 28)) := (Still.below ((Still.refl w).alloc _))
  have HB0 := Lib.hid hb0
  have HX0 := Lib.hid (Blk.new w 28 #[.slice ta tn tc, .slice sa sn sc, .slice xa xn xc, .slice na nn nc, .slice fa fn fc, .int .i64 mi, .int .i64 ei])
  clear hb0
  go_enter Tryz.func4, Tryz.ntmps4
  go_wp2_with fail
  refine (HLI.out _ HB0.out).mono ?_; rintro e w1 ⟨rfl, t1⟩
  have HB1 := Lib.hid (below_next HB0.out (Still.below t1))
  have HX1 := Lib.hid (t1.blk HX0.out)
  clear t1
  obtain ⟨b0, b1, b2, b3, b4, b5, b6, b7⟩ := imgBox HX1.out
  by_cases hq : lt = false ∨ 40000 < bn
  · cases lt with
    | false =>
      go_wp2_with fail
      clear b0 b1 b2 b3 b4 b5 b6 b7
      refine (lives4_any _).mono ?_; rintro e w2 ⟨rfl, t2⟩
      have HB2 := Lib.hid (below_next HB1.out t2)
      clear t2
      go_wp2_with fail
      go_ret
      exact ⟨rfl, HB2.out⟩
    | true =>
      have hq2 : 40000 < bn := by simpa using hq
      have x0 : decide ((40000 : Int) < bn) = true := decide_eq_true (by omega)
      clear hq hq2
      go_wp2_with fail
      clear b0 b1 b2 b3 b4 b5 b6 b7
      refine (lives4_any _).mono ?_; rintro e w2 ⟨rfl, t2⟩
      have HB2 := Lib.hid (below_next HB1.out t2)
      clear t2
      go_wp2_with fail
      go_ret
      exact ⟨rfl, HB2.out⟩
  · obtain rfl : lt = true := by cases lt <;> simp_all
    have hbn : bn ≤ 40000 := by omega
    have x0 : decide ((40000 : Int) < bn) = false := decide_eq_false (by omega)
    clear hq
    by_cases hr : M.check m = 0
    · have HL1 := Lib.hid (HLEN.out rfl)
      have HCM := Lib.hid hr
      rw [hr] at HEG HGOOD HBYTES
      have HG := Lib.hid (HGOOD.out rfl)
      have HBT := Lib.hid (HBYTES.out rfl)
      clear hr HGOOD HBYTES HLEN
      go_wp2_with fail
      clear b0 b1 b2 b3 b4 b5 b6 b7
      refine (HEG.out _ HB1.out (by simp) (by simp)).mono ?_; rintro e w2 ⟨a, c, rfl, ho, t2⟩
      have HB2 := Lib.hid (below_next HB1.out t2)
      have HX2 := Lib.hid (Below.blk t2 HX1.out)
      clear t2
      obtain ⟨XS, hXS⟩ : ∃ XS, M.bel4 ++ M.bImg m = XS := ⟨_, rfl⟩
      have HL2 := Lib.hid HL1.out.1
      have HL3 := Lib.hid HL1.out.2
      clear HL1
      rw [hXS] at ho HG HBT HL3
      rw [hXS]
      have hkk := HL3.out
      obtain ⟨r, rfl, hraw⟩ := own_raw ho (by omega)
      have HDEC := Lib.hid (decode_any hraw HBT.out (by omega))
      clear hXS ho hraw
      generalize XS.length = kk at *
      go_wp2_with fail
      refine HDEC.out.mono ?_; rintro e w3 ⟨t3, hres⟩
      have HB3 := Lib.hid (below_next HB2.out (Still.below t3))
      have HX3 := Lib.hid (t3.blk HX2.out)
      clear t3 HDEC
      rcases hres with ⟨y, m', rfl, hq, hg⟩ | ⟨rfl, hno⟩
      · obtain rfl : m' = m := good_one HG.out hg
        have HIY := Lib.hid (hq.is (B := w3.heap.size) fun b hb => hb.2)
        obtain ⟨ya, yb, yc, yd, ye, yf, yg, yh, yi, yj, yk, yl, ym, yn, yo, yp, yq⟩ := y
        have S4 : Hid (Still w3 (w3.alloc (.cells #[.slice ya yb yc, .slice yd ye yf, .slice yg yh yi, .slice yj yk yl, .slice ym yn yo, .int .i64 yp, .int .i64 yq] 28))) := (Still.refl w3).alloc _
        have HB4 := Lib.hid (below_next HB3.out (Still.below S4.out))
        have HX4 := Lib.hid (S4.out.blk HX3.out)
        have HY4 := Lib.hid (Blk.new w3 28 #[.slice ya yb yc, .slice yd ye yf, .slice yg yh yi, .slice yj yk yl, .slice ym yn yo, .int .i64 yp, .int .i64 yq])
        have HSAME := Lib.hid (same_det (HIY.out.later (Still.below S4.out)) (HPM.out.later HB4.out) (Nat.le_refl _) true (by simp))
        obtain ⟨b0, b1, b2, b3, b4, b5, b6, b7⟩ := imgBox HX4.out
        obtain ⟨n0, n1, n2, n3, n4, n5, n6, n7⟩ := imgBox HY4.out
        clear hq hg
        dsimp only
        go_wp2_with fail
        clear b0 b1 b2 b3 b4 b5 b6 b7 n0 n1 n2 n3 n4 n5 n6 n7
        refine HSAME.out.mono ?_; rintro e w5 ⟨rfl, t5⟩
        have HB5 := Lib.hid (below_next HB4.out (Still.below t5))
        have HX5 := Lib.hid (t5.blk HX4.out)
        have HY5 := Lib.hid (t5.blk HY4.out)
        have HRS := Lib.hid (refSame_det (HIY.out.later ((Still.below (S4.out.trans t5)))) (HPM.out.later HB5.out) (by have := HL2.out; omega) (by have := HL2.out; omega) HCM.out HCM.out true (by simp))
        clear t5 HSAME
        obtain ⟨b0, b1, b2, b3, b4, b5, b6, b7⟩ := imgBox HX5.out
        obtain ⟨n0, n1, n2, n3, n4, n5, n6, n7⟩ := imgBox HY5.out
        go_wp2_with fail
        clear b0 b1 b2 b3 b4 b5 b6 b7 n0 n1 n2 n3 n4 n5 n6 n7
        refine HRS.out.mono ?_; rintro e w6 ⟨rfl, t6⟩
        have HB6 := Lib.hid (below_next HB5.out t6)
        clear t6 HRS
        go_wp2_with fail
        refine (decB (HBY.out.keep HB6.out (Nat.le_refl _)) (by omega)).mono ?_; rintro e v1 ⟨s1, hres⟩
        have HC1 := Lib.hid (below_next HB6.out (Still.below s1))
        clear s1
        rcases hres with ⟨y, m2, rfl, hq2, hg2⟩ | ⟨rfl, hno⟩
        · have HI2 := Lib.hid (hq2.is (B := v1.heap.size) fun b hb => hb.2)
          clear hq2
          obtain ⟨za, zb, zc, zd, ze, zf, zg, zh, zi, zj, zk, zl, zm, zn, zo, zp, zq⟩ := y
          have R4 : Hid (Still v1 (v1.alloc (.cells #[.slice za zb zc, .slice zd ze zf, .slice zg zh zi, .slice zj zk zl, .slice zm zn zo, .int .i64 zp, .int .i64 zq] 28))) := (Still.refl v1).alloc _
          have HC2 := Lib.hid (below_next HC1.out (Still.below R4.out))
          have hlen : (M.bImg m2).length ≤ bn := by
            have h1 := congrArg List.length hg2.1
            rw [List.length_append, HBY.out.len] at h1
            omega
          have hsz2 := M.size_bytes m2
          have HEN := Lib.hid (encode_good (Nat.le_refl _) (HI2.out.later (Still.below R4.out)) (by omega) (by omega) hg2.2.2)
          obtain ⟨n0, n1, n2, n3, n4, n5, n6, n7⟩ := imgBox (Blk.new v1 28 #[.slice za zb zc, .slice zd ze zf, .slice zg zh zi, .slice zj zk zl, .slice zm zn zo, .int .i64 zp, .int .i64 zq])
          have h4 : 4 ≤ bn := by
            have h1 := congrArg List.length hg2.1
            rw [List.length_append, HBY.out.len] at h1
            simp [M.bel4] at h1
            omega
          rw [← hg2.1, HBY.out.len] at HEN
          clear hsz2 hlen hg2
          dsimp only
          go_wp2_with fail
          refine HEN.out.mono ?_; rintro e v2 ⟨da, dc, rfl, ho, s2⟩
          have HC3 := Lib.hid (below_next HC2.out s2)
          have hc0 := own_string ho
          have hby := HBY.out.keep HC3.out (Nat.le_refl _)
          obtain ⟨rr, ro, ha, hlt, hraw⟩ := hby.raw h4
          have hc1 := raw_conv hraw bn bc (by rw [HBY.out.len]; omega)
          rw [← ha, List.take_of_length_le (by rw [HBY.out.len]; omega)] at hc1
          obtain ⟨SS, hSS⟩ : ∃ SS, strOfNums LB = SS := ⟨_, rfl⟩
          rw [hSS] at hc0 hc1
          have hse : (SS.toList == SS.toList) = true := by simp
          clear hSS ha hlt hraw hby ho s2 n0 n1 n2 n3 n4 n5 n6 n7
          go_wp2_with fail
          clear hc0 hc1
          refine (lives4_any _).mono ?_; rintro e v3 ⟨rfl, s3⟩
          have HC4 := Lib.hid (below_next HC3.out s3)
          clear s3
          go_wp2_with fail
          go_ret
          exact ⟨rfl, HC4.out⟩
        · have R4 : Hid (Still v1 (v1.alloc (.cells #[.slice none 0 0, .slice none 0 0, .slice none 0 0, .slice none 0 0, .slice none 0 0, .int .i64 0, .int .i64 0] 28))) := (Still.refl v1).alloc _
          have HC2 := Lib.hid (below_next HC1.out (Still.below R4.out))
          clear hno
          go_wp2_with fail
          refine (lives4_any _).mono ?_; rintro e v3 ⟨rfl, s3⟩
          have HC4 := Lib.hid (below_next HC2.out s3)
          clear s3
          go_wp2_with fail
          go_ret
          exact ⟨rfl, HC4.out⟩
      · exact absurd HG.out (hno m)
    · have hr0 : (M.check m == (0 : Int)) = false := beq_eq_false_iff_ne.2 hr
      go_wp2_with fail
      clear b0 b1 b2 b3 b4 b5 b6 b7
      refine (HEB.out _ HB1.out (by simp) hr).mono ?_; rintro e w2 ⟨rfl, t2⟩
      have HB2 := Lib.hid (below_next HB1.out (Still.below t2))
      clear t2
      go_wp2_with fail
      refine (decB (HBY.out.keep HB2.out (Nat.le_refl _)) (by omega)).mono ?_; rintro e v1 ⟨s1, hres⟩
      have HC1 := Lib.hid (below_next HB2.out (Still.below s1))
      clear s1
      rcases hres with ⟨y, m2, rfl, hq2, hg2⟩ | ⟨rfl, hno⟩
      · have HI2 := Lib.hid (hq2.is (B := v1.heap.size) fun b hb => hb.2)
        clear hq2
        obtain ⟨za, zb, zc, zd, ze, zf, zg, zh, zi, zj, zk, zl, zm, zn, zo, zp, zq⟩ := y
        have R4 : Hid (Still v1 (v1.alloc (.cells #[.slice za zb zc, .slice zd ze zf, .slice zg zh zi, .slice zj zk zl, .slice zm zn zo, .int .i64 zp, .int .i64 zq] 28))) := (Still.refl v1).alloc _
        have HC2 := Lib.hid (below_next HC1.out (Still.below R4.out))
        have hlen : (M.bImg m2).length ≤ bn := by
          have h1 := congrArg List.length hg2.1
          rw [List.length_append, HBY.out.len] at h1
          omega
        have hsz2 := M.size_bytes m2
        have HEN := Lib.hid (encode_good (Nat.le_refl _) (HI2.out.later (Still.below R4.out)) (by omega) (by omega) hg2.2.2)
        obtain ⟨n0, n1, n2, n3, n4, n5, n6, n7⟩ := imgBox (Blk.new v1 28 #[.slice za zb zc, .slice zd ze zf, .slice zg zh zi, .slice zj zk zl, .slice zm zn zo, .int .i64 zp, .int .i64 zq])
        have h4 : 4 ≤ bn := by
          have h1 := congrArg List.length hg2.1
          rw [List.length_append, HBY.out.len] at h1
          simp [M.bel4] at h1
          omega
        rw [← hg2.1, HBY.out.len] at HEN
        clear hsz2 hlen hg2
        dsimp only
        go_wp2_with fail
        refine HEN.out.mono ?_; rintro e v2 ⟨da, dc, rfl, ho, s2⟩
        have HC3 := Lib.hid (below_next HC2.out s2)
        have hc0 := own_string ho
        have hby := HBY.out.keep HC3.out (Nat.le_refl _)
        obtain ⟨rr, ro, ha, hlt, hraw⟩ := hby.raw h4
        have hc1 := raw_conv hraw bn bc (by rw [HBY.out.len]; omega)
        rw [← ha, List.take_of_length_le (by rw [HBY.out.len]; omega)] at hc1
        obtain ⟨SS, hSS⟩ : ∃ SS, strOfNums LB = SS := ⟨_, rfl⟩
        rw [hSS] at hc0 hc1
        have hse : (SS.toList == SS.toList) = true := by simp
        clear hSS ha hlt hraw hby ho s2 n0 n1 n2 n3 n4 n5 n6 n7
        go_wp2_with fail
        clear hc0 hc1
        refine (lives4_any _).mono ?_; rintro e v3 ⟨rfl, s3⟩
        have HC4 := Lib.hid (below_next HC3.out s3)
        clear s3
        go_wp2_with fail
        go_ret
        exact ⟨rfl, HC4.out⟩
      · have R4 : Hid (Still v1 (v1.alloc (.cells #[.slice none 0 0, .slice none 0 0, .slice none 0 0, .slice none 0 0, .slice none 0 0, .int .i64 0, .int .i64 0] 28))) := (Still.refl v1).alloc _
        have HC2 := Lib.hid (below_next HC1.out (Still.below R4.out))
        clear hno
        go_wp2_with fail
        refine (lives4_any _).mono ?_; rintro e v3 ⟨rfl, s3⟩
        have HC4 := Lib.hid (below_next HC2.out s3)
        clear s3
        go_wp2_with fail
        go_ret
        exact ⟨rfl, HC4.out⟩
end Go.Proofs.YtiagfkdidjlkcaaGreat
