/- The document's Check of any image. -/
import Derived.Test.YthlifflapgccbaaGreatRefBig
namespace Go.Proofs.YthlifflapgccbaaGreat
set_option linter.unusedVariables false
set_option linter.unusedSimpArgs false
open Go.ChangeShapes Go.WideShapes Go.ChangeAt Go.RowKit
open M (W)
def M.badIns (x : M.Ins) : Bool := !(M.plainIns x)
def M.badBk (b : M.Bk) : Bool := b.code.any M.badIns
def M.badFn (f : M.Fn) : Bool := f.blocks.any M.badBk
set_option maxRecDepth 100000 in
set_option maxHeartbeats 8000000 in
theorem refCheck_any {B : Nat} {w : World} {v : ImgV} {m : M.Img} (hB : B ≤ w.heap.size) (hp : ImgIs B w v m) (hw : M.size m ≤ 1000000000) :
    Calls Tryz.prog 17 #[.agg #[.slice v.ta v.tn v.tc, .slice v.sa v.sn v.sc, .slice v.xa v.xn v.xc, .slice v.na v.nn v.nc, .slice v.fa v.fn v.fc, .int .i64 v.main, .int .i64 v.exn]] w fun e w' => e = .returned (.int .i64 (M.check m)) ∧ Still w w' := by
  have l5 := hp.le.2.2.2.2
  have p5 := hp.funcs
  have hbg := refBig_any (w := w.alloc (.cells #[.slice v.ta v.tn v.tc, .slice v.sa v.sn v.sc, .slice v.xa v.xn v.xc, .slice v.na v.nn v.nc, .slice v.fa v.fn v.fc, .int .i64 v.main, .int .i64 v.exn] 28)) (by simp; omega) (hp.keep ((Still.below ((Still.refl w).alloc _)).mono hB) hB) hw
  obtain ⟨ta, tn, tc, sa, sn, sc, xa, xn, xc, na, nn, nc, fa, fn, fc, mi, ei⟩ := v
  dsimp only at l5 p5 hbg ⊢
  have HL5 := Lib.hid p5
  have HN5 := Lib.hid p5.len
  have m5 : fn ≤ 9223372036854775807 := by unfold maxLen at l5; omega
  have HB := Lib.hid hB
  have HBG := Lib.hid hbg
  have HA : Hid (M.check m = if M.big m then 2 else if m.funcs.any M.badFn then 1 else 0) := rfl
  generalize M.check m = r at *
  generalize M.big m = q at *
  generalize m.funcs = T5 at *
  clear hB hp hw hbg p5 l5
  obtain ⟨CS, hCS⟩ : ∃ CS : Array Value, (#[.slice ta tn tc, .slice sa sn sc, .slice xa xn xc, .slice na nn nc, .slice fa fn fc, .int .i64 mi, .int .i64 ei] : Array Value) = CS := ⟨_, rfl⟩
  have HCS := Lib.hid hCS
  have HS0 : Hid (Seen w CS (w.alloc (.cells #[.slice ta tn tc, .slice sa sn sc, .slice xa xn xc, .slice na nn nc, .slice fa fn fc, .int .i64 mi, .int .i64 ei] 28))) := by rw [hCS]; exact ⟨(Still.refl w).alloc _, Blk.new w _ _⟩
  clear hCS
  go_enter Tryz.func17, Tryz.ntmps17
  go_wp2_with fail
  refine HBG.out.mono ?_; rintro e w1 ⟨rfl, t1⟩
  have HS1 := Lib.hid (HS0.out.next t1)
  clear t1
  obtain ⟨b0, b1, b2, b3, b4, b5, b6, b7⟩ := imgBox (show Blk _ w.heap.size 28 #[.slice ta tn tc, .slice sa sn sc, .slice xa xn xc, .slice na nn nc, .slice fa fn fc, .int .i64 mi, .int .i64 ei] by rw [HCS.out]; exact HS1.out.box)
  cases q with
  | true =>
    go_wp2_with fail
    go_ret
    exact ⟨by rw [HA.out]; rfl, HS1.out.still⟩
  | false =>
    have HA2 : Hid (r = if T5.any M.badFn then 1 else 0) := HA.out
    go_wp2_with fail
    clear b0 b1 b2 b3 b4 b5 b6 b7 HA
    go_loopw [14] (fun q wr => ∃ i : Nat, q = .int .i64 i ∧ i ≤ fn ∧ (T5.take i).any M.badFn = false ∧ Seen w CS wr) (fun q _ => fn - (intOf q).toNat)
    case atStart => exact ⟨0, rfl, by omega, by simp, HS1.out⟩
    case round =>
      obtain ⟨i, rfl, hi, hany, hd⟩ := hrel
      have ht := hd.still
      by_cases hlt : i < fn
      · skip
        obtain ⟨b1, off1, f, cs1, rfl, hbB1, hx1, hcl1, hq1, hc1⟩ := HL5.out.here hlt
        have hP1 := hq1
        obtain ⟨pa, pn, pc, ba, bn, bc, rfl, hr1⟩ := hq1
        have hbl1 : b1 < wr.heap.size := Nat.lt_of_lt_of_le (Nat.lt_of_lt_of_le hbB1 HB.out) ht.size
        have d10 : wr.cell? ⟨b1, off1 + i * 4, none⟩ = some (.slice pa pn pc) := (Still.cell ht (p := ⟨b1, _, none⟩) (Nat.lt_of_lt_of_le hbB1 HB.out)).trans (by simpa using hc1 0 (by decide))
        have d11 : wr.cell? ⟨b1, off1 + i * 4 + 1, none⟩ = some (.int .i64 f.result) := (Still.cell ht (p := ⟨b1, _, none⟩) (Nat.lt_of_lt_of_le hbB1 HB.out)).trans (by simpa using hc1 1 (by decide))
        have d12 : wr.cell? ⟨b1, off1 + i * 4 + 2, none⟩ = some (.int .i64 f.slots) := (Still.cell ht (p := ⟨b1, _, none⟩) (Nat.lt_of_lt_of_le hbB1 HB.out)).trans (by simpa using hc1 2 (by decide))
        have d13 : wr.cell? ⟨b1, off1 + i * 4 + 3, none⟩ = some (.slice ba bn bc) := (Still.cell ht (p := ⟨b1, _, none⟩) (Nat.lt_of_lt_of_le hbB1 HB.out)).trans (by simpa using hc1 3 (by decide))
        clear hcl1 hr1 hc1
        have HTK := Lib.hid (any_step M.badFn hx1 hany)
        have HHIT := Lib.hid (any_hit M.badFn hx1)
        have HD := Lib.hid (hd.next ((Still.refl wr).alloc (.cells #[.slice pa pn pc, .int .i64 f.result, .int .i64 f.slots, .slice ba bn bc] 55)))
        have HINT := Lib.hid hP1.at_len
        have HBLK := Lib.hid HINT.out.2.2.2.2.1
        have HBL3 := Lib.hid HINT.out.2.2.2.1
        have hn63 : bn ≤ 9223372036854775807 := by have := HINT.out.2.2.2.2.2.1; unfold maxLen at this; omega
        clear hx1 hP1 hany hd ht
        go_wp2_with fail
        go_loopw [21] (fun q wr => ∃ j : Nat, q = .int .i64 j ∧ j ≤ bn ∧ (f.blocks.take j).any M.badBk = false ∧ Seen w CS wr) (fun q _ => bn - (intOf q).toNat)
        case atStart => exact ⟨0, rfl, by omega, by simp, HD.out⟩
        case round =>
          obtain ⟨j, rfl, hj, hany, hd⟩ := hrel
          have ht := hd.still
          by_cases hlt2 : j < bn
          · skip
            obtain ⟨b2, off2, k, cs2, rfl, hbB2, hx2, hcl2, hq2, hc2⟩ := HBLK.out.here hlt2
            have hP2 := hq2
            obtain ⟨ia, inn, ic, ca, cn, cc, rfl, hr2⟩ := hq2
            have hbl2 : b2 < wr.heap.size := Nat.lt_of_lt_of_le (Nat.lt_of_lt_of_le hbB2 HB.out) ht.size
            have d20 : wr.cell? ⟨b2, off2 + j * 2, none⟩ = some (.slice ia inn ic) := (Still.cell ht (p := ⟨b2, _, none⟩) (Nat.lt_of_lt_of_le hbB2 HB.out)).trans (by simpa using hc2 0 (by decide))
            have d21 : wr.cell? ⟨b2, off2 + j * 2 + 1, none⟩ = some (.slice ca cn cc) := (Still.cell ht (p := ⟨b2, _, none⟩) (Nat.lt_of_lt_of_le hbB2 HB.out)).trans (by simpa using hc2 1 (by decide))
            clear hcl2 hr2 hc2
            have HTK2 := Lib.hid (any_step M.badBk hx2 hany)
            have HHIT2 := Lib.hid (any_hit M.badBk hx2)
            have HD := Lib.hid (hd.next ((Still.refl wr).alloc (.cells #[.slice ia inn ic, .slice ca cn cc] 85)))
            have HINT2 := Lib.hid hP2.at_len
            have HCOD := Lib.hid HINT2.out.2.2.2.2.1
            have HC3 := Lib.hid HINT2.out.2.2.2.1
            have hc63 : cn ≤ 9223372036854775807 := by have := HINT2.out.2.2.2.2.2; unfold maxLen at this; omega
            clear hx2 hP2 hany hd ht
            go_wp2_with fail
            go_loopw [28] (fun q wr => ∃ l : Nat, q = .int .i64 l ∧ l ≤ cn ∧ (k.code.take l).any M.badIns = false ∧ Seen w CS wr) (fun q _ => cn - (intOf q).toNat)
            case atStart => exact ⟨0, rfl, by omega, by simp, HD.out⟩
            case round =>
              obtain ⟨l, rfl, hl, hany, hd⟩ := hrel
              have ht := hd.still
              by_cases hlt3 : l < cn
              · skip
                obtain ⟨b3, off3, x, cs3, rfl, hbB3, hx3, hcl3, hq3, hc3⟩ := HCOD.out.here hlt3
                have hP3 := hq3
                obtain ⟨la, ln, lc, ma, mn, mc, va, vn, vc, rfl, hr3⟩ := hq3
                have hbl3 : b3 < wr.heap.size := Nat.lt_of_lt_of_le (Nat.lt_of_lt_of_le hbB3 HB.out) ht.size
                have d30 : wr.cell? ⟨b3, off3 + l * 9, none⟩ = some (.int .i64 x.op) := (Still.cell ht (p := ⟨b3, _, none⟩) (Nat.lt_of_lt_of_le hbB3 HB.out)).trans (by simpa using hc3 0 (by decide))
                have d31 : wr.cell? ⟨b3, off3 + l * 9 + 1, none⟩ = some (.int .i64 x.d) := (Still.cell ht (p := ⟨b3, _, none⟩) (Nat.lt_of_lt_of_le hbB3 HB.out)).trans (by simpa using hc3 1 (by decide))
                have d32 : wr.cell? ⟨b3, off3 + l * 9 + 2, none⟩ = some (.int .i64 x.a) := (Still.cell ht (p := ⟨b3, _, none⟩) (Nat.lt_of_lt_of_le hbB3 HB.out)).trans (by simpa using hc3 2 (by decide))
                have d33 : wr.cell? ⟨b3, off3 + l * 9 + 3, none⟩ = some (.int .i64 x.b) := (Still.cell ht (p := ⟨b3, _, none⟩) (Nat.lt_of_lt_of_le hbB3 HB.out)).trans (by simpa using hc3 3 (by decide))
                have d34 : wr.cell? ⟨b3, off3 + l * 9 + 4, none⟩ = some (.int .i64 x.c) := (Still.cell ht (p := ⟨b3, _, none⟩) (Nat.lt_of_lt_of_le hbB3 HB.out)).trans (by simpa using hc3 4 (by decide))
                have d35 : wr.cell? ⟨b3, off3 + l * 9 + 5, none⟩ = some (.int .i64 x.n) := (Still.cell ht (p := ⟨b3, _, none⟩) (Nat.lt_of_lt_of_le hbB3 HB.out)).trans (by simpa using hc3 5 (by decide))
                have d36 : wr.cell? ⟨b3, off3 + l * 9 + 6, none⟩ = some (.slice la ln lc) := (Still.cell ht (p := ⟨b3, _, none⟩) (Nat.lt_of_lt_of_le hbB3 HB.out)).trans (by simpa using hc3 6 (by decide))
                have d37 : wr.cell? ⟨b3, off3 + l * 9 + 7, none⟩ = some (.slice ma mn mc) := (Still.cell ht (p := ⟨b3, _, none⟩) (Nat.lt_of_lt_of_le hbB3 HB.out)).trans (by simpa using hc3 7 (by decide))
                have d38 : wr.cell? ⟨b3, off3 + l * 9 + 8, none⟩ = some (.slice va vn vc) := (Still.cell ht (p := ⟨b3, _, none⟩) (Nat.lt_of_lt_of_le hbB3 HB.out)).trans (by simpa using hc3 8 (by decide))
                clear hcl3 hr3 hc3
                have HTK3 := Lib.hid (any_step M.badIns hx3 hany)
                have HHIT3 := Lib.hid (any_hit M.badIns hx3)
                have HD := Lib.hid (hd.next ((Still.refl wr).alloc (.cells #[.int .i64 x.op, .int .i64 x.d, .int .i64 x.a, .int .i64 x.b, .int .i64 x.c, .int .i64 x.n, .slice la ln lc, .slice ma mn mc, .slice va vn vc] 70)))
                obtain ⟨g1, g2, g3, _⟩ := hP3.at_len
                have HRP := Lib.hid (refPlain_any x.op x.d x.a x.b x.c x.n la ln lc ma mn mc va vn vc (wr.alloc (.cells #[.int .i64 x.op, .int .i64 x.d, .int .i64 x.a, .int .i64 x.b, .int .i64 x.c, .int .i64 x.n, .slice la ln lc, .slice ma mn mc, .slice va vn vc] 70)))
                have HBI : Hid (M.badIns x = !(M.plain (M.uses x.op) x.d x.a x.b x.c x.n ln mn vn)) := by
                  show M.badIns x = _
                  unfold M.badIns M.plainIns
                  rw [g1, g2, g3]
                clear hx3 hP3 hany hd ht g1 g2 g3
                generalize M.plain (M.uses x.op) x.d x.a x.b x.c x.n ln mn vn = pl at *
                go_wp2_with fail
                refine HRP.out.mono ?_; rintro e w3 ⟨rfl, t3⟩
                have HD3 := Lib.hid (HD.out.next t3)
                clear t3
                cases pl with
                | false =>
                  have e1 : M.badIns x = true := HBI.out
                  have e2 : M.badBk k = true := HHIT3.out e1
                  have e3 : M.badFn f = true := HHIT2.out e2
                  have hh := HHIT.out e3
                  go_wp2_with fail
                  go_ret
                  refine ⟨?_, HD3.out.still⟩
                  rw [HA2.out, hh]
                  rfl
                | true =>
                  have e1 : M.badIns x = false := HBI.out
                  go_wp2_with fail
                  go_roundw
                  case rel => exact ⟨l + 1, by go_num, by omega, by rw [HTK3.out]; exact e1, HD3.out⟩
                  case measure => simp [intOf]; omega
              · obtain rfl : cn = l := by omega
                have HE := Lib.hid (any_end M.badIns HC3.out hany)
                have HD := Lib.hid hd
                clear hany hd ht
                go_wp2_with fail
                go_roundw
                case rel => exact ⟨j + 1, by go_num, by omega, by rw [HTK2.out]; exact HE.out, HD.out⟩
                case measure => simp [intOf]; omega
          · obtain rfl : bn = j := by omega
            have HE := Lib.hid (any_end M.badBk HBL3.out hany)
            have HD := Lib.hid hd
            clear hany hd ht
            go_wp2_with fail
            go_roundw
            case rel => exact ⟨i + 1, by go_num, by omega, by rw [HTK.out]; exact HE.out, HD.out⟩
            case measure => simp [intOf]; omega
      · obtain rfl : fn = i := by omega
        have HE := Lib.hid (any_end M.badFn HN5.out hany)
        have HD := Lib.hid hd
        clear hany hd ht
        go_wp2_with fail
        go_ret
        refine ⟨?_, HD.out.still⟩
        rw [HA2.out, HE.out]
        rfl
end Go.Proofs.YthlifflapgccbaaGreat
