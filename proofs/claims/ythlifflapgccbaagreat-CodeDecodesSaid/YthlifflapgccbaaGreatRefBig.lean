/- The document's own big and Check of any image. -/
import Derived.Test.YthlifflapgccbaaGreatL08
import Derived.Test.YthlifflapgccbaaGreatL06
namespace Go.Proofs.YthlifflapgccbaaGreat
set_option linter.unusedVariables false
set_option linter.unusedSimpArgs false
open Go.ChangeShapes Go.WideShapes Go.ChangeAt Go.RowKit
open M (W)
/-- A call that only reads: what stands, and the image's box. -/
structure Seen (w : World) (CS : Array Value) (W : World) : Prop where
  still : Still w W
  box : Blk W w.heap.size 28 CS
theorem Seen.next {w W W' : World} {CS : Array Value} (h : Seen w CS W) (t : Still W W') : Seen w CS W' := ⟨h.still.trans t, t.blk h.box⟩
def M.bigC (f : M.Fn) : Bool := f.blocks.any fun b => b.code.any M.bigIns
set_option maxRecDepth 100000 in
set_option maxHeartbeats 8000000 in
theorem refBig_any {B : Nat} {w : World} {v : ImgV} {m : M.Img} (hB : B ≤ w.heap.size) (hp : ImgIs B w v m) (hw : M.size m ≤ 1000000000) :
    Calls Tryz.prog 44 #[.agg #[.slice v.ta v.tn v.tc, .slice v.sa v.sn v.sc, .slice v.xa v.xn v.xc, .slice v.na v.nn v.nc, .slice v.fa v.fn v.fc, .int .i64 v.main, .int .i64 v.exn]] w fun e w' => e = .returned (.bool (M.big m)) ∧ Still w w' := by
  obtain ⟨l1, l2, l3, l4, l5⟩ := hp.le
  have p1 := hp.types
  have p2 := hp.shapes
  have p3 := hp.strings
  have p4 := hp.names
  have p5 := hp.funcs
  obtain ⟨ta, tn, tc, sa, sn, sc, xa, xn, xc, na, nn, nc, fa, fn, fc, mi, ei⟩ := v
  dsimp only at l1 l2 l3 l4 l5 p1 p2 p3 p4 p5 ⊢
  have HL1 := Lib.hid p1
  have HL2 := Lib.hid p2
  have HL3 := Lib.hid p3
  have HL4 := Lib.hid p4
  have HL5 := Lib.hid p5
  have HN1 := Lib.hid p1.len
  have HN2 := Lib.hid p2.len
  have HN3 := Lib.hid p3.len
  have HN4 := Lib.hid p4.len
  have HN5 := Lib.hid p5.len
  have m1 : tn ≤ 9223372036854775807 := by unfold maxLen at l1; omega
  have m2 : sn ≤ 9223372036854775807 := by unfold maxLen at l2; omega
  have m3 : xn ≤ 9223372036854775807 := by unfold maxLen at l3; omega
  have m4 : nn ≤ 9223372036854775807 := by unfold maxLen at l4; omega
  have m5 : fn ≤ 9223372036854775807 := by unfold maxLen at l5; omega
  have HB := Lib.hid hB
  have HA : Hid (M.big m = (decide (1024 < tn) || decide (512 < sn) || decide (256 < xn) || decide (256 < nn) || decide (1024 < fn) ||
      m.types.any M.bigTy || m.shapes.any M.bigSh || m.strings.any M.bigTx || m.names.any M.bigTx || m.funcs.any M.bigFn || decide (20000 < (m.funcs.map M.sizeFn).sum) || m.funcs.any M.bigC)) := by
    show M.big m = _
    unfold M.big
    rw [p1.len, p2.len, p3.len, p4.len, p5.len]
    rfl
  have HW : Hid ((m.funcs.map M.sizeFn).sum ≤ 1000000000) := hw
  generalize M.big m = r at *
  generalize m.types = T1 at *
  generalize m.shapes = T2 at *
  generalize m.strings = T3 at *
  generalize m.names = T4 at *
  generalize m.funcs = T5 at *
  clear hB hp hw p1 p2 p3 p4 p5 l1 l2 l3 l4 l5
  obtain ⟨CS, hCS⟩ : ∃ CS : Array Value, (#[.slice ta tn tc, .slice sa sn sc, .slice xa xn xc, .slice na nn nc, .slice fa fn fc, .int .i64 mi, .int .i64 ei] : Array Value) = CS := ⟨_, rfl⟩
  have HCS := Lib.hid hCS
  have HS0 : Hid (Seen w CS (w.alloc (.cells #[.slice ta tn tc, .slice sa sn sc, .slice xa xn xc, .slice na nn nc, .slice fa fn fc, .int .i64 mi, .int .i64 ei] 28))) := by rw [hCS]; exact ⟨(Still.refl w).alloc _, Blk.new w _ _⟩
  clear hCS
  by_cases hb0 : (1024 : Int) < tn
  · skip
    have e : decide (1024 < tn) = true := decide_eq_true (by omega)
    go_enter Tryz.func44, Tryz.ntmps44
    go_wp2_with fail
    go_ret
    refine ⟨?_, (Still.refl w).alloc _⟩
    have hr : r = true := by rw [HA.out]; simp only [e, Bool.or_true, Bool.true_or]
    rw [hr]
    rfl
  · skip
    by_cases hb1 : (512 : Int) < sn
    · skip
      have e : decide (512 < sn) = true := decide_eq_true (by omega)
      go_enter Tryz.func44, Tryz.ntmps44
      go_wp2_with fail
      go_ret
      refine ⟨?_, (Still.refl w).alloc _⟩
      have hr : r = true := by rw [HA.out]; simp only [e, Bool.or_true, Bool.true_or]
      rw [hr]
      rfl
    · skip
      by_cases hb2 : (256 : Int) < xn
      · skip
        have e : decide (256 < xn) = true := decide_eq_true (by omega)
        go_enter Tryz.func44, Tryz.ntmps44
        go_wp2_with fail
        go_ret
        refine ⟨?_, (Still.refl w).alloc _⟩
        have hr : r = true := by rw [HA.out]; simp only [e, Bool.or_true, Bool.true_or]
        rw [hr]
        rfl
      · skip
        by_cases hb3 : (256 : Int) < nn
        · skip
          have e : decide (256 < nn) = true := decide_eq_true (by omega)
          go_enter Tryz.func44, Tryz.ntmps44
          go_wp2_with fail
          go_ret
          refine ⟨?_, (Still.refl w).alloc _⟩
          have hr : r = true := by rw [HA.out]; simp only [e, Bool.or_true, Bool.true_or]
          rw [hr]
          rfl
        · skip
          by_cases hb4 : (1024 : Int) < fn
          · skip
            have e : decide (1024 < fn) = true := decide_eq_true (by omega)
            go_enter Tryz.func44, Tryz.ntmps44
            go_wp2_with fail
            go_ret
            refine ⟨?_, (Still.refl w).alloc _⟩
            have hr : r = true := by rw [HA.out]; simp only [e, Bool.or_true, Bool.true_or]
            rw [hr]
            rfl
          · skip
            have u0 : decide (1024 < tn) = false := decide_eq_false (by omega)
            have u1 : decide (512 < sn) = false := decide_eq_false (by omega)
            have u2 : decide (256 < xn) = false := decide_eq_false (by omega)
            have u3 : decide (256 < nn) = false := decide_eq_false (by omega)
            have u4 : decide (1024 < fn) = false := decide_eq_false (by omega)
            have HU := Lib.hid (And.intro u0 (And.intro u1 (And.intro u2 (And.intro u3 u4))))
            clear u0 u1 u2 u3 u4
            go_enter Tryz.func44, Tryz.ntmps44
            go_wp2_with fail
            go_loopw [49] (fun q wr => ∃ i : Nat, q = .int .i64 i ∧ i ≤ tn ∧ (T1.take i).any M.bigTy = false ∧ Seen w CS wr) (fun q _ => tn - (intOf q).toNat)
            case atStart => exact ⟨0, rfl, by omega, by simp, HS0.out⟩
            case round =>
              obtain ⟨i, rfl, hi, hany, hd⟩ := hrel
              have ht := hd.still
              by_cases hlt : i < tn
              · skip
                obtain ⟨b1, off1, t, cs1, rfl, hbB1, hx1, hcl1, hq1, hc1⟩ := HL1.out.here hlt
                have hP1 := hq1
                obtain ⟨ta2, tn2, tc2, rfl, hr1⟩ := hq1
                have hbl1 : b1 < wr.heap.size := Nat.lt_of_lt_of_le (Nat.lt_of_lt_of_le hbB1 HB.out) ht.size
                have d10 : wr.cell? ⟨b1, off1 + i * 2, none⟩ = some (.bool t.imm) := (Still.cell ht (p := ⟨b1, _, none⟩) (Nat.lt_of_lt_of_le hbB1 HB.out)).trans (by simpa using hc1 0 (by decide))
                have d11 : wr.cell? ⟨b1, off1 + i * 2 + 1, none⟩ = some (.slice ta2 tn2 tc2) := (Still.cell ht (p := ⟨b1, _, none⟩) (Nat.lt_of_lt_of_le hbB1 HB.out)).trans (by simpa using hc1 1 (by decide))
                clear hcl1 hr1 hc1
                have HTK := Lib.hid (any_step M.bigTy hx1 hany)
                have HHIT := Lib.hid (any_hit M.bigTy hx1)
                have HD := Lib.hid hd
                have hl := (hP1.at_len).1
                clear hx1 hP1 hany hd ht
                by_cases hb : (512 : Int) < tn2
                · skip
                  have e : M.bigTy t = true := by unfold M.bigTy; rw [hl]; exact decide_eq_true (by omega)
                  have hh := HHIT.out e
                  clear hl
                  go_wp2_with fail
                  go_ret
                  refine ⟨?_, (HD.out.next ((Still.refl wr).alloc (.cells #[.bool t.imm, .slice ta2 tn2 tc2] 49))).still⟩
                  have hr : r = true := by rw [HA.out]; simp only [hh, Bool.or_true, Bool.true_or]
                  rw [hr]
                  rfl
                · skip
                  have e : M.bigTy t = false := by unfold M.bigTy; rw [hl]; exact decide_eq_false (by omega)
                  clear hl
                  go_wp2_with fail
                  go_roundw
                  case rel => exact ⟨i + 1, by go_num, by omega, by rw [HTK.out]; exact e, HD.out.next ((Still.refl wr).alloc (.cells #[.bool t.imm, .slice ta2 tn2 tc2] 49))⟩
                  case measure => simp [intOf]; omega
              · obtain rfl : tn = i := by omega
                have HE1 := Lib.hid (any_end M.bigTy HN1.out hany)
                have HD1 := Lib.hid hd
                clear hany hd ht
                obtain ⟨b0, b1, b2, b3, b4, b5, b6, b7⟩ := imgBox (show Blk _ w.heap.size 28 #[.slice ta tn tc, .slice sa sn sc, .slice xa xn xc, .slice na nn nc, .slice fa fn fc, .int .i64 mi, .int .i64 ei] by rw [HCS.out]; exact HD1.out.box)
                go_wp2_with fail
                clear b0 b1 b2 b3 b4 b5 b6 b7
                go_loopw [61] (fun q wr => ∃ i : Nat, q = .int .i64 i ∧ i ≤ sn ∧ (T2.take i).any M.bigSh = false ∧ Seen w CS wr) (fun q _ => sn - (intOf q).toNat)
                case atStart => exact ⟨0, rfl, by omega, by simp, HD1.out⟩
                case round =>
                  obtain ⟨i, rfl, hi, hany, hd⟩ := hrel
                  have ht := hd.still
                  by_cases hlt : i < sn
                  · skip
                    obtain ⟨b1, off1, s, cs1, rfl, hbB1, hx1, hcl1, hq1, hc1⟩ := HL2.out.here hlt
                    have hP1 := hq1
                    obtain ⟨sa2, sn2, sc2, rfl, hr1⟩ := hq1
                    have hbl1 : b1 < wr.heap.size := Nat.lt_of_lt_of_le (Nat.lt_of_lt_of_le hbB1 HB.out) ht.size
                    have d10 : wr.cell? ⟨b1, off1 + i * 3, none⟩ = some (.int .i64 s.kind) := (Still.cell ht (p := ⟨b1, _, none⟩) (Nat.lt_of_lt_of_le hbB1 HB.out)).trans (by simpa using hc1 0 (by decide))
                    have d11 : wr.cell? ⟨b1, off1 + i * 3 + 1, none⟩ = some (.slice sa2 sn2 sc2) := (Still.cell ht (p := ⟨b1, _, none⟩) (Nat.lt_of_lt_of_le hbB1 HB.out)).trans (by simpa using hc1 1 (by decide))
                    have d12 : wr.cell? ⟨b1, off1 + i * 3 + 2, none⟩ = some (.string s.name) := (Still.cell ht (p := ⟨b1, _, none⟩) (Nat.lt_of_lt_of_le hbB1 HB.out)).trans (by simpa using hc1 2 (by decide))
                    clear hcl1 hr1 hc1
                    have HTK := Lib.hid (any_step M.bigSh hx1 hany)
                    have HHIT := Lib.hid (any_hit M.bigSh hx1)
                    have HD := Lib.hid hd
                    have hl := (hP1.at_len).1
                    clear hx1 hP1 hany hd ht
                    by_cases hb : (200 : Int) < sn2
                    · skip
                      have e : M.bigSh s = true := by
                        unfold M.bigSh; rw [hl, show decide (200 < sn2) = true from decide_eq_true (by omega)]; rfl
                      have hh := HHIT.out e
                      clear hl
                      go_wp2_with fail
                      go_ret
                      refine ⟨?_, (HD.out.next ((Still.refl wr).alloc (.cells #[.int .i64 s.kind, .slice sa2 sn2 sc2, .string s.name] 51))).still⟩
                      have hr : r = true := by rw [HA.out]; simp only [hh, Bool.or_true, Bool.true_or]
                      rw [hr]
                      rfl
                    · skip
                      by_cases hc : (16384 : Int) < s.name.size
                      · skip
                        have e : M.bigSh s = true := by
                          unfold M.bigSh; rw [show decide (16384 < s.name.size) = true from decide_eq_true (by omega)]; exact Bool.or_true _
                        have hh := HHIT.out e
                        clear hl
                        go_wp2_with fail
                        go_ret
                        refine ⟨?_, (HD.out.next ((Still.refl wr).alloc (.cells #[.int .i64 s.kind, .slice sa2 sn2 sc2, .string s.name] 51))).still⟩
                        have hr : r = true := by rw [HA.out]; simp only [hh, Bool.or_true, Bool.true_or]
                        rw [hr]
                        rfl
                      · skip
                        have e : M.bigSh s = false := by
                          unfold M.bigSh; rw [hl, show decide (200 < sn2) = false from decide_eq_false (by omega), show decide (16384 < s.name.size) = false from decide_eq_false (by omega)]; rfl
                        clear hl
                        go_wp2_with fail
                        go_roundw
                        case rel => exact ⟨i + 1, by go_num, by omega, by rw [HTK.out]; exact e, HD.out.next ((Still.refl wr).alloc (.cells #[.int .i64 s.kind, .slice sa2 sn2 sc2, .string s.name] 51))⟩
                        case measure => simp [intOf]; omega
                  · obtain rfl : sn = i := by omega
                    have HE2 := Lib.hid (any_end M.bigSh HN2.out hany)
                    have HD2 := Lib.hid hd
                    clear hany hd ht
                    obtain ⟨b0, b1, b2, b3, b4, b5, b6, b7⟩ := imgBox (show Blk _ w.heap.size 28 #[.slice ta tn tc, .slice sa sn sc, .slice xa xn xc, .slice na nn nc, .slice fa fn fc, .int .i64 mi, .int .i64 ei] by rw [HCS.out]; exact HD2.out.box)
                    go_wp2_with fail
                    clear b0 b1 b2 b3 b4 b5 b6 b7
                    go_loopw [79] (fun q wr => ∃ i : Nat, q = .int .i64 i ∧ i ≤ xn ∧ (T3.take i).any M.bigTx = false ∧ Seen w CS wr) (fun q _ => xn - (intOf q).toNat)
                    case atStart => exact ⟨0, rfl, by omega, by simp, HD2.out⟩
                    case round =>
                      obtain ⟨i, rfl, hi, hany, hd⟩ := hrel
                      have ht := hd.still
                      by_cases hlt : i < xn
                      · skip
                        obtain ⟨b1, off1, s, cs1, rfl, hbB1, hx1, hcl1, hq1, hc1⟩ := HL3.out.here hlt
                        have hP1 := hq1
                        obtain ⟨rfl, hr1⟩ := hq1
                        have hbl1 : b1 < wr.heap.size := Nat.lt_of_lt_of_le (Nat.lt_of_lt_of_le hbB1 HB.out) ht.size
                        have d10 : wr.cell? ⟨b1, off1 + i, none⟩ = some (.string s) := (Still.cell ht (p := ⟨b1, _, none⟩) (Nat.lt_of_lt_of_le hbB1 HB.out)).trans (by simpa using hc1 0 (by decide))
                        clear hcl1 hr1 hc1
                        have HTK := Lib.hid (any_step M.bigTx hx1 hany)
                        have HHIT := Lib.hid (any_hit M.bigTx hx1)
                        have HD := Lib.hid hd
                        clear hx1 hP1 hany hd ht
                        by_cases hb : (16384 : Int) < s.size
                        · skip
                          have e : M.bigTx s = true := decide_eq_true (by omega)
                          have hh := HHIT.out e
                          go_wp2_with fail
                          go_ret
                          refine ⟨?_, HD.out.still⟩
                          have hr : r = true := by rw [HA.out]; simp only [hh, Bool.or_true, Bool.true_or]
                          rw [hr]
                          rfl
                        · skip
                          have e : M.bigTx s = false := decide_eq_false (by omega)
                          go_wp2_with fail
                          go_roundw
                          case rel => exact ⟨i + 1, by go_num, by omega, by rw [HTK.out]; exact e, HD.out⟩
                          case measure => simp [intOf]; omega
                      · obtain rfl : xn = i := by omega
                        have HE3 := Lib.hid (any_end M.bigTx HN3.out hany)
                        have HD3 := Lib.hid hd
                        clear hany hd ht
                        obtain ⟨b0, b1, b2, b3, b4, b5, b6, b7⟩ := imgBox (show Blk _ w.heap.size 28 #[.slice ta tn tc, .slice sa sn sc, .slice xa xn xc, .slice na nn nc, .slice fa fn fc, .int .i64 mi, .int .i64 ei] by rw [HCS.out]; exact HD3.out.box)
                        go_wp2_with fail
                        clear b0 b1 b2 b3 b4 b5 b6 b7
                        go_loopw [90] (fun q wr => ∃ i : Nat, q = .int .i64 i ∧ i ≤ nn ∧ (T4.take i).any M.bigTx = false ∧ Seen w CS wr) (fun q _ => nn - (intOf q).toNat)
                        case atStart => exact ⟨0, rfl, by omega, by simp, HD3.out⟩
                        case round =>
                          obtain ⟨i, rfl, hi, hany, hd⟩ := hrel
                          have ht := hd.still
                          by_cases hlt : i < nn
                          · skip
                            obtain ⟨b1, off1, s, cs1, rfl, hbB1, hx1, hcl1, hq1, hc1⟩ := HL4.out.here hlt
                            have hP1 := hq1
                            obtain ⟨rfl, hr1⟩ := hq1
                            have hbl1 : b1 < wr.heap.size := Nat.lt_of_lt_of_le (Nat.lt_of_lt_of_le hbB1 HB.out) ht.size
                            have d10 : wr.cell? ⟨b1, off1 + i, none⟩ = some (.string s) := (Still.cell ht (p := ⟨b1, _, none⟩) (Nat.lt_of_lt_of_le hbB1 HB.out)).trans (by simpa using hc1 0 (by decide))
                            clear hcl1 hr1 hc1
                            have HTK := Lib.hid (any_step M.bigTx hx1 hany)
                            have HHIT := Lib.hid (any_hit M.bigTx hx1)
                            have HD := Lib.hid hd
                            clear hx1 hP1 hany hd ht
                            by_cases hb : (16384 : Int) < s.size
                            · skip
                              have e : M.bigTx s = true := decide_eq_true (by omega)
                              have hh := HHIT.out e
                              go_wp2_with fail
                              go_ret
                              refine ⟨?_, HD.out.still⟩
                              have hr : r = true := by rw [HA.out]; simp only [hh, Bool.or_true, Bool.true_or]
                              rw [hr]
                              rfl
                            · skip
                              have e : M.bigTx s = false := decide_eq_false (by omega)
                              go_wp2_with fail
                              go_roundw
                              case rel => exact ⟨i + 1, by go_num, by omega, by rw [HTK.out]; exact e, HD.out⟩
                              case measure => simp [intOf]; omega
                          · obtain rfl : nn = i := by omega
                            have HE4 := Lib.hid (any_end M.bigTx HN4.out hany)
                            have HD4 := Lib.hid hd
                            clear hany hd ht
                            obtain ⟨b0, b1, b2, b3, b4, b5, b6, b7⟩ := imgBox (show Blk _ w.heap.size 28 #[.slice ta tn tc, .slice sa sn sc, .slice xa xn xc, .slice na nn nc, .slice fa fn fc, .int .i64 mi, .int .i64 ei] by rw [HCS.out]; exact HD4.out.box)
                            go_wp2_with fail
                            clear b0 b1 b2 b3 b4 b5 b6 b7
                            go_loopw [11, 101] (fun z q wr => ∃ i n : Nat, q = .int .i64 i ∧ z = .int .i64 n ∧ i ≤ fn ∧ n = ((T5.take i).map M.sizeFn).sum ∧ n ≤ 20000 ∧ (T5.take i).any M.bigFn = false ∧ (T5.take i).any M.bigC = false ∧ Seen w CS wr) (fun _ q _ => fn - (intOf q).toNat)
                            case atStart => exact ⟨0, 0, rfl, rfl, by omega, by simp, by omega, by simp, by simp, HD4.out⟩
                            case round =>
                              obtain ⟨i, n, rfl, rfl, hi, hn, hn2, ha1, ha2, hd⟩ := hrel
                              have ht := hd.still
                              by_cases hlt : i < fn
                              · skip
                                obtain ⟨b1, off1, f, cs1, rfl, hbB1, hx1, hcl1, hq1, hc1⟩ := HL5.out.here hlt
                                have hP1 := hq1
                                obtain ⟨pa, pn, pc, ba, bn, bc, rfl, hr1⟩ := hq1
                                have hbl1 : b1 < wr.heap.size := Nat.lt_of_lt_of_le (Nat.lt_of_lt_of_le hbB1 HB.out) ht.size
                                have d10 : wr.cell? ⟨b1, off1 + i * 4, none⟩ = some (.slice pa pn pc) := (Still.cell ht (p := ⟨b1, _, none⟩) (Nat.lt_of_lt_of_le hbB1 HB.out)).trans (by simpa using hc1 0 (by decide))
                                have d11 : wr.cell? ⟨b1, off1 + i * 4 + 1, none⟩ = some (.int .i64 f.result) := (Still.cell ht (p := ⟨b1, _, none⟩) (Nat.lt_of_lt_of_le hbB1 HB.out)).trans (by simpa using hc1 1 (by decide))
                                have d12 : wr.cell? ⟨b1, off1 + i * 4 + 2, none⟩ = some (.int .i64 f.slots) := (Still.cell ht (p := ⟨b1, _, none⟩) (Nat.lt_of_lt_of_le hbB1 HB.out)).trans (by simpa using hc1 2 (by decide))
                                have d13 : wr.cell? ⟨b1, off1 + i * 4 + 3, none⟩ = some (.slice ba bn bc) := (Still.cell ht (p := ⟨b1, _, none⟩) (Nat.lt_of_lt_of_le hbB1 HB.out)).trans (by simpa using hc1 3 (by decide))
                                clear hcl1 hr1 hc1
                                have HTK1 := Lib.hid (any_step M.bigFn hx1 ha1)
                                have HTK2 := Lib.hid (any_step M.bigC hx1 ha2)
                                have HH1 := Lib.hid (any_hit M.bigFn hx1)
                                have HH2 := Lib.hid (any_hit M.bigC hx1)
                                have HST := Lib.hid (sum_step M.sizeFn hx1)
                                have HTO := Lib.hid (sum_take_le M.sizeFn T5 (i + 1))
                                have HNN := Lib.hid (And.intro hn hn2)
                                have HD := Lib.hid (hd.next ((Still.refl wr).alloc (.cells #[.slice pa pn pc, .int .i64 f.result, .int .i64 f.slots, .slice ba bn bc] 55)))
                                have HINT := Lib.hid hP1.at_len
                                have hl2 := hP1.at_len.1
                                have hl3 := hP1.at_len.2.2.2.1
                                have HBIG : Hid (M.bigFn f = (decide (200 < f.slots) || decide (200 < pn) || decide (2000 < bn) || f.blocks.any M.bigBk)) := by
                                  show M.bigFn f = _
                                  unfold M.bigFn
                                  rw [hl2, hl3]
                                have hn63 : bn ≤ 9223372036854775807 := by have := HINT.out.2.2.2.2.2.1; unfold maxLen at this; omega
                                clear hx1 hP1 ha1 ha2 hd ht hl2 hl3 hn
                                by_cases hc0 : (200 : Int) < f.slots
                                · skip
                                  have e : decide (200 < f.slots) = true := decide_eq_true (by omega)
                                  have hf : M.bigFn f = true := by rw [HBIG.out]; simp only [e, Bool.or_true, Bool.true_or]
                                  have hh := HH1.out hf
                                  go_wp2_with fail
                                  go_ret
                                  refine ⟨?_, HD.out.still⟩
                                  have hr : r = true := by rw [HA.out]; simp only [hh, Bool.or_true, Bool.true_or]
                                  rw [hr]
                                  rfl
                                · skip
                                  by_cases hc1 : (200 : Int) < pn
                                  · skip
                                    have e : decide (200 < pn) = true := decide_eq_true (by omega)
                                    have hf : M.bigFn f = true := by rw [HBIG.out]; simp only [e, Bool.or_true, Bool.true_or]
                                    have hh := HH1.out hf
                                    go_wp2_with fail
                                    go_ret
                                    refine ⟨?_, HD.out.still⟩
                                    have hr : r = true := by rw [HA.out]; simp only [hh, Bool.or_true, Bool.true_or]
                                    rw [hr]
                                    rfl
                                  · skip
                                    by_cases hc2 : (2000 : Int) < bn
                                    · skip
                                      have e : decide (2000 < bn) = true := decide_eq_true (by omega)
                                      have hf : M.bigFn f = true := by rw [HBIG.out]; simp only [e, Bool.or_true, Bool.true_or]
                                      have hh := HH1.out hf
                                      go_wp2_with fail
                                      go_ret
                                      refine ⟨?_, HD.out.still⟩
                                      have hr : r = true := by rw [HA.out]; simp only [hh, Bool.or_true, Bool.true_or]
                                      rw [hr]
                                      rfl
                                    · skip
                                      have k0 : decide (200 < f.slots) = false := decide_eq_false (by omega)
                                      have k1 : decide (200 < pn) = false := decide_eq_false (by omega)
                                      have k2 : decide (2000 < bn) = false := decide_eq_false (by omega)
                                      have HK := Lib.hid (And.intro k0 (And.intro k1 k2))
                                      clear k0 k1 k2
                                      have HBLK := Lib.hid HINT.out.2.2.2.2.1
                                      have HBL3 := Lib.hid HINT.out.2.2.2.1
                                      go_wp2_with fail
                                      go_loopw [11, 123] (fun z q wr => ∃ j n2 : Nat, q = .int .i64 j ∧ z = .int .i64 n2 ∧ j ≤ bn ∧ n2 = n + ((f.blocks.take j).map fun b => b.code.length).sum ∧ n2 ≤ 20000 ∧ (f.blocks.take j).any M.bigBk = false ∧ (f.blocks.take j).any (fun b => b.code.any M.bigIns) = false ∧ Seen w CS wr) (fun _ q _ => bn - (intOf q).toNat)
                                      case atStart => exact ⟨0, n, rfl, rfl, by omega, by simp, HNN.out.2, by simp, by simp, HD.out⟩
                                      case round =>
                                        obtain ⟨j, n2, rfl, rfl, hj, hn2', hm2, ha1, ha2, hd⟩ := hrel
                                        have ht := hd.still
                                        by_cases hlt2 : j < bn
                                        · skip
                                          obtain ⟨b2, off2, k, cs2, rfl, hbB2, hx2, hcl2, hq2, hc2⟩ := HBLK.out.here hlt2
                                          have hP2 := hq2
                                          obtain ⟨ia, inn, ic, ca, cn, cc, rfl, hr2⟩ := hq2
                                          have hbl2 : b2 < wr.heap.size := Nat.lt_of_lt_of_le (Nat.lt_of_lt_of_le hbB2 HB.out) ht.size
                                          have d20 : wr.cell? ⟨b2, off2 + j * 2, none⟩ = some (.slice ia inn ic) := (Still.cell ht (p := ⟨b2, _, none⟩) (Nat.lt_of_lt_of_le hbB2 HB.out)).trans (by simpa using hc2 0 (by decide))
                                          have d21 : wr.cell? ⟨b2, off2 + j * 2 + 1, none⟩ = some (.slice ca cn cc) := (Still.cell ht (p := ⟨b2, _, none⟩) (Nat.lt_of_lt_of_le hbB2 HB.out)).trans (by simpa using hc2 1 (by decide))
                                          clear hcl2 hr2 hc2
                                          have HTK3 := Lib.hid (any_step M.bigBk hx2 ha1)
                                          have HTK4 := Lib.hid (any_step (fun b : M.Bk => b.code.any M.bigIns) hx2 ha2)
                                          have HH3 := Lib.hid (any_hit M.bigBk hx2)
                                          have HH4 := Lib.hid (any_hit (fun b : M.Bk => b.code.any M.bigIns) hx2)
                                          have HST2 := Lib.hid (sum_step (fun b : M.Bk => b.code.length) hx2)
                                          have HTO2 := Lib.hid (sum_take_le (fun b : M.Bk => b.code.length) f.blocks (j + 1))
                                          have HNN2 := Lib.hid (And.intro hn2' hm2)
                                          have HD := Lib.hid (hd.next ((Still.refl wr).alloc (.cells #[.slice ia inn ic, .slice ca cn cc] 85)))
                                          have HINT2 := Lib.hid hP2.at_len
                                          have hl2 := hP2.at_len.1
                                          have hl3 := hP2.at_len.2.2.2.1
                                          have HC3 := Lib.hid hl3
                                          have HBB : Hid (M.bigBk k = decide (200 < inn)) := by
                                            show M.bigBk k = _
                                            unfold M.bigBk
                                            rw [hl2]
                                          have HSF : Hid (M.sizeFn f = (f.blocks.map fun b => b.code.length).sum) := rfl
                                          have hc63 : cn ≤ 1000000000 := by
                                            have q2 := HST2.out; have q3 := HTO2.out; have q4 := HTO.out; have q5 := HST.out; have q6 := HSF.out; have q8 := HC3.out; have q9 := HW.out
                                            try dsimp only at *
                                            omega
                                          clear hx2 hP2 ha1 ha2 hd ht hl2 hl3 hn2'
                                          by_cases hz : (20000 : Int) < n2 + cn
                                          · skip
                                            have e : decide (20000 < (T5.map M.sizeFn).sum) = true := decide_eq_true (by
                                              have q1 := HNN2.out.1; have q2 := HST2.out; have q3 := HTO2.out; have q4 := HTO.out; have q5 := HST.out; have q6 := HSF.out; have q7 := HNN.out.1; have q8 := HC3.out
                                              try dsimp only at *
                                              omega)
                                            go_wp2_with fail
                                            go_ret
                                            refine ⟨?_, HD.out.still⟩
                                            have hr : r = true := by rw [HA.out]; simp only [e, Bool.or_true, Bool.true_or]
                                            rw [hr]
                                            rfl
                                          · skip
                                            by_cases hy : (200 : Int) < inn
                                            · skip
                                              have e1 : M.bigBk k = true := by rw [HBB.out]; exact decide_eq_true (by omega)
                                              have e2 := HH3.out e1
                                              have e : M.bigFn f = true := by rw [HBIG.out]; simp only [e2, Bool.or_true]
                                              have hh := HH1.out e
                                              go_wp2_with fail
                                              go_ret
                                              refine ⟨?_, HD.out.still⟩
                                              have hr : r = true := by rw [HA.out]; simp only [hh, Bool.or_true, Bool.true_or]
                                              rw [hr]
                                              rfl
                                            · skip
                                              have HE1 : Hid (M.bigBk k = false) := by
                                                show M.bigBk k = false
                                                rw [HBB.out]; exact decide_eq_false (by omega)
                                              have HZ2 : Hid (n2 + cn ≤ 20000) := by show n2 + cn ≤ 20000; omega
                                              have HCOD := Lib.hid HINT2.out.2.2.2.2.1
                                              go_wp2_with fail
                                              go_loopw [143] (fun q wr => ∃ l : Nat, q = .int .i64 l ∧ l ≤ cn ∧ (k.code.take l).any M.bigIns = false ∧ Seen w CS wr) (fun q _ => cn - (intOf q).toNat)
                                              case atStart => exact ⟨0, rfl, by omega, by simp, HD.out⟩
                                              case round =>
                                                obtain ⟨l, rfl, hl, ha1, hd⟩ := hrel
                                                have ht := hd.still
                                                by_cases hlt3 : l < cn
                                                · skip
                                                  obtain ⟨b3, off3, x, cs3, rfl, hbB3, hx3, hcl3, hq3, hc3⟩ := HCOD.out.here hlt3
                                                  have hP3 := hq3
                                                  obtain ⟨la, ln, lc, ma, mn, mc, va, vn, vc, rfl, hr3⟩ := hq3
                                                  have hbl3 : b3 < wr.heap.size := Nat.lt_of_lt_of_le (Nat.lt_of_lt_of_le hbB3 HB.out) ht.size
                                                  have d30 : wr.cell? ⟨b3, off3 + l * 9, none⟩ = some (.int .i64 x.op) := (Still.cell ht (p := ⟨b3, _, none⟩) (Nat.lt_of_lt_of_le hbB3 HB.out)).trans (by simpa using hc3 0 (by decide))
                                                  have d31 : wr.cell? ⟨b3, off3 + l * 9 + 1, none⟩ = some (.int .i64 x.d) := (Still.cell ht (p := ⟨b3, _, none⟩) (Nat.lt_of_lt_of_le hbB3 HB.out)).trans (by simpa using hc3 1 (by decide))
                                                  have d32 : wr.cell? ⟨b3, off3 + l * 9 + 2, none⟩ = some (.int .i64 x.a) := (Still.cell ht (p := ⟨b3, _, none⟩) (Nat.lt_of_lt_of_le hbB3 HB.out)).trans (by simpa using hc3 2 (by decide))
                                                  have d33 : wr.cell? ⟨b3, off3 + l * 9 + 3, none⟩ = some (.int .i64 x.b) := (Still.cell ht (p := ⟨b3, _, none⟩) (Nat.lt_of_lt_of_le hbB3 HB.out)).trans (by simpa using hc3 3 (by decide))
                                                  have d34 : wr.cell? ⟨b3, off3 + l * 9 + 4, none⟩ = some (.int .i64 x.c) := (Still.cell ht (p := ⟨b3, _, none⟩) (Nat.lt_of_lt_of_le hbB3 HB.out)).trans (by simpa using hc3 4 (by decide))
                                                  have d35 : wr.cell? ⟨b3, off3 + l * 9 + 5, none⟩ = some (.int .i64 x.n) := (Still.cell ht (p := ⟨b3, _, none⟩) (Nat.lt_of_lt_of_le hbB3 HB.out)).trans (by simpa using hc3 5 (by decide))
                                                  have d36 : wr.cell? ⟨b3, off3 + l * 9 + 6, none⟩ = some (.slice la ln lc) := (Still.cell ht (p := ⟨b3, _, none⟩) (Nat.lt_of_lt_of_le hbB3 HB.out)).trans (by simpa using hc3 6 (by decide))
                                                  have d37 : wr.cell? ⟨b3, off3 + l * 9 + 7, none⟩ = some (.slice ma mn mc) := (Still.cell ht (p := ⟨b3, _, none⟩) (Nat.lt_of_lt_of_le hbB3 HB.out)).trans (by simpa using hc3 7 (by decide))
                                                  have d38 : wr.cell? ⟨b3, off3 + l * 9 + 8, none⟩ = some (.slice va vn vc) := (Still.cell ht (p := ⟨b3, _, none⟩) (Nat.lt_of_lt_of_le hbB3 HB.out)).trans (by simpa using hc3 8 (by decide))
                                                  clear hcl3 hr3 hc3
                                                  have HTK5 := Lib.hid (any_step M.bigIns hx3 ha1)
                                                  have HH5 := Lib.hid (any_hit M.bigIns hx3)
                                                  have HD := Lib.hid (hd.next ((Still.refl wr).alloc (.cells #[.int .i64 x.op, .int .i64 x.d, .int .i64 x.a, .int .i64 x.b, .int .i64 x.c, .int .i64 x.n, .slice la ln lc, .slice ma mn mc, .slice va vn vc] 70)))
                                                  obtain ⟨g1, g2, g3, _⟩ := hP3.at_len
                                                  have HIB : Hid (M.bigIns x = (decide (1024 < ln) || decide (1024 < mn) || decide (200 < vn))) := by
                                                    show M.bigIns x = _
                                                    unfold M.bigIns
                                                    rw [g1, g2, g3]
                                                  clear hx3 hP3 ha1 hd ht g1 g2 g3
                                                  by_cases hg0 : (1024 : Int) < ln
                                                  · skip
                                                    have e0 : decide (1024 < ln) = true := decide_eq_true (by omega)
                                                    have e1 : M.bigIns x = true := by rw [HIB.out]; simp only [e0, Bool.or_true, Bool.true_or]
                                                    have e2 := HH4.out (HH5.out e1)
                                                    have e3 : M.bigC f = true := e2
                                                    have hh := HH2.out e3
                                                    go_wp2_with fail
                                                    go_ret
                                                    refine ⟨?_, HD.out.still⟩
                                                    have hr : r = true := by rw [HA.out]; simp only [hh, Bool.or_true, Bool.true_or]
                                                    rw [hr]
                                                    rfl
                                                  · skip
                                                    by_cases hg1 : (1024 : Int) < mn
                                                    · skip
                                                      have e0 : decide (1024 < mn) = true := decide_eq_true (by omega)
                                                      have e1 : M.bigIns x = true := by rw [HIB.out]; simp only [e0, Bool.or_true, Bool.true_or]
                                                      have e2 := HH4.out (HH5.out e1)
                                                      have e3 : M.bigC f = true := e2
                                                      have hh := HH2.out e3
                                                      go_wp2_with fail
                                                      go_ret
                                                      refine ⟨?_, HD.out.still⟩
                                                      have hr : r = true := by rw [HA.out]; simp only [hh, Bool.or_true, Bool.true_or]
                                                      rw [hr]
                                                      rfl
                                                    · skip
                                                      by_cases hg2 : (200 : Int) < vn
                                                      · skip
                                                        have e0 : decide (200 < vn) = true := decide_eq_true (by omega)
                                                        have e1 : M.bigIns x = true := by rw [HIB.out]; simp only [e0, Bool.or_true, Bool.true_or]
                                                        have e2 := HH4.out (HH5.out e1)
                                                        have e3 : M.bigC f = true := e2
                                                        have hh := HH2.out e3
                                                        go_wp2_with fail
                                                        go_ret
                                                        refine ⟨?_, HD.out.still⟩
                                                        have hr : r = true := by rw [HA.out]; simp only [hh, Bool.or_true, Bool.true_or]
                                                        rw [hr]
                                                        rfl
                                                      · skip
                                                        have e : M.bigIns x = false := by
                                                          rw [HIB.out, show decide (1024 < ln) = false from decide_eq_false (by omega), show decide (1024 < mn) = false from decide_eq_false (by omega), show decide (200 < vn) = false from decide_eq_false (by omega)]; rfl
                                                        go_wp2_with fail
                                                        go_roundw
                                                        case rel => exact ⟨l + 1, by go_num, by omega, by rw [HTK5.out]; exact e, HD.out⟩
                                                        case measure => simp [intOf]; omega
                                                · obtain rfl : cn = l := by omega
                                                  have HEE := Lib.hid (any_end M.bigIns HC3.out ha1)
                                                  have HD := Lib.hid hd
                                                  clear ha1 hd ht
                                                  go_wp2_with fail
                                                  go_roundw
                                                  case rel => exact ⟨j + 1, n2 + cn, by go_num, by go_num, by omega, by rw [HST2.out, HNN2.out.1, HC3.out]; omega, HZ2.out, by rw [HTK3.out]; exact HE1.out, by rw [HTK4.out]; exact HEE.out, HD.out⟩
                                                  case measure => simp [intOf]; omega
                                        · obtain rfl : bn = j := by omega
                                          have HE1 := Lib.hid (any_end M.bigBk HBL3.out ha1)
                                          have HE2 := Lib.hid (any_end (fun b : M.Bk => b.code.any M.bigIns) HBL3.out ha2)
                                          have HE3 := Lib.hid (sum_end (fun b : M.Bk => b.code.length) HBL3.out)
                                          have HN2' := Lib.hid (And.intro hn2' hm2)
                                          have HD := Lib.hid hd
                                          clear ha1 ha2 hd ht hn2' hm2
                                          go_wp2_with fail
                                          go_roundw
                                          case rel => exact ⟨i + 1, n2, by go_num, rfl, by omega, by rw [HST.out, HN2'.out.1, HNN.out.1, HE3.out]; rfl, HN2'.out.2, by rw [HTK1.out, HBIG.out, HK.out.1, HK.out.2.1, HK.out.2.2, HE1.out]; rfl, by rw [HTK2.out]; exact HE2.out, HD.out⟩
                                          case measure => simp [intOf]; omega
                              · obtain rfl : fn = i := by omega
                                have HE5 := Lib.hid (any_end M.bigFn HN5.out ha1)
                                have HE6 := Lib.hid (any_end M.bigC HN5.out ha2)
                                have HE7 := Lib.hid (sum_end M.sizeFn HN5.out)
                                have HNN := Lib.hid (And.intro hn hn2)
                                have HD := Lib.hid hd
                                clear ha1 ha2 hd ht hn hn2
                                go_wp2_with fail
                                go_ret
                                refine ⟨?_, HD.out.still⟩
                                have hz : decide (20000 < (T5.map M.sizeFn).sum) = false := decide_eq_false (by have := HNN.out; have := HE7.out; omega)
                                have hr : r = false := by
                                  rw [HA.out, HU.out.1, HU.out.2.1, HU.out.2.2.1, HU.out.2.2.2.1, HU.out.2.2.2.2, HE1.out, HE2.out, HE3.out, HE4.out, HE5.out, HE6.out, hz]
                                  rfl
                                rw [hr]
                                rfl
end Go.Proofs.YthlifflapgccbaaGreat
