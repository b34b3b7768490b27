/- The law's Light: how much an image holds. -/
import Derived.Test.YtiagfkdidjlkcaaRefBig
import Derived.Test.YtiagfkdidjlkcaaOpenImg
import Derived.Test.YtiagfkdidjlkcaaL02
import Derived.Deep.RegionHeld3
namespace Go.Proofs.Ytiagfkdidjlkcaa
set_option linter.unusedVariables false
set_option linter.unusedSimpArgs false
open Go.ChangeShapes Go.WideShapes Go.ChangeAt Go.RowKit
open M (W)
theorem infoStr : (Try.prog.info? 9).map (fun i => (i.zero, i.size, i.bytes)) = some (some (.string ⟨#[]⟩), 1, 16) := by kernel_rfl
/-- What an image may weigh. -/
def M.light (m : M.Img) : Bool := decide (M.wImg m ≤ 40000)
theorem text_cells {B : Nat} {w : World} {a : Option Addr} {n : Nat} {xs : List ByteArray} (h : Txts B w a n xs) {W : World} (hW : Below B w W) : 0 < n → ∃ ad, a = some ad ∧ ∀ j u, (xs.map Value.string)[j]? = some u → W.cell? (ad.add j) = some u := fun hn => by
  obtain ⟨b, off, rfl, hb, hx⟩ := h.at_ hn
  refine ⟨_, rfl, fun j u hu => ?_⟩
  rw [List.getElem?_map] at hu
  obtain ⟨s, hs, rfl⟩ := Option.map_eq_some_iff.1 hu
  obtain ⟨cs, h1, ⟨rfl, _⟩, h3⟩ := hx j s hs
  have := h3 0 (by decide)
  rw [Go.WideShapes.add_plain]
  rw [World.cell?_of_block (w := w) (hW.block b hb)]
  simpa using this
set_option maxRecDepth 100000 in
set_option maxHeartbeats 8000000 in
theorem light_any {B : Nat} {w : World} {v : ImgV} {m : M.Img} (hB : B ≤ w.heap.size) (hp : ImgIs B w v m) (hf : M.fitImg m) :
    Calls Try.prog 12 #[.agg #[.slice v.ta v.tn v.tc, .slice v.sa v.sn v.sc, .slice v.xa v.xn v.xc, .slice v.na v.nn v.nc, .slice v.fa v.fn v.fc, .int .i64 v.main, .int .i64 v.exn]] w fun e w' => e = .returned (.bool (M.light m)) ∧ Still w w' := by
  obtain ⟨⟨l1, l2, l3, l4, l5⟩, f1, f2, f3, f4, f5⟩ := hf
  have p1 := hp.types
  have p2 := hp.shapes
  have p3 := hp.strings
  have p4 := hp.names
  have p5 := hp.funcs
  obtain ⟨ta, tn, tc, sa, sn, sc, xa, xn, xc, na, nn, nc, fa, fn, fc, mi, ei⟩ := v
  dsimp only at p1 p2 p3 p4 p5 ⊢
  have HL1 := Lib.hid p1
  have HL2 := Lib.hid p2
  have HL3 := Lib.hid p3
  have HL4 := Lib.hid p4
  have HL5 := Lib.hid p5
  have HN1 := Lib.hid p1.len
  have HN2 := Lib.hid p2.len
  have HN3 := Lib.hid p3.len
  have HN4 := Lib.hid p4.len
  have HN5 := Lib.hid p5.len
  have HF1 := Lib.hid f1
  have HF2 := Lib.hid f2
  have HF3 := Lib.hid f3
  have HF4 := Lib.hid f4
  have HF5 := Lib.hid f5
  unfold M.fitN at l1 l2 l3 l4 l5
  rw [p1.len] at l1
  rw [p2.len] at l2
  rw [p3.len] at l3
  rw [p4.len] at l4
  rw [p5.len] at l5
  have HB := Lib.hid hB
  have HA : Hid (M.light m = decide (M.wImg m ≤ 40000) ∧ M.wImg m = tn + sn + xn + nn + fn + (m.types.map M.wTy).sum + (m.shapes.map M.wSh).sum + ((m.strings ++ m.names).map ByteArray.size).sum + (m.funcs.map M.wFn).sum) := by
    refine ⟨rfl, ?_⟩
    unfold M.wImg
    rw [p1.len, p2.len, p3.len, p4.len, p5.len, List.map_append, List.sum_append]
    omega
  generalize M.light m = r at *
  generalize M.wImg m = wi at *
  generalize m.types = T1 at *
  generalize m.shapes = T2 at *
  generalize m.strings = T3 at *
  generalize m.names = T4 at *
  generalize m.funcs = T5 at *
  clear hB hp p1 p2 p3 p4 p5 f1 f2 f3 f4 f5
  obtain ⟨CS, hCS⟩ : ∃ CS : Array Value, (#[.slice ta tn tc, .slice sa sn sc, .slice xa xn xc, .slice na nn nc, .slice fa fn fc, .int .i64 mi, .int .i64 ei] : Array Value) = CS := ⟨_, rfl⟩
  have HCS := Lib.hid hCS
  have HS0 : Hid (Seen w CS (w.alloc (.cells #[.slice ta tn tc, .slice sa sn sc, .slice xa xn xc, .slice na nn nc, .slice fa fn fc, .int .i64 mi, .int .i64 ei] 27))) := by rw [hCS]; exact ⟨(Still.refl w).alloc _, Blk.new w _ _⟩
  clear hCS
  obtain ⟨N0, hN0⟩ : ∃ N0 : Int, N0 = 40000 - (tn + sn + xn + nn + fn : Nat) := ⟨_, rfl⟩
  have HN0 := Lib.hid hN0
  have hn0 : -5242880 ≤ N0 ∧ N0 ≤ 40000 := by omega
  clear hN0
  go_enter Try.func12, Try.ntmps12
  go_wp2_with fail
  go_loopw [3, 39] (fun z q wr => ∃ (i : Nat) (n : Int), q = .int .i64 i ∧ z = .int .i64 n ∧ i ≤ tn ∧ n = N0 - (((T1.take i).map M.wTy).sum : Nat) ∧ -5242880 ≤ n ∧ n ≤ 40000 ∧ Seen w CS wr) (fun _ q _ => tn - (intOf q).toNat)
  case atStart => exact ⟨0, _, rfl, rfl, by omega, by have := HN0.out; simp; omega, by omega, by omega, HS0.out⟩
  case round =>
    obtain ⟨i, n, rfl, rfl, hi, hn, hlo, hup, hd⟩ := hrel
    have ht := hd.still
    by_cases hlt : i < tn
    · skip
      obtain ⟨b1, off1, t, cs1, rfl, hbB1, hx1, hcl1, hq1, hc1⟩ := HL1.out.here hlt
      have hP1 := hq1
      obtain ⟨ta2, tn2, tc2, rfl, hr1⟩ := hq1
      have hbl1 : b1 < wr.heap.size := Nat.lt_of_lt_of_le (Nat.lt_of_lt_of_le hbB1 HB.out) ht.size
      have d10 : wr.cell? ⟨b1, off1 + i * 2, none⟩ = some (.bool t.imm) := (Still.cell ht (p := ⟨b1, _, none⟩) (Nat.lt_of_lt_of_le hbB1 HB.out)).trans (by simpa using hc1 0 (by decide))
      have d11 : wr.cell? ⟨b1, off1 + i * 2 + 1, none⟩ = some (.slice ta2 tn2 tc2) := (Still.cell ht (p := ⟨b1, _, none⟩) (Nat.lt_of_lt_of_le hbB1 HB.out)).trans (by simpa using hc1 1 (by decide))
      clear hcl1 hr1 hc1
      have HST := Lib.hid (sum_step M.wTy hx1)
      have HTO := Lib.hid (sum_take_le M.wTy T1 (i + 1))
      have HNN := Lib.hid hn
      have HD := Lib.hid (hd.next ((Still.refl wr).alloc (.cells #[.bool t.imm, .slice ta2 tn2 tc2] 35)))
      have HWX : Hid (M.wTy t = tn2) := by
        have hl := hP1.at_len.1
        show M.wTy t = tn2
        unfold M.wTy
        rw [hl]
      have hc63 : tn2 ≤ 1048576 := by have := HF1.out t (List.mem_of_getElem? hx1); unfold M.fitTy M.fitN at this; rwa [hP1.at_len.1] at this
      clear hx1 hP1 hd ht hn
      by_cases hz : n - tn2 < 0
      · skip
        go_wp2_with fail
        go_ret
        refine ⟨?_, HD.out.still⟩
        have hr : r = false := by
          rw [HA.out.1]
          refine decide_eq_false ?_
          have hw := HA.out.2; have h0 := HN0.out
          have q1 := HST.out; have q2 := HTO.out; have q3 := HNN.out; have q4 := HWX.out
          omega
        rw [hr]
        rfl
      · skip
        have HZ : Hid (n - tn2 = N0 - (((T1.take (i + 1)).map M.wTy).sum : Nat) ∧ -5242880 ≤ n - tn2 ∧ n - tn2 ≤ 40000) := by
          have q1 := HST.out; have q3 := HNN.out; have q4 := HWX.out
          refine ⟨?_, by omega, by omega⟩
          rw [q1, q4]
          omega
        go_wp2_with fail
        go_roundw
        case rel => exact ⟨i + 1, n - tn2, by go_num, by go_num, by omega, HZ.out.1, HZ.out.2.1, HZ.out.2.2, HD.out⟩
        case measure => simp [intOf]; omega
    · obtain rfl : tn = i := by omega
      obtain ⟨n1, hnk⟩ : ∃ y, y = n := ⟨_, rfl⟩
      subst hnk
      have HS1 := Lib.hid (hn.trans (by rw [sum_end M.wTy HN1.out]))
      have HB1 := Lib.hid (And.intro hlo hup)
      have HD1 := Lib.hid hd
      clear hn hd ht
      obtain ⟨b0, b1, b2, b3, b4, b5, b6, b7⟩ := imgBox (show Blk _ w.heap.size 27 #[.slice ta tn tc, .slice sa sn sc, .slice xa xn xc, .slice na nn nc, .slice fa fn fc, .int .i64 mi, .int .i64 ei] by rw [HCS.out]; exact HD1.out.box)
      go_wp2_with fail
      clear b0 b1 b2 b3 b4 b5 b6 b7
      go_loopw [3, 54] (fun z q wr => ∃ (i : Nat) (n : Int), q = .int .i64 i ∧ z = .int .i64 n ∧ i ≤ sn ∧ n = n1 - (((T2.take i).map M.wSh).sum : Nat) ∧ -5242880 ≤ n ∧ n ≤ 40000 ∧ Seen w CS wr) (fun _ q _ => sn - (intOf q).toNat)
      case atStart => exact ⟨0, n1, rfl, rfl, by omega, by simp, HB1.out.1, HB1.out.2, HD1.out⟩
      case round =>
        obtain ⟨i, n, rfl, rfl, hi, hn, hlo, hup, hd⟩ := hrel
        have ht := hd.still
        by_cases hlt : i < sn
        · skip
          obtain ⟨b1, off1, s, cs1, rfl, hbB1, hx1, hcl1, hq1, hc1⟩ := HL2.out.here hlt
          have hP1 := hq1
          obtain ⟨sa2, sn2, sc2, rfl, hr1⟩ := hq1
          have hbl1 : b1 < wr.heap.size := Nat.lt_of_lt_of_le (Nat.lt_of_lt_of_le hbB1 HB.out) ht.size
          have d10 : wr.cell? ⟨b1, off1 + i * 3, none⟩ = some (.int .i64 s.kind) := (Still.cell ht (p := ⟨b1, _, none⟩) (Nat.lt_of_lt_of_le hbB1 HB.out)).trans (by simpa using hc1 0 (by decide))
          have d11 : wr.cell? ⟨b1, off1 + i * 3 + 1, none⟩ = some (.slice sa2 sn2 sc2) := (Still.cell ht (p := ⟨b1, _, none⟩) (Nat.lt_of_lt_of_le hbB1 HB.out)).trans (by simpa using hc1 1 (by decide))
          have d12 : wr.cell? ⟨b1, off1 + i * 3 + 2, none⟩ = some (.string s.name) := (Still.cell ht (p := ⟨b1, _, none⟩) (Nat.lt_of_lt_of_le hbB1 HB.out)).trans (by simpa using hc1 2 (by decide))
          clear hcl1 hr1 hc1
          have HST := Lib.hid (sum_step M.wSh hx1)
          have HTO := Lib.hid (sum_take_le M.wSh T2 (i + 1))
          have HNN := Lib.hid hn
          have HD := Lib.hid (hd.next ((Still.refl wr).alloc (.cells #[.int .i64 s.kind, .slice sa2 sn2 sc2, .string s.name] 37)))
          have HWX : Hid (M.wSh s = sn2 + s.name.size) := by
            have hl := hP1.at_len.1
            show M.wSh s = sn2 + s.name.size
            unfold M.wSh
            rw [hl]
          have hc63 : sn2 ≤ 1048576 ∧ s.name.size ≤ 1048576 := by have := HF2.out s (List.mem_of_getElem? hx1); unfold M.fitSh M.fitN at this; rwa [hP1.at_len.1] at this
          obtain ⟨hc63, hd63⟩ := hc63
          clear hx1 hP1 hd ht hn
          by_cases hz : n - (sn2 + s.name.size : Nat) < 0
          · skip
            go_wp2_with fail
            go_ret
            refine ⟨?_, HD.out.still⟩
            have hr : r = false := by
              rw [HA.out.1]
              refine decide_eq_false ?_
              have hw := HA.out.2; have h0 := HN0.out
              have q1 := HST.out; have q2 := HTO.out; have q3 := HNN.out; have q4 := HWX.out; have q5 := HS1.out
              omega
            rw [hr]
            rfl
          · skip
            have HZ : Hid (n - (sn2 + s.name.size : Nat) = n1 - (((T2.take (i + 1)).map M.wSh).sum : Nat) ∧ -5242880 ≤ n - (sn2 + s.name.size : Nat) ∧ n - (sn2 + s.name.size : Nat) ≤ 40000) := by
              have q1 := HST.out; have q3 := HNN.out; have q4 := HWX.out
              refine ⟨?_, by omega, by omega⟩
              rw [q1, q4]
              omega
            go_wp2_with fail
            go_roundw
            case rel => exact ⟨i + 1, n - (sn2 + s.name.size : Nat), by go_num, by go_num, by omega, HZ.out.1, HZ.out.2.1, HZ.out.2.2, HD.out⟩
            case measure => simp [intOf]; omega
        · obtain rfl : sn = i := by omega
          obtain ⟨n2, hnk⟩ : ∃ y, y = n := ⟨_, rfl⟩
          subst hnk
          have HS2 := Lib.hid (hn.trans (by rw [sum_end M.wSh HN2.out]))
          have HB2 := Lib.hid (And.intro hlo hup)
          have HD2 := Lib.hid hd
          clear hn hd ht
          obtain ⟨b0, b1, b2, b3, b4, b5, b6, b7⟩ := imgBox (show Blk _ w.heap.size 27 #[.slice ta tn tc, .slice sa sn sc, .slice xa xn xc, .slice na nn nc, .slice fa fn fc, .int .i64 mi, .int .i64 ei] by rw [HCS.out]; exact HD2.out.box)
          go_wp2_with fail
          have hbr : Below B w wr := (Still.below HD2.out.still).mono HB.out
          have hsz : w.heap.size ≤ wr.heap.size := HD2.out.still.size
          have HC3 := Lib.hid (fun W (hW : Still wr W) => text_cells HL3.out (W := W) (hbr.trans ((Still.below hW).mono (Nat.le_trans HB.out hsz))))
          have HC4 := Lib.hid (fun W (hW : Still wr W) => text_cells HL4.out (W := W) (hbr.trans ((Still.below hW).mono (Nat.le_trans HB.out hsz))))
          have hM3 : (T3.map Value.string).length = xn * 1 := by rw [List.length_map, HN3.out, Nat.mul_one]
          have hM4 : (T4.map Value.string).length = nn * 1 := by rw [List.length_map, HN4.out, Nat.mul_one]
          have h1c : ∀ (l : List ByteArray), ∀ u ∈ l.map Value.string, u.oneCell' = true := fun l u hu => by obtain ⟨z, _, rfl⟩ := List.mem_map.1 hu; rfl
          have HM := Lib.hid (And.intro hM3 (And.intro hM4 h1c))
          have q0_2 : wr.drew.cell? ⟨w.heap.size, 2, none⟩ = some (.slice xa xn xc) := b3
          have q0_3 : wr.drew.cell? ⟨w.heap.size, 3, none⟩ = some (.slice na nn nc) := b4
          have hbl9 : w.heap.size < wr.drew.heap.size := b0
          have HSR : Hid (Still wr (wr.alloc (.cells #[] 9)).drew) := ((Still.refl wr).alloc _).drew
          have qZ_2 : (wr.alloc (.cells #[] 9)).drew.cell? ⟨w.heap.size, 2, none⟩ = some (.slice xa xn xc) := (HSR.out.cell (p := ⟨w.heap.size, 2, none⟩) hbl9).trans q0_2
          have qZ_3 : (wr.alloc (.cells #[] 9)).drew.cell? ⟨w.heap.size, 3, none⟩ = some (.slice na nn nc) := (HSR.out.cell (p := ⟨w.heap.size, 3, none⟩) hbl9).trans q0_3
          clear hbr hM3 hM4 h1c b0 b1 b2 b3 b4 b5 b6 b7
          go_region_held3 (fun W => W.cell? ⟨w.heap.size, 2, none⟩ = some (.slice xa xn xc) ∧ W.cell? ⟨w.heap.size, 3, none⟩ = some (.slice na nn nc)) (first | exact ⟨qB_2, qB_3⟩ | exact ⟨qA_2, qA_3⟩ | exact ⟨qZ_2, qZ_3⟩ | go_keep)
            (first
              | (refine step_append_src rfl (.tmp 70) (.tmp 72) 24 rfl wr.heap.size 9 1 16 (.string ⟨#[]⟩) Try.underlying24 infoStr rfl (by decide) _ 0 0 [] (by rfl) (own_none (by exact Blk.new wr _ _) (by first | (simp; done) | (simp; omega))) xa xn xc (T3.map Value.string) (by rfl) HM.out.1 (HC3.out _ HSR.out) (HM.out.2.2 T3) (by unfold maxLen; omega) (by omega) (by first | (simp; done) | (simp; omega)) ?_
                 simp only [Nat.zero_add, List.nil_append]
                 intro aA cA wA hA tA
                 have HSA : Hid (Still wr wA) := still_own HSR.out tA.out (own_none (e := 9) (size := 1) (by exact Blk.new wr _ _) (by first | (simp; done) | (simp; omega)))
                 have qA_2 : wA.cell? ⟨w.heap.size, 2, none⟩ = some (.slice xa xn xc) := (HSA.out.cell (p := ⟨w.heap.size, 2, none⟩) hbl9).trans q0_2
                 have qA_3 : wA.cell? ⟨w.heap.size, 3, none⟩ = some (.slice na nn nc) := (HSA.out.cell (p := ⟨w.heap.size, 3, none⟩) hbl9).trans q0_3
                 clear tA)
              | (refine step_append_src rfl (.tmp 73) (.tmp 75) 24 rfl wr.heap.size 9 1 16 (.string ⟨#[]⟩) Try.underlying24 infoStr rfl (by decide) aA xn cA (T3.map Value.string) (by rfl) hA.out na nn nc (T4.map Value.string) (by rfl) HM.out.2.1 (HC4.out _ HSA.out) (HM.out.2.2 T4) (by unfold maxLen; omega) (by omega) HSA.out.size ?_
                 intro aB cB wB hB tB
                 generalize hk9 : xn + nn = k9 at hB tB ⊢
                 have HK9 := Lib.hid hk9
                 clear hk9
                 have HSB : Hid (Still wr wB) := still_own HSA.out tB.out hA.out
                 have qB_2 : wB.cell? ⟨w.heap.size, 2, none⟩ = some (.slice xa xn xc) := (HSB.out.cell (p := ⟨w.heap.size, 2, none⟩) hbl9).trans q0_2
                 have qB_3 : wB.cell? ⟨w.heap.size, 3, none⟩ = some (.slice na nn nc) := (HSB.out.cell (p := ⟨w.heap.size, 3, none⟩) hbl9).trans q0_3
                 clear tB))
          have HDB := Lib.hid (HD2.out.next HSB.out)
          have HMM : Hid ((T3.map Value.string ++ T4.map Value.string) = (T3 ++ T4).map Value.string) := (List.map_append ..).symm
          have HFA : Hid (∀ s ∈ T3 ++ T4, s.size ≤ 1048576) := fun s hs => by
            rcases List.mem_append.1 hs with h | h
            · exact HF3.out s h
            · exact HF4.out s h
          have HLA : Hid ((T3 ++ T4).length = k9) := by
            show (T3 ++ T4).length = k9
            rw [List.length_append, HN3.out, HN4.out, HK9.out]
          have hk63 : k9 ≤ 2097152 := by have := HK9.out; omega
          clear hbl9 q0_2 q0_3 qZ_2 qZ_3 qA_2 qA_3 qB_2 qB_3
          rw [HMM.out] at hB
          go_wp2_with fail
          go_loop [3, 78] (fun z q => ∃ (i : Nat) (n : Int), q = .int .i64 i ∧ z = .int .i64 n ∧ i ≤ k9 ∧ n = n2 - ((((T3 ++ T4).take i).map ByteArray.size).sum : Nat) ∧ -5242880 ≤ n ∧ n ≤ 40000) (fun _ q => k9 - (intOf q).toNat)
          case atStart => exact ⟨0, n2, rfl, rfl, by omega, by simp, HB2.out.1, HB2.out.2⟩
          case round =>
            obtain ⟨i, n, rfl, rfl, hi, hn, hlo, hup⟩ := hrel
            by_cases hlt : i < k9
            · obtain ⟨gB, rfl, hgl, _, _, hcell, _⟩ := own_form hB.out (by omega)
              have hil : i < (T3 ++ T4).length := by rw [HLA.out]; exact hlt
              have hx1 := List.getElem?_eq_getElem hil
              generalize (T3 ++ T4)[i] = s at hx1
              have d10 : wB.cell? ⟨gB, i, none⟩ = some (.string s) := hcell i _ (by rw [List.getElem?_map, hx1]; rfl)
              have hc63 := HFA.out s (List.mem_of_getElem? hx1)
              have HST := Lib.hid (sum_step ByteArray.size hx1)
              have HTO := Lib.hid (sum_take_le ByteArray.size (T3 ++ T4) (i + 1))
              have HNN := Lib.hid hn
              have HD := HDB
              clear hx1 hcell hn hil
              by_cases hz : n - s.size < 0
              · skip
                go_wp2_with fail
                go_ret
                refine ⟨?_, HD.out.still⟩
                have hr : r = false := by
                  rw [HA.out.1]
                  refine decide_eq_false ?_
                  have hw := HA.out.2; have h0 := HN0.out
                  have q1 := HST.out; have q2 := HTO.out; have q3 := HNN.out; have q5 := HS1.out; have q6 := HS2.out; have q8 := HK9.out
                  omega
                rw [hr]
                rfl
              · skip
                have HZ : Hid (n - s.size = n2 - ((((T3 ++ T4).take (i + 1)).map ByteArray.size).sum : Nat) ∧ -5242880 ≤ n - s.size ∧ n - s.size ≤ 40000) := by
                  have q1 := HST.out; have q3 := HNN.out
                  refine ⟨?_, by omega, by omega⟩
                  rw [q1]
                  omega
                go_wp2_with fail
                go_round
                case rel => exact ⟨i + 1, n - s.size, by go_num, by go_num, by omega, HZ.out.1, HZ.out.2.1, HZ.out.2.2⟩
                case measure => simp [intOf]; omega
            · obtain rfl : k9 = i := by omega
              obtain ⟨n3, hnk⟩ : ∃ y, y = n := ⟨_, rfl⟩
              subst hnk
              have HS3 := Lib.hid (hn.trans (by rw [sum_end ByteArray.size HLA.out]))
              have HB3 := Lib.hid (And.intro hlo hup)
              clear hn
              obtain ⟨b0, b1, b2, b3, b4, b5, b6, b7⟩ := imgBox (show Blk _ w.heap.size 27 #[.slice ta tn tc, .slice sa sn sc, .slice xa xn xc, .slice na nn nc, .slice fa fn fc, .int .i64 mi, .int .i64 ei] by rw [HCS.out]; exact HDB.out.box)
              go_wp2_with fail
              clear b0 b1 b2 b3 b4 b5 b6 b7
              go_loopw [3, 92] (fun z q wr => ∃ (i : Nat) (n : Int), q = .int .i64 i ∧ z = .int .i64 n ∧ i ≤ fn ∧ n = n3 - (((T5.take i).map M.wFn).sum : Nat) ∧ -5242880 ≤ n ∧ n ≤ 40000 ∧ Seen w CS wr) (fun _ q _ => fn - (intOf q).toNat)
              case atStart => exact ⟨0, n3, rfl, rfl, by omega, by simp, HB3.out.1, HB3.out.2, HDB.out⟩
              case round =>
                obtain ⟨i, n, rfl, rfl, hi, hn, hlo, hup, hd⟩ := hrel
                have ht := hd.still
                by_cases hlt : i < fn
                · skip
                  obtain ⟨b1, off1, f, cs1, rfl, hbB1, hx1, hcl1, hq1, hc1⟩ := HL5.out.here hlt
                  have hP1 := hq1
                  obtain ⟨pa, pn, pc, ba, bn, bc, rfl, hr1⟩ := hq1
                  have hbl1 : b1 < wr.heap.size := Nat.lt_of_lt_of_le (Nat.lt_of_lt_of_le hbB1 HB.out) ht.size
                  have d10 : wr.cell? ⟨b1, off1 + i * 4, none⟩ = some (.slice pa pn pc) := (Still.cell ht (p := ⟨b1, _, none⟩) (Nat.lt_of_lt_of_le hbB1 HB.out)).trans (by simpa using hc1 0 (by decide))
                  have d11 : wr.cell? ⟨b1, off1 + i * 4 + 1, none⟩ = some (.int .i64 f.result) := (Still.cell ht (p := ⟨b1, _, none⟩) (Nat.lt_of_lt_of_le hbB1 HB.out)).trans (by simpa using hc1 1 (by decide))
                  have d12 : wr.cell? ⟨b1, off1 + i * 4 + 2, none⟩ = some (.int .i64 f.slots) := (Still.cell ht (p := ⟨b1, _, none⟩) (Nat.lt_of_lt_of_le hbB1 HB.out)).trans (by simpa using hc1 2 (by decide))
                  have d13 : wr.cell? ⟨b1, off1 + i * 4 + 3, none⟩ = some (.slice ba bn bc) := (Still.cell ht (p := ⟨b1, _, none⟩) (Nat.lt_of_lt_of_le hbB1 HB.out)).trans (by simpa using hc1 3 (by decide))
                  clear hcl1 hr1 hc1
                  have HST := Lib.hid (sum_step M.wFn hx1)
                  have HTO := Lib.hid (sum_take_le M.wFn T5 (i + 1))
                  have HNN := Lib.hid hn
                  have HD := Lib.hid (hd.next ((Still.refl wr).alloc (.cells #[.slice pa pn pc, .int .i64 f.result, .int .i64 f.slots, .slice ba bn bc] 33)))
                  have HINT := Lib.hid hP1.at_len
                  have hfit := HF5.out f (List.mem_of_getElem? hx1)
                  have hp63 : pn ≤ 1048576 := by have h1 := hfit.1; have h2 := hP1.at_len.1; unfold M.fitN at h1; omega
                  have hb63 : bn ≤ 1048576 := by have h1 := hfit.2.1; have h2 := hP1.at_len.2.2.2.1; unfold M.fitN at h1; omega
                  have HFB := Lib.hid hfit.2.2
                  have HWX : Hid (M.wFn f = pn + bn + (f.blocks.map M.wBk).sum) := by
                    have h1 := hP1.at_len.1; have h2 := hP1.at_len.2.2.2.1
                    show M.wFn f = _
                    unfold M.wFn
                    rw [h1, h2]
                  clear hx1 hP1 hd ht hn hfit
                  by_cases hz : n - (pn + bn : Nat) < 0
                  · skip
                    go_wp2_with fail
                    go_ret
                    refine ⟨?_, HD.out.still⟩
                    have hr : r = false := by
                      rw [HA.out.1]
                      refine decide_eq_false ?_
                      have hw := HA.out.2; have h0 := HN0.out
                      have q1 := HST.out; have q2 := HTO.out; have q3 := HNN.out; have q4 := HWX.out; have q5 := HS1.out; have q6 := HS2.out; have q7 := HS3.out
                      omega
                    rw [hr]
                    rfl
                  · skip
                    obtain ⟨n4, hn4⟩ : ∃ y : Int, y = n - (pn + bn : Nat) := ⟨_, rfl⟩
                    have HN4' := Lib.hid hn4
                    have hb4 : 0 ≤ n4 ∧ n4 ≤ 40000 := by omega
                    have HBLK := Lib.hid HINT.out.2.2.2.2.1
                    have HBL3 := Lib.hid HINT.out.2.2.2.1
                    go_wp2_with fail
                    go_loopw [3, 110] (fun z q wr => ∃ (j : Nat) (n5 : Int), q = .int .i64 j ∧ z = .int .i64 n5 ∧ j ≤ bn ∧ n5 = n4 - (((f.blocks.take j).map M.wBk).sum : Nat) ∧ 0 ≤ n5 ∧ n5 ≤ 40000 ∧ Seen w CS wr) (fun _ q _ => bn - (intOf q).toNat)
                    case atStart => exact ⟨0, n4, rfl, by have := HN4'.out; rw [this]; go_num, by omega, by simp, hb4.1, hb4.2, HD.out⟩
                    case round =>
                      obtain ⟨j, n5, rfl, rfl, hj, hn5, hlo5, hup5, hd⟩ := hrel
                      have ht := hd.still
                      by_cases hlt2 : j < bn
                      · skip
                        obtain ⟨b2, off2, k, cs2, rfl, hbB2, hx2, hcl2, hq2, hc2⟩ := HBLK.out.here hlt2
                        have hP2 := hq2
                        obtain ⟨ia, inn, ic, ca, cn, cc, rfl, hr2⟩ := hq2
                        have hbl2 : b2 < wr.heap.size := Nat.lt_of_lt_of_le (Nat.lt_of_lt_of_le hbB2 HB.out) ht.size
                        have d20 : wr.cell? ⟨b2, off2 + j * 2, none⟩ = some (.slice ia inn ic) := (Still.cell ht (p := ⟨b2, _, none⟩) (Nat.lt_of_lt_of_le hbB2 HB.out)).trans (by simpa using hc2 0 (by decide))
                        have d21 : wr.cell? ⟨b2, off2 + j * 2 + 1, none⟩ = some (.slice ca cn cc) := (Still.cell ht (p := ⟨b2, _, none⟩) (Nat.lt_of_lt_of_le hbB2 HB.out)).trans (by simpa using hc2 1 (by decide))
                        clear hcl2 hr2 hc2
                        have HST2 := Lib.hid (sum_step M.wBk hx2)
                        have HTO2 := Lib.hid (sum_take_le M.wBk f.blocks (j + 1))
                        have HNN2 := Lib.hid hn5
                        have HD := Lib.hid (hd.next ((Still.refl wr).alloc (.cells #[.slice ia inn ic, .slice ca cn cc] 40)))
                        have HINT2 := Lib.hid hP2.at_len
                        have hfit := HFB.out k (List.mem_of_getElem? hx2)
                        have hi63 : inn ≤ 1048576 := by have h1 := hfit.1; have h2 := hP2.at_len.1; unfold M.fitN at h1; omega
                        have hc63 : cn ≤ 1048576 := by have h1 := hfit.2.1; have h2 := hP2.at_len.2.2.2.1; unfold M.fitN at h1; omega
                        have HFI := Lib.hid hfit.2.2
                        have HWX2 : Hid (M.wBk k = inn + cn + (k.code.map M.wIns).sum) := by
                          have h1 := hP2.at_len.1; have h2 := hP2.at_len.2.2.2.1
                          show M.wBk k = _
                          unfold M.wBk
                          rw [h1, h2]
                        clear hx2 hP2 hd ht hn5 hfit
                        by_cases hz2 : n5 - (inn + cn : Nat) < 0
                        · skip
                          go_wp2_with fail
                          go_ret
                          refine ⟨?_, HD.out.still⟩
                          have hr : r = false := by
                            rw [HA.out.1]
                            refine decide_eq_false ?_
                            have hw := HA.out.2; have h0 := HN0.out
                            have q1 := HST.out; have q2 := HTO.out; have q3 := HNN.out; have q4 := HWX.out; have q5 := HS1.out; have q6 := HS2.out; have q7 := HS3.out; have q8 := HN4'.out; have q9 := HST2.out; have q10 := HTO2.out; have q11 := HNN2.out; have q12 := HWX2.out
                            omega
                          rw [hr]
                          rfl
                        · skip
                          obtain ⟨n6, hn6⟩ : ∃ y : Int, y = n5 - (inn + cn : Nat) := ⟨_, rfl⟩
                          have HN6 := Lib.hid hn6
                          have hb6 : 0 ≤ n6 ∧ n6 ≤ 40000 := by omega
                          have HCOD := Lib.hid HINT2.out.2.2.2.2.1
                          have HCO3 := Lib.hid HINT2.out.2.2.2.1
                          go_wp2_with fail
                          go_loopw [3, 128] (fun z q wr => ∃ (l : Nat) (n7 : Int), q = .int .i64 l ∧ z = .int .i64 n7 ∧ l ≤ cn ∧ n7 = n6 - (((k.code.take l).map M.wIns).sum : Nat) ∧ 0 ≤ n7 ∧ n7 ≤ 40000 ∧ Seen w CS wr) (fun _ q _ => cn - (intOf q).toNat)
                          case atStart => exact ⟨0, n6, rfl, by have := HN6.out; rw [this]; go_num, by omega, by simp, hb6.1, hb6.2, HD.out⟩
                          case round =>
                            obtain ⟨l, n7, rfl, rfl, hl, hn7, hlo7, hup7, hd⟩ := hrel
                            have ht := hd.still
                            by_cases hlt3 : l < cn
                            · skip
                              obtain ⟨b3, off3, x, cs3, rfl, hbB3, hx3, hcl3, hq3, hc3⟩ := HCOD.out.here hlt3
                              have hP3 := hq3
                              obtain ⟨la, ln, lc, ma, mn, mc, va, vn, vc, rfl, hr3⟩ := hq3
                              have hbl3 : b3 < wr.heap.size := Nat.lt_of_lt_of_le (Nat.lt_of_lt_of_le hbB3 HB.out) ht.size
                              have d30 : wr.cell? ⟨b3, off3 + l * 9, none⟩ = some (.int .i64 x.op) := (Still.cell ht (p := ⟨b3, _, none⟩) (Nat.lt_of_lt_of_le hbB3 HB.out)).trans (by simpa using hc3 0 (by decide))
                              have d31 : wr.cell? ⟨b3, off3 + l * 9 + 1, none⟩ = some (.int .i64 x.d) := (Still.cell ht (p := ⟨b3, _, none⟩) (Nat.lt_of_lt_of_le hbB3 HB.out)).trans (by simpa using hc3 1 (by decide))
                              have d32 : wr.cell? ⟨b3, off3 + l * 9 + 2, none⟩ = some (.int .i64 x.a) := (Still.cell ht (p := ⟨b3, _, none⟩) (Nat.lt_of_lt_of_le hbB3 HB.out)).trans (by simpa using hc3 2 (by decide))
                              have d33 : wr.cell? ⟨b3, off3 + l * 9 + 3, none⟩ = some (.int .i64 x.b) := (Still.cell ht (p := ⟨b3, _, none⟩) (Nat.lt_of_lt_of_le hbB3 HB.out)).trans (by simpa using hc3 3 (by decide))
                              have d34 : wr.cell? ⟨b3, off3 + l * 9 + 4, none⟩ = some (.int .i64 x.c) := (Still.cell ht (p := ⟨b3, _, none⟩) (Nat.lt_of_lt_of_le hbB3 HB.out)).trans (by simpa using hc3 4 (by decide))
                              have d35 : wr.cell? ⟨b3, off3 + l * 9 + 5, none⟩ = some (.int .i64 x.n) := (Still.cell ht (p := ⟨b3, _, none⟩) (Nat.lt_of_lt_of_le hbB3 HB.out)).trans (by simpa using hc3 5 (by decide))
                              have d36 : wr.cell? ⟨b3, off3 + l * 9 + 6, none⟩ = some (.slice la ln lc) := (Still.cell ht (p := ⟨b3, _, none⟩) (Nat.lt_of_lt_of_le hbB3 HB.out)).trans (by simpa using hc3 6 (by decide))
                              have d37 : wr.cell? ⟨b3, off3 + l * 9 + 7, none⟩ = some (.slice ma mn mc) := (Still.cell ht (p := ⟨b3, _, none⟩) (Nat.lt_of_lt_of_le hbB3 HB.out)).trans (by simpa using hc3 7 (by decide))
                              have d38 : wr.cell? ⟨b3, off3 + l * 9 + 8, none⟩ = some (.slice va vn vc) := (Still.cell ht (p := ⟨b3, _, none⟩) (Nat.lt_of_lt_of_le hbB3 HB.out)).trans (by simpa using hc3 8 (by decide))
                              clear hcl3 hr3 hc3
                              have HST3 := Lib.hid (sum_step M.wIns hx3)
                              have HTO3 := Lib.hid (sum_take_le M.wIns k.code (l + 1))
                              have HNN3 := Lib.hid hn7
                              have HD := Lib.hid (hd.next ((Still.refl wr).alloc (.cells #[.int .i64 x.op, .int .i64 x.d, .int .i64 x.a, .int .i64 x.b, .int .i64 x.c, .int .i64 x.n, .slice la ln lc, .slice ma mn mc, .slice va vn vc] 30)))
                              obtain ⟨g1, g2, g3, _⟩ := hP3.at_len
                              have hfit := HFI.out x (List.mem_of_getElem? hx3)
                              have hf63 : ln ≤ 1048576 ∧ mn ≤ 1048576 ∧ vn ≤ 1048576 := by unfold M.fitIns M.fitN at hfit; omega
                              have HWX3 : Hid (M.wIns x = ln + mn + vn) := by
                                show M.wIns x = _
                                unfold M.wIns
                                rw [g1, g2, g3]
                              obtain ⟨hf1, hf2, hf3⟩ := hf63
                              clear hx3 hP3 hd ht hn7 hfit g1 g2 g3
                              by_cases hz3 : n7 - (ln + mn + vn : Nat) < 0
                              · skip
                                go_wp2_with fail
                                go_ret
                                refine ⟨?_, HD.out.still⟩
                                have hr : r = false := by
                                  rw [HA.out.1]
                                  refine decide_eq_false ?_
                                  have hw := HA.out.2; have h0 := HN0.out
                                  have q1 := HST.out; have q2 := HTO.out; have q3 := HNN.out; have q4 := HWX.out; have q5 := HS1.out; have q6 := HS2.out; have q7 := HS3.out; have q8 := HN4'.out; have q9 := HST2.out; have q10 := HTO2.out; have q11 := HNN2.out; have q12 := HWX2.out; have q13 := HN6.out; have q14 := HST3.out; have q15 := HTO3.out; have q16 := HNN3.out; have q17 := HWX3.out
                                  omega
                                rw [hr]
                                rfl
                              · skip
                                have HZ : Hid (n7 - (ln + mn + vn : Nat) = n6 - (((k.code.take (l + 1)).map M.wIns).sum : Nat) ∧ 0 ≤ n7 - (ln + mn + vn : Nat) ∧ n7 - (ln + mn + vn : Nat) ≤ 40000) := by
                                  have q1 := HST3.out; have q3 := HNN3.out; have q4 := HWX3.out
                                  refine ⟨?_, by omega, by omega⟩
                                  rw [q1, q4]
                                  omega
                                go_wp2_with fail
                                go_roundw
                                case rel => exact ⟨l + 1, n7 - (ln + mn + vn : Nat), by go_num, by go_num, by omega, HZ.out.1, HZ.out.2.1, HZ.out.2.2, HD.out⟩
                                case measure => simp [intOf]; omega
                            · obtain rfl : cn = l := by omega
                              have HE := Lib.hid (sum_end M.wIns HCO3.out)
                              have HNN3 := Lib.hid hn7
                              have HD := Lib.hid hd
                              have HZ : Hid (n7 = n4 - (((f.blocks.take (j + 1)).map M.wBk).sum : Nat)) := by
                                have q1 := HST2.out; have q2 := HNN2.out; have q3 := HWX2.out; have q4 := HN6.out; have q5 := HE.out; have q6 := HNN3.out
                                show n7 = _
                                rw [q1, q3]
                                omega
                              clear hn7 hd ht
                              go_wp2_with fail
                              go_roundw
                              case rel => exact ⟨j + 1, n7, by go_num, rfl, by omega, HZ.out, hlo7, hup7, HD.out⟩
                              case measure => simp [intOf]; omega
                      · obtain rfl : bn = j := by omega
                        have HE := Lib.hid (sum_end M.wBk HBL3.out)
                        have HNN2 := Lib.hid hn5
                        have HD := Lib.hid hd
                        have HZ : Hid (n5 = n3 - (((T5.take (i + 1)).map M.wFn).sum : Nat)) := by
                          have q1 := HST.out; have q2 := HNN.out; have q3 := HWX.out; have q4 := HN4'.out; have q5 := HE.out; have q6 := HNN2.out
                          show n5 = _
                          rw [q1, q3]
                          omega
                        clear hn5 hd ht
                        go_wp2_with fail
                        go_roundw
                        case rel => exact ⟨i + 1, n5, by go_num, rfl, by omega, HZ.out, by omega, hup5, HD.out⟩
                        case measure => simp [intOf]; omega
                · obtain rfl : fn = i := by omega
                  have HE := Lib.hid (sum_end M.wFn HN5.out)
                  have HNN := Lib.hid hn
                  have HD := Lib.hid hd
                  clear hn hd ht
                  go_wp2_with fail
                  go_ret
                  refine ⟨?_, HD.out.still⟩
                  have hr : r = decide (0 ≤ n) := by
                    rw [HA.out.1]
                    have hw := HA.out.2; have h0 := HN0.out; have q5 := HS1.out; have q6 := HS2.out; have q7 := HS3.out; have q8 := HNN.out; have q9 := HE.out
                    by_cases h : 0 ≤ n
                    · rw [decide_eq_true h]; exact decide_eq_true (by omega)
                    · rw [decide_eq_false h]; exact decide_eq_false (by omega)
                  rw [hr]
                  rfl
end Go.Proofs.Ytiagfkdidjlkcaa
