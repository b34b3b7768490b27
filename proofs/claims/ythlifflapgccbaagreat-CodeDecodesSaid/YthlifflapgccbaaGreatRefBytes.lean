/- The document's bytes of any image. -/
import Derived.Test.YthlifflapgccbaaGreatRefIns
import Derived.Test.YthlifflapgccbaaGreatL08
import Derived.Test.YthlifflapgccbaaGreatL03
import Derived.Deep.RegionHeld3
namespace Go.Proofs.YthlifflapgccbaaGreat
set_option linter.unusedVariables false
set_option linter.unusedSimpArgs false
open Go.ChangeShapes Go.WideShapes Go.ChangeAt Go.RowKit
open M (W)
set_option maxRecDepth 100000 in
theorem refNum_lit (n : Int) {s k : Nat} {xs : List Int} {w : World} (hk : xs.length = k) (hs : s < w.heap.size) (hc : ∀ j u, (xs.map (Value.int .u8))[j]? = some u → w.cell? ⟨s, j, none⟩ = some u) (hn : In64 n) (hx : xs.length ≤ 1000000000) :
    Calls Tryz.prog 46 #[.slice (some ⟨s, 0, none⟩) k k, .int .i64 n] w fun e w' => ∃ v', e = .returned v' ∧ Holds8 w.heap.size w' v' (xs ++ M.num n) ∧ Still w w' := by
  obtain ⟨i0, hi, hz0, hz1, hz2⟩ := info_parts infoU8
  have HS := Lib.hid (And.intro hs hc)
  have HX := Lib.hid hx
  have HK := Lib.hid hk
  have HP := Lib.hid (refPut_any n w hn.1 hn.2)
  have HL := Lib.hid (M.num_len hn)
  have HE := Lib.hid (M.enc_pos (M.zig n))
  clear hk hs hc hx hn
  go_enter Tryz.func46, Tryz.ntmps46
  go_wp2_with fail
  refine HP.out.mono ?_; rintro e wp ⟨vp, rfl, hop, hbp⟩
  obtain ⟨ap, cp, rfl⟩ := own_slice hop
  obtain ⟨gp, rfl, hgp, hgc, hgm, hcell, _⟩ := own_form hop HE.out
  have HBP := Lib.hid hbp
  have HC := Lib.hid hcell
  clear hop hbp hcell hgc hgm hgp
  go_wp2_with (at_builtin; refine wpList_append_grows _ rfl (.tmp 5) (.tmp 7) 22 rfl 5 i0 (.int .u8 0) 1 1 Tryz.underlying22 hi hz0 hz1 hz2 rfl (by decide) (some ⟨s, 0, none⟩) k k (xs.map (Value.int .u8)) rfl (by simp) (by simp [HK.out]) (fun b hb j u hj => by
          injection hb with hb; subst hb
          have := HS.out.2 j u hj
          rw [← HBP.out.cell (p := ⟨s, j, none⟩) HS.out.1] at this
          rwa [show (⟨s, j, none⟩ : Addr) = (⟨s, 0, none⟩ : Addr).add j by by_cases hj0 : j = 0 <;> simp [Addr.add, hj0]] at this) ⟨gp, 0, none⟩ (M.enc (M.zig n)).length cp ((M.enc (M.zig n)).map (Value.int .u8)) rfl (by simp) (fun j u hj => by
          have := HC.out j u hj
          rwa [show (⟨gp, j, none⟩ : Addr) = (⟨gp, 0, none⟩ : Addr).add j by by_cases hj0 : j = 0 <;> simp [Addr.add, hj0]] at this) (fun u hu => by obtain ⟨z, _, rfl⟩ := List.mem_map.1 hu; rfl) (by have := HE.out; omega) (by have := HL.out; have := HX.out; have := HK.out; unfold M.num at *; unfold maxLen; omega) (by have := HL.out; have := HX.out; have := HK.out; unfold M.num at *; omega) ?_; intro v9 w4 hr hgr; obtain ⟨a9, c9, rfl⟩ := own_slice hr; have hr4 := Lib.hid hr; have ht4 : Hid (Still wp w4) := (Turn.refl _ wp).grown hgr (fun k hk => by simp at hk); clear hr hgr)
  go_ret
  have hkk : (xs ++ M.num n).length = k + (M.enc (M.zig n)).length := by rw [List.length_append, HK.out]; rfl
  have hst : Still w wp := Turn.of_below HBP.out (fun k h1 h2 => by omega)
  refine ⟨_, rfl, ⟨a9, c9, by rw [hkk]; rfl, ?_⟩, hst.trans ht4.out⟩
  rw [hkk, List.map_append]
  exact ownsRow_base hr4.out HBP.out.size
def M.bel4 : List Int := [66, 69, 76, 49]
/-- Where the document's writer stands: the row that it holds, what stands, the image's box. -/
structure Doc (B : Nat) (w : World) (bx : Nat) (cs : Array Value) (z : Value) (ys : List Int) (W : World) : Prop where
  has : Holds8 B W z ys
  below : Below B w W
  box : Blk W bx 28 cs
theorem Doc.next {B bx : Nat} {cs : Array Value} {z z' : Value} {ys ys' : List Int} {w W W' : World} (h : Doc B w bx cs z ys W) (hh : Holds8 B W' z' ys') (hg : Grew B W W' z z') : Doc B w bx cs z' ys' W' :=
  ⟨hh, h.below.trans hg.below, hg.blk h.has h.box (by decide)⟩
theorem Doc.still {B bx : Nat} {cs : Array Value} {z : Value} {ys : List Int} {w W W' : World} (h : Doc B w bx cs z ys W) (hB : B ≤ w.heap.size) (t : Still W W') : Doc B w bx cs z ys W' :=
  ⟨h.has.keep t, h.below.trans ((Still.below t).mono (Nat.le_trans hB h.below.size)), t.blk h.box⟩
theorem Holds8.base {B B2 : Nat} {w : World} {v : Value} {xs : List Int} (h : Holds8 B w v xs) (hb : B2 ≤ B) : Holds8 B2 w v xs := by
  obtain ⟨a, c, rfl, ho⟩ := h
  exact ⟨a, c, rfl, ownsRow_base ho hb⟩
theorem ShIs.parts {B : Nat} {w : World} {k : Int} {s : ByteArray} {a2 : Option Addr} {n2 c2 : Nat} {x : M.Sh} (h : ShIs B w [.int .i64 k, .slice a2 n2 c2, .string s] x) : In64 x.kind ∧ x.name.size ≤ maxLen := by
  obtain ⟨a, n, c, he, hn, h1, h2, hi⟩ := h
  exact ⟨h1, h2⟩
theorem flat_step {α : Type} (f : α → List Int) {l : List α} {i : Nat} {x : α} (hx : l[i]? = some x) : (l.take (i + 1)).flatMap f = (l.take i).flatMap f ++ f x := by
  rw [List.take_add_one, hx, List.flatMap_append]; simp
theorem flat_take_le {α : Type} (f : α → List Int) (l : List α) (i : Nat) : ((l.take i).flatMap f).length ≤ (l.flatMap f).length := by
  have h1 : (l.flatMap f).length = ((l.take i).flatMap f).length + ((l.drop i).flatMap f).length := by
    rw [← List.length_append, ← List.flatMap_append, List.take_append_drop]
  omega
theorem many_end {α : Type} (f : α → List Int) {l : List α} {n : Nat} (hn : l.length = n) (xs : List Int) : xs ++ M.num n ++ (l.take n).flatMap f = xs ++ M.many f l := by
  rw [← hn, List.take_length]; unfold M.many; simp [List.append_assoc]
set_option maxRecDepth 100000 in
set_option maxHeartbeats 8000000 in
theorem bytes_any {B : Nat} {w : World} {v : ImgV} {m : M.Img} (hB : B ≤ w.heap.size) (hp : ImgIs B w v m) (hx : (M.bImg m).length ≤ 100000000) :
    Calls Tryz.prog 18 #[.agg #[.slice v.ta v.tn v.tc, .slice v.sa v.sn v.sc, .slice v.xa v.xn v.xc, .slice v.na v.nn v.nc, .slice v.fa v.fn v.fc, .int .i64 v.main, .int .i64 v.exn]] w fun e w' => ∃ z, e = .returned z ∧ Holds8 B w' z (M.bel4 ++ M.bImg m) ∧ Below B w w' := by
  obtain ⟨l1, l2, l3, l4, l5⟩ := hp.le
  have p1 := hp.types
  have p2 := hp.shapes
  have p3 := hp.strings
  have p4 := hp.names
  have p5 := hp.funcs
  have im := hp.in_main
  have ie := hp.in_exn
  have em := hp.main
  have ee := hp.exn
  obtain ⟨ta, tn, tc, sa, sn, sc, xa, xn, xc, na, nn, nc, fa, fn, fc, mi, ei⟩ := v
  dsimp only at l1 l2 l3 l4 l5 p1 p2 p3 p4 p5 em ee ⊢
  subst em ee
  have HL1 := Lib.hid p1
  have HL2 := Lib.hid p2
  have HL3 := Lib.hid p3
  have HL4 := Lib.hid p4
  have HL5 := Lib.hid p5
  have HN1 := Lib.hid p1.len
  have HN2 := Lib.hid p2.len
  have HN3 := Lib.hid p3.len
  have HN4 := Lib.hid p4.len
  have HN5 := Lib.hid p5.len
  have z1 := M.num_nat l1
  have z2 := M.num_nat l2
  have z3 := M.num_nat l3
  have z4 := M.num_nat l4
  have z5 := M.num_nat l5
  have HZ := Lib.hid (And.intro z1 (And.intro z2 (And.intro z3 (And.intro z4 (And.intro z5 (And.intro im ie))))))
  have m1 : tn ≤ 9223372036854775807 := by unfold maxLen at l1; omega
  have m2 : sn ≤ 9223372036854775807 := by unfold maxLen at l2; omega
  have m3 : xn ≤ 9223372036854775807 := by unfold maxLen at l3; omega
  have m4 : nn ≤ 9223372036854775807 := by unfold maxLen at l4; omega
  have m5 : fn ≤ 9223372036854775807 := by unfold maxLen at l5; omega
  have HB := Lib.hid hB
  have HX := Lib.hid hx
  have HXL : Hid ((M.many M.bTy m.types).length + (M.many M.bSh m.shapes).length + (M.many M.text m.strings).length + (M.many M.text m.names).length + (M.many M.bFn m.funcs).length + 100 ≤ 200000000) := by
    unfold M.bImg at hx
    simp only [List.length_append] at hx
    show _ ≤ _
    omega
  have HE : Hid (M.bImg m = M.many M.bTy m.types ++ M.many M.bSh m.shapes ++ M.many M.text m.strings ++ M.many M.text m.names ++ M.many M.bFn m.funcs ++ M.num m.main ++ M.num m.exn) := rfl
  generalize M.bImg m = bi at *
  generalize m.types = T1 at *
  generalize m.shapes = T2 at *
  generalize m.strings = T3 at *
  generalize m.names = T4 at *
  generalize m.funcs = T5 at *
  generalize m.main = mi at *
  generalize m.exn = ei at *
  clear hB hp hx p1 p2 p3 p4 p5 l1 l2 l3 l4 l5 z1 z2 z3 z4 z5 im ie
  have hcv := Go.Joins.run_convert_bytes_const_at (P := Tryz.prog) (w.alloc (.cells #[.slice ta tn tc, .slice sa sn sc, .slice xa xn xc, .slice na nn nc, .slice fa fn fc, .int .i64 mi, .int .i64 ei] 28)) 22 5 #[.int .u8 66, .int .u8 69, .int .u8 76, .int .u8 49] 4 4 (w.heap.size + 1) (by simp) Tryz.underlying22 Tryz.underlying5
  obtain ⟨wl, hwl⟩ : ∃ wl, ((w.alloc (.cells #[.slice ta tn tc, .slice sa sn sc, .slice xa xn xc, .slice na nn nc, .slice fa fn fc, .int .i64 mi, .int .i64 ei] 28)).alloc (.cells #[.int .u8 66, .int .u8 69, .int .u8 76, .int .u8 49] 5 (4, 5))) = wl := ⟨_, rfl⟩
  have hbw : Blk wl w.heap.size 28 #[.slice ta tn tc, .slice sa sn sc, .slice xa xn xc, .slice na nn nc, .slice fa fn fc, .int .i64 mi, .int .i64 ei] := by rw [← hwl]; exact (Blk.new w _ _).alloc _
  have hstw : Still w wl := by rw [← hwl]; exact ((Still.refl w).alloc _).alloc _
  have hlit : w.heap.size + 1 < wl.heap.size := by rw [← hwl]; simp
  have hlc : ∀ j u, ((M.bel4).map (Value.int .u8))[j]? = some u → wl.cell? ⟨w.heap.size + 1, j, none⟩ = some u := fun j u hj => by
    rw [← hwl, Go.Joins.cell_alloc_mark_at (w.alloc (.cells #[.slice ta tn tc, .slice sa sn sc, .slice xa xn xc, .slice na nn nc, .slice fa fn fc, .int .i64 mi, .int .i64 ei] 28)) _ _ _ _ j (by simp)]
    simpa [M.bel4] using hj
  have HNL := Lib.hid (refNum_lit (tn : Int) (k := 4) rfl hlit hlc HZ.out.1 (by decide))
  have HW0 := Lib.hid (And.intro hbw hstw)
  obtain ⟨b0, b1, b2, b3, b4, b5, b6, b7⟩ := imgBox hbw
  clear hstw hlit hlc hbw
  go_enter Tryz.func18, Tryz.ntmps18
  go_wp2_with fail
  refine HNL.out.mono ?_; rintro e w1 ⟨v1, rfl, h1, t1⟩
  have D1 : Hid (Doc B w w.heap.size #[.slice ta tn tc, .slice sa sn sc, .slice xa xn xc, .slice na nn nc, .slice fa fn fc, .int .i64 mi, .int .i64 ei] v1 (M.bel4 ++ M.num tn) w1) := ⟨h1.base (Nat.le_trans HB.out HW0.out.2.size), (Still.below (HW0.out.2.trans t1)).mono HB.out, t1.blk HW0.out.1⟩
  clear h1 t1 b0 b1 b2 b3 b4 b5 b6 b7 HNL HW0 hcv
  obtain ⟨b0, b1, b2, b3, b4, b5, b6, b7⟩ := imgBox D1.out.box
  obtain ⟨CS, hCS⟩ : ∃ CS : Array Value, (#[.slice ta tn tc, .slice sa sn sc, .slice xa xn xc, .slice na nn nc, .slice fa fn fc, .int .i64 mi, .int .i64 ei] : Array Value) = CS := ⟨_, rfl⟩
  rw [hCS] at D1
  have HCS := Lib.hid hCS
  clear hCS
  go_wp2_with fail
  clear b0 b1 b2 b3 b4 b5 b6 b7
  go_loopw [3, 28] (fun z q wr => ∃ i : Nat, q = .int .i64 i ∧ i ≤ tn ∧ Doc B w w.heap.size CS z (M.bel4 ++ M.num tn ++ (T1.take i).flatMap M.bTy) wr) (fun _ q _ => tn - (intOf q).toNat)
  case atStart => exact ⟨0, rfl, by omega, by simpa using D1.out⟩
  case round =>
    obtain ⟨i, rfl, hi, hd⟩ := hrel
    have ht := hd.below
    by_cases hlt : i < tn
    · skip
      obtain ⟨b1, off1, t, cs1, rfl, hbB1, hx1, hcl1, hq1, hc1⟩ := HL1.out.here hlt
      have hP1 := hq1
      obtain ⟨ta2, tn2, tc2, rfl, hr1⟩ := hq1
      have hbl1 : b1 < wr.heap.size := Nat.lt_of_lt_of_le (Nat.lt_of_lt_of_le hbB1 HB.out) ht.size
      have d10 : wr.cell? ⟨b1, off1 + i * 2, none⟩ = some (.bool t.imm) := (World.cell?_of_block (w := w) (ht.block b1 hbB1)).trans (by simpa using hc1 0 (by decide))
      have d11 : wr.cell? ⟨b1, off1 + i * 2 + 1, none⟩ = some (.slice ta2 tn2 tc2) := (World.cell?_of_block (w := w) (ht.block b1 hbB1)).trans (by simpa using hc1 1 (by decide))
      clear hcl1 hr1 hc1
      have HST := Lib.hid (flat_step M.bTy hx1)
      have hlen : (M.bel4 ++ M.num tn ++ (T1.take i).flatMap M.bTy ++ M.bTy t).length ≤ 1000000000 := by
        have hfl := flat_take_le M.bTy T1 (i + 1)
        rw [HST.out] at hfl
        have h4 : M.bel4.length = 4 := rfl
        have hm := HXL.out
        simp only [M.many, List.length_append] at hm hfl ⊢
        simp only [HN1.out, HN2.out, HN3.out, HN4.out, HN5.out] at hm ⊢
        omega
      have HLEN := Lib.hid hlen
      clear hlen
      have HINT := Lib.hid hP1.at_len
      clear hx1 hP1
      obtain ⟨timm, tshp⟩ := t
      dsimp only at d10 d11 HINT
      cases timm
      · skip
        have hh0 : Doc B w w.heap.size CS _ (M.bel4 ++ M.num tn ++ (T1.take i).flatMap M.bTy) (wr.alloc (.cells #[.bool false, .slice ta2 tn2 tc2] 49)).drew := hd.still HB.out (((Still.refl wr).alloc _).drew)
        have bb0 : Blk (wr.alloc (.cells #[.bool false, .slice ta2 tn2 tc2] 49)).drew wr.heap.size 49 #[.bool false, .slice ta2 tn2 tc2] := Blk.new wr _ _
        have q0_1 : (wr.alloc (.cells #[.bool false, .slice ta2 tn2 tc2] 49)).drew.cell? ⟨wr.heap.size, 1, none⟩ = some (.slice ta2 tn2 tc2) := bb0.cell 1
        clear hd ht
        go_wp2_with fail
        go_region_held3 (fun W => W.cell? ⟨wr.heap.size, 1, none⟩ = some (.slice ta2 tn2 tc2)) (first | exact q2_1 | exact q1_1 | go_keep)
          (first
            | (go_at_call 46; refine (refNum_any 0 hh0.has (Nat.le_trans HB.out hh0.below.size) (by constructor <;> decide) (by have := HLEN.out; simp only [M.bTy, List.length_append, if_true, if_false, Bool.false_eq_true] at this ⊢; omega)).mono ?_; rintro e x1 ⟨y1, rfl, hh1', gg1'⟩
               have hh1 := hh0.next hh1' gg1'
               have bb1 := gg1'.blk hh0.has bb0 (by decide)
               clear hh1' gg1'
               have q1_1 : x1.cell? ⟨wr.heap.size, 1, none⟩ = some (.slice ta2 tn2 tc2) := bb1.cell 1)
            | (go_at_call 47; refine (refNums_any (c := tc2) hh1.has (Nat.le_trans HB.out hh1.below.size) ((Lib.hid HINT.out.2.1).out.keep hh1.below HB.out) HINT.out.2.2 (by have := HLEN.out; simp only [M.bTy, List.length_append, if_true, if_false, Bool.false_eq_true] at this ⊢; omega)).mono ?_; rintro e x2 ⟨y2, rfl, hh2', gg2'⟩
               have hh2 := hh1.next hh2' gg2'
               have bb2 := gg2'.blk hh1.has bb1 (by decide)
               clear hh2' gg2'
               have q2_1 : x2.cell? ⟨wr.heap.size, 1, none⟩ = some (.slice ta2 tn2 tc2) := bb2.cell 1))
        all_goals
          go_wp2_with fail
          go_roundw
          case rel => exact ⟨i + 1, by go_num, by omega, by have := hh2; rw [HST.out]; simpa only [M.bTy, if_true, if_false, Bool.false_eq_true, List.append_assoc] using this⟩
          case measure => simp [intOf]; omega
      · skip
        have hh0 : Doc B w w.heap.size CS _ (M.bel4 ++ M.num tn ++ (T1.take i).flatMap M.bTy) (wr.alloc (.cells #[.bool true, .slice ta2 tn2 tc2] 49)).drew := hd.still HB.out (((Still.refl wr).alloc _).drew)
        have bb0 : Blk (wr.alloc (.cells #[.bool true, .slice ta2 tn2 tc2] 49)).drew wr.heap.size 49 #[.bool true, .slice ta2 tn2 tc2] := Blk.new wr _ _
        have q0_1 : (wr.alloc (.cells #[.bool true, .slice ta2 tn2 tc2] 49)).drew.cell? ⟨wr.heap.size, 1, none⟩ = some (.slice ta2 tn2 tc2) := bb0.cell 1
        clear hd ht
        go_wp2_with fail
        go_region_held3 (fun W => W.cell? ⟨wr.heap.size, 1, none⟩ = some (.slice ta2 tn2 tc2)) (first | exact q2_1 | exact q1_1 | go_keep)
          (first
            | (go_at_call 46; refine (refNum_any 1 hh0.has (Nat.le_trans HB.out hh0.below.size) (by constructor <;> decide) (by have := HLEN.out; simp only [M.bTy, List.length_append, if_true, if_false, Bool.false_eq_true] at this ⊢; omega)).mono ?_; rintro e x1 ⟨y1, rfl, hh1', gg1'⟩
               have hh1 := hh0.next hh1' gg1'
               have bb1 := gg1'.blk hh0.has bb0 (by decide)
               clear hh1' gg1'
               have q1_1 : x1.cell? ⟨wr.heap.size, 1, none⟩ = some (.slice ta2 tn2 tc2) := bb1.cell 1)
            | (go_at_call 47; refine (refNums_any (c := tc2) hh1.has (Nat.le_trans HB.out hh1.below.size) ((Lib.hid HINT.out.2.1).out.keep hh1.below HB.out) HINT.out.2.2 (by have := HLEN.out; simp only [M.bTy, List.length_append, if_true, if_false, Bool.false_eq_true] at this ⊢; omega)).mono ?_; rintro e x2 ⟨y2, rfl, hh2', gg2'⟩
               have hh2 := hh1.next hh2' gg2'
               have bb2 := gg2'.blk hh1.has bb1 (by decide)
               clear hh2' gg2'
               have q2_1 : x2.cell? ⟨wr.heap.size, 1, none⟩ = some (.slice ta2 tn2 tc2) := bb2.cell 1))
        all_goals
          go_wp2_with fail
          go_roundw
          case rel => exact ⟨i + 1, by go_num, by omega, by have := hh2; rw [HST.out]; simpa only [M.bTy, if_true, if_false, Bool.false_eq_true, List.append_assoc] using this⟩
          case measure => simp [intOf]; omega
    · obtain rfl : tn = i := by omega
      have hd2 := hd
      rw [many_end M.bTy HN1.out] at hd2
      have HD := Lib.hid hd2
      clear hd hd2 ht
      obtain ⟨b0, b1, b2, b3, b4, b5, b6, b7⟩ := imgBox (show Blk _ w.heap.size 28 #[.slice ta tn tc, .slice sa sn sc, .slice xa xn xc, .slice na nn nc, .slice fa fn fc, .int .i64 mi, .int .i64 ei] by rw [HCS.out]; exact HD.out.box)
      go_wp2_with fail
      refine (refNum_any (sn : Int) HD.out.has (Nat.le_trans HB.out HD.out.below.size) HZ.out.2.1 (by have hm := HXL.out; have h4 : M.bel4.length = 4 := rfl; simp only [List.length_append] at hm ⊢; omega)).mono ?_; rintro e w2 ⟨v2, rfl, h2, g2⟩
      have D2 := Lib.hid (HD.out.next h2 g2)
      clear b0 b1 b2 b3 b4 b5 b6 b7 h2 g2
      obtain ⟨b0, b1, b2, b3, b4, b5, b6, b7⟩ := imgBox (show Blk _ w.heap.size 28 #[.slice ta tn tc, .slice sa sn sc, .slice xa xn xc, .slice na nn nc, .slice fa fn fc, .int .i64 mi, .int .i64 ei] by rw [HCS.out]; exact D2.out.box)
      go_wp2_with fail
      clear b0 b1 b2 b3 b4 b5 b6 b7
      go_loopw [3, 49] (fun z q wr => ∃ i : Nat, q = .int .i64 i ∧ i ≤ sn ∧ Doc B w w.heap.size CS z (M.bel4 ++ M.many M.bTy T1 ++ M.num sn ++ (T2.take i).flatMap M.bSh) wr) (fun _ q _ => sn - (intOf q).toNat)
      case atStart => exact ⟨0, rfl, by omega, by simpa using D2.out⟩
      case round =>
        obtain ⟨i, rfl, hi, hd⟩ := hrel
        have ht := hd.below
        by_cases hlt : i < sn
        · skip
          obtain ⟨b1, off1, s, cs1, rfl, hbB1, hx1, hcl1, hq1, hc1⟩ := HL2.out.here hlt
          have hP1 := hq1
          obtain ⟨sa2, sn2, sc2, rfl, hr1⟩ := hq1
          have hbl1 : b1 < wr.heap.size := Nat.lt_of_lt_of_le (Nat.lt_of_lt_of_le hbB1 HB.out) ht.size
          have d10 : wr.cell? ⟨b1, off1 + i * 3, none⟩ = some (.int .i64 s.kind) := (World.cell?_of_block (w := w) (ht.block b1 hbB1)).trans (by simpa using hc1 0 (by decide))
          have d11 : wr.cell? ⟨b1, off1 + i * 3 + 1, none⟩ = some (.slice sa2 sn2 sc2) := (World.cell?_of_block (w := w) (ht.block b1 hbB1)).trans (by simpa using hc1 1 (by decide))
          have d12 : wr.cell? ⟨b1, off1 + i * 3 + 2, none⟩ = some (.string s.name) := (World.cell?_of_block (w := w) (ht.block b1 hbB1)).trans (by simpa using hc1 2 (by decide))
          clear hcl1 hr1 hc1
          have HST := Lib.hid (flat_step M.bSh hx1)
          have hlen : (M.bel4 ++ M.many M.bTy T1 ++ M.num sn ++ (T2.take i).flatMap M.bSh ++ M.bSh s).length ≤ 1000000000 := by
            have hfl := flat_take_le M.bSh T2 (i + 1)
            rw [HST.out] at hfl
            have h4 : M.bel4.length = 4 := rfl
            have hm := HXL.out
            simp only [M.many, List.length_append] at hm hfl ⊢
            simp only [HN1.out, HN2.out, HN3.out, HN4.out, HN5.out] at hm ⊢
            omega
          have HLEN := Lib.hid hlen
          clear hlen
          have HINT := Lib.hid hP1.at_len
          have HSHP := Lib.hid hP1.parts
          clear hx1 hP1
          have hh0 : Doc B w w.heap.size CS _ (M.bel4 ++ M.many M.bTy T1 ++ M.num sn ++ (T2.take i).flatMap M.bSh) (wr.alloc (.cells #[.int .i64 s.kind, .slice sa2 sn2 sc2, .string s.name] 51)).drew := hd.still HB.out (((Still.refl wr).alloc _).drew)
          have bb0 : Blk (wr.alloc (.cells #[.int .i64 s.kind, .slice sa2 sn2 sc2, .string s.name] 51)).drew wr.heap.size 51 #[.int .i64 s.kind, .slice sa2 sn2 sc2, .string s.name] := Blk.new wr _ _
          have q0_0 : (wr.alloc (.cells #[.int .i64 s.kind, .slice sa2 sn2 sc2, .string s.name] 51)).drew.cell? ⟨wr.heap.size, 0, none⟩ = some (.int .i64 s.kind) := bb0.cell 0
          have q0_1 : (wr.alloc (.cells #[.int .i64 s.kind, .slice sa2 sn2 sc2, .string s.name] 51)).drew.cell? ⟨wr.heap.size, 1, none⟩ = some (.slice sa2 sn2 sc2) := bb0.cell 1
          have q0_2 : (wr.alloc (.cells #[.int .i64 s.kind, .slice sa2 sn2 sc2, .string s.name] 51)).drew.cell? ⟨wr.heap.size, 2, none⟩ = some (.string s.name) := bb0.cell 2
          clear hd ht
          go_wp2_with fail
          go_region_held3 (fun W => W.cell? ⟨wr.heap.size, 0, none⟩ = some (.int .i64 s.kind) ∧ W.cell? ⟨wr.heap.size, 1, none⟩ = some (.slice sa2 sn2 sc2) ∧ W.cell? ⟨wr.heap.size, 2, none⟩ = some (.string s.name)) (first | exact ⟨q3_0, q3_1, q3_2⟩ | exact ⟨q2_0, q2_1, q2_2⟩ | exact ⟨q1_0, q1_1, q1_2⟩ | go_keep)
            (first
              | (go_at_call 46; refine (refNum_any s.kind hh0.has (Nat.le_trans HB.out hh0.below.size) HSHP.out.1 (by have := HLEN.out; simp only [M.bSh, List.length_append, if_true, if_false, Bool.false_eq_true] at this ⊢; omega)).mono ?_; rintro e x1 ⟨y1, rfl, hh1', gg1'⟩
                 have hh1 := hh0.next hh1' gg1'
                 have bb1 := gg1'.blk hh0.has bb0 (by decide)
                 clear hh1' gg1'
                 have q1_0 : x1.cell? ⟨wr.heap.size, 0, none⟩ = some (.int .i64 s.kind) := bb1.cell 0
                 have q1_1 : x1.cell? ⟨wr.heap.size, 1, none⟩ = some (.slice sa2 sn2 sc2) := bb1.cell 1
                 have q1_2 : x1.cell? ⟨wr.heap.size, 2, none⟩ = some (.string s.name) := bb1.cell 2)
              | (go_at_call 47; refine (refNums_any (c := sc2) hh1.has (Nat.le_trans HB.out hh1.below.size) ((Lib.hid HINT.out.2.1).out.keep hh1.below HB.out) HINT.out.2.2 (by have := HLEN.out; simp only [M.bSh, List.length_append, if_true, if_false, Bool.false_eq_true] at this ⊢; omega)).mono ?_; rintro e x2 ⟨y2, rfl, hh2', gg2'⟩
                 have hh2 := hh1.next hh2' gg2'
                 have bb2 := gg2'.blk hh1.has bb1 (by decide)
                 clear hh2' gg2'
                 have q2_0 : x2.cell? ⟨wr.heap.size, 0, none⟩ = some (.int .i64 s.kind) := bb2.cell 0
                 have q2_1 : x2.cell? ⟨wr.heap.size, 1, none⟩ = some (.slice sa2 sn2 sc2) := bb2.cell 1
                 have q2_2 : x2.cell? ⟨wr.heap.size, 2, none⟩ = some (.string s.name) := bb2.cell 2)
              | (go_at_call 48; refine (refText_any s.name hh2.has (Nat.le_trans HB.out hh2.below.size) HSHP.out.2 (by have := HLEN.out; simp only [M.bSh, List.length_append, if_true, if_false, Bool.false_eq_true] at this ⊢; omega)).mono ?_; rintro e x3 ⟨y3, rfl, hh3', gg3'⟩
                 have hh3 := hh2.next hh3' gg3'
                 have bb3 := gg3'.blk hh2.has bb2 (by decide)
                 clear hh3' gg3'
                 have q3_0 : x3.cell? ⟨wr.heap.size, 0, none⟩ = some (.int .i64 s.kind) := bb3.cell 0
                 have q3_1 : x3.cell? ⟨wr.heap.size, 1, none⟩ = some (.slice sa2 sn2 sc2) := bb3.cell 1
                 have q3_2 : x3.cell? ⟨wr.heap.size, 2, none⟩ = some (.string s.name) := bb3.cell 2))
          all_goals
            go_wp2_with fail
            go_roundw
            case rel => exact ⟨i + 1, by go_num, by omega, by have := hh3; rw [HST.out]; simpa only [M.bSh, if_true, if_false, Bool.false_eq_true, List.append_assoc] using this⟩
            case measure => simp [intOf]; omega
        · obtain rfl : sn = i := by omega
          have hd2 := hd
          rw [many_end M.bSh HN2.out] at hd2
          have HD := Lib.hid hd2
          clear hd hd2 ht
          obtain ⟨b0, b1, b2, b3, b4, b5, b6, b7⟩ := imgBox (show Blk _ w.heap.size 28 #[.slice ta tn tc, .slice sa sn sc, .slice xa xn xc, .slice na nn nc, .slice fa fn fc, .int .i64 mi, .int .i64 ei] by rw [HCS.out]; exact HD.out.box)
          go_wp2_with fail
          refine (refNum_any (xn : Int) HD.out.has (Nat.le_trans HB.out HD.out.below.size) HZ.out.2.2.1 (by have hm := HXL.out; have h4 : M.bel4.length = 4 := rfl; simp only [List.length_append] at hm ⊢; omega)).mono ?_; rintro e w3 ⟨v3, rfl, h3, g3⟩
          have D3 := Lib.hid (HD.out.next h3 g3)
          clear b0 b1 b2 b3 b4 b5 b6 b7 h3 g3
          obtain ⟨b0, b1, b2, b3, b4, b5, b6, b7⟩ := imgBox (show Blk _ w.heap.size 28 #[.slice ta tn tc, .slice sa sn sc, .slice xa xn xc, .slice na nn nc, .slice fa fn fc, .int .i64 mi, .int .i64 ei] by rw [HCS.out]; exact D3.out.box)
          go_wp2_with fail
          clear b0 b1 b2 b3 b4 b5 b6 b7
          go_loopw [3, 72] (fun z q wr => ∃ i : Nat, q = .int .i64 i ∧ i ≤ xn ∧ Doc B w w.heap.size CS z (M.bel4 ++ M.many M.bTy T1 ++ M.many M.bSh T2 ++ M.num xn ++ (T3.take i).flatMap M.text) wr) (fun _ q _ => xn - (intOf q).toNat)
          case atStart => exact ⟨0, rfl, by omega, by simpa using D3.out⟩
          case round =>
            obtain ⟨i, rfl, hi, hd⟩ := hrel
            have ht := hd.below
            by_cases hlt : i < xn
            · skip
              obtain ⟨b1, off1, s, cs1, rfl, hbB1, hx1, hcl1, hq1, hc1⟩ := HL3.out.here hlt
              have hP1 := hq1
              obtain ⟨rfl, hr1⟩ := hq1
              have hbl1 : b1 < wr.heap.size := Nat.lt_of_lt_of_le (Nat.lt_of_lt_of_le hbB1 HB.out) ht.size
              have d10 : wr.cell? ⟨b1, off1 + i, none⟩ = some (.string s) := (World.cell?_of_block (w := w) (ht.block b1 hbB1)).trans (by simpa using hc1 0 (by decide))
              clear hcl1 hr1 hc1
              have HST := Lib.hid (flat_step M.text hx1)
              have hlen : (M.bel4 ++ M.many M.bTy T1 ++ M.many M.bSh T2 ++ M.num xn ++ (T3.take i).flatMap M.text ++ M.text s).length ≤ 1000000000 := by
                have hfl := flat_take_le M.text T3 (i + 1)
                rw [HST.out] at hfl
                have h4 : M.bel4.length = 4 := rfl
                have hm := HXL.out
                simp only [M.many, List.length_append] at hm hfl ⊢
                simp only [HN1.out, HN2.out, HN3.out, HN4.out, HN5.out] at hm ⊢
                omega
              have HLEN := Lib.hid hlen
              clear hlen
              have HTX := Lib.hid (refText_any s hd.has (Nat.le_trans HB.out hd.below.size) hP1.2 HLEN.out)
              have HD := Lib.hid hd
              clear hx1 hP1 hd ht
              go_wp2_with fail
              refine HTX.out.mono ?_; rintro e x1 ⟨y1, rfl, h1, g1⟩
              have hh1 := HD.out.next h1 g1
              rw [List.append_assoc, ← HST.out] at hh1
              have HH1 := Lib.hid hh1
              clear h1 g1 hh1
              go_wp2_with fail
              go_roundw
              case rel => exact ⟨i + 1, by go_num, by omega, HH1.out⟩
              case measure => simp [intOf]; omega
            · obtain rfl : xn = i := by omega
              have hd2 := hd
              rw [many_end M.text HN3.out] at hd2
              have HD := Lib.hid hd2
              clear hd hd2 ht
              obtain ⟨b0, b1, b2, b3, b4, b5, b6, b7⟩ := imgBox (show Blk _ w.heap.size 28 #[.slice ta tn tc, .slice sa sn sc, .slice xa xn xc, .slice na nn nc, .slice fa fn fc, .int .i64 mi, .int .i64 ei] by rw [HCS.out]; exact HD.out.box)
              go_wp2_with fail
              refine (refNum_any (nn : Int) HD.out.has (Nat.le_trans HB.out HD.out.below.size) HZ.out.2.2.2.1 (by have hm := HXL.out; have h4 : M.bel4.length = 4 := rfl; simp only [List.length_append] at hm ⊢; omega)).mono ?_; rintro e w4 ⟨v4, rfl, h4, g4⟩
              have D4 := Lib.hid (HD.out.next h4 g4)
              clear b0 b1 b2 b3 b4 b5 b6 b7 h4 g4
              obtain ⟨b0, b1, b2, b3, b4, b5, b6, b7⟩ := imgBox (show Blk _ w.heap.size 28 #[.slice ta tn tc, .slice sa sn sc, .slice xa xn xc, .slice na nn nc, .slice fa fn fc, .int .i64 mi, .int .i64 ei] by rw [HCS.out]; exact D4.out.box)
              go_wp2_with fail
              clear b0 b1 b2 b3 b4 b5 b6 b7
              go_loopw [3, 88] (fun z q wr => ∃ i : Nat, q = .int .i64 i ∧ i ≤ nn ∧ Doc B w w.heap.size CS z (M.bel4 ++ M.many M.bTy T1 ++ M.many M.bSh T2 ++ M.many M.text T3 ++ M.num nn ++ (T4.take i).flatMap M.text) wr) (fun _ q _ => nn - (intOf q).toNat)
              case atStart => exact ⟨0, rfl, by omega, by simpa using D4.out⟩
              case round =>
                obtain ⟨i, rfl, hi, hd⟩ := hrel
                have ht := hd.below
                by_cases hlt : i < nn
                · skip
                  obtain ⟨b1, off1, s, cs1, rfl, hbB1, hx1, hcl1, hq1, hc1⟩ := HL4.out.here hlt
                  have hP1 := hq1
                  obtain ⟨rfl, hr1⟩ := hq1
                  have hbl1 : b1 < wr.heap.size := Nat.lt_of_lt_of_le (Nat.lt_of_lt_of_le hbB1 HB.out) ht.size
                  have d10 : wr.cell? ⟨b1, off1 + i, none⟩ = some (.string s) := (World.cell?_of_block (w := w) (ht.block b1 hbB1)).trans (by simpa using hc1 0 (by decide))
                  clear hcl1 hr1 hc1
                  have HST := Lib.hid (flat_step M.text hx1)
                  have hlen : (M.bel4 ++ M.many M.bTy T1 ++ M.many M.bSh T2 ++ M.many M.text T3 ++ M.num nn ++ (T4.take i).flatMap M.text ++ M.text s).length ≤ 1000000000 := by
                    have hfl := flat_take_le M.text T4 (i + 1)
                    rw [HST.out] at hfl
                    have h4 : M.bel4.length = 4 := rfl
                    have hm := HXL.out
                    simp only [M.many, List.length_append] at hm hfl ⊢
                    simp only [HN1.out, HN2.out, HN3.out, HN4.out, HN5.out] at hm ⊢
                    omega
                  have HLEN := Lib.hid hlen
                  clear hlen
                  have HTX := Lib.hid (refText_any s hd.has (Nat.le_trans HB.out hd.below.size) hP1.2 HLEN.out)
                  have HD := Lib.hid hd
                  clear hx1 hP1 hd ht
                  go_wp2_with fail
                  refine HTX.out.mono ?_; rintro e x1 ⟨y1, rfl, h1, g1⟩
                  have hh1 := HD.out.next h1 g1
                  rw [List.append_assoc, ← HST.out] at hh1
                  have HH1 := Lib.hid hh1
                  clear h1 g1 hh1
                  go_wp2_with fail
                  go_roundw
                  case rel => exact ⟨i + 1, by go_num, by omega, HH1.out⟩
                  case measure => simp [intOf]; omega
                · obtain rfl : nn = i := by omega
                  have hd2 := hd
                  rw [many_end M.text HN4.out] at hd2
                  have HD := Lib.hid hd2
                  clear hd hd2 ht
                  obtain ⟨b0, b1, b2, b3, b4, b5, b6, b7⟩ := imgBox (show Blk _ w.heap.size 28 #[.slice ta tn tc, .slice sa sn sc, .slice xa xn xc, .slice na nn nc, .slice fa fn fc, .int .i64 mi, .int .i64 ei] by rw [HCS.out]; exact HD.out.box)
                  go_wp2_with fail
                  refine (refNum_any (fn : Int) HD.out.has (Nat.le_trans HB.out HD.out.below.size) HZ.out.2.2.2.2.1 (by have hm := HXL.out; have h4 : M.bel4.length = 4 := rfl; simp only [List.length_append] at hm ⊢; omega)).mono ?_; rintro e w5 ⟨v5, rfl, h5, g5⟩
                  have D5 := Lib.hid (HD.out.next h5 g5)
                  clear b0 b1 b2 b3 b4 b5 b6 b7 h5 g5
                  obtain ⟨b0, b1, b2, b3, b4, b5, b6, b7⟩ := imgBox (show Blk _ w.heap.size 28 #[.slice ta tn tc, .slice sa sn sc, .slice xa xn xc, .slice na nn nc, .slice fa fn fc, .int .i64 mi, .int .i64 ei] by rw [HCS.out]; exact D5.out.box)
                  go_wp2_with fail
                  clear b0 b1 b2 b3 b4 b5 b6 b7
                  go_loopw [3, 104] (fun z q wr => ∃ i : Nat, q = .int .i64 i ∧ i ≤ fn ∧ Doc B w w.heap.size CS z (M.bel4 ++ M.many M.bTy T1 ++ M.many M.bSh T2 ++ M.many M.text T3 ++ M.many M.text T4 ++ M.num fn ++ (T5.take i).flatMap M.bFn) wr) (fun _ q _ => fn - (intOf q).toNat)
                  case atStart => exact ⟨0, rfl, by omega, by simpa using D5.out⟩
                  case round =>
                    obtain ⟨i, rfl, hi, hd⟩ := hrel
                    have ht := hd.below
                    by_cases hlt : i < fn
                    · skip
                      obtain ⟨b1, off1, f, cs1, rfl, hbB1, hx1, hcl1, hq1, hc1⟩ := HL5.out.here hlt
                      have hP1 := hq1
                      obtain ⟨pa, pn, pc, ba, bn, bc, rfl, hr1⟩ := hq1
                      have hbl1 : b1 < wr.heap.size := Nat.lt_of_lt_of_le (Nat.lt_of_lt_of_le hbB1 HB.out) ht.size
                      have d10 : wr.cell? ⟨b1, off1 + i * 4, none⟩ = some (.slice pa pn pc) := (World.cell?_of_block (w := w) (ht.block b1 hbB1)).trans (by simpa using hc1 0 (by decide))
                      have d11 : wr.cell? ⟨b1, off1 + i * 4 + 1, none⟩ = some (.int .i64 f.result) := (World.cell?_of_block (w := w) (ht.block b1 hbB1)).trans (by simpa using hc1 1 (by decide))
                      have d12 : wr.cell? ⟨b1, off1 + i * 4 + 2, none⟩ = some (.int .i64 f.slots) := (World.cell?_of_block (w := w) (ht.block b1 hbB1)).trans (by simpa using hc1 2 (by decide))
                      have d13 : wr.cell? ⟨b1, off1 + i * 4 + 3, none⟩ = some (.slice ba bn bc) := (World.cell?_of_block (w := w) (ht.block b1 hbB1)).trans (by simpa using hc1 3 (by decide))
                      clear hcl1 hr1 hc1
                      have HST := Lib.hid (flat_step M.bFn hx1)
                      have hlen : (M.bel4 ++ M.many M.bTy T1 ++ M.many M.bSh T2 ++ M.many M.text T3 ++ M.many M.text T4 ++ M.num fn ++ (T5.take i).flatMap M.bFn ++ M.bFn f).length ≤ 1000000000 := by
                        have hfl := flat_take_le M.bFn T5 (i + 1)
                        rw [HST.out] at hfl
                        have h4 : M.bel4.length = 4 := rfl
                        have hm := HXL.out
                        simp only [M.many, List.length_append] at hm hfl ⊢
                        simp only [HN1.out, HN2.out, HN3.out, HN4.out, HN5.out] at hm ⊢
                        omega
                      have HLEN := Lib.hid hlen
                      clear hlen
                      have HINT := Lib.hid hP1.at_len
                      clear hx1 hP1
                      have hh0 : Doc B w w.heap.size CS _ (M.bel4 ++ M.many M.bTy T1 ++ M.many M.bSh T2 ++ M.many M.text T3 ++ M.many M.text T4 ++ M.num fn ++ (T5.take i).flatMap M.bFn) (wr.alloc (.cells #[.slice pa pn pc, .int .i64 f.result, .int .i64 f.slots, .slice ba bn bc] 55)).drew := hd.still HB.out (((Still.refl wr).alloc _).drew)
                      have bb0 : Blk (wr.alloc (.cells #[.slice pa pn pc, .int .i64 f.result, .int .i64 f.slots, .slice ba bn bc] 55)).drew wr.heap.size 55 #[.slice pa pn pc, .int .i64 f.result, .int .i64 f.slots, .slice ba bn bc] := Blk.new wr _ _
                      have q0_0 : (wr.alloc (.cells #[.slice pa pn pc, .int .i64 f.result, .int .i64 f.slots, .slice ba bn bc] 55)).drew.cell? ⟨wr.heap.size, 0, none⟩ = some (.slice pa pn pc) := bb0.cell 0
                      have q0_1 : (wr.alloc (.cells #[.slice pa pn pc, .int .i64 f.result, .int .i64 f.slots, .slice ba bn bc] 55)).drew.cell? ⟨wr.heap.size, 1, none⟩ = some (.int .i64 f.result) := bb0.cell 1
                      have q0_2 : (wr.alloc (.cells #[.slice pa pn pc, .int .i64 f.result, .int .i64 f.slots, .slice ba bn bc] 55)).drew.cell? ⟨wr.heap.size, 2, none⟩ = some (.int .i64 f.slots) := bb0.cell 2
                      have q0_3 : (wr.alloc (.cells #[.slice pa pn pc, .int .i64 f.result, .int .i64 f.slots, .slice ba bn bc] 55)).drew.cell? ⟨wr.heap.size, 3, none⟩ = some (.slice ba bn bc) := bb0.cell 3
                      clear hd ht
                      go_wp2_with fail
                      go_region_held3 (fun W => W.cell? ⟨wr.heap.size, 0, none⟩ = some (.slice pa pn pc) ∧ W.cell? ⟨wr.heap.size, 1, none⟩ = some (.int .i64 f.result) ∧ W.cell? ⟨wr.heap.size, 2, none⟩ = some (.int .i64 f.slots) ∧ W.cell? ⟨wr.heap.size, 3, none⟩ = some (.slice ba bn bc)) (first | exact ⟨q4_0, q4_1, q4_2, q4_3⟩ | exact ⟨q3_0, q3_1, q3_2, q3_3⟩ | exact ⟨q2_0, q2_1, q2_2, q2_3⟩ | exact ⟨q1_0, q1_1, q1_2, q1_3⟩ | go_keep)
                        (first
                          | (go_at_call 47; refine (refNums_any (c := pc) hh0.has (Nat.le_trans HB.out hh0.below.size) ((Lib.hid HINT.out.2.1).out.keep hh0.below HB.out) HINT.out.2.2.1 (by have := HLEN.out; simp only [M.bFn, List.length_append, if_true, if_false, Bool.false_eq_true] at this ⊢; omega)).mono ?_; rintro e x1 ⟨y1, rfl, hh1', gg1'⟩
                             have hh1 := hh0.next hh1' gg1'
                             have bb1 := gg1'.blk hh0.has bb0 (by decide)
                             clear hh1' gg1'
                             have q1_0 : x1.cell? ⟨wr.heap.size, 0, none⟩ = some (.slice pa pn pc) := bb1.cell 0
                             have q1_1 : x1.cell? ⟨wr.heap.size, 1, none⟩ = some (.int .i64 f.result) := bb1.cell 1
                             have q1_2 : x1.cell? ⟨wr.heap.size, 2, none⟩ = some (.int .i64 f.slots) := bb1.cell 2
                             have q1_3 : x1.cell? ⟨wr.heap.size, 3, none⟩ = some (.slice ba bn bc) := bb1.cell 3)
                          | (go_at_call 46; refine (refNum_any f.result hh1.has (Nat.le_trans HB.out hh1.below.size) HINT.out.2.2.2.2.2.2.1 (by have := HLEN.out; simp only [M.bFn, List.length_append, if_true, if_false, Bool.false_eq_true] at this ⊢; omega)).mono ?_; rintro e x2 ⟨y2, rfl, hh2', gg2'⟩
                             have hh2 := hh1.next hh2' gg2'
                             have bb2 := gg2'.blk hh1.has bb1 (by decide)
                             clear hh2' gg2'
                             have q2_0 : x2.cell? ⟨wr.heap.size, 0, none⟩ = some (.slice pa pn pc) := bb2.cell 0
                             have q2_1 : x2.cell? ⟨wr.heap.size, 1, none⟩ = some (.int .i64 f.result) := bb2.cell 1
                             have q2_2 : x2.cell? ⟨wr.heap.size, 2, none⟩ = some (.int .i64 f.slots) := bb2.cell 2
                             have q2_3 : x2.cell? ⟨wr.heap.size, 3, none⟩ = some (.slice ba bn bc) := bb2.cell 3)
                          | (go_at_call 46; refine (refNum_any f.slots hh2.has (Nat.le_trans HB.out hh2.below.size) HINT.out.2.2.2.2.2.2.2 (by have := HLEN.out; simp only [M.bFn, List.length_append, if_true, if_false, Bool.false_eq_true] at this ⊢; omega)).mono ?_; rintro e x3 ⟨y3, rfl, hh3', gg3'⟩
                             have hh3 := hh2.next hh3' gg3'
                             have bb3 := gg3'.blk hh2.has bb2 (by decide)
                             clear hh3' gg3'
                             have q3_0 : x3.cell? ⟨wr.heap.size, 0, none⟩ = some (.slice pa pn pc) := bb3.cell 0
                             have q3_1 : x3.cell? ⟨wr.heap.size, 1, none⟩ = some (.int .i64 f.result) := bb3.cell 1
                             have q3_2 : x3.cell? ⟨wr.heap.size, 2, none⟩ = some (.int .i64 f.slots) := bb3.cell 2
                             have q3_3 : x3.cell? ⟨wr.heap.size, 3, none⟩ = some (.slice ba bn bc) := bb3.cell 3)
                          | (go_at_call 46; refine (refNum_any (bn : Int) hh3.has (Nat.le_trans HB.out hh3.below.size) (M.num_nat HINT.out.2.2.2.2.2.1) (by have := HLEN.out; simp only [M.bFn, M.many, HINT.out.2.2.2.1, List.length_append] at this ⊢; omega)).mono ?_; rintro e x4 ⟨y4, rfl, hh4', gg4'⟩
                             have hh4 := hh3.next hh4' gg4'
                             have bb4 := gg4'.blk hh3.has bb3 (by decide)
                             clear hh4' gg4'
                             have q4_0 : x4.cell? ⟨wr.heap.size, 0, none⟩ = some (.slice pa pn pc) := bb4.cell 0
                             have q4_1 : x4.cell? ⟨wr.heap.size, 1, none⟩ = some (.int .i64 f.result) := bb4.cell 1
                             have q4_2 : x4.cell? ⟨wr.heap.size, 2, none⟩ = some (.int .i64 f.slots) := bb4.cell 2
                             have q4_3 : x4.cell? ⟨wr.heap.size, 3, none⟩ = some (.slice ba bn bc) := bb4.cell 3))
                      all_goals
                        have HF4 : Hid (Doc B w w.heap.size CS _ (M.bel4 ++ M.many M.bTy T1 ++ M.many M.bSh T2 ++ M.many M.text T3 ++ M.many M.text T4 ++ M.num fn ++ (T5.take i).flatMap M.bFn ++ M.nums f.params ++ M.num f.result ++ M.num f.slots ++ M.num bn) _) := hh4
                        obtain ⟨f0, f1, f2, f3, f4⟩ : wr.heap.size < x4.heap.size ∧ x4.cell? ⟨wr.heap.size, 0, none⟩ = some (.slice pa pn pc) ∧ x4.cell? ⟨wr.heap.size, 1, none⟩ = some (.int .i64 f.result) ∧ x4.cell? ⟨wr.heap.size, 2, none⟩ = some (.int .i64 f.slots) ∧ x4.cell? ⟨wr.heap.size, 3, none⟩ = some (.slice ba bn bc) := ⟨bb4.lt, bb4.cell 0, bb4.cell 1, bb4.cell 2, bb4.cell 3⟩
                        clear hh0 hh1 hh2 hh3 hh4 bb0 bb1 bb2 bb3 bb4
                        have HBLK := Lib.hid HINT.out.2.2.2.2.1
                        have HBL3 := Lib.hid HINT.out.2.2.2.1
                        have hn63 : bn ≤ 9223372036854775807 := by have := HINT.out.2.2.2.2.2.1; unfold maxLen at this; omega
                        go_wp2_with fail
                        clear f0 f1 f2 f3 f4
                        go_loopw [3, 125] (fun z q wr => ∃ j : Nat, q = .int .i64 j ∧ j ≤ bn ∧ Doc B w w.heap.size CS z (M.bel4 ++ M.many M.bTy T1 ++ M.many M.bSh T2 ++ M.many M.text T3 ++ M.many M.text T4 ++ M.num fn ++ (T5.take i).flatMap M.bFn ++ M.nums f.params ++ M.num f.result ++ M.num f.slots ++ M.num bn ++ (f.blocks.take j).flatMap M.bBk) wr) (fun _ q _ => bn - (intOf q).toNat)
                        case atStart => exact ⟨0, rfl, by omega, by simpa using HF4.out⟩
                        case round =>
                          obtain ⟨j, rfl, hj, hd⟩ := hrel
                          have ht := hd.below
                          by_cases hlt2 : j < bn
                          · skip
                            obtain ⟨b2, off2, k, cs2, rfl, hbB2, hx2, hcl2, hq2, hc2⟩ := HBLK.out.here hlt2
                            have hP2 := hq2
                            obtain ⟨ia, inn, ic, ca, cn, cc, rfl, hr2⟩ := hq2
                            have hbl2 : b2 < wr.heap.size := Nat.lt_of_lt_of_le (Nat.lt_of_lt_of_le hbB2 HB.out) ht.size
                            have d20 : wr.cell? ⟨b2, off2 + j * 2, none⟩ = some (.slice ia inn ic) := (World.cell?_of_block (w := w) (ht.block b2 hbB2)).trans (by simpa using hc2 0 (by decide))
                            have d21 : wr.cell? ⟨b2, off2 + j * 2 + 1, none⟩ = some (.slice ca cn cc) := (World.cell?_of_block (w := w) (ht.block b2 hbB2)).trans (by simpa using hc2 1 (by decide))
                            clear hcl2 hr2 hc2
                            have HST2 := Lib.hid (flat_step M.bBk hx2)
                            have HINT2 := Lib.hid hP2.at_len
                            have hlen : (M.bel4 ++ M.many M.bTy T1 ++ M.many M.bSh T2 ++ M.many M.text T3 ++ M.many M.text T4 ++ M.num fn ++ (T5.take i).flatMap M.bFn ++ M.nums f.params ++ M.num f.result ++ M.num f.slots ++ M.num bn ++ (f.blocks.take j).flatMap M.bBk ++ M.bBk k).length ≤ 1000000000 := by
                              have hfl := flat_take_le M.bBk f.blocks (j + 1)
                              rw [HST2.out] at hfl
                              have := HLEN.out
                              simp only [M.bFn, M.many, HBL3.out, List.length_append] at this hfl ⊢
                              omega
                            have HLEN2 := Lib.hid hlen
                            clear hlen hx2 hP2
                            have hh0 : Doc B w w.heap.size CS _ (M.bel4 ++ M.many M.bTy T1 ++ M.many M.bSh T2 ++ M.many M.text T3 ++ M.many M.text T4 ++ M.num fn ++ (T5.take i).flatMap M.bFn ++ M.nums f.params ++ M.num f.result ++ M.num f.slots ++ M.num bn ++ (f.blocks.take j).flatMap M.bBk) (wr.alloc (.cells #[.slice ia inn ic, .slice ca cn cc] 85)).drew := hd.still HB.out (((Still.refl wr).alloc _).drew)
                            have bb0 : Blk (wr.alloc (.cells #[.slice ia inn ic, .slice ca cn cc] 85)).drew wr.heap.size 85 #[.slice ia inn ic, .slice ca cn cc] := Blk.new wr _ _
                            have q0_0 : (wr.alloc (.cells #[.slice ia inn ic, .slice ca cn cc] 85)).drew.cell? ⟨wr.heap.size, 0, none⟩ = some (.slice ia inn ic) := bb0.cell 0
                            have q0_1 : (wr.alloc (.cells #[.slice ia inn ic, .slice ca cn cc] 85)).drew.cell? ⟨wr.heap.size, 1, none⟩ = some (.slice ca cn cc) := bb0.cell 1
                            clear hd ht
                            go_wp2_with fail
                            go_region_held3 (fun W => W.cell? ⟨wr.heap.size, 0, none⟩ = some (.slice ia inn ic) ∧ W.cell? ⟨wr.heap.size, 1, none⟩ = some (.slice ca cn cc)) (first | exact ⟨q2_0, q2_1⟩ | exact ⟨q1_0, q1_1⟩ | go_keep)
                              (first
                                | (go_at_call 47; refine (refNums_any (c := ic) hh0.has (Nat.le_trans HB.out hh0.below.size) ((Lib.hid HINT2.out.2.1).out.keep hh0.below HB.out) HINT2.out.2.2.1 (by have := HLEN2.out; simp only [M.bBk, M.many, HINT2.out.2.2.2.1, List.length_append] at this ⊢; omega)).mono ?_; rintro e x1 ⟨y1, rfl, hh1', gg1'⟩
                                   have hh1 := hh0.next hh1' gg1'
                                   have bb1 := gg1'.blk hh0.has bb0 (by decide)
                                   clear hh1' gg1'
                                   have q1_0 : x1.cell? ⟨wr.heap.size, 0, none⟩ = some (.slice ia inn ic) := bb1.cell 0
                                   have q1_1 : x1.cell? ⟨wr.heap.size, 1, none⟩ = some (.slice ca cn cc) := bb1.cell 1)
                                | (go_at_call 46; refine (refNum_any (cn : Int) hh1.has (Nat.le_trans HB.out hh1.below.size) (M.num_nat HINT2.out.2.2.2.2.2) (by have := HLEN2.out; simp only [M.bBk, M.many, HINT2.out.2.2.2.1, List.length_append] at this ⊢; omega)).mono ?_; rintro e x2 ⟨y2, rfl, hh2', gg2'⟩
                                   have hh2 := hh1.next hh2' gg2'
                                   have bb2 := gg2'.blk hh1.has bb1 (by decide)
                                   clear hh2' gg2'
                                   have q2_0 : x2.cell? ⟨wr.heap.size, 0, none⟩ = some (.slice ia inn ic) := bb2.cell 0
                                   have q2_1 : x2.cell? ⟨wr.heap.size, 1, none⟩ = some (.slice ca cn cc) := bb2.cell 1))
                            all_goals
                              have HF2 : Hid (Doc B w w.heap.size CS _ (M.bel4 ++ M.many M.bTy T1 ++ M.many M.bSh T2 ++ M.many M.text T3 ++ M.many M.text T4 ++ M.num fn ++ (T5.take i).flatMap M.bFn ++ M.nums f.params ++ M.num f.result ++ M.num f.slots ++ M.num bn ++ (f.blocks.take j).flatMap M.bBk ++ M.nums k.inn ++ M.num cn) _) := hh2
                              obtain ⟨f0, f1, f2⟩ : wr.heap.size < x2.heap.size ∧ x2.cell? ⟨wr.heap.size, 0, none⟩ = some (.slice ia inn ic) ∧ x2.cell? ⟨wr.heap.size, 1, none⟩ = some (.slice ca cn cc) := ⟨bb2.lt, bb2.cell 0, bb2.cell 1⟩
                              clear hh0 hh1 hh2 bb0 bb1 bb2
                              have HCOD := Lib.hid HINT2.out.2.2.2.2.1
                              have HCO3 := Lib.hid HINT2.out.2.2.2.1
                              have hc63 : cn ≤ 9223372036854775807 := by have := HINT2.out.2.2.2.2.2; unfold maxLen at this; omega
                              go_wp2_with fail
                              clear f0 f1 f2
                              go_loopw [3, 140] (fun z q wr => ∃ l : Nat, q = .int .i64 l ∧ l ≤ cn ∧ Doc B w w.heap.size CS z (M.bel4 ++ M.many M.bTy T1 ++ M.many M.bSh T2 ++ M.many M.text T3 ++ M.many M.text T4 ++ M.num fn ++ (T5.take i).flatMap M.bFn ++ M.nums f.params ++ M.num f.result ++ M.num f.slots ++ M.num bn ++ (f.blocks.take j).flatMap M.bBk ++ M.nums k.inn ++ M.num cn ++ (k.code.take l).flatMap M.bIns) wr) (fun _ q _ => cn - (intOf q).toNat)
                              case atStart => exact ⟨0, rfl, by omega, by simpa using HF2.out⟩
                              case round =>
                                obtain ⟨l, rfl, hl, hd⟩ := hrel
                                have ht := hd.below
                                by_cases hlt3 : l < cn
                                · skip
                                  obtain ⟨b3, off3, x, cs3, rfl, hbB3, hx3, hcl3, hq3, hc3⟩ := HCOD.out.here hlt3
                                  have hP3 := hq3
                                  obtain ⟨la, ln, lc, ma, mn, mc, va, vn, vc, rfl, hr3⟩ := hq3
                                  have hbl3 : b3 < wr.heap.size := Nat.lt_of_lt_of_le (Nat.lt_of_lt_of_le hbB3 HB.out) ht.size
                                  have d30 : wr.cell? ⟨b3, off3 + l * 9, none⟩ = some (.int .i64 x.op) := (World.cell?_of_block (w := w) (ht.block b3 hbB3)).trans (by simpa using hc3 0 (by decide))
                                  have d31 : wr.cell? ⟨b3, off3 + l * 9 + 1, none⟩ = some (.int .i64 x.d) := (World.cell?_of_block (w := w) (ht.block b3 hbB3)).trans (by simpa using hc3 1 (by decide))
                                  have d32 : wr.cell? ⟨b3, off3 + l * 9 + 2, none⟩ = some (.int .i64 x.a) := (World.cell?_of_block (w := w) (ht.block b3 hbB3)).trans (by simpa using hc3 2 (by decide))
                                  have d33 : wr.cell? ⟨b3, off3 + l * 9 + 3, none⟩ = some (.int .i64 x.b) := (World.cell?_of_block (w := w) (ht.block b3 hbB3)).trans (by simpa using hc3 3 (by decide))
                                  have d34 : wr.cell? ⟨b3, off3 + l * 9 + 4, none⟩ = some (.int .i64 x.c) := (World.cell?_of_block (w := w) (ht.block b3 hbB3)).trans (by simpa using hc3 4 (by decide))
                                  have d35 : wr.cell? ⟨b3, off3 + l * 9 + 5, none⟩ = some (.int .i64 x.n) := (World.cell?_of_block (w := w) (ht.block b3 hbB3)).trans (by simpa using hc3 5 (by decide))
                                  have d36 : wr.cell? ⟨b3, off3 + l * 9 + 6, none⟩ = some (.slice la ln lc) := (World.cell?_of_block (w := w) (ht.block b3 hbB3)).trans (by simpa using hc3 6 (by decide))
                                  have d37 : wr.cell? ⟨b3, off3 + l * 9 + 7, none⟩ = some (.slice ma mn mc) := (World.cell?_of_block (w := w) (ht.block b3 hbB3)).trans (by simpa using hc3 7 (by decide))
                                  have d38 : wr.cell? ⟨b3, off3 + l * 9 + 8, none⟩ = some (.slice va vn vc) := (World.cell?_of_block (w := w) (ht.block b3 hbB3)).trans (by simpa using hc3 8 (by decide))
                                  clear hcl3 hr3 hc3
                                  have HST3 := Lib.hid (flat_step M.bIns hx3)
                                  have hlen : (M.bel4 ++ M.many M.bTy T1 ++ M.many M.bSh T2 ++ M.many M.text T3 ++ M.many M.text T4 ++ M.num fn ++ (T5.take i).flatMap M.bFn ++ M.nums f.params ++ M.num f.result ++ M.num f.slots ++ M.num bn ++ (f.blocks.take j).flatMap M.bBk ++ M.nums k.inn ++ M.num cn ++ (k.code.take l).flatMap M.bIns ++ M.bIns x).length ≤ 1000000000 := by
                                    have hfl := flat_take_le M.bIns k.code (l + 1)
                                    rw [HST3.out] at hfl
                                    have := HLEN2.out
                                    simp only [M.bBk, M.many, HCO3.out, List.length_append] at this hfl ⊢
                                    omega
                                  have hS : Still wr (wr.alloc (.cells #[.int .i64 x.op, .int .i64 x.d, .int .i64 x.a, .int .i64 x.b, .int .i64 x.c, .int .i64 x.n, .slice la ln lc, .slice ma mn mc, .slice va vn vc] 70)) := (Still.refl wr).alloc _
                                  have hda := hd.still HB.out hS
                                  have HINS := Lib.hid (refInstr_any hda.has (Nat.le_trans HB.out hda.below.size) (hP3.keep hda.below HB.out) hlen)
                                  have HDA := Lib.hid hda
                                  clear hlen hx3 hP3 hd ht hda hS
                                  go_wp2_with fail
                                  refine HINS.out.mono ?_; rintro e x1 ⟨y1, rfl, h1, g1⟩
                                  have hh1 := HDA.out.next h1 g1
                                  rw [List.append_assoc _ _ (M.bIns x), ← HST3.out] at hh1
                                  have HH1 := Lib.hid hh1
                                  clear h1 g1 hh1
                                  go_wp2_with fail
                                  go_roundw
                                  case rel => exact ⟨l + 1, by go_num, by omega, HH1.out⟩
                                  case measure => simp [intOf]; omega
                                · obtain rfl : l = cn := by omega
                                  have hd2 := hd
                                  rw [many_end M.bIns HCO3.out] at hd2
                                  have HD2 := Lib.hid hd2
                                  clear hd hd2 ht
                                  go_wp2_with fail
                                  go_roundw
                                  case rel => exact ⟨j + 1, by go_num, by omega, by have := HD2.out; rw [HST2.out]; simpa only [M.bBk, List.append_assoc] using this⟩
                                  case measure => simp [intOf]; omega
                          · obtain rfl : j = bn := by omega
                            have hd2 := hd
                            rw [many_end M.bBk HBL3.out] at hd2
                            have HD2 := Lib.hid hd2
                            clear hd hd2 ht
                            go_wp2_with fail
                            go_roundw
                            case rel => exact ⟨i + 1, by go_num, by omega, by have := HD2.out; rw [HST.out]; simpa only [M.bFn, List.append_assoc] using this⟩
                            case measure => simp [intOf]; omega
                    · obtain rfl : fn = i := by omega
                      have hd2 := hd
                      rw [many_end M.bFn HN5.out] at hd2
                      have hh0 := hd2.still HB.out ((Still.refl wr).drew)
                      have bb0 : Blk wr.drew w.heap.size 28 #[.slice ta tn tc, .slice sa sn sc, .slice xa xn xc, .slice na nn nc, .slice fa fn fc, .int .i64 mi, .int .i64 ei] := by rw [HCS.out]; exact hd2.box
                      have q0_5 : wr.drew.cell? ⟨w.heap.size, 5, none⟩ = some (.int .i64 mi) := bb0.cell 5
                      have q0_6 : wr.drew.cell? ⟨w.heap.size, 6, none⟩ = some (.int .i64 ei) := bb0.cell 6
                      clear hd hd2 ht
                      go_wp2_with fail
                      go_region_held3 (fun W => W.cell? ⟨w.heap.size, 5, none⟩ = some (.int .i64 mi) ∧ W.cell? ⟨w.heap.size, 6, none⟩ = some (.int .i64 ei)) (first | exact ⟨q2_5, q2_6⟩ | exact ⟨q1_5, q1_6⟩ | go_keep)
                        (first
                          | (go_at_call 46; refine (refNum_any mi hh0.has (Nat.le_trans HB.out hh0.below.size) HZ.out.2.2.2.2.2.1 (by have hm := HXL.out; have h4 : M.bel4.length = 4 := rfl; have hz := M.num_len HZ.out.2.2.2.2.2.1; simp only [List.length_append] at hm ⊢; omega)).mono ?_; rintro e x1 ⟨y1, rfl, hh1', gg1'⟩
                             have hh1 := hh0.next hh1' gg1'
                             have bb1 := gg1'.blk hh0.has bb0 (by decide)
                             clear hh1' gg1'
                             have q1_5 : x1.cell? ⟨w.heap.size, 5, none⟩ = some (.int .i64 mi) := bb1.cell 5
                             have q1_6 : x1.cell? ⟨w.heap.size, 6, none⟩ = some (.int .i64 ei) := bb1.cell 6)
                          | (go_at_call 46; refine (refNum_any ei hh1.has (Nat.le_trans HB.out hh1.below.size) HZ.out.2.2.2.2.2.2 (by have hm := HXL.out; have h4 : M.bel4.length = 4 := rfl; have hz := M.num_len HZ.out.2.2.2.2.2.1; simp only [List.length_append] at hm ⊢; omega)).mono ?_; rintro e x2 ⟨y2, rfl, hh2', gg2'⟩
                             have hh2 := hh1.next hh2' gg2'
                             have bb2 := gg2'.blk hh1.has bb1 (by decide)
                             clear hh2' gg2'
                             have q2_5 : x2.cell? ⟨w.heap.size, 5, none⟩ = some (.int .i64 mi) := bb2.cell 5
                             have q2_6 : x2.cell? ⟨w.heap.size, 6, none⟩ = some (.int .i64 ei) := bb2.cell 6))
                      all_goals
                        go_wp2_with fail
                        go_ret
                        refine ⟨y2, rfl, ?_, hh2.below⟩
                        have := hh2.has
                        rw [HE.out]
                        simpa only [List.append_assoc] using this
end Go.Proofs.YthlifflapgccbaaGreat
