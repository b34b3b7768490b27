/- Lemmas, put together: Same Does DoesA DoesB DoesC DoesD. -/
import Derived.Test.YthfkgkddklnnhaaK17
import Derived.StillTailTactics
import Derived.Deep.RegionWith
import Derived.Test.YthfkgkddklnnhaaK08
/- The laws' own Same: of two that say the same it says so. -/
namespace Go.Proofs.Ythfkgkddklnnhaa
set_option linter.unusedVariables false
open Go.ChangeShapes Go.WideShapes Go.ChangeAt Go.RowKit
open M (W)

set_option maxRecDepth 100000 in
set_option maxHeartbeats 8000000 in
theorem same_any {B : Nat} (s : St) (x : Rf) (w : World) (h : Agree B w s x) :
    Calls Try.prog 15 #[s.ptr, x.ptr] w fun e w' => e = .returned (.bool true) ∧ Still w w' := by
  have HTOP := fun W (hW : HpIs W s) => top_any s W hW
  have HRT := fun W (hW : RfIs B W x) => refTop_any x W hW h.valid
  rw [h.sum] at HRT
  have HH := Lib.hid h
  have HROW := Lib.hid (fun W (hW : Agree B W s x) => row_any s x W hW)
  have hpl := h.sim.places
  have HOB := Lib.hid (fun W (hW : HpIs W s) => objects_any s W hW (by have := hW.n_le; have := hW.top_le; omega))
  have HSZ := fun W (hW : HpIs W s) => size_any s W hW
  have HT1 := Lib.hid HTOP
  have HT2 := Lib.hid HRT
  have HT3 := Lib.hid HSZ
  clear HTOP HRT HSZ
  obtain ⟨la, lc, hlv⟩ := h.rf.lv_slice
  have c2 := h.rf.c2
  rw [hlv] at c2
  have HLV := Lib.hid hlv
  have HPL := Lib.hid hpl
  have hfew := h.rf.few
  clear h hlv hpl
  go_enter Try.func15, Try.ntmps15
  go_wp2_with fail
  have x1 : ((s.top : Int) != s.top) = false := by simp
  have x2 : ((s.n : Int) != s.n) = false := by simp
  have hgx := HH.out.rf.blk.lt
  have c0 := HH.out.rf.c0
  rw [HH.out.n] at c0
  have hsm := HH.out.hp.n_le
  have HSD : Hid (Still w w.drew) := Turn.drew (Still.refl w)
  have HPD := Lib.hid (HH.out.hp.still HSD.out)
  have HRD := Lib.hid (HH.out.rf.still HSD.out)
  go_region_with (first
    | (go_at_call 12; (with_reducible refine (HT1.out _ HPD.out).mono ?_); rintro e w1 ⟨rfl, rfl⟩)
    | (go_at_call 13; (with_reducible refine (HT2.out _ HRD.out).mono ?_); rintro e w1 ⟨rfl, t1⟩
       have HTT : Hid (Still w w1) := HSD.out.trans t1
       have HPT := Lib.hid (HH.out.hp.still HTT.out)
       have c0' : w1.cell? ⟨x.gx, 0, none⟩ = some (.int .i64 s.n) := by rw [HTT.out.cell hgx]; exact c0
       have hgx' : x.gx < w1.heap.size := Nat.lt_of_lt_of_le hgx HTT.out.size
       clear t1)
    | (go_at_call 31; (with_reducible refine (HT3.out _ HPT.out).mono ?_); rintro e w2 ⟨rfl, rfl⟩))
  all_goals (
    clear c0' hgx' x1 x2 HPD HRD
    go_simp
    go_wp2_with fail
    have HAG := Lib.hid (HH.out.still HTT.out)
    refine (HROW.out _ HAG.out).mono ?_; rintro e w3 ⟨⟨ra, rc, rfl, hown⟩, t3⟩
    have HT3' := Lib.hid (HTT.out.trans t3)
    have HOW := Lib.hid hown
    clear t3 hown HTT HPT HAG
    go_wp2_with fail
    go_loopw [31] (fun v wr => ∃ i : Nat, v = .int .i64 i ∧ i ≤ s.n ∧ wr = w3) (fun v _ => s.n - (intOf v).toNat)
    case atStart => exact ⟨0, rfl, by omega, rfl⟩
    case round =>
      obtain ⟨i, rfl, hi, rfl⟩ := hrel
      by_cases hlt : i < s.n
      · obtain ⟨gr, hra, hgr, hr1, hr2, hr3, _⟩ := own_form HOW.out (by omega)
        have hcell := hr3 i _ (u64s_get s.ws s.n i hlt)
        subst hra
        unfold maxLen at hr2
        have xx : ((s.ws i : Int) != s.ws i) = false := by simp
        have HLD := Lib.hid (load_in s i wr (HH.out.hp.still HT3'.out) hlt)
        clear hr3
        go_wp2_with fail
        refine HLD.out.mono ?_; rintro e w4 ⟨rfl, rfl⟩
        go_wp2_with fail
        go_roundw
        case rel => exact ⟨i + 1, by go_num, by omega, trivial⟩
        case measure => simp [intOf]; omega
      · clear hi
        go_wp2_with fail
        refine (HOB.out _ (HH.out.hp.still HT3'.out)).mono ?_; rintro e w5 ⟨⟨oa, oc, rfl, hown⟩, t5⟩
        rw [HPL.out, List.length_map]
        have HT5 := Lib.hid (HT3'.out.trans t5)
        have HOO : Hid (w5.ownsRow wr.heap.size 3 1 (.slice oa x.L.length oc) x.L.length (M.ints (x.L.map RO.at_))) := by
          have := hown; unfold St.owns at this; rw [HPL.out, List.length_map] at this; exact this
        clear t5 hown HOW
        have c25 : w5.cell? ⟨x.gx, 2, none⟩ = some (.slice la x.L.length lc) := by rw [HT5.out.cell hgx]; exact c2
        have hgx5 : x.gx < w5.heap.size := Nat.lt_of_lt_of_le hgx HT5.out.size
        have xl : ((x.L.length : Int) != x.L.length) = false := by simp
        go_wp2_with fail
        go_loopw [57] (fun v wr => ∃ j : Nat, v = .int .i64 j ∧ j ≤ x.L.length ∧ Still w5 wr) (fun v _ => x.L.length - (intOf v).toNat)
        case atStart => exact ⟨0, rfl, by omega, Still.refl _⟩
        case round =>
          obtain ⟨j, rfl, hj, ht⟩ := hrel
          by_cases hjl : j < x.L.length
          · obtain ⟨gr, hra, hgr, hr1, hr2, hr3, _⟩ := own_form HOO.out (by omega)
            obtain ⟨o, ho⟩ : ∃ o, x.L[j]? = some o := ⟨_, List.getElem?_eq_getElem hjl⟩
            have hcell := hr3 j (.int .i64 o.at_) (by unfold M.ints; rw [List.getElem?_map, List.getElem?_map, ho]; rfl)
            have hcell' : wr.cell? ⟨gr, j, none⟩ = some (.int .i64 o.at_) := by rw [ht.cell hgr]; exact hcell
            have hgr' : gr < wr.heap.size := Nat.lt_of_lt_of_le hgr ht.size
            subst hra
            unfold maxLen at hr2
            rcases HH.out.rf.lv_form with ⟨_, h0⟩ | ⟨g, cap, h1, hg, hb, hle, hm, hf, hc⟩
            · rw [h0] at hjl; simp at hjl
            have h2 := h1.symm.trans HLV.out
            injection h2 with h3 _ h4
            subst h3; subst h4
            have hWr : Still w wr := HT5.out.trans ht
            obtain ⟨d0, d1, d2, d3, d4⟩ := hc j o ho
            rw [← hWr.cell (p := ⟨g, _, none⟩) hg] at d0 d1 d2 d3 d4
            have hgw : g < wr.heap.size := Nat.lt_of_lt_of_le hg hWr.size
            have hom := List.mem_of_getElem? ho
            have HA := Lib.hid (hWr.alloc (.cells o.arr 73))
            have HOBJ := Lib.hid (HH.out.sim.obAt HH.out.hp hom)
            have HLEN := Lib.hid (len_ok s o.at_ _ _ (HH.out.hp.still HA.out) HOBJ.out)
            have HBK := Lib.hid (Blk.new wr 73 o.arr)
            have HWR := Lib.hid hWr
            have HT := Lib.hid ht
            have HCELL := Lib.hid hcell
            clear hr3 hc h1 hf hb hle hm hWr ho hom hcell ht
            go_wp2_with fail
            refine HLEN.out.mono ?_; rintro e w6 ⟨rfl, t6⟩
            have HT6 := Lib.hid (HA.out.trans t6)
            have HB6 := Lib.hid (Still.blk t6 HBK.out)
            have HT6' := Lib.hid ((HT.out.alloc (.cells o.arr 73)).trans t6)
            obtain ⟨b0, b1, b2, b3, b4⟩ := blk5 HB6.out
            have hb6 := HB6.out.lt
            clear t6 d0 d1 d2 d3 d4
            go_wp2_with fail
            refine (shape_ok s o.at_ _ _ (HH.out.hp.still HT6.out) HOBJ.out).mono ?_; rintro e w7 ⟨rfl, t7⟩
            have HB7 := Lib.hid (Still.blk t7 HB6.out)
            have HT7 := Lib.hid (HT6'.out.trans t7)
            clear b0 b1 b2 b3 b4 hb6
            obtain ⟨b0, b1, b2, b3, b4⟩ := blk5 HB7.out
            have hb7 := HB7.out.lt
            have hcell7 : w7.cell? ⟨gr, j, none⟩ = some (.int .i64 o.at_) := by rw [HT7.out.cell (p := ⟨gr, j, none⟩) hgr]; exact HCELL.out
            clear t7
            have x1 : ((o.at_ : Int) != o.at_) = false := by simp
            have x2 : ((o.n : Int) != o.n) = false := by simp
            have x3 : ((o.sh : Int) != o.sh) = false := by simp
            go_wp2_with fail
            go_quiet (fail)
            go_wp2_with fail
            go_roundw
            case rel => exact ⟨j + 1, by go_num, by omega, HT7.out.drewN _⟩
            case measure => simp [intOf]; omega
          · clear c25 hgx5 c2
            have HTE := Lib.hid (HT5.out.trans ht)
            clear ht
            go_wp2_with fail
            go_ret
            refine ⟨?_, HTE.out⟩; first | rfl | trivial)
end Go.Proofs.Ythfkgkddklnnhaa
/- The laws' own helpers of layer 2: place, Does. -/
namespace Go.Proofs.Ythfkgkddklnnhaa
set_option linter.unusedVariables false
open Go.ChangeShapes Go.WideShapes Go.ChangeAt Go.RowKit
open M (W)

theorem place_any {B : Nat} (x : Rf) (a : Int) (w : World) (h : RfIs B w x) (ha : -9223372036854775808 ≤ a) : ∃ r : Int, ∀ W, Still w W → Calls Try.prog 54 #[x.lv, .int .i64 a] W fun e w' => e = .returned (.int .i64 r) ∧ w' = W := by
  obtain ⟨la, lc, hlv⟩ := h.lv_slice
  by_cases hpos : 0 ≤ a
  · refine ⟨a, fun W _ => ?_⟩
    rw [hlv]
    clear h hlv
    go_enter Try.func54, Try.ntmps54
    go_wp2
    go_ret
    exact ⟨rfl, rfl⟩
  rcases h.lv_form with ⟨h1, h0⟩ | ⟨g, cap, h1, hg, hb, hle, hm, hf, hc⟩
  · refine ⟨a, fun W _ => ?_⟩
    rw [h1]
    have hneg : a < 0 := by omega
    clear h hlv h1 hpos
    go_enter Try.func54, Try.ntmps54
    go_wp2
    go_ret
    exact ⟨rfl, rfl⟩
  · by_cases hn : x.L.length = 0
    · refine ⟨a, fun W _ => ?_⟩
      rw [h1, hn]
      have hneg : a < 0 := by omega
      clear h hlv h1 hpos hc
      go_enter Try.func54, Try.ntmps54
      go_wp2
      go_ret
      exact ⟨rfl, rfl⟩
    · obtain ⟨q, hq⟩ := Int.eq_ofNat_of_zero_le (show 0 ≤ -(a + 1) by omega)
      have hj : q % x.L.length < x.L.length := Nat.mod_lt _ (by omega)
      obtain ⟨o, ho⟩ : ∃ o, x.L[q % x.L.length]? = some o := ⟨_, List.getElem?_eq_getElem hj⟩
      refine ⟨o.at_, fun W hW => ?_⟩
      rw [h1]
      obtain ⟨d0, _⟩ := hc _ o ho
      obtain ⟨j, hjj⟩ : ∃ j, q % x.L.length = j := ⟨_, rfl⟩
      have e1 : ((q : Int) % (x.L.length : Int)) = (j : Int) := by rw [← hjj]; simp
      have e2 : (q : Int).tmod (x.L.length : Int) = (j : Int) := by rw [← e1]; exact Int.tmod_eq_emod_of_nonneg (by omega)
      rw [hjj] at d0 hj
      have hneg : a < 0 := by omega
      have hqb : q ≤ 9223372036854775807 := by omega
      have hfew := h.few
      have d0' : W.cell? ⟨g, j * 5, none⟩ = some (.int .i64 o.at_) := by rw [hW.cell (p := ⟨g, j * 5, none⟩) hg]; exact d0
      have hz : ((x.L.length : Int) == 0) = false := beq_eq_false_iff_ne.2 (by omega)
      generalize x.L.length = n at *
      clear h hlv h1 hpos hc ho hjj d0 hW
      go_enter Try.func54, Try.ntmps54
      go_wp2
      go_ret
      exact ⟨rfl, rfl⟩

theorem both_set1 {w0 w : World} {s : St} {x : Rf} (h : Both w0 w s x) (a i : Int) (v : Nat) (hv : v < 18446744073709551616) :
    Calls Try.prog 28 #[s.ptr, .int .i64 a, .int .i64 i, .int .u64 v] w fun e w1 => ∃ r : Int, e = .returned (.int .i64 r) ∧ Turn (fun k => k = s.g ∨ k = s.gw) w w1 ∧
      Calls Try.prog 56 #[x.ptr, .int .i64 a, .int .i64 i, .int .u64 v] w1 fun e w2 => e = .returned (.int .i64 r) ∧ After w0 w2 s x := by
  obtain ⟨r, hr⟩ := both_set h a i v hv
  exact hr.mono fun e w1 h => ⟨r, h⟩
theorem both_setByte1 {w0 w : World} {s : St} {x : Rf} (h : Both w0 w s x) (a i : Int) (c : Nat) (hc : c < 256) :
    Calls Try.prog 57 #[s.ptr, .int .i64 a, .int .i64 i, .int .u8 c] w fun e w1 => ∃ r : Int, e = .returned (.int .i64 r) ∧ Turn (fun k => k = s.g ∨ k = s.gw) w w1 ∧
      Calls Try.prog 58 #[x.ptr, .int .i64 a, .int .i64 i, .int .u8 c] w1 fun e w2 => e = .returned (.int .i64 r) ∧ After w0 w2 s x := by
  obtain ⟨r, hr⟩ := both_setByte h a i c hc
  exact hr.mono fun e w1 h => ⟨r, h⟩
theorem both_alloc1 {w0 w : World} {s : St} {x : Rf} (h : Both w0 w s x) (sh n : Int) (hfew : x.L.length < 1000) :
    Calls Try.prog 27 #[s.ptr, .int .i64 sh, .int .i64 n] w fun e w1 => ∃ a r : Int, e = .returned (.tuple #[.int .i64 a, .int .i64 r]) ∧ Turn (fun k => k = s.g ∨ k = s.gw) w w1 ∧
      Calls Try.prog 55 #[x.ptr, .int .i64 sh, .int .i64 n] w1 fun e w2 => e = .returned (.tuple #[.int .i64 a, .int .i64 r]) ∧ After w0 w2 s x := by
  obtain ⟨a, r, hr⟩ := both_alloc h sh n hfew
  exact hr.mono fun e w1 h => ⟨a, r, h⟩
theorem box_keep {w W w1 : World} {s : St} {c0 c1 c2 c3 c4 : Value} {t : TypeId} (t0 : Still (w.alloc (.cells #[c0, c1, c2, c3, c4] t)) W) (t1 : Turn (fun k => k = s.g ∨ k = s.gw) W w1) (hg : s.g < w.heap.size) (hgw : s.gw < w.heap.size) :
    w1.cell? ⟨w.heap.size, 0, none⟩ = some c0 ∧ w1.cell? ⟨w.heap.size, 1, none⟩ = some c1 ∧ w1.cell? ⟨w.heap.size, 2, none⟩ = some c2 ∧ w1.cell? ⟨w.heap.size, 3, none⟩ = some c3 ∧ w1.cell? ⟨w.heap.size, 4, none⟩ = some c4 := by
  have hb := (t0.blk (Blk.new w t #[c0, c1, c2, c3, c4])).keep t1 (by rintro (e | e) <;> omega)
  exact ⟨hb.cell 0, hb.cell 1, hb.cell 2, hb.cell 3, hb.cell 4⟩

theorem quiet_add_same {P : Program} {f : FuncId} {args : Array Value} {w : World} {a n : Nat} {v : Value} (h : Calls P f args (w.drewN (a + n)) fun e w' => e = .returned v ∧ w' = w.drewN (a + n)) :
    Calls P f args (w.drewN (a + n)) fun e w'' => e = .returned v ∧ ∃ m, w'' = w.drewN (a + m) := h.mono fun _ _ ⟨he, hm⟩ => ⟨he, n, hm⟩
end Go.Proofs.Ythfkgkddklnnhaa
/- Does, of one kind of calls. -/
namespace Go.Proofs.Ythfkgkddklnnhaa
set_option linter.unusedVariables false
open Go.ChangeShapes Go.WideShapes Go.ChangeAt Go.RowKit
open M (W)

set_option maxHeartbeats 4000000 in
set_option maxRecDepth 100000 in
theorem does_1_no {w0 w : World} {s : St} {x : Rf} (h : Both w0 w s x) (a b : Int) (v : Nat) (ha : -9223372036854775808 ≤ a) (hv : v < 18446744073709551616) (hfew : x.L.length < 1000) :
    Calls Try.prog 26 #[s.ptr, x.ptr, .agg #[.int .i64 1, .int .i64 a, .int .i64 b, .int .u64 v, .bool false]] w fun e w' => e = .returned (.bool true) ∧ After w0 w' s x := by
  obtain ⟨r, hpl⟩ := place_any x a w h.rf ha
  obtain ⟨la, lc, hlv⟩ := h.rf.lv_slice
  have hgx := h.rf.blk.lt
  have c2 : w.cell? ⟨x.gx, 2, none⟩ = some (.slice la x.L.length lc) := by rw [h.rf.c2, hlv]
  rw [hlv] at hpl
  have HPL := Lib.hid hpl
  have HB := Lib.hid h
  have HFEW := Lib.hid hfew
  have hsg := h.hp.blk.lt
  have hsgw := h.hp.words.lt
  clear hpl h hlv
  go_enter Try.func26, Try.ntmps26
  go_wp2_with fail
  go_quiet ((go_at_call 54; first | exact Calls.quiet_of_same (HPL.out _ (((Still.refl w).alloc _).drewN _)) | exact quiet_add_same (HPL.out _ (((Still.refl w).alloc _).drewN _))))
  go_wp2_with fail
  refine (both_alloc1 (HB.out.still (((Still.refl w).alloc _).drewN _)) a b HFEW.out).mono ?_; rintro e w1 ⟨p, q, rfl, t1, hop⟩
  obtain ⟨b0, b1, b2, b3, b4⟩ := box_keep ((Still.refl _).drewN _) t1 hsg hsgw
  have HOP := Lib.hid hop
  clear hop t1
  have hpp : ((p : Int) == p) = true := by simp
  have hqq : ((q : Int) == q) = true := by simp
  go_wp2_with fail
  refine HOP.out.mono ?_; rintro e w2 ⟨rfl, hA⟩
  have HA := Lib.hid hA; clear hA
  go_wp2_with fail
  go_ret
  exact ⟨rfl, HA.out⟩

set_option maxHeartbeats 4000000 in
set_option maxRecDepth 100000 in
theorem does_1_empty {w0 w : World} {s : St} {x : Rf} (h : Both w0 w s x) (a b : Int) (v : Nat) (ha : -9223372036854775808 ≤ a) (hv : v < 18446744073709551616) (hfew : x.L.length < 1000) (hL : x.L.length = 0) :
    Calls Try.prog 26 #[s.ptr, x.ptr, .agg #[.int .i64 1, .int .i64 a, .int .i64 b, .int .u64 v, .bool true]] w fun e w' => e = .returned (.bool true) ∧ After w0 w' s x := by
  obtain ⟨r, hpl⟩ := place_any x a w h.rf ha
  obtain ⟨la, lc, hlv⟩ := h.rf.lv_slice
  have hgx := h.rf.blk.lt
  have c2 : w.cell? ⟨x.gx, 2, none⟩ = some (.slice la x.L.length lc) := by rw [h.rf.c2, hlv]
  rw [hlv] at hpl
  have HPL := Lib.hid hpl
  have HB := Lib.hid h
  have HFEW := Lib.hid hfew
  have hsg := h.hp.blk.lt
  have hsgw := h.hp.words.lt
  rw [hL] at c2 HPL
  clear hpl h hlv hfew hL
  go_enter Try.func26, Try.ntmps26
  go_wp2_with fail
  go_quiet ((go_at_call 54; first | exact Calls.quiet_of_same (HPL.out _ (((Still.refl w).alloc _).drewN _)) | exact quiet_add_same (HPL.out _ (((Still.refl w).alloc _).drewN _))))
  go_wp2_with fail
  refine (both_alloc1 (HB.out.still (((Still.refl w).alloc _).drewN _)) a b HFEW.out).mono ?_; rintro e w1 ⟨p, q, rfl, t1, hop⟩
  obtain ⟨b0, b1, b2, b3, b4⟩ := box_keep ((Still.refl _).drewN _) t1 hsg hsgw
  have HOP := Lib.hid hop
  clear hop t1
  have hpp : ((p : Int) == p) = true := by simp
  have hqq : ((q : Int) == q) = true := by simp
  go_wp2_with fail
  refine HOP.out.mono ?_; rintro e w2 ⟨rfl, hA⟩
  have HA := Lib.hid hA; clear hA
  go_wp2_with fail
  go_ret
  exact ⟨rfl, HA.out⟩

set_option maxHeartbeats 4000000 in
set_option maxRecDepth 100000 in
theorem does_1_at {w0 w : World} {s : St} {x : Rf} (h : Both w0 w s x) (a b : Int) (v : Nat) (ha : -9223372036854775808 ≤ a) (hv : v < 18446744073709551616) (hfew : x.L.length < 1000) (hL : 0 < x.L.length) :
    Calls Try.prog 26 #[s.ptr, x.ptr, .agg #[.int .i64 1, .int .i64 a, .int .i64 b, .int .u64 v, .bool true]] w fun e w' => e = .returned (.bool true) ∧ After w0 w' s x := by
  obtain ⟨r, hpl⟩ := place_any x a w h.rf ha
  obtain ⟨la, lc, hlv⟩ := h.rf.lv_slice
  have hgx := h.rf.blk.lt
  have c2 : w.cell? ⟨x.gx, 2, none⟩ = some (.slice la x.L.length lc) := by rw [h.rf.c2, hlv]
  rw [hlv] at hpl
  have HPL := Lib.hid hpl
  have HB := Lib.hid h
  have HFEW := Lib.hid hfew
  have hsg := h.hp.blk.lt
  have hsgw := h.hp.words.lt
  rcases h.rf.lv_form with ⟨_, h0⟩ | ⟨g, cap, h1, hg, hb, hle, hm, hf, hc⟩
  · rw [h0] at hL; simp at hL
  have hqm : v % x.L.length < x.L.length := Nat.mod_lt _ hL
  obtain ⟨oo, ho⟩ : ∃ o, x.L[v % x.L.length]? = some o := ⟨_, List.getElem?_eq_getElem hqm⟩
  obtain ⟨d0, _⟩ := hc _ oo ho
  have hla : la = some ⟨g, 0, none⟩ := by rw [h1] at hlv; injection hlv with e; exact e.symm
  subst hla
  obtain ⟨j, hjj⟩ : ∃ j, v % x.L.length = j := ⟨_, rfl⟩
  have e1 : ((v : Int) % (x.L.length : Int)) = (j : Int) := by rw [← hjj]; simp
  have e2 : (v : Int).tmod (x.L.length : Int) = (j : Int) := by rw [← e1]; exact Int.tmod_eq_emod_of_nonneg (by omega)
  rw [hjj] at d0 hqm
  have htop := ((h.sim.tile.get ho).2)
  have hnn := h.hp.n_le
  have htt := h.hp.top_le
  have hat : oo.at_ ≤ 65536 := by omega
  obtain ⟨y, hy⟩ : ∃ y, oo.at_ * 2 = y := ⟨_, rfl⟩
  have hy1 : (oo.at_ : Int) * 2 = (y : Int) := by omega
  have hy2 : y < 18446744073709551616 := by omega
  have hy4 : y < 4294967296 := by omega
  have hz : ((x.L.length : Int) == 0) = false := beq_eq_false_iff_ne.2 (by omega)
  have hy3 : IntKind.u64.wrap (y : Int) = (y : Int) := by rw [IntKind.wrap_u64]; omega
  have hw1 : IntKind.u64.wrap (oo.at_ : Int) = (oo.at_ : Int) := by rw [IntKind.wrap_u64]; omega
  have hw2 : IntKind.u64.wrap (x.L.length : Int) = (x.L.length : Int) := by rw [IntKind.wrap_u64]; omega
  have hw3 : IntKind.i64.wrap (j : Int) = (j : Int) := by rw [IntKind.wrap_i64]; omega
  have HY2 := Lib.hid hy2
  clear hpl h hlv hc h1 ho hm hf hjj htop htt hle hy hnn hb
  go_enter Try.func26, Try.ntmps26
  go_wp2_with fail
  go_quiet (fail)
  go_wp2_with fail
  go_quiet ((go_at_call 54; first | exact Calls.quiet_of_same (HPL.out _ (((Still.refl w).alloc _).drewN _)) | exact quiet_add_same (HPL.out _ (((Still.refl w).alloc _).drewN _))))
  go_wp2_with fail
  refine (both_alloc1 (HB.out.still (((Still.refl w).alloc _).drewN _)) a b HFEW.out).mono ?_; rintro e w1 ⟨p, q, rfl, t1, hop⟩
  obtain ⟨b0, b1, b2, b3, b4⟩ := box_keep ((Still.refl _).drewN _) t1 hsg hsgw
  have HOP := Lib.hid hop
  clear hop t1
  have hpp : ((p : Int) == p) = true := by simp
  have hqq : ((q : Int) == q) = true := by simp
  go_wp2_with fail
  refine HOP.out.mono ?_; rintro e w2 ⟨rfl, hA⟩
  have HA := Lib.hid hA; clear hA
  go_wp2_with fail
  go_ret
  exact ⟨rfl, HA.out⟩
end Go.Proofs.Ythfkgkddklnnhaa
/- Does, of one kind of calls. -/
namespace Go.Proofs.Ythfkgkddklnnhaa
set_option linter.unusedVariables false
open Go.ChangeShapes Go.WideShapes Go.ChangeAt Go.RowKit
open M (W)

set_option maxHeartbeats 4000000 in
set_option maxRecDepth 100000 in
theorem does_2_no {w0 w : World} {s : St} {x : Rf} (h : Both w0 w s x) (a b : Int) (v : Nat) (ha : -9223372036854775808 ≤ a) (hv : v < 18446744073709551616) (hfew : x.L.length < 1000) :
    Calls Try.prog 26 #[s.ptr, x.ptr, .agg #[.int .i64 2, .int .i64 a, .int .i64 b, .int .u64 v, .bool false]] w fun e w' => e = .returned (.bool true) ∧ After w0 w' s x := by
  obtain ⟨r, hpl⟩ := place_any x a w h.rf ha
  obtain ⟨la, lc, hlv⟩ := h.rf.lv_slice
  have hgx := h.rf.blk.lt
  have c2 : w.cell? ⟨x.gx, 2, none⟩ = some (.slice la x.L.length lc) := by rw [h.rf.c2, hlv]
  rw [hlv] at hpl
  have HPL := Lib.hid hpl
  have HB := Lib.hid h
  have HFEW := Lib.hid hfew
  have hsg := h.hp.blk.lt
  have hsgw := h.hp.words.lt
  clear hpl h hlv
  go_enter Try.func26, Try.ntmps26
  go_wp2_with fail
  go_quiet ((go_at_call 54; first | exact Calls.quiet_of_same (HPL.out _ (((Still.refl w).alloc _).drewN _)) | exact quiet_add_same (HPL.out _ (((Still.refl w).alloc _).drewN _))))
  go_wp2_with fail
  go_region_with (first
    | (go_at_call 28; refine (both_set1 (HB.out.still (((Still.refl w).alloc _).drewN _)) r b v hv).mono ?_; rintro e w1 ⟨q, rfl, t1, hop⟩; obtain ⟨b0, b1, b2, b3, b4⟩ := box_keep ((Still.refl _).drewN _) t1 hsg hsgw; have HOP := Lib.hid hop)
    | (go_at_call 56; refine HOP.out.mono ?_; rintro e w2 ⟨rfl, hA⟩; have HA := Lib.hid hA; clear hA))
  all_goals
    have hqq : ((q : Int) == q) = true := by simp
    go_wp2_with fail
    go_ret
    exact ⟨rfl, HA.out⟩

set_option maxHeartbeats 4000000 in
set_option maxRecDepth 100000 in
theorem does_2_empty {w0 w : World} {s : St} {x : Rf} (h : Both w0 w s x) (a b : Int) (v : Nat) (ha : -9223372036854775808 ≤ a) (hv : v < 18446744073709551616) (hfew : x.L.length < 1000) (hL : x.L.length = 0) :
    Calls Try.prog 26 #[s.ptr, x.ptr, .agg #[.int .i64 2, .int .i64 a, .int .i64 b, .int .u64 v, .bool true]] w fun e w' => e = .returned (.bool true) ∧ After w0 w' s x := by
  obtain ⟨r, hpl⟩ := place_any x a w h.rf ha
  obtain ⟨la, lc, hlv⟩ := h.rf.lv_slice
  have hgx := h.rf.blk.lt
  have c2 : w.cell? ⟨x.gx, 2, none⟩ = some (.slice la x.L.length lc) := by rw [h.rf.c2, hlv]
  rw [hlv] at hpl
  have HPL := Lib.hid hpl
  have HB := Lib.hid h
  have HFEW := Lib.hid hfew
  have hsg := h.hp.blk.lt
  have hsgw := h.hp.words.lt
  rw [hL] at c2 HPL
  clear hpl h hlv hfew hL
  go_enter Try.func26, Try.ntmps26
  go_wp2_with fail
  go_quiet ((go_at_call 54; first | exact Calls.quiet_of_same (HPL.out _ (((Still.refl w).alloc _).drewN _)) | exact quiet_add_same (HPL.out _ (((Still.refl w).alloc _).drewN _))))
  go_wp2_with fail
  go_region_with (first
    | (go_at_call 28; refine (both_set1 (HB.out.still (((Still.refl w).alloc _).drewN _)) r b v hv).mono ?_; rintro e w1 ⟨q, rfl, t1, hop⟩; obtain ⟨b0, b1, b2, b3, b4⟩ := box_keep ((Still.refl _).drewN _) t1 hsg hsgw; have HOP := Lib.hid hop)
    | (go_at_call 56; refine HOP.out.mono ?_; rintro e w2 ⟨rfl, hA⟩; have HA := Lib.hid hA; clear hA))
  all_goals
    have hqq : ((q : Int) == q) = true := by simp
    go_wp2_with fail
    go_ret
    exact ⟨rfl, HA.out⟩

set_option maxHeartbeats 4000000 in
set_option maxRecDepth 100000 in
theorem does_2_at {w0 w : World} {s : St} {x : Rf} (h : Both w0 w s x) (a b : Int) (v : Nat) (ha : -9223372036854775808 ≤ a) (hv : v < 18446744073709551616) (hfew : x.L.length < 1000) (hL : 0 < x.L.length) :
    Calls Try.prog 26 #[s.ptr, x.ptr, .agg #[.int .i64 2, .int .i64 a, .int .i64 b, .int .u64 v, .bool true]] w fun e w' => e = .returned (.bool true) ∧ After w0 w' s x := by
  obtain ⟨r, hpl⟩ := place_any x a w h.rf ha
  obtain ⟨la, lc, hlv⟩ := h.rf.lv_slice
  have hgx := h.rf.blk.lt
  have c2 : w.cell? ⟨x.gx, 2, none⟩ = some (.slice la x.L.length lc) := by rw [h.rf.c2, hlv]
  rw [hlv] at hpl
  have HPL := Lib.hid hpl
  have HB := Lib.hid h
  have HFEW := Lib.hid hfew
  have hsg := h.hp.blk.lt
  have hsgw := h.hp.words.lt
  rcases h.rf.lv_form with ⟨_, h0⟩ | ⟨g, cap, h1, hg, hb, hle, hm, hf, hc⟩
  · rw [h0] at hL; simp at hL
  have hqm : v % x.L.length < x.L.length := Nat.mod_lt _ hL
  obtain ⟨oo, ho⟩ : ∃ o, x.L[v % x.L.length]? = some o := ⟨_, List.getElem?_eq_getElem hqm⟩
  obtain ⟨d0, _⟩ := hc _ oo ho
  have hla : la = some ⟨g, 0, none⟩ := by rw [h1] at hlv; injection hlv with e; exact e.symm
  subst hla
  obtain ⟨j, hjj⟩ : ∃ j, v % x.L.length = j := ⟨_, rfl⟩
  have e1 : ((v : Int) % (x.L.length : Int)) = (j : Int) := by rw [← hjj]; simp
  have e2 : (v : Int).tmod (x.L.length : Int) = (j : Int) := by rw [← e1]; exact Int.tmod_eq_emod_of_nonneg (by omega)
  rw [hjj] at d0 hqm
  have htop := ((h.sim.tile.get ho).2)
  have hnn := h.hp.n_le
  have htt := h.hp.top_le
  have hat : oo.at_ ≤ 65536 := by omega
  obtain ⟨y, hy⟩ : ∃ y, oo.at_ * 2 = y := ⟨_, rfl⟩
  have hy1 : (oo.at_ : Int) * 2 = (y : Int) := by omega
  have hy2 : y < 18446744073709551616 := by omega
  have hy4 : y < 4294967296 := by omega
  have hz : ((x.L.length : Int) == 0) = false := beq_eq_false_iff_ne.2 (by omega)
  have hy3 : IntKind.u64.wrap (y : Int) = (y : Int) := by rw [IntKind.wrap_u64]; omega
  have hw1 : IntKind.u64.wrap (oo.at_ : Int) = (oo.at_ : Int) := by rw [IntKind.wrap_u64]; omega
  have hw2 : IntKind.u64.wrap (x.L.length : Int) = (x.L.length : Int) := by rw [IntKind.wrap_u64]; omega
  have hw3 : IntKind.i64.wrap (j : Int) = (j : Int) := by rw [IntKind.wrap_i64]; omega
  have HY2 := Lib.hid hy2
  clear hpl h hlv hc h1 ho hm hf hjj htop htt hle hy hnn hb
  go_enter Try.func26, Try.ntmps26
  go_wp2_with fail
  go_quiet (fail)
  go_wp2_with fail
  go_quiet ((go_at_call 54; first | exact Calls.quiet_of_same (HPL.out _ (((Still.refl w).alloc _).drewN _)) | exact quiet_add_same (HPL.out _ (((Still.refl w).alloc _).drewN _))))
  go_wp2_with fail
  go_region_with (first
    | (go_at_call 28; refine (both_set1 (HB.out.still (((Still.refl w).alloc _).drewN _)) r b y HY2.out).mono ?_; rintro e w1 ⟨q, rfl, t1, hop⟩; obtain ⟨b0, b1, b2, b3, b4⟩ := box_keep ((Still.refl _).drewN _) t1 hsg hsgw; have HOP := Lib.hid hop)
    | (go_at_call 56; refine HOP.out.mono ?_; rintro e w2 ⟨rfl, hA⟩; have HA := Lib.hid hA; clear hA))
  all_goals
    have hqq : ((q : Int) == q) = true := by simp
    go_wp2_with fail
    go_ret
    exact ⟨rfl, HA.out⟩
end Go.Proofs.Ythfkgkddklnnhaa
/- Does, of one kind of calls. -/
namespace Go.Proofs.Ythfkgkddklnnhaa
set_option linter.unusedVariables false
open Go.ChangeShapes Go.WideShapes Go.ChangeAt Go.RowKit
open M (W)

set_option maxHeartbeats 4000000 in
set_option maxRecDepth 100000 in
theorem does_3_no {w0 w : World} {s : St} {x : Rf} (h : Both w0 w s x) (a b : Int) (v : Nat) (ha : -9223372036854775808 ≤ a) (hv : v < 18446744073709551616) (hfew : x.L.length < 1000) :
    Calls Try.prog 26 #[s.ptr, x.ptr, .agg #[.int .i64 3, .int .i64 a, .int .i64 b, .int .u64 v, .bool false]] w fun e w' => e = .returned (.bool true) ∧ After w0 w' s x := by
  obtain ⟨r, hpl⟩ := place_any x a w h.rf ha
  obtain ⟨la, lc, hlv⟩ := h.rf.lv_slice
  have hgx := h.rf.blk.lt
  have c2 : w.cell? ⟨x.gx, 2, none⟩ = some (.slice la x.L.length lc) := by rw [h.rf.c2, hlv]
  rw [hlv] at hpl
  have HPL := Lib.hid hpl
  have HB := Lib.hid h
  have HFEW := Lib.hid hfew
  have hsg := h.hp.blk.lt
  have hsgw := h.hp.words.lt
  obtain ⟨cc, hcc⟩ : ∃ cc : Nat, cc = v % 256 := ⟨_, rfl⟩
  have hc1 : IntKind.u8.wrap (v : Int) = (cc : Int) := by rw [IntKind.wrap_u8]; omega
  have hc2 : ((v : Int) % 256) = (cc : Int) := by omega
  have HCC := Lib.hid (show cc < 256 by omega)
  clear hcc
  clear hpl h hlv
  go_enter Try.func26, Try.ntmps26
  go_wp2_with fail
  go_quiet ((go_at_call 54; first | exact Calls.quiet_of_same (HPL.out _ (((Still.refl w).alloc _).drewN _)) | exact quiet_add_same (HPL.out _ (((Still.refl w).alloc _).drewN _))))
  go_wp2_with fail
  go_region_with (first
    | (go_at_call 57; refine (both_setByte1 (HB.out.still (((Still.refl w).alloc _).drewN _)) r b cc HCC.out).mono ?_; rintro e w1 ⟨q, rfl, t1, hop⟩; obtain ⟨b0, b1, b2, b3, b4⟩ := box_keep ((Still.refl _).drewN _) t1 hsg hsgw; have HOP := Lib.hid hop)
    | (go_at_call 58; refine HOP.out.mono ?_; rintro e w2 ⟨rfl, hA⟩; have HA := Lib.hid hA; clear hA))
  all_goals
    have hqq : ((q : Int) == q) = true := by simp
    go_wp2_with fail
    go_ret
    exact ⟨rfl, HA.out⟩

set_option maxHeartbeats 4000000 in
set_option maxRecDepth 100000 in
theorem does_3_empty {w0 w : World} {s : St} {x : Rf} (h : Both w0 w s x) (a b : Int) (v : Nat) (ha : -9223372036854775808 ≤ a) (hv : v < 18446744073709551616) (hfew : x.L.length < 1000) (hL : x.L.length = 0) :
    Calls Try.prog 26 #[s.ptr, x.ptr, .agg #[.int .i64 3, .int .i64 a, .int .i64 b, .int .u64 v, .bool true]] w fun e w' => e = .returned (.bool true) ∧ After w0 w' s x := by
  obtain ⟨r, hpl⟩ := place_any x a w h.rf ha
  obtain ⟨la, lc, hlv⟩ := h.rf.lv_slice
  have hgx := h.rf.blk.lt
  have c2 : w.cell? ⟨x.gx, 2, none⟩ = some (.slice la x.L.length lc) := by rw [h.rf.c2, hlv]
  rw [hlv] at hpl
  have HPL := Lib.hid hpl
  have HB := Lib.hid h
  have HFEW := Lib.hid hfew
  have hsg := h.hp.blk.lt
  have hsgw := h.hp.words.lt
  rw [hL] at c2 HPL
  obtain ⟨cc, hcc⟩ : ∃ cc : Nat, cc = v % 256 := ⟨_, rfl⟩
  have hc1 : IntKind.u8.wrap (v : Int) = (cc : Int) := by rw [IntKind.wrap_u8]; omega
  have hc2 : ((v : Int) % 256) = (cc : Int) := by omega
  have HCC := Lib.hid (show cc < 256 by omega)
  clear hcc
  clear hpl h hlv hfew hL
  go_enter Try.func26, Try.ntmps26
  go_wp2_with fail
  go_quiet ((go_at_call 54; first | exact Calls.quiet_of_same (HPL.out _ (((Still.refl w).alloc _).drewN _)) | exact quiet_add_same (HPL.out _ (((Still.refl w).alloc _).drewN _))))
  go_wp2_with fail
  go_region_with (first
    | (go_at_call 57; refine (both_setByte1 (HB.out.still (((Still.refl w).alloc _).drewN _)) r b cc HCC.out).mono ?_; rintro e w1 ⟨q, rfl, t1, hop⟩; obtain ⟨b0, b1, b2, b3, b4⟩ := box_keep ((Still.refl _).drewN _) t1 hsg hsgw; have HOP := Lib.hid hop)
    | (go_at_call 58; refine HOP.out.mono ?_; rintro e w2 ⟨rfl, hA⟩; have HA := Lib.hid hA; clear hA))
  all_goals
    have hqq : ((q : Int) == q) = true := by simp
    go_wp2_with fail
    go_ret
    exact ⟨rfl, HA.out⟩

set_option maxHeartbeats 4000000 in
set_option maxRecDepth 100000 in
theorem does_3_at {w0 w : World} {s : St} {x : Rf} (h : Both w0 w s x) (a b : Int) (v : Nat) (ha : -9223372036854775808 ≤ a) (hv : v < 18446744073709551616) (hfew : x.L.length < 1000) (hL : 0 < x.L.length) :
    Calls Try.prog 26 #[s.ptr, x.ptr, .agg #[.int .i64 3, .int .i64 a, .int .i64 b, .int .u64 v, .bool true]] w fun e w' => e = .returned (.bool true) ∧ After w0 w' s x := by
  obtain ⟨r, hpl⟩ := place_any x a w h.rf ha
  obtain ⟨la, lc, hlv⟩ := h.rf.lv_slice
  have hgx := h.rf.blk.lt
  have c2 : w.cell? ⟨x.gx, 2, none⟩ = some (.slice la x.L.length lc) := by rw [h.rf.c2, hlv]
  rw [hlv] at hpl
  have HPL := Lib.hid hpl
  have HB := Lib.hid h
  have HFEW := Lib.hid hfew
  have hsg := h.hp.blk.lt
  have hsgw := h.hp.words.lt
  rcases h.rf.lv_form with ⟨_, h0⟩ | ⟨g, cap, h1, hg, hb, hle, hm, hf, hc⟩
  · rw [h0] at hL; simp at hL
  have hqm : v % x.L.length < x.L.length := Nat.mod_lt _ hL
  obtain ⟨oo, ho⟩ : ∃ o, x.L[v % x.L.length]? = some o := ⟨_, List.getElem?_eq_getElem hqm⟩
  obtain ⟨d0, _⟩ := hc _ oo ho
  have hla : la = some ⟨g, 0, none⟩ := by rw [h1] at hlv; injection hlv with e; exact e.symm
  subst hla
  obtain ⟨j, hjj⟩ : ∃ j, v % x.L.length = j := ⟨_, rfl⟩
  have e1 : ((v : Int) % (x.L.length : Int)) = (j : Int) := by rw [← hjj]; simp
  have e2 : (v : Int).tmod (x.L.length : Int) = (j : Int) := by rw [← e1]; exact Int.tmod_eq_emod_of_nonneg (by omega)
  rw [hjj] at d0 hqm
  have htop := ((h.sim.tile.get ho).2)
  have hnn := h.hp.n_le
  have htt := h.hp.top_le
  have hat : oo.at_ ≤ 65536 := by omega
  obtain ⟨y, hy⟩ : ∃ y, oo.at_ * 2 = y := ⟨_, rfl⟩
  have hy1 : (oo.at_ : Int) * 2 = (y : Int) := by omega
  have hy2 : y < 18446744073709551616 := by omega
  have hy4 : y < 4294967296 := by omega
  have hz : ((x.L.length : Int) == 0) = false := beq_eq_false_iff_ne.2 (by omega)
  have hy3 : IntKind.u64.wrap (y : Int) = (y : Int) := by rw [IntKind.wrap_u64]; omega
  have hw1 : IntKind.u64.wrap (oo.at_ : Int) = (oo.at_ : Int) := by rw [IntKind.wrap_u64]; omega
  have hw2 : IntKind.u64.wrap (x.L.length : Int) = (x.L.length : Int) := by rw [IntKind.wrap_u64]; omega
  have hw3 : IntKind.i64.wrap (j : Int) = (j : Int) := by rw [IntKind.wrap_i64]; omega
  have HY2 := Lib.hid hy2
  obtain ⟨cc, hcc⟩ : ∃ cc : Nat, cc = y % 256 := ⟨_, rfl⟩
  have hc1 : IntKind.u8.wrap (y : Int) = (cc : Int) := by rw [IntKind.wrap_u8]; omega
  have hc2 : ((y : Int) % 256) = (cc : Int) := by omega
  have HCC := Lib.hid (show cc < 256 by omega)
  clear hcc
  clear hpl h hlv hc h1 ho hm hf hjj htop htt hle hy hnn hb
  go_enter Try.func26, Try.ntmps26
  go_wp2_with fail
  go_quiet (fail)
  go_wp2_with fail
  go_quiet ((go_at_call 54; first | exact Calls.quiet_of_same (HPL.out _ (((Still.refl w).alloc _).drewN _)) | exact quiet_add_same (HPL.out _ (((Still.refl w).alloc _).drewN _))))
  go_wp2_with fail
  go_region_with (first
    | (go_at_call 57; refine (both_setByte1 (HB.out.still (((Still.refl w).alloc _).drewN _)) r b cc HCC.out).mono ?_; rintro e w1 ⟨q, rfl, t1, hop⟩; obtain ⟨b0, b1, b2, b3, b4⟩ := box_keep ((Still.refl _).drewN _) t1 hsg hsgw; have HOP := Lib.hid hop)
    | (go_at_call 58; refine HOP.out.mono ?_; rintro e w2 ⟨rfl, hA⟩; have HA := Lib.hid hA; clear hA))
  all_goals
    have hqq : ((q : Int) == q) = true := by simp
    go_wp2_with fail
    go_ret
    exact ⟨rfl, HA.out⟩
end Go.Proofs.Ythfkgkddklnnhaa
/- Does, of one kind of calls. -/
namespace Go.Proofs.Ythfkgkddklnnhaa
set_option linter.unusedVariables false
open Go.ChangeShapes Go.WideShapes Go.ChangeAt Go.RowKit
open M (W)

set_option maxHeartbeats 4000000 in
set_option maxRecDepth 100000 in
theorem does_o_no {w0 w : World} {s : St} {x : Rf} (h : Both w0 w s x) (a b : Int) (v : Nat) (kd : Int) (hk1 : ((kd : Int) == 1) = false) (hk2 : ((kd : Int) == 2) = false) (hk3 : ((kd : Int) == 3) = false) (ha : -9223372036854775808 ≤ a) (hv : v < 18446744073709551616) (hfew : x.L.length < 1000) :
    Calls Try.prog 26 #[s.ptr, x.ptr, .agg #[.int .i64 kd, .int .i64 a, .int .i64 b, .int .u64 v, .bool false]] w fun e w' => e = .returned (.bool true) ∧ After w0 w' s x := by
  obtain ⟨r, hpl⟩ := place_any x a w h.rf ha
  obtain ⟨la, lc, hlv⟩ := h.rf.lv_slice
  have hgx := h.rf.blk.lt
  have c2 : w.cell? ⟨x.gx, 2, none⟩ = some (.slice la x.L.length lc) := by rw [h.rf.c2, hlv]
  rw [hlv] at hpl
  have HPL := Lib.hid hpl
  have HB := Lib.hid h
  have HFEW := Lib.hid hfew
  have hsg := h.hp.blk.lt
  have hsgw := h.hp.words.lt
  clear hpl h hlv
  go_enter Try.func26, Try.ntmps26
  go_wp2_with fail
  go_quiet ((go_at_call 54; first | exact Calls.quiet_of_same (HPL.out _ (((Still.refl w).alloc _).drewN _)) | exact quiet_add_same (HPL.out _ (((Still.refl w).alloc _).drewN _))))
  go_wp2_with fail
  go_ret
  exact ⟨rfl, (HB.out.still (((Still.refl w).alloc _).drewN _)).after⟩

set_option maxHeartbeats 4000000 in
set_option maxRecDepth 100000 in
theorem does_o_empty {w0 w : World} {s : St} {x : Rf} (h : Both w0 w s x) (a b : Int) (v : Nat) (kd : Int) (hk1 : ((kd : Int) == 1) = false) (hk2 : ((kd : Int) == 2) = false) (hk3 : ((kd : Int) == 3) = false) (ha : -9223372036854775808 ≤ a) (hv : v < 18446744073709551616) (hfew : x.L.length < 1000) (hL : x.L.length = 0) :
    Calls Try.prog 26 #[s.ptr, x.ptr, .agg #[.int .i64 kd, .int .i64 a, .int .i64 b, .int .u64 v, .bool true]] w fun e w' => e = .returned (.bool true) ∧ After w0 w' s x := by
  obtain ⟨r, hpl⟩ := place_any x a w h.rf ha
  obtain ⟨la, lc, hlv⟩ := h.rf.lv_slice
  have hgx := h.rf.blk.lt
  have c2 : w.cell? ⟨x.gx, 2, none⟩ = some (.slice la x.L.length lc) := by rw [h.rf.c2, hlv]
  rw [hlv] at hpl
  have HPL := Lib.hid hpl
  have HB := Lib.hid h
  have HFEW := Lib.hid hfew
  have hsg := h.hp.blk.lt
  have hsgw := h.hp.words.lt
  rw [hL] at c2 HPL
  clear hpl h hlv hfew hL
  go_enter Try.func26, Try.ntmps26
  go_wp2_with fail
  go_quiet ((go_at_call 54; first | exact Calls.quiet_of_same (HPL.out _ (((Still.refl w).alloc _).drewN _)) | exact quiet_add_same (HPL.out _ (((Still.refl w).alloc _).drewN _))))
  go_wp2_with fail
  go_ret
  exact ⟨rfl, (HB.out.still (((Still.refl w).alloc _).drewN _)).after⟩

set_option maxHeartbeats 4000000 in
set_option maxRecDepth 100000 in
theorem does_o_at {w0 w : World} {s : St} {x : Rf} (h : Both w0 w s x) (a b : Int) (v : Nat) (kd : Int) (hk1 : ((kd : Int) == 1) = false) (hk2 : ((kd : Int) == 2) = false) (hk3 : ((kd : Int) == 3) = false) (ha : -9223372036854775808 ≤ a) (hv : v < 18446744073709551616) (hfew : x.L.length < 1000) (hL : 0 < x.L.length) :
    Calls Try.prog 26 #[s.ptr, x.ptr, .agg #[.int .i64 kd, .int .i64 a, .int .i64 b, .int .u64 v, .bool true]] w fun e w' => e = .returned (.bool true) ∧ After w0 w' s x := by
  obtain ⟨r, hpl⟩ := place_any x a w h.rf ha
  obtain ⟨la, lc, hlv⟩ := h.rf.lv_slice
  have hgx := h.rf.blk.lt
  have c2 : w.cell? ⟨x.gx, 2, none⟩ = some (.slice la x.L.length lc) := by rw [h.rf.c2, hlv]
  rw [hlv] at hpl
  have HPL := Lib.hid hpl
  have HB := Lib.hid h
  have HFEW := Lib.hid hfew
  have hsg := h.hp.blk.lt
  have hsgw := h.hp.words.lt
  rcases h.rf.lv_form with ⟨_, h0⟩ | ⟨g, cap, h1, hg, hb, hle, hm, hf, hc⟩
  · rw [h0] at hL; simp at hL
  have hqm : v % x.L.length < x.L.length := Nat.mod_lt _ hL
  obtain ⟨oo, ho⟩ : ∃ o, x.L[v % x.L.length]? = some o := ⟨_, List.getElem?_eq_getElem hqm⟩
  obtain ⟨d0, _⟩ := hc _ oo ho
  have hla : la = some ⟨g, 0, none⟩ := by rw [h1] at hlv; injection hlv with e; exact e.symm
  subst hla
  obtain ⟨j, hjj⟩ : ∃ j, v % x.L.length = j := ⟨_, rfl⟩
  have e1 : ((v : Int) % (x.L.length : Int)) = (j : Int) := by rw [← hjj]; simp
  have e2 : (v : Int).tmod (x.L.length : Int) = (j : Int) := by rw [← e1]; exact Int.tmod_eq_emod_of_nonneg (by omega)
  rw [hjj] at d0 hqm
  have htop := ((h.sim.tile.get ho).2)
  have hnn := h.hp.n_le
  have htt := h.hp.top_le
  have hat : oo.at_ ≤ 65536 := by omega
  obtain ⟨y, hy⟩ : ∃ y, oo.at_ * 2 = y := ⟨_, rfl⟩
  have hy1 : (oo.at_ : Int) * 2 = (y : Int) := by omega
  have hy2 : y < 18446744073709551616 := by omega
  have hy4 : y < 4294967296 := by omega
  have hz : ((x.L.length : Int) == 0) = false := beq_eq_false_iff_ne.2 (by omega)
  have hy3 : IntKind.u64.wrap (y : Int) = (y : Int) := by rw [IntKind.wrap_u64]; omega
  have hw1 : IntKind.u64.wrap (oo.at_ : Int) = (oo.at_ : Int) := by rw [IntKind.wrap_u64]; omega
  have hw2 : IntKind.u64.wrap (x.L.length : Int) = (x.L.length : Int) := by rw [IntKind.wrap_u64]; omega
  have hw3 : IntKind.i64.wrap (j : Int) = (j : Int) := by rw [IntKind.wrap_i64]; omega
  have HY2 := Lib.hid hy2
  clear hpl h hlv hc h1 ho hm hf hjj htop htt hle hy hnn hb
  go_enter Try.func26, Try.ntmps26
  go_wp2_with fail
  go_quiet (fail)
  go_wp2_with fail
  go_quiet ((go_at_call 54; first | exact Calls.quiet_of_same (HPL.out _ (((Still.refl w).alloc _).drewN _)) | exact quiet_add_same (HPL.out _ (((Still.refl w).alloc _).drewN _))))
  go_wp2_with fail
  go_ret
  exact ⟨rfl, (HB.out.still (((Still.refl w).alloc _).drewN _)).after⟩
end Go.Proofs.Ythfkgkddklnnhaa
