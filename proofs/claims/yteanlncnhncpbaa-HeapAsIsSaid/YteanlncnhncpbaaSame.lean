/- The laws' own Same: of two that say the same it says so. -/
import Derived.Test.YteanlncnhncpbaaRow
import Derived.StillTailTactics
import Derived.Deep.RegionWith
namespace Go.Proofs.Yteanlncnhncpbaa
set_option linter.unusedVariables false
open Go.ChangeShapes Go.WideShapes Go.ChangeAt Go.RowKit
open M (W)

set_option maxRecDepth 100000 in
set_option maxHeartbeats 8000000 in
theorem same_any {B : Nat} (s : St) (x : Rf) (w : World) (h : Agree B w s x) :
    Calls Try.prog 21 #[s.ptr, x.ptr] w fun e w' => e = .returned (.bool true) ∧ Still w w' := by
  have HTOP := fun W (hW : HpIs W s) => top_any s W hW
  have HRT := fun W (hW : RfIs B W x) => refTop_any x W hW h.valid
  rw [h.sum] at HRT
  have HH := Lib.hid h
  have HROW := Lib.hid (fun W (hW : Agree B W s x) => row_any s x W hW)
  have hpl := h.sim.places
  have HOB := Lib.hid (fun W (hW : HpIs W s) => objects_any s W hW (by have := hW.n_le; have := hW.top_le; omega))
  have HSZ := fun W (hW : HpIs W s) => size_any s W hW
  have HT1 := Lib.hid HTOP
  have HT2 := Lib.hid HRT
  have HT3 := Lib.hid HSZ
  clear HTOP HRT HSZ
  obtain ⟨la, lc, hlv⟩ := h.rf.lv_slice
  have c2 := h.rf.c2
  rw [hlv] at c2
  have HLV := Lib.hid hlv
  have HPL := Lib.hid hpl
  have hfew := h.rf.few
  clear h hlv hpl
  go_enter Try.func21, Try.ntmps21
  go_wp2_with fail
  have x1 : ((s.top : Int) != s.top) = false := by simp
  have x2 : ((s.n : Int) != s.n) = false := by simp
  have hgx := HH.out.rf.blk.lt
  have c0 := HH.out.rf.c0
  rw [HH.out.n] at c0
  have hsm := HH.out.hp.n_le
  have HSD : Hid (Still w w.drew) := Turn.drew (Still.refl w)
  have HPD := Lib.hid (HH.out.hp.still HSD.out)
  have HRD := Lib.hid (HH.out.rf.still HSD.out)
  go_region_with (first
    | (go_at_call 19; (with_reducible refine (HT1.out _ HPD.out).mono ?_); rintro e w1 ⟨rfl, rfl⟩)
    | (go_at_call 20; (with_reducible refine (HT2.out _ HRD.out).mono ?_); rintro e w1 ⟨rfl, t1⟩
       have HTT : Hid (Still w w1) := HSD.out.trans t1
       have HPT := Lib.hid (HH.out.hp.still HTT.out)
       have c0' : w1.cell? ⟨x.gx, 0, none⟩ = some (.int .i64 s.n) := by rw [HTT.out.cell hgx]; exact c0
       have hgx' : x.gx < w1.heap.size := Nat.lt_of_lt_of_le hgx HTT.out.size
       clear t1)
    | (go_at_call 39; (with_reducible refine (HT3.out _ HPT.out).mono ?_); rintro e w2 ⟨rfl, rfl⟩))
  all_goals (
    clear c0' hgx' x1 x2 HPD HRD
    go_simp
    go_wp2_with fail
    have HAG := Lib.hid (HH.out.still HTT.out)
    refine (HROW.out _ HAG.out).mono ?_; rintro e w3 ⟨⟨ra, rc, rfl, hown⟩, t3⟩
    have HT3' := Lib.hid (HTT.out.trans t3)
    have HOW := Lib.hid hown
    clear t3 hown HTT HPT HAG
    go_wp2_with fail
    go_loopw [31] (fun v wr => ∃ i : Nat, v = .int .i64 i ∧ i ≤ s.n ∧ wr = w3) (fun v _ => s.n - (intOf v).toNat)
    case atStart => exact ⟨0, rfl, by omega, rfl⟩
    case round =>
      obtain ⟨i, rfl, hi, rfl⟩ := hrel
      by_cases hlt : i < s.n
      · obtain ⟨gr, hra, hgr, hr1, hr2, hr3, _⟩ := own_form HOW.out (by omega)
        have hcell := hr3 i _ (u64s_get s.ws s.n i hlt)
        subst hra
        unfold maxLen at hr2
        have xx : ((s.ws i : Int) != s.ws i) = false := by simp
        have HLD := Lib.hid (load_in s i wr (HH.out.hp.still HT3'.out) hlt)
        clear hr3
        go_wp2_with fail
        refine HLD.out.mono ?_; rintro e w4 ⟨rfl, rfl⟩
        go_wp2_with fail
        go_roundw
        case rel => exact ⟨i + 1, by go_num, by omega, trivial⟩
        case measure => simp [intOf]; omega
      · clear hi
        go_wp2_with fail
        refine (HOB.out _ (HH.out.hp.still HT3'.out)).mono ?_; rintro e w5 ⟨⟨oa, oc, rfl, hown⟩, t5⟩
        rw [HPL.out, List.length_map]
        have HT5 := Lib.hid (HT3'.out.trans t5)
        have HOO : Hid (w5.ownsRow wr.heap.size 3 1 (.slice oa x.L.length oc) x.L.length (M.ints (x.L.map RO.at_))) := by
          have := hown; unfold St.owns at this; rw [HPL.out, List.length_map] at this; exact this
        clear t5 hown HOW
        have c25 : w5.cell? ⟨x.gx, 2, none⟩ = some (.slice la x.L.length lc) := by rw [HT5.out.cell hgx]; exact c2
        have hgx5 : x.gx < w5.heap.size := Nat.lt_of_lt_of_le hgx HT5.out.size
        have xl : ((x.L.length : Int) != x.L.length) = false := by simp
        go_wp2_with fail
        go_loopw [57] (fun v wr => ∃ j : Nat, v = .int .i64 j ∧ j ≤ x.L.length ∧ Still w5 wr) (fun v _ => x.L.length - (intOf v).toNat)
        case atStart => exact ⟨0, rfl, by omega, Still.refl _⟩
        case round =>
          obtain ⟨j, rfl, hj, ht⟩ := hrel
          by_cases hjl : j < x.L.length
          · obtain ⟨gr, hra, hgr, hr1, hr2, hr3, _⟩ := own_form HOO.out (by omega)
            obtain ⟨o, ho⟩ : ∃ o, x.L[j]? = some o := ⟨_, List.getElem?_eq_getElem hjl⟩
            have hcell := hr3 j (.int .i64 o.at_) (by unfold M.ints; rw [List.getElem?_map, List.getElem?_map, ho]; rfl)
            have hcell' : wr.cell? ⟨gr, j, none⟩ = some (.int .i64 o.at_) := by rw [ht.cell hgr]; exact hcell
            have hgr' : gr < wr.heap.size := Nat.lt_of_lt_of_le hgr ht.size
            subst hra
            unfold maxLen at hr2
            rcases HH.out.rf.lv_form with ⟨_, h0⟩ | ⟨g, cap, h1, hg, hb, hle, hm, hf, hc⟩
            · rw [h0] at hjl; simp at hjl
            have h2 := h1.symm.trans HLV.out
            injection h2 with h3 _ h4
            subst h3; subst h4
            have hWr : Still w wr := HT5.out.trans ht
            obtain ⟨d0, d1, d2, d3, d4⟩ := hc j o ho
            rw [← hWr.cell (p := ⟨g, _, none⟩) hg] at d0 d1 d2 d3 d4
            have hgw : g < wr.heap.size := Nat.lt_of_lt_of_le hg hWr.size
            have hom := List.mem_of_getElem? ho
            have HA := Lib.hid (hWr.alloc (.cells o.arr 54))
            have HOBJ := Lib.hid (HH.out.sim.obAt HH.out.hp hom)
            have HLEN := Lib.hid (len_ok s o.at_ _ _ (HH.out.hp.still HA.out) HOBJ.out)
            have HBK := Lib.hid (Blk.new wr 54 o.arr)
            have HWR := Lib.hid hWr
            have HT := Lib.hid ht
            have HCELL := Lib.hid hcell
            clear hr3 hc h1 hf hb hle hm hWr ho hom hcell ht
            go_wp2_with fail
            refine HLEN.out.mono ?_; rintro e w6 ⟨rfl, t6⟩
            have HT6 := Lib.hid (HA.out.trans t6)
            have HB6 := Lib.hid (Still.blk t6 HBK.out)
            have HT6' := Lib.hid ((HT.out.alloc (.cells o.arr 54)).trans t6)
            obtain ⟨b0, b1, b2, b3, b4⟩ := blk5 HB6.out
            have hb6 := HB6.out.lt
            clear t6 d0 d1 d2 d3 d4
            go_wp2_with fail
            refine (shape_ok s o.at_ _ _ (HH.out.hp.still HT6.out) HOBJ.out).mono ?_; rintro e w7 ⟨rfl, t7⟩
            have HB7 := Lib.hid (Still.blk t7 HB6.out)
            have HT7 := Lib.hid (HT6'.out.trans t7)
            clear b0 b1 b2 b3 b4 hb6
            obtain ⟨b0, b1, b2, b3, b4⟩ := blk5 HB7.out
            have hb7 := HB7.out.lt
            have hcell7 : w7.cell? ⟨gr, j, none⟩ = some (.int .i64 o.at_) := by rw [HT7.out.cell (p := ⟨gr, j, none⟩) hgr]; exact HCELL.out
            clear t7
            have x1 : ((o.at_ : Int) != o.at_) = false := by simp
            have x2 : ((o.n : Int) != o.n) = false := by simp
            have x3 : ((o.sh : Int) != o.sh) = false := by simp
            go_wp2_with fail
            go_quiet (fail)
            go_wp2_with fail
            go_roundw
            case rel => exact ⟨j + 1, by go_num, by omega, HT7.out.drewN _⟩
            case measure => simp [intOf]; omega
          · clear c25 hgx5 c2
            have HTE := Lib.hid (HT5.out.trans ht)
            clear ht
            go_wp2_with fail
            go_ret
            refine ⟨?_, HTE.out⟩; first | rfl | trivial)
end Go.Proofs.Yteanlncnhncpbaa
