/- HeapDoes' walk. -/
import Derived.Test.YteanlncnhncpbaaSame
import Derived.Test.YteanlncnhncpbaaMade4
import Derived.Test.YteanlncnhncpbaaHeapLives
namespace Go.Proofs.Yteanlncnhncpbaa
set_option linter.unusedVariables false
open Go.ChangeShapes Go.WideShapes Go.ChangeAt Go.RowKit
open M (W)

theorem heapDoes_nil (n0 : Int) (a0 : Option Addr) (len0 cap0 : Nat) (a1 : Option Addr) (len1 cap1 : Nat) (w : World)
    (HM : Calls Try.prog 15 #[.int .i64 n0, .slice a0 len0 cap0, .slice none 0 0] w (MadeNil w)) :
    Calls Try.prog 3 #[.int .i64 n0, .slice a0 len0 cap0, .slice a1 len1 cap1] w fun e w' => e = .returned (.bool true) ∧ Below w.heap.size w w' := by
  go_enter Try.func3, Try.ntmps3
  go_wp2_with fail
  refine HM.mono ?_; rintro e w1 hm; obtain ⟨rfl, t1⟩ := hm
  have HT := Lib.hid t1; clear t1
  go_wp2_with (go_at_call 16; (with_reducible refine (lives_any _).mono ?_); rintro e w9 ⟨rfl, hb⟩)
  go_ret
  have hh := Still.below HT.out
  exact ⟨rfl, hh.trans (hb.mono hh.size)⟩

set_option maxRecDepth 100000 in
set_option maxHeartbeats 8000000 in
theorem heapDoes_ok (n : Nat) (n0 : Int) (a0 : Option Addr) (len0 cap0 : Nat) (a1 : Option Addr) (len1 cap1 : Nat) (F : Nat → OpR) (w : World) (hA : Ops w a1 len1 F) (hc : len1 ≤ cap1) (hm : cap1 ≤ maxLen)
    (HM : Calls Try.prog 15 #[.int .i64 n0, .slice a0 len0 cap0, .slice none 0 0] w (MadeOk w n)) :
    Calls Try.prog 3 #[.int .i64 n0, .slice a0 len0 cap0, .slice a1 len1 cap1] w fun e w' => e = .returned (.bool true) ∧ Below w.heap.size w w' := by
  have HF := fun W => few_any a1 len1 cap1 W hc hm
  have HOPS := Lib.hid (hA.less (show min len1 200 ≤ len1 by omega))
  obtain ⟨q, hq⟩ : ∃ q, min len1 200 = q := ⟨_, rfl⟩
  rw [hq] at HF HOPS
  have hq2 : q ≤ 200 := by omega
  clear hA hq
  go_enter Try.func3, Try.ntmps3
  go_wp2_with fail
  refine HM.mono ?_; rintro e w1 hm; obtain ⟨s, x, rfl, hb, hsn, hxl⟩ := hm
  have HB := Lib.hid hb
  clear hb HM
  go_wp2_with fail
  refine (HF _).mono ?_; rintro e w3 ⟨rfl, rfl⟩
  go_wp2_with fail
  go_loopw [23] (fun v wr => ∃ (j : Nat) (s' : St) (x' : Rf), v = .int .i64 j ∧ j ≤ q ∧ Both w wr s' x' ∧ s'.g = s.g ∧ x'.gx = x.gx ∧ x'.L.length ≤ 200 + j) (fun v _ => q - (intOf v).toNat)
  case atStart => exact ⟨0, s, x, rfl, by omega, HB.out, rfl, rfl, by omega⟩
  case round =>
    obtain ⟨j, s', x', rfl, hj, hb, hsg, hxg, hxl⟩ := hrel
    have HSG := Lib.hid hsg
    have HXG := Lib.hid hxg
    have HXL := Lib.hid hxl
    by_cases hjq : j < q
    · obtain ⟨b, off, hAe, hbl, hc⟩ := (HOPS.out.below hb.below).at_ (by omega)
      obtain ⟨hok, d0, d1, d2, d3, d4⟩ := hc j hjq
      subst hAe
      have HB2 := Lib.hid hb
      have HD := does_any (hb.still ((Still.refl wr).alloc (.cells #[.int .i64 (F j).k, .int .i64 (F j).a, .int .i64 (F j).b, .int .u64 (F j).v, .bool (F j).near] 32))) (F j) hok (by omega)
      unfold OpR.val St.ptr Rf.ptr at HD
      rw [hsg, hxg] at HD
      have hgb : b < wr.heap.size := hbl
      generalize F j = oo at hok d0 d1 d2 d3 d4 HD
      obtain ⟨okk, oa, ob, ov, on⟩ := oo
      simp only at d0 d1 d2 d3 d4 HD
      have HDD := Lib.hid HD
      clear hc hb hok HD hsg hxg hxl
      go_wp2_with fail
      refine HDD.out.mono ?_; rintro e w4 ⟨rfl, s2, x2, hb2, e1, e2, e3, e4, e5⟩
      have HTP := top_any s2 w4 hb2.hp
      have HRT := refTop_any x2 w4 hb2.rf hb2.agree.valid
      rw [hb2.sum] at HRT
      unfold St.ptr at HTP
      unfold Rf.ptr at HRT
      rw [e1, HSG.out] at HTP
      rw [e2, HXG.out] at HRT
      have HBB := Lib.hid hb2
      have HE := Lib.hid (And.intro (e1.trans HSG.out) (And.intro (e2.trans HXG.out) e4))
      have HTP' := Lib.hid HTP
      have HRT' := Lib.hid HRT
      have x1 : ((s2.top : Int) != s2.top) = false := by simp
      clear hb2 e1 e2 e3 e4 e5 HTP HRT HDD HB2
      go_wp2_with fail
      refine HTP'.out.mono ?_; rintro e w5 ⟨rfl, rfl⟩
      go_wp2_with fail
      refine HRT'.out.mono ?_; rintro e w6 ⟨rfl, t6⟩
      have HB6 := Lib.hid (HBB.out.still t6)
      clear t6
      by_cases h16 : j % 16 = 15
      · have hmod : (j : Int).tmod 16 = 15 := by rw [Int.tmod_eq_emod_of_nonneg (by omega)]; omega
        have HSM := same_any s2 x2 w6 HB6.out.agree
        unfold St.ptr Rf.ptr at HSM
        rw [HE.out.1, HE.out.2.1] at HSM
        have HSM' := Lib.hid HSM
        clear HSM h16
        go_wp2_with fail
        refine HSM'.out.mono ?_; rintro e w7 ⟨rfl, t7⟩
        have HB7 := Lib.hid (HB6.out.still t7)
        clear t7
        go_wp2_with fail
        go_roundw
        case rel => exact ⟨j + 1, s2, x2, by go_num, by omega, HB7.out, HE.out.1, HE.out.2.1, by have := HE.out.2.2; have := HXL.out; omega⟩
        case measure => simp [intOf]; omega
      · have hmod : ¬ ((j : Int) % 16 = 15) := by omega
        clear h16
        go_wp2_with fail
        go_roundw
        case rel => exact ⟨j + 1, s2, x2, by go_num, by omega, HB6.out, HE.out.1, HE.out.2.1, by have := HE.out.2.2; have := HXL.out; omega⟩
        case measure => simp [intOf]; omega
    · have HB2 := Lib.hid hb
      have HSM := same_any s' x' wr hb.agree
      unfold St.ptr Rf.ptr at HSM
      rw [hsg, hxg] at HSM
      have HSM' := Lib.hid HSM
      clear HSM hb hsg hxg hxl
      go_wp2_with fail
      refine HSM'.out.mono ?_; rintro e w7 ⟨rfl, t7⟩
      have HB7 := Lib.hid (HB2.out.still t7)
      clear t7
      go_wp2_with (go_at_call 16; (with_reducible refine (lives_any _).mono ?_); rintro e w9 ⟨rfl, hb⟩)
      go_ret
      have hh := HB7.out.below
      exact ⟨rfl, hh.trans (hb.mono hh.size)⟩
end Go.Proofs.Yteanlncnhncpbaa
