/- HeapTells' walk. -/
import Derived.Test.YtmfhjfkghljoeaaTells
import Derived.StillTailTactics
namespace Go.Proofs.Ytmfhjfkghljoeaa
set_option linter.unusedVariables false
open Go.ChangeShapes Go.WideShapes Go.ChangeAt Go.RowKit
open M (W)

set_option maxRecDepth 100000 in
theorem tells_nil (k a b : Int) (v : Nat) (near : Bool) (a0 : Option Addr) (len0 cap0 : Nat) (a1 : Option Addr) (len1 cap1 : Nat) (w : World)
    (HM : Calls Try.prog 21 #[.int .i64 1000, .slice a0 len0 cap0, .slice a1 len1 cap1] (w.alloc (.cells #[.int .i64 k, .int .i64 a, .int .i64 b, .int .u64 v, .bool near] 49)) (MadeNil (w.alloc (.cells #[.int .i64 k, .int .i64 a, .int .i64 b, .int .u64 v, .bool near] 49)))) :
    Calls Try.prog 6 #[.slice a0 len0 cap0, .slice a1 len1 cap1, .agg #[.int .i64 k, .int .i64 a, .int .i64 b, .int .u64 v, .bool near]] w fun e w' => e = .returned (.bool true) ∧ Below w.heap.size w w' := by
  go_enter Try.func6, Try.ntmps6
  go_wp2_with fail
  refine HM.mono ?_; rintro e w1 hm; obtain ⟨rfl, t1⟩ := hm
  have HT := Lib.hid t1; clear t1
  go_wp2_with (go_at_call 17; (with_reducible refine (lives_any _).mono ?_); rintro e w9 ⟨rfl, hb⟩)
  go_ret
  have hh := Still.below (((Still.refl w).alloc _).trans HT.out)
  exact ⟨rfl, hh.trans (hb.mono hh.size)⟩

set_option maxRecDepth 100000 in
set_option maxHeartbeats 8000000 in
theorem tells_ok (k a b : Int) (v : Nat) (near : Bool) (ha : -9223372036854775808 ≤ a) (hv : v < 18446744073709551616) (a0 : Option Addr) (len0 cap0 : Nat) (a1 : Option Addr) (len1 cap1 : Nat) (w : World)
    (HM : Calls Try.prog 21 #[.int .i64 1000, .slice a0 len0 cap0, .slice a1 len1 cap1] (w.alloc (.cells #[.int .i64 k, .int .i64 a, .int .i64 b, .int .u64 v, .bool near] 49)) (MadeOk (w.alloc (.cells #[.int .i64 k, .int .i64 a, .int .i64 b, .int .u64 v, .bool near] 49)) 1000)) :
    Calls Try.prog 6 #[.slice a0 len0 cap0, .slice a1 len1 cap1, .agg #[.int .i64 k, .int .i64 a, .int .i64 b, .int .u64 v, .bool near]] w fun e w' => e = .returned (.bool true) ∧ Below w.heap.size w w' := by
  go_enter Try.func6, Try.ntmps6
  go_wp2_with fail
  refine HM.mono ?_; rintro e w1 hm; obtain ⟨s, x, rfl, hb, hsn, hxl⟩ := hm
  obtain ⟨r, hpl⟩ := place_any x a w1 hb.rf ha
  obtain ⟨la, lc, hlv⟩ := hb.rf.lv_slice
  have hgx := hb.rf.blk.lt
  have c2 : w1.cell? ⟨x.gx, 2, none⟩ = some (.slice la x.L.length lc) := by rw [hb.rf.c2, hlv]
  rw [hlv] at hpl
  have HPL := Lib.hid hpl
  have hbox : Blk w1 w.heap.size 49 #[.int .i64 k, .int .i64 a, .int .i64 b, .int .u64 v, .bool near] := (hb.below.block w.heap.size (by simp)).trans (Blk.new w _ _)
  have hbw := hbox.lt
  have f1 := hbox.cell 1
  have f2 := hbox.cell 2
  have f3 := hbox.cell 3
  simp only [List.getElem?_toArray, List.getElem?_cons_succ, List.getElem?_cons_zero] at f1 f2 f3
  have HBOX := Lib.hid hbox
  have HB := Lib.hid hb
  clear hpl hb hlv hbox hsn HM
  go_wp2_with fail
  go_quiet ((go_at_call 26; first | exact Calls.quiet_of_same (HPL.out _ ((Still.refl _).drewN _)) | exact quiet_add_same (HPL.out _ ((Still.refl _).drewN _))))
  have ht2 : Still w1 (w1.drewN nq) := (Still.refl w1).drewN nq
  go_wp2_with fail
  have HT2 := Lib.hid ht2; clear ht2
  rcases tells_ways HB.out r b v hv with ⟨f, u, ee, hA⟩ | ⟨kk, o, hk, ho, f, u, ee, ⟨hk3, hA⟩ | ⟨hk3, hbl, hbo, hA⟩ | ⟨hk3, hbl, m, rfl, hm, hA⟩⟩
  · have HA := Lib.hid hA; clear hA
    refine (HA.out.find _ (HB.out.hp.still HT2.out) (HB.out.rf.still HT2.out)).mono ?_; rintro e w3 ⟨rfl, t3⟩
    have HT3 := Lib.hid (HT2.out.trans t3)
    clear t3 HT2
    have f3' : w3.cell? ⟨w.heap.size, 3, none⟩ = some (.int .u64 v) := by rw [HT3.out.cell hbw]; exact f3
    go_wp2_with fail
    refine wp_region_still_tail 14 (by kernel_rfl) (by kernel_rfl) ?_
    simp only [List.take_succ_cons, List.take_zero, List.drop_succ_cons, List.drop_zero]
    change wpStill _ _ w3.drew (fun a' => wpList _ _ _ _ a' w3.drew) _ _
    have HTD := Lib.hid (HT3.out.trans ((Still.refl w3).drewN 1))
    repeat still_step
    still_call (HA.out.is _ (HB.out.hp.still HTD.out))
    repeat still_step
    have f3d : w3.drew.cell? ⟨w.heap.size, 3, none⟩ = some (.int .u64 v) := f3'
    still_call (HA.out.fits _ (HB.out.hp.still HTD.out))
    repeat still_step
    refine wpStill_nil ?_
    go_wp2_with fail
    refine (HA.out.rfits _ (HB.out.hp.still HTD.out) (HB.out.rf.still HTD.out)).mono ?_; rintro e w4 ⟨rfl, t4⟩
    have HT4 := Lib.hid (HTD.out.trans t4)
    clear t4 f3' f3d HTD HT3
    have f2' : w4.cell? ⟨w.heap.size, 2, none⟩ = some (.int .i64 b) := by rw [HT4.out.cell hbw]; exact f2
    go_wp2_with fail
    refine (HA.out.get _ (HB.out.hp.still HT4.out) (HB.out.rf.still HT4.out)).mono ?_; rintro e w5 ⟨rfl, t5⟩
    have HT5 := Lib.hid (HT4.out.trans t5)
    clear t5 f2' HT4
    have f2' : w5.cell? ⟨w.heap.size, 2, none⟩ = some (.int .i64 b) := by rw [HT5.out.cell hbw]; exact f2
    go_wp2_with fail
    refine (HA.out.rget _ (HB.out.hp.still HT5.out) (HB.out.rf.still HT5.out)).mono ?_; rintro e w6 ⟨rfl, t6⟩
    have HT6 := Lib.hid (HT5.out.trans t6)
    clear t6 f2' HT5
    have f2' : w6.cell? ⟨w.heap.size, 2, none⟩ = some (.int .i64 b) := by rw [HT6.out.cell hbw]; exact f2
    go_wp2_with fail
    refine (HA.out.byte _ (HB.out.hp.still HT6.out) (HB.out.rf.still HT6.out)).mono ?_; rintro e w7 ⟨rfl, t7⟩
    have HT7 := Lib.hid (HT6.out.trans t7)
    clear t7 f2' HT6
    go_wp2_with fail
    refine (HA.out.text _ (HB.out.hp.still HT7.out) (HB.out.rf.still HT7.out)).mono ?_; rintro e w8 ⟨rfl, t8⟩
    have HT8 := Lib.hid (HT7.out.trans t8)
    clear t8 HT7
    go_wp2_with fail
    refine (HA.out.len _ (HB.out.hp.still HT8.out) (HB.out.rf.still HT8.out)).mono ?_; rintro e w9 ⟨rfl, t9⟩
    have HT9 := Lib.hid (HT8.out.trans t9)
    clear t9 HT8
    have x1 : ((u : Int) != u) = false := by simp
    have x2 : (ee != ee) = false := by simp
    go_wp2_with fail
    go_quiet (fail)
    go_wp2_with (go_at_call 17; (with_reducible refine (lives_any _).mono ?_); rintro e wz ⟨rfl, hbz⟩)
    go_ret
    have hh := fun n => below_drewN (((Still.refl w).alloc (.cells #[.int .i64 k, .int .i64 a, .int .i64 b, .int .u64 v, .bool near] 49)).below.trans ((HB.out.below.mono (by simp)).trans (Still.below HT9.out |>.mono (by omega)))) n
    exact ⟨rfl, (hh _).trans (hbz.mono (hh _).size)⟩
  · have HA := Lib.hid hA; clear hA
    rcases HB.out.rf.lv_form with ⟨_, h0⟩ | ⟨lg, lcap, h1, hlg, _, hlle, hlm, hlf, hlc⟩
    · rw [h0] at hk; simp at hk
    have hkl : kk < x.L.length := (List.getElem?_eq_some_iff.1 hk).1
    have hgood := HB.out.sim.good o ho
    have hsm := hgood.kd.2.2.1
    have hshl : o.sh < x.len := by have := HB.out.len; omega
    obtain ⟨lb, lo, hxa, hlb, hlk⟩ := HB.out.rf.lays.at_ (by omega)
    have hK : x.K o.sh = s.kind o.sh := by
      have := (HB.out.kd o.sh).1
      unfold M.kd at this
      simpa [hshl] using this
    have hk0 := (hlk o.sh hshl).1
    rw [hK] at hk0
    have d2 := HB.out.rf.c2
    rw [h1] at d2
    have d1 := HB.out.rf.c1
    rw [hxa] at d1
    obtain ⟨e0, e1, e2, e3, e4⟩ := hlc kk o hk
    have k0 : 0 ≤ (kk : Int) := by omega
    have k1 : ¬ ((kk : Int) < 0) := by omega
    unfold maxLen at hlm
    have HD := Lib.hid (And.intro d1 (And.intro d2 (And.intro hk0 (And.intro e0 (And.intro e1 (And.intro e2 (And.intro e3 e4)))))))
    have HGD := Lib.hid hgood
    have HHK := Lib.hid hk
    have HHO := Lib.hid ho
    clear d1 d2 hk0 e0 e1 e2 e3 e4 hlc hlk hK h1 hxa hgood hk ho c2 f1 hsm hlf
    refine (HA.out.find _ (HB.out.hp.still HT2.out) (HB.out.rf.still HT2.out)).mono ?_; rintro e w3 ⟨rfl, t3⟩
    have HT3 := Lib.hid (HT2.out.trans t3)
    clear t3 HT2
    have f3' : w3.cell? ⟨w.heap.size, 3, none⟩ = some (.int .u64 v) := by rw [HT3.out.cell hbw]; exact f3
    go_wp2_with fail
    refine wp_region_still_tail 14 (by kernel_rfl) (by kernel_rfl) ?_
    simp only [List.take_succ_cons, List.take_zero, List.drop_succ_cons, List.drop_zero]
    change wpStill _ _ w3.drew (fun a' => wpList _ _ _ _ a' w3.drew) _ _
    have HTD := Lib.hid (HT3.out.trans ((Still.refl w3).drewN 1))
    repeat still_step
    still_call (HA.out.is _ (HB.out.hp.still HTD.out))
    repeat still_step
    have f3d : w3.drew.cell? ⟨w.heap.size, 3, none⟩ = some (.int .u64 v) := f3'
    still_call (HA.out.fits _ (HB.out.hp.still HTD.out))
    repeat still_step
    refine wpStill_nil ?_
    go_wp2_with fail
    refine (HA.out.rfits _ (HB.out.hp.still HTD.out) (HB.out.rf.still HTD.out)).mono ?_; rintro e w4 ⟨rfl, t4⟩
    have HT4 := Lib.hid (HTD.out.trans t4)
    clear t4 f3' f3d HTD HT3
    have f2' : w4.cell? ⟨w.heap.size, 2, none⟩ = some (.int .i64 b) := by rw [HT4.out.cell hbw]; exact f2
    go_wp2_with fail
    refine (HA.out.get _ (HB.out.hp.still HT4.out) (HB.out.rf.still HT4.out)).mono ?_; rintro e w5 ⟨rfl, t5⟩
    have HT5 := Lib.hid (HT4.out.trans t5)
    clear t5 f2' HT4
    have f2' : w5.cell? ⟨w.heap.size, 2, none⟩ = some (.int .i64 b) := by rw [HT5.out.cell hbw]; exact f2
    go_wp2_with fail
    refine (HA.out.rget _ (HB.out.hp.still HT5.out) (HB.out.rf.still HT5.out)).mono ?_; rintro e w6 ⟨rfl, t6⟩
    have HT6 := Lib.hid (HT5.out.trans t6)
    clear t6 f2' HT5
    have f2' : w6.cell? ⟨w.heap.size, 2, none⟩ = some (.int .i64 b) := by rw [HT6.out.cell hbw]; exact f2
    go_wp2_with fail
    refine (HA.out.byte _ (HB.out.hp.still HT6.out) (HB.out.rf.still HT6.out)).mono ?_; rintro e w7 ⟨rfl, t7⟩
    have HT7 := Lib.hid (HT6.out.trans t7)
    clear t7 f2' HT6
    go_wp2_with fail
    refine (HA.out.text _ (HB.out.hp.still HT7.out) (HB.out.rf.still HT7.out)).mono ?_; rintro e w8 ⟨rfl, t8⟩
    have HT8 := Lib.hid (HT7.out.trans t8)
    clear t8 HT7
    go_wp2_with fail
    refine (HA.out.len _ (HB.out.hp.still HT8.out) (HB.out.rf.still HT8.out)).mono ?_; rintro e w9 ⟨rfl, t9⟩
    have HT9 := Lib.hid (HT8.out.trans t9)
    clear t9 HT8
    have hgx9 : x.gx < w9.heap.size := Nat.lt_of_lt_of_le hgx HT9.out.size
    have hlg9 : lg < w9.heap.size := Nat.lt_of_lt_of_le hlg HT9.out.size
    have hlb9 : lb < w9.heap.size := Nat.lt_of_lt_of_le hlb HT9.out.size
    have hbw9 : w.heap.size < w9.heap.size := Nat.lt_of_lt_of_le hbw HT9.out.size
    obtain ⟨d1, d2, dk, e0, e1, e2, e3, e4⟩ := HD.out
    rw [← HT9.out.cell hgx] at d1 d2
    rw [← HT9.out.cell hlb] at dk
    rw [← HT9.out.cell hlg] at e0 e1 e2 e3 e4
    rw [← HT9.out.cell hbw] at f2
    clear f3 HD
    have hkk : (s.kind o.sh != 3) = true := by simpa using hk3
    have x1 : ((u : Int) != u) = false := by simp
    have x2 : (ee != ee) = false := by simp
    go_wp2_with fail
    go_quiet (fail)
    go_wp2_with (go_at_call 17; (with_reducible refine (lives_any _).mono ?_); rintro e wz ⟨rfl, hbz⟩)
    go_ret
    have hh := fun n => below_drewN (((Still.refl w).alloc (.cells #[.int .i64 k, .int .i64 a, .int .i64 b, .int .u64 v, .bool near] 49)).below.trans ((HB.out.below.mono (by simp)).trans (Still.below HT9.out |>.mono (by omega)))) n
    exact ⟨rfl, (hh _).trans (hbz.mono (hh _).size)⟩
  · have HA := Lib.hid hA; clear hA
    rcases HB.out.rf.lv_form with ⟨_, h0⟩ | ⟨lg, lcap, h1, hlg, _, hlle, hlm, hlf, hlc⟩
    · rw [h0] at hk; simp at hk
    have hkl : kk < x.L.length := (List.getElem?_eq_some_iff.1 hk).1
    have hgood := HB.out.sim.good o ho
    have hsm := hgood.kd.2.2.1
    have hshl : o.sh < x.len := by have := HB.out.len; omega
    obtain ⟨lb, lo, hxa, hlb, hlk⟩ := HB.out.rf.lays.at_ (by omega)
    have hK : x.K o.sh = s.kind o.sh := by
      have := (HB.out.kd o.sh).1
      unfold M.kd at this
      simpa [hshl] using this
    have hk0 := (hlk o.sh hshl).1
    rw [hK] at hk0
    have d2 := HB.out.rf.c2
    rw [h1] at d2
    have d1 := HB.out.rf.c1
    rw [hxa] at d1
    obtain ⟨e0, e1, e2, e3, e4⟩ := hlc kk o hk
    have k0 : 0 ≤ (kk : Int) := by omega
    have k1 : ¬ ((kk : Int) < 0) := by omega
    unfold maxLen at hlm
    have HF2 := Lib.hid f2
    have HD := Lib.hid (And.intro d1 (And.intro d2 (And.intro hk0 (And.intro e0 (And.intro e1 (And.intro e2 (And.intro e3 e4)))))))
    have HGD := Lib.hid hgood
    have HHK := Lib.hid hk
    have HHO := Lib.hid ho
    clear d1 d2 hk0 e0 e1 e2 e3 e4 hlc hlk hK h1 hxa hgood hk ho c2 f1 hsm hlf
    refine (HA.out.find _ (HB.out.hp.still HT2.out) (HB.out.rf.still HT2.out)).mono ?_; rintro e w3 ⟨rfl, t3⟩
    have HT3 := Lib.hid (HT2.out.trans t3)
    clear t3 HT2
    have f3' : w3.cell? ⟨w.heap.size, 3, none⟩ = some (.int .u64 v) := by rw [HT3.out.cell hbw]; exact f3
    go_wp2_with fail
    refine wp_region_still_tail 14 (by kernel_rfl) (by kernel_rfl) ?_
    simp only [List.take_succ_cons, List.take_zero, List.drop_succ_cons, List.drop_zero]
    change wpStill _ _ w3.drew (fun a' => wpList _ _ _ _ a' w3.drew) _ _
    have HTD := Lib.hid (HT3.out.trans ((Still.refl w3).drewN 1))
    repeat still_step
    still_call (HA.out.is _ (HB.out.hp.still HTD.out))
    repeat still_step
    have f3d : w3.drew.cell? ⟨w.heap.size, 3, none⟩ = some (.int .u64 v) := f3'
    still_call (HA.out.fits _ (HB.out.hp.still HTD.out))
    repeat still_step
    refine wpStill_nil ?_
    go_wp2_with fail
    refine (HA.out.rfits _ (HB.out.hp.still HTD.out) (HB.out.rf.still HTD.out)).mono ?_; rintro e w4 ⟨rfl, t4⟩
    have HT4 := Lib.hid (HTD.out.trans t4)
    clear t4 f3' f3d HTD HT3
    have f2' : w4.cell? ⟨w.heap.size, 2, none⟩ = some (.int .i64 b) := by rw [HT4.out.cell hbw]; exact f2
    go_wp2_with fail
    refine (HA.out.get _ (HB.out.hp.still HT4.out) (HB.out.rf.still HT4.out)).mono ?_; rintro e w5 ⟨rfl, t5⟩
    have HT5 := Lib.hid (HT4.out.trans t5)
    clear t5 f2' HT4
    have f2' : w5.cell? ⟨w.heap.size, 2, none⟩ = some (.int .i64 b) := by rw [HT5.out.cell hbw]; exact f2
    go_wp2_with fail
    refine (HA.out.rget _ (HB.out.hp.still HT5.out) (HB.out.rf.still HT5.out)).mono ?_; rintro e w6 ⟨rfl, t6⟩
    have HT6 := Lib.hid (HT5.out.trans t6)
    clear t6 f2' HT5
    have f2' : w6.cell? ⟨w.heap.size, 2, none⟩ = some (.int .i64 b) := by rw [HT6.out.cell hbw]; exact f2
    go_wp2_with fail
    refine (HA.out.byte _ (HB.out.hp.still HT6.out) (HB.out.rf.still HT6.out)).mono ?_; rintro e w7 ⟨rfl, t7⟩
    have HT7 := Lib.hid (HT6.out.trans t7)
    clear t7 f2' HT6
    go_wp2_with fail
    refine (HA.out.text _ (HB.out.hp.still HT7.out) (HB.out.rf.still HT7.out)).mono ?_; rintro e w8 ⟨rfl, t8⟩
    have HT8 := Lib.hid (HT7.out.trans t8)
    clear t8 HT7
    go_wp2_with fail
    refine (HA.out.len _ (HB.out.hp.still HT8.out) (HB.out.rf.still HT8.out)).mono ?_; rintro e w9 ⟨rfl, t9⟩
    have HT9 := Lib.hid (HT8.out.trans t9)
    clear t9 HT8
    have hgx9 : x.gx < w9.heap.size := Nat.lt_of_lt_of_le hgx HT9.out.size
    have hlg9 : lg < w9.heap.size := Nat.lt_of_lt_of_le hlg HT9.out.size
    have hlb9 : lb < w9.heap.size := Nat.lt_of_lt_of_le hlb HT9.out.size
    have hbw9 : w.heap.size < w9.heap.size := Nat.lt_of_lt_of_le hbw HT9.out.size
    obtain ⟨d1, d2, dk, e0, e1, e2, e3, e4⟩ := HD.out
    rw [← HT9.out.cell hgx] at d1 d2
    rw [← HT9.out.cell hlb] at dk
    rw [← HT9.out.cell hlg] at e0 e1 e2 e3 e4
    rw [← HT9.out.cell hbw] at f2
    clear f3
    have hkk : (s.kind o.sh != 3) = false := by simpa using hk3
    have x1 : ((u : Int) != u) = false := by simp
    have x2 : (ee != ee) = false := by simp
    go_wp2_with fail
    go_quiet (fail)
    generalize hw10 : World.drewN w9 _ = w10
    have ht10 : Still w1 w10 := hw10 ▸ (HT9.out.drewN _)
    have HT10 := Lib.hid ht10
    clear hw10 ht10 HT9 d1 d2 dk e0 e1 e2 e3 e4 hgx9 hlg9 hlb9 hbw9
    have hgx9 : x.gx < w10.heap.size := Nat.lt_of_lt_of_le hgx HT10.out.size
    have hlg9 : lg < w10.heap.size := Nat.lt_of_lt_of_le hlg HT10.out.size
    have hbw9 : w.heap.size < w10.heap.size := Nat.lt_of_lt_of_le hbw HT10.out.size
    obtain ⟨d1, d2, dk, e0, e1, e2, e3, e4⟩ := HD.out
    rw [← HT10.out.cell hgx] at d2
    rw [← HT10.out.cell hlg] at e0 e1 e2 e3 e4
    have f2t : w10.cell? ⟨w.heap.size, 2, none⟩ = some (.int .i64 b) := by rw [HT10.out.cell hbw]; exact HF2.out
    have hconv : ∀ c, (convert 64 9 (.slice o.ba o.n o.bc)).run Try.prog (w10.alloc c) = .ok (.string (M.str o.bs)) (w10.alloc c) := fun c => by
      have := own_str (((HB.out.rf.still (HT10.out.alloc c)).rows o HHO.out).2)
      rw [← hbl]; exact this
    have x3 : ((o.n : Int) != o.n) = false := by simp
    have x4 : (M.str o.bs != M.str o.bs) = false := by
      show (!((M.str o.bs).data == (M.str o.bs).data)) = false
      simp
    clear d1 dk f2
    have HBB := Lib.hid hbo
    clear hbo
    by_cases hb0 : b < 0
    · have HBz := Lib.hid hb0
      go_wp2_with (go_at_call 17; (with_reducible refine (lives_any _).mono ?_); rintro e wz ⟨rfl, hbz⟩)
      go_ret
      have hh := fun c => ((Still.refl w).alloc (.cells #[.int .i64 k, .int .i64 a, .int .i64 b, .int .u64 v, .bool near] 49)).below.trans ((HB.out.below.mono (by simp)).trans (Still.below (HT10.out.alloc c) |>.mono (by omega)))
      exact ⟨rfl, (hh _).trans (hbz.mono (hh _).size)⟩
    · have hb1 : (o.n : Int) ≤ b := by have := HBB.out; omega
      go_wp2_with (go_at_call 17; (with_reducible refine (lives_any _).mono ?_); rintro e wz ⟨rfl, hbz⟩)
      go_ret
      have hh := fun c => ((Still.refl w).alloc (.cells #[.int .i64 k, .int .i64 a, .int .i64 b, .int .u64 v, .bool near] 49)).below.trans ((HB.out.below.mono (by simp)).trans (Still.below (HT10.out.alloc c) |>.mono (by omega)))
      exact ⟨rfl, (hh _).trans (hbz.mono (hh _).size)⟩
  · obtain ⟨cc, hcc⟩ : ∃ cc, o.bs.getD m 0 = cc := ⟨_, rfl⟩
    rw [hcc] at hA
    obtain ⟨bg, hba, hbg, _, _, hbc, _⟩ := own_form ((HB.out.rf.rows o ho).2) (by omega)
    have hbm := hbc m (.int .u8 cc) (by
      rw [List.getElem?_map, List.getElem?_eq_getElem (show m < o.bs.length by omega)]
      rw [← hcc, List.getD_eq_getElem?_getD, List.getElem?_eq_getElem (show m < o.bs.length by omega)]; rfl)
    have HBM := Lib.hid hbm
    have HBA := Lib.hid hba
    clear hbc hbm hcc hba
    have HA := Lib.hid hA; clear hA
    rcases HB.out.rf.lv_form with ⟨_, h0⟩ | ⟨lg, lcap, h1, hlg, _, hlle, hlm, hlf, hlc⟩
    · rw [h0] at hk; simp at hk
    have hkl : kk < x.L.length := (List.getElem?_eq_some_iff.1 hk).1
    have hgood := HB.out.sim.good o ho
    have hsm := hgood.kd.2.2.1
    have hshl : o.sh < x.len := by have := HB.out.len; omega
    obtain ⟨lb, lo, hxa, hlb, hlk⟩ := HB.out.rf.lays.at_ (by omega)
    have hK : x.K o.sh = s.kind o.sh := by
      have := (HB.out.kd o.sh).1
      unfold M.kd at this
      simpa [hshl] using this
    have hk0 := (hlk o.sh hshl).1
    rw [hK] at hk0
    have d2 := HB.out.rf.c2
    rw [h1] at d2
    have d1 := HB.out.rf.c1
    rw [hxa] at d1
    obtain ⟨e0, e1, e2, e3, e4⟩ := hlc kk o hk
    have k0 : 0 ≤ (kk : Int) := by omega
    have k1 : ¬ ((kk : Int) < 0) := by omega
    unfold maxLen at hlm
    have HF2 := Lib.hid f2
    have HD := Lib.hid (And.intro d1 (And.intro d2 (And.intro hk0 (And.intro e0 (And.intro e1 (And.intro e2 (And.intro e3 e4)))))))
    have HGD := Lib.hid hgood
    have HHK := Lib.hid hk
    have HHO := Lib.hid ho
    clear d1 d2 hk0 e0 e1 e2 e3 e4 hlc hlk hK h1 hxa hgood hk ho c2 f1 hsm hlf
    refine (HA.out.find _ (HB.out.hp.still HT2.out) (HB.out.rf.still HT2.out)).mono ?_; rintro e w3 ⟨rfl, t3⟩
    have HT3 := Lib.hid (HT2.out.trans t3)
    clear t3 HT2
    have f3' : w3.cell? ⟨w.heap.size, 3, none⟩ = some (.int .u64 v) := by rw [HT3.out.cell hbw]; exact f3
    go_wp2_with fail
    refine wp_region_still_tail 14 (by kernel_rfl) (by kernel_rfl) ?_
    simp only [List.take_succ_cons, List.take_zero, List.drop_succ_cons, List.drop_zero]
    change wpStill _ _ w3.drew (fun a' => wpList _ _ _ _ a' w3.drew) _ _
    have HTD := Lib.hid (HT3.out.trans ((Still.refl w3).drewN 1))
    repeat still_step
    still_call (HA.out.is _ (HB.out.hp.still HTD.out))
    repeat still_step
    have f3d : w3.drew.cell? ⟨w.heap.size, 3, none⟩ = some (.int .u64 v) := f3'
    still_call (HA.out.fits _ (HB.out.hp.still HTD.out))
    repeat still_step
    refine wpStill_nil ?_
    go_wp2_with fail
    refine (HA.out.rfits _ (HB.out.hp.still HTD.out) (HB.out.rf.still HTD.out)).mono ?_; rintro e w4 ⟨rfl, t4⟩
    have HT4 := Lib.hid (HTD.out.trans t4)
    clear t4 f3' f3d HTD HT3
    have f2' : w4.cell? ⟨w.heap.size, 2, none⟩ = some (.int .i64 m) := by rw [HT4.out.cell hbw]; exact f2
    go_wp2_with fail
    refine (HA.out.get _ (HB.out.hp.still HT4.out) (HB.out.rf.still HT4.out)).mono ?_; rintro e w5 ⟨rfl, t5⟩
    have HT5 := Lib.hid (HT4.out.trans t5)
    clear t5 f2' HT4
    have f2' : w5.cell? ⟨w.heap.size, 2, none⟩ = some (.int .i64 m) := by rw [HT5.out.cell hbw]; exact f2
    go_wp2_with fail
    refine (HA.out.rget _ (HB.out.hp.still HT5.out) (HB.out.rf.still HT5.out)).mono ?_; rintro e w6 ⟨rfl, t6⟩
    have HT6 := Lib.hid (HT5.out.trans t6)
    clear t6 f2' HT5
    have f2' : w6.cell? ⟨w.heap.size, 2, none⟩ = some (.int .i64 m) := by rw [HT6.out.cell hbw]; exact f2
    go_wp2_with fail
    refine (HA.out.byte _ (HB.out.hp.still HT6.out) (HB.out.rf.still HT6.out)).mono ?_; rintro e w7 ⟨rfl, t7⟩
    have HT7 := Lib.hid (HT6.out.trans t7)
    clear t7 f2' HT6
    go_wp2_with fail
    refine (HA.out.text _ (HB.out.hp.still HT7.out) (HB.out.rf.still HT7.out)).mono ?_; rintro e w8 ⟨rfl, t8⟩
    have HT8 := Lib.hid (HT7.out.trans t8)
    clear t8 HT7
    go_wp2_with fail
    refine (HA.out.len _ (HB.out.hp.still HT8.out) (HB.out.rf.still HT8.out)).mono ?_; rintro e w9 ⟨rfl, t9⟩
    have HT9 := Lib.hid (HT8.out.trans t9)
    clear t9 HT8
    have hgx9 : x.gx < w9.heap.size := Nat.lt_of_lt_of_le hgx HT9.out.size
    have hlg9 : lg < w9.heap.size := Nat.lt_of_lt_of_le hlg HT9.out.size
    have hlb9 : lb < w9.heap.size := Nat.lt_of_lt_of_le hlb HT9.out.size
    have hbw9 : w.heap.size < w9.heap.size := Nat.lt_of_lt_of_le hbw HT9.out.size
    obtain ⟨d1, d2, dk, e0, e1, e2, e3, e4⟩ := HD.out
    rw [← HT9.out.cell hgx] at d1 d2
    rw [← HT9.out.cell hlb] at dk
    rw [← HT9.out.cell hlg] at e0 e1 e2 e3 e4
    rw [← HT9.out.cell hbw] at f2
    clear f3
    have hkk : (s.kind o.sh != 3) = false := by simpa using hk3
    have x1 : ((u : Int) != u) = false := by simp
    have x2 : (ee != ee) = false := by simp
    go_wp2_with fail
    go_quiet (fail)
    generalize hw10 : World.drewN w9 _ = w10
    have ht10 : Still w1 w10 := hw10 ▸ (HT9.out.drewN _)
    have HT10 := Lib.hid ht10
    clear hw10 ht10 HT9 d1 d2 dk e0 e1 e2 e3 e4 hgx9 hlg9 hlb9 hbw9
    have hgx9 : x.gx < w10.heap.size := Nat.lt_of_lt_of_le hgx HT10.out.size
    have hlg9 : lg < w10.heap.size := Nat.lt_of_lt_of_le hlg HT10.out.size
    have hbw9 : w.heap.size < w10.heap.size := Nat.lt_of_lt_of_le hbw HT10.out.size
    obtain ⟨d1, d2, dk, e0, e1, e2, e3, e4⟩ := HD.out
    rw [← HT10.out.cell hgx] at d2
    rw [← HT10.out.cell hlg] at e0 e1 e2 e3 e4
    have f2t : w10.cell? ⟨w.heap.size, 2, none⟩ = some (.int .i64 m) := by rw [HT10.out.cell hbw]; exact HF2.out
    have hconv : ∀ c, (convert 64 9 (.slice (some ⟨bg, 0, none⟩) o.n o.bc)).run Try.prog (w10.alloc c) = .ok (.string (M.str o.bs)) (w10.alloc c) := fun c => by
      have := own_str (((HB.out.rf.still (HT10.out.alloc c)).rows o HHO.out).2)
      rw [← HBA.out, ← hbl]; exact this
    have x3 : ((o.n : Int) != o.n) = false := by simp
    have x4 : (M.str o.bs != M.str o.bs) = false := by
      show (!((M.str o.bs).data == (M.str o.bs).data)) = false
      simp
    have e4' : w10.cell? ⟨lg, kk * 5 + 4, none⟩ = some (.slice (some ⟨bg, 0, none⟩) o.n o.bc) := by rw [e4, ← HBA.out, ← hbl]
    have hbm : w10.cell? ⟨bg, m, none⟩ = some (.int .u8 cc) := by rw [HT10.out.cell hbg]; exact HBM.out
    have hbg10 : bg < w10.heap.size := Nat.lt_of_lt_of_le hbg HT10.out.size
    have x5 : ((cc : Int) == cc) = true := by simp
    have m0 : ¬ ((m : Int) < 0) := by omega
    have m1 : ¬ ((o.n : Int) ≤ (m : Int)) := by omega
    have m2 : (m : Int) < o.n := by omega
    clear d1 dk f2 e4
    go_wp2_with (go_at_call 17; (with_reducible refine (lives_any _).mono ?_); rintro e wz ⟨rfl, hbz⟩)
    go_ret
    have hh := fun c => ((Still.refl w).alloc (.cells #[.int .i64 k, .int .i64 a, .int .i64 (m : Nat), .int .u64 v, .bool near] 49)).below.trans ((HB.out.below.mono (by simp)).trans (Still.below (HT10.out.alloc c) |>.mono (by omega)))
    exact ⟨rfl, (hh _).trans (hbz.mono (hh _).size)⟩
end Go.Proofs.Ytmfhjfkghljoeaa
