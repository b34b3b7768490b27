/- HeapAsIs' walk. -/
import Derived.Test.YteanlncnhncpbaaNear
import Derived.Test.YteanlncnhncpbaaSame
import Derived.Test.YteanlncnhncpbaaMade4
import Derived.Test.YteanlncnhncpbaaHeapLives
namespace Go.Proofs.Yteanlncnhncpbaa
set_option linter.unusedVariables false
open Go.ChangeShapes Go.WideShapes Go.ChangeAt Go.RowKit
open M (W)

theorem asIs_nil (q : Nat) (a0 : Option Addr) (len0 cap0 : Nat) (a1 : Option Addr) (len1 cap1 : Nat) (w : World)
    (HM : Calls Try.prog 15 #[.int .i64 1000, .slice a0 len0 cap0, .slice a1 len1 cap1] w (MadeNil w)) :
    Calls Try.prog 5 #[.slice a0 len0 cap0, .slice a1 len1 cap1, .int .u64 q] w fun e w' => e = .returned (.bool true) ∧ Below w.heap.size w w' := by
  go_enter Try.func5, Try.ntmps5
  go_wp2_with fail
  refine HM.mono ?_; rintro e w1 hm; obtain ⟨rfl, t1⟩ := hm
  have HT := Lib.hid t1; clear t1
  go_wp2_with (go_at_call 16; (with_reducible refine (lives_any _).mono ?_); rintro e w9 ⟨rfl, hb⟩)
  go_ret
  have hh := Still.below HT.out
  exact ⟨rfl, hh.trans (hb.mono hh.size)⟩
theorem put_put (s : St) (p u v : Nat) : (s.put p u).put p v = s.put p v := by
  unfold St.put
  congr 1
  funext i
  show (if i = p then v else if i = p then u else s.ws i) = if i = p then v else s.ws i
  split <;> rfl
theorem put_same (s : St) (p : Nat) : s.put p (s.ws p) = s := by
  obtain ⟨g, gw, gl, n, ws, top, hx, m, lk, ln⟩ := s
  unfold St.put
  congr 1
  funext i
  show (if i = p then ws p else ws i) = ws i
  split
  · rename_i e; rw [e]
  · rfl
theorem as_top (s : St) (L : List RO) : (s.as L).top = s.top := rfl
set_option maxRecDepth 100000 in
set_option maxHeartbeats 8000000 in
theorem asIs_ok (q : Nat) (hq : q < 18446744073709551616) (a0 : Option Addr) (len0 cap0 : Nat) (a1 : Option Addr) (len1 cap1 : Nat) (w : World)
    (HM : Calls Try.prog 15 #[.int .i64 1000, .slice a0 len0 cap0, .slice a1 len1 cap1] w (MadeOk w 1000)) :
    Calls Try.prog 5 #[.slice a0 len0 cap0, .slice a1 len1 cap1, .int .u64 q] w fun e w' => e = .returned (.bool true) ∧ Below w.heap.size w w' := by
  go_enter Try.func5, Try.ntmps5
  go_wp2_with fail
  refine HM.mono ?_; rintro e w1 hm; obtain ⟨s, x, rfl, hb, hsn, hxl⟩ := hm
  have HB := Lib.hid hb
  have HSN := Lib.hid hsn
  have hgx := hb.rf.blk.lt
  have htop := hb.hp.top_le
  rw [hsn] at htop
  clear hb HM hsn
  go_wp2_with fail
  refine (top_any s w1 HB.out.hp).mono ?_; rintro e w ⟨rfl, rfl⟩
  go_wp2_with fail
  refine (close_as HB.out).mono ?_; rintro e w2 ⟨rfl, hb2, t2⟩
  have HB2 := Lib.hid hb2
  clear hb2 t2
  go_wp2_with fail
  refine (same_any (s.as x.L) x w2 HB2.out.agree).mono ?_; rintro e w3 ⟨rfl, t3⟩
  have HB3 := Lib.hid (HB2.out.still t3)
  clear t3 HB2
  go_wp2_with fail
  refine (close_out (s.as x.L) (-1) w3 HB3.out.hp (.inl (by decide))).mono ?_; rintro e w4 ⟨rfl, t4⟩
  have HB4 := Lib.hid (HB3.out.still t4)
  clear t4 HB3
  go_wp2_with fail
  refine (close_out (s.as x.L) 1001 w4 HB4.out.hp (.inr (by have := HSN.out; show (s.n : Int) < 1001; omega))).mono ?_; rintro e w5 ⟨rfl, t5⟩
  have HB5 := Lib.hid (HB4.out.still t5)
  clear t5 HB4
  by_cases ht : s.top < 1000
  · have hti : (s.top : Int) < 1000 := by omega
    go_wp2_with fail
    refine (close_not (s := s.as x.L) (s.top + 1) HB5.out.hp (by have := HSN.out; show s.top + 1 ≤ s.n; omega) (bad_top HB5.out.sim HB5.out.hp.m_le)).mono ?_; rintro e w6 ⟨rfl, t6⟩
    have HB6 := Lib.hid (HB5.out.still t6)
    clear t6 HB5
    obtain ⟨la, lc, hlv⟩ := HB6.out.rf.lv_slice
    have c2 := HB6.out.rf.c2
    rw [hlv] at c2
    have hgx6 : x.gx < w6.heap.size := HB6.out.rf.blk.lt
    have hfew := HB6.out.rf.few
    by_cases hL : x.L.length = 0
    · have hL0 : ((x.L.length : Int) == 0) = true := by rw [hL]; rfl
      clear hlv hL
      go_wp2_with (go_at_call 16; (with_reducible refine (lives_any _).mono ?_); rintro e w9 ⟨rfl, hb⟩)
      go_ret
      have hh := HB6.out.below
      exact ⟨rfl, hh.trans (hb.mono hh.size)⟩
    · have hL0 : ((x.L.length : Int) == 0) = false := beq_eq_false_iff_ne.2 (by omega)
      rcases HB6.out.rf.lv_form with ⟨_, h0⟩ | ⟨g, cap, h1, hg, hbb, hle, hm, hf, hc⟩
      · rw [h0] at hL; simp at hL
      have hqm : q % x.L.length < x.L.length := Nat.mod_lt _ (by omega)
      obtain ⟨o, ho⟩ : ∃ o, x.L[q % x.L.length]? = some o := ⟨_, List.getElem?_eq_getElem hqm⟩
      obtain ⟨d0, _⟩ := hc _ o ho
      have h2 := hlv.symm.trans h1
      injection h2 with h3 _ h4
      subst h3; subst h4
      obtain ⟨j, hjj⟩ : ∃ j, q % x.L.length = j := ⟨_, rfl⟩
      have e1 : ((q : Int) % (x.L.length : Int)) = (j : Int) := by rw [← hjj]; simp
      have e2 : (q : Int).tmod (x.L.length : Int) = (j : Int) := by rw [← e1]; exact Int.tmod_eq_emod_of_nonneg (by omega)
      rw [hjj] at d0 hqm
      have hw2 : IntKind.u64.wrap (x.L.length : Int) = (x.L.length : Int) := by rw [IntKind.wrap_u64]; omega
      have hw3 : IntKind.i64.wrap (j : Int) = (j : Int) := by rw [IntKind.wrap_i64]; omega
      have HK := Lib.hid ho
      have HQ := Lib.hid hq
      clear hc h1 hm hf hbb hle hlv hjj
      go_wp2_with fail
      go_quiet (fail)
      have hS := HB6.out.sim
      have hom := List.mem_of_getElem? HK.out
      have hgo := hS.good o hom
      have hlt := (hS.tile.get HK.out).2
      have hz := hgo.sz.2.2
      have htn := HB6.out.hp.top_le
      have hh0 : (((s.as x.L).ws o.at_ : Nat) : Int) = M.hd o.sh o.n 0 0 := by rw [hgo.hd]; exact Int.toNat_of_nonneg (M.hd_lo ..)
      have han : o.at_ < (s.as x.L).n := by omega
      have HPW := Lib.hid (HB6.out.still ((Still.refl w6).drewN nq))
      generalize w6.drewN nq = w7 at *
      have HLD := load_in (s.as x.L) o.at_ w7 HPW.out.hp han
      rw [hh0] at HLD
      have HLL := Lib.hid HLD
      have HH0 := Lib.hid hh0
      have HAN := Lib.hid han
      clear HLD hS hgo hlt hz htn hh0 han d0 e1 e2 hw2 hw3 c2 hL0
      go_wp2_with fail
      refine HLL.out.mono ?_; rintro e w8 ⟨rfl, rfl⟩
      go_wp2_with fail
      refine (mark_hd o.sh o.n 0 0 true 1 rfl _).mono ?_; rintro e w9 ⟨rfl, rfl⟩
      obtain ⟨v1, hv1⟩ : ∃ v : Nat, M.hd o.sh o.n 1 0 = (v : Int) := ⟨_, (Int.toNat_of_nonneg (M.hd_lo ..)).symm⟩
      obtain ⟨v2, hv2⟩ : ∃ v : Nat, M.hd o.sh o.n 0 3 = (v : Int) := ⟨_, (Int.toNat_of_nonneg (M.hd_lo ..)).symm⟩
      obtain ⟨v0, hv0⟩ : ∃ v : Nat, (s.as x.L).ws o.at_ = v := ⟨_, rfl⟩
      have HV := Lib.hid (And.intro hv1 (And.intro hv2 hv0))
      have lv1 : v1 < 18446744073709551616 := by have := M.hd_hi o.sh o.n 1 0; omega
      have lv2 : v2 < 18446744073709551616 := by have := M.hd_hi o.sh o.n 0 3; omega
      have lv0 : v0 < 18446744073709551616 := by rw [← hv0]; exact HPW.out.hp.ws_lt _
      have LV := Lib.hid (And.intro lv1 (And.intro lv2 lv0))
      rw [hv1]
      clear hv1 hv2 hv0 lv1 lv2 lv0
      go_wp2_with fail
      refine (store_in (s.as x.L) o.at_ v1 w9 HPW.out.hp HAN.out LV.out.1).mono ?_; rintro e w10 ⟨rfl, hp10, t10⟩
      have HN10 := Lib.hid (HPW.out.near.step (t10.mono fun k _ e => .inr e) hp10 rfl rfl)
      clear hp10 t10
      go_wp2_with fail
      refine (close_not (s := (s.as x.L).put o.at_ v1) s.top HN10.out.hp (HB.out.hp.top_le) (bad_head HPW.out.sim HPW.out.hp.m_le HK.out (by
        rw [← HV.out.1]; unfold M.sh M.ln; rw [M.hd_shape, M.hd_len]; unfold M.hd; omega))).mono ?_; rintro e w11 ⟨rfl, t11⟩
      have HN11 := Lib.hid (HN10.out.still t11)
      clear t11 HN10
      go_wp2_with fail
      refine (turn_hd o.sh o.n 0 0 3 _).mono ?_; rintro e w12 ⟨rfl, nd, rfl⟩
      rw [HV.out.2.1]
      have HN12 := Lib.hid (HN11.out.still ((Still.refl w11).drewN nd))
      generalize w11.drewN nd = w12 at *
      go_wp2_with fail
      refine (store_in ((s.as x.L).put o.at_ v1) o.at_ v2 w12 HN12.out.hp HAN.out LV.out.2.1).mono ?_; rintro e w13 ⟨rfl, hp13, t13⟩
      have e13 : ((s.as x.L).put o.at_ v1).put o.at_ v2 = (s.as x.L).put o.at_ v2 := put_put _ _ _ _
      rw [e13] at hp13
      have HN13 := Lib.hid (HN12.out.step (t13.mono fun k _ e => .inr e) hp13 rfl rfl)
      clear hp13 t13 e13 HN12 HN11
      go_wp2_with fail
      refine (close_not (s := (s.as x.L).put o.at_ v2) s.top HN13.out.hp (HB.out.hp.top_le) (bad_head HPW.out.sim HPW.out.hp.m_le HK.out (by
        rw [← HV.out.2.1]; unfold M.sh M.ln; rw [M.hd_shape, M.hd_len]; unfold M.hd; omega))).mono ?_; rintro e w14 ⟨rfl, t14⟩
      have HN14 := Lib.hid (HN13.out.still t14)
      clear t14 HN13
      rw [← HH0.out, HV.out.2.2]
      go_wp2_with fail
      refine (store_in ((s.as x.L).put o.at_ v2) o.at_ v0 w14 HN14.out.hp HAN.out LV.out.2.2).mono ?_; rintro e w15 ⟨rfl, hp15, t15⟩
      have e15 : ((s.as x.L).put o.at_ v2).put o.at_ v0 = s.as x.L := by rw [put_put, ← HV.out.2.2]; exact put_same _ _
      rw [e15] at hp15
      have HB15 := Lib.hid (HPW.out.into (HN14.out.step (t15.mono fun k _ e => .inr e) hp15 rfl rfl) rfl rfl rfl rfl HPW.out.sim)
      clear hp15 t15 e15 HN14
      go_wp2_with fail
      refine (close_as HB15.out).mono ?_; rintro e w16 ⟨rfl, hb16, t16⟩
      have HB16 := Lib.hid hb16
      clear hb16 t16
      go_wp2_with fail
      refine (same_any ((s.as x.L).as x.L) x w16 HB16.out.agree).mono ?_; rintro e w17 ⟨rfl, t17⟩
      have HB17 := Lib.hid (HB16.out.still t17)
      clear t17 HB16
      go_wp2_with (go_at_call 16; (with_reducible refine (lives_any _).mono ?_); rintro e wz ⟨rfl, hb⟩)
      go_ret
      have hh := HB17.out.below
      exact ⟨rfl, hh.trans (hb.mono hh.size)⟩
  · have hti : ¬ ((s.top : Int) < 1000) := by omega
    have HB6 := HB5
    clear HB5
    generalize w5 = w6 at *
    obtain ⟨la, lc, hlv⟩ := HB6.out.rf.lv_slice
    have c2 := HB6.out.rf.c2
    rw [hlv] at c2
    have hgx6 : x.gx < w6.heap.size := HB6.out.rf.blk.lt
    have hfew := HB6.out.rf.few
    by_cases hL : x.L.length = 0
    · have hL0 : ((x.L.length : Int) == 0) = true := by rw [hL]; rfl
      clear hlv hL
      go_wp2_with (go_at_call 16; (with_reducible refine (lives_any _).mono ?_); rintro e w9 ⟨rfl, hb⟩)
      go_ret
      have hh := HB6.out.below
      exact ⟨rfl, hh.trans (hb.mono hh.size)⟩
    · have hL0 : ((x.L.length : Int) == 0) = false := beq_eq_false_iff_ne.2 (by omega)
      rcases HB6.out.rf.lv_form with ⟨_, h0⟩ | ⟨g, cap, h1, hg, hbb, hle, hm, hf, hc⟩
      · rw [h0] at hL; simp at hL
      have hqm : q % x.L.length < x.L.length := Nat.mod_lt _ (by omega)
      obtain ⟨o, ho⟩ : ∃ o, x.L[q % x.L.length]? = some o := ⟨_, List.getElem?_eq_getElem hqm⟩
      obtain ⟨d0, _⟩ := hc _ o ho
      have h2 := hlv.symm.trans h1
      injection h2 with h3 _ h4
      subst h3; subst h4
      obtain ⟨j, hjj⟩ : ∃ j, q % x.L.length = j := ⟨_, rfl⟩
      have e1 : ((q : Int) % (x.L.length : Int)) = (j : Int) := by rw [← hjj]; simp
      have e2 : (q : Int).tmod (x.L.length : Int) = (j : Int) := by rw [← e1]; exact Int.tmod_eq_emod_of_nonneg (by omega)
      rw [hjj] at d0 hqm
      have hw2 : IntKind.u64.wrap (x.L.length : Int) = (x.L.length : Int) := by rw [IntKind.wrap_u64]; omega
      have hw3 : IntKind.i64.wrap (j : Int) = (j : Int) := by rw [IntKind.wrap_i64]; omega
      have HK := Lib.hid ho
      have HQ := Lib.hid hq
      clear hc h1 hm hf hbb hle hlv hjj
      go_wp2_with fail
      go_quiet (fail)
      have hS := HB6.out.sim
      have hom := List.mem_of_getElem? HK.out
      have hgo := hS.good o hom
      have hlt := (hS.tile.get HK.out).2
      have hz := hgo.sz.2.2
      have htn := HB6.out.hp.top_le
      have hh0 : (((s.as x.L).ws o.at_ : Nat) : Int) = M.hd o.sh o.n 0 0 := by rw [hgo.hd]; exact Int.toNat_of_nonneg (M.hd_lo ..)
      have han : o.at_ < (s.as x.L).n := by omega
      have HPW := Lib.hid (HB6.out.still ((Still.refl w6).drewN nq))
      generalize w6.drewN nq = w7 at *
      have HLD := load_in (s.as x.L) o.at_ w7 HPW.out.hp han
      rw [hh0] at HLD
      have HLL := Lib.hid HLD
      have HH0 := Lib.hid hh0
      have HAN := Lib.hid han
      clear HLD hS hgo hlt hz htn hh0 han d0 e1 e2 hw2 hw3 c2 hL0
      go_wp2_with fail
      refine HLL.out.mono ?_; rintro e w8 ⟨rfl, rfl⟩
      go_wp2_with fail
      refine (mark_hd o.sh o.n 0 0 true 1 rfl _).mono ?_; rintro e w9 ⟨rfl, rfl⟩
      obtain ⟨v1, hv1⟩ : ∃ v : Nat, M.hd o.sh o.n 1 0 = (v : Int) := ⟨_, (Int.toNat_of_nonneg (M.hd_lo ..)).symm⟩
      obtain ⟨v2, hv2⟩ : ∃ v : Nat, M.hd o.sh o.n 0 3 = (v : Int) := ⟨_, (Int.toNat_of_nonneg (M.hd_lo ..)).symm⟩
      obtain ⟨v0, hv0⟩ : ∃ v : Nat, (s.as x.L).ws o.at_ = v := ⟨_, rfl⟩
      have HV := Lib.hid (And.intro hv1 (And.intro hv2 hv0))
      have lv1 : v1 < 18446744073709551616 := by have := M.hd_hi o.sh o.n 1 0; omega
      have lv2 : v2 < 18446744073709551616 := by have := M.hd_hi o.sh o.n 0 3; omega
      have lv0 : v0 < 18446744073709551616 := by rw [← hv0]; exact HPW.out.hp.ws_lt _
      have LV := Lib.hid (And.intro lv1 (And.intro lv2 lv0))
      rw [hv1]
      clear hv1 hv2 hv0 lv1 lv2 lv0
      go_wp2_with fail
      refine (store_in (s.as x.L) o.at_ v1 w9 HPW.out.hp HAN.out LV.out.1).mono ?_; rintro e w10 ⟨rfl, hp10, t10⟩
      have HN10 := Lib.hid (HPW.out.near.step (t10.mono fun k _ e => .inr e) hp10 rfl rfl)
      clear hp10 t10
      go_wp2_with fail
      refine (close_not (s := (s.as x.L).put o.at_ v1) s.top HN10.out.hp (HB.out.hp.top_le) (bad_head HPW.out.sim HPW.out.hp.m_le HK.out (by
        rw [← HV.out.1]; unfold M.sh M.ln; rw [M.hd_shape, M.hd_len]; unfold M.hd; omega))).mono ?_; rintro e w11 ⟨rfl, t11⟩
      have HN11 := Lib.hid (HN10.out.still t11)
      clear t11 HN10
      go_wp2_with fail
      refine (turn_hd o.sh o.n 0 0 3 _).mono ?_; rintro e w12 ⟨rfl, nd, rfl⟩
      rw [HV.out.2.1]
      have HN12 := Lib.hid (HN11.out.still ((Still.refl w11).drewN nd))
      generalize w11.drewN nd = w12 at *
      go_wp2_with fail
      refine (store_in ((s.as x.L).put o.at_ v1) o.at_ v2 w12 HN12.out.hp HAN.out LV.out.2.1).mono ?_; rintro e w13 ⟨rfl, hp13, t13⟩
      have e13 : ((s.as x.L).put o.at_ v1).put o.at_ v2 = (s.as x.L).put o.at_ v2 := put_put _ _ _ _
      rw [e13] at hp13
      have HN13 := Lib.hid (HN12.out.step (t13.mono fun k _ e => .inr e) hp13 rfl rfl)
      clear hp13 t13 e13 HN12 HN11
      go_wp2_with fail
      refine (close_not (s := (s.as x.L).put o.at_ v2) s.top HN13.out.hp (HB.out.hp.top_le) (bad_head HPW.out.sim HPW.out.hp.m_le HK.out (by
        rw [← HV.out.2.1]; unfold M.sh M.ln; rw [M.hd_shape, M.hd_len]; unfold M.hd; omega))).mono ?_; rintro e w14 ⟨rfl, t14⟩
      have HN14 := Lib.hid (HN13.out.still t14)
      clear t14 HN13
      rw [← HH0.out, HV.out.2.2]
      go_wp2_with fail
      refine (store_in ((s.as x.L).put o.at_ v2) o.at_ v0 w14 HN14.out.hp HAN.out LV.out.2.2).mono ?_; rintro e w15 ⟨rfl, hp15, t15⟩
      have e15 : ((s.as x.L).put o.at_ v2).put o.at_ v0 = s.as x.L := by rw [put_put, ← HV.out.2.2]; exact put_same _ _
      rw [e15] at hp15
      have HB15 := Lib.hid (HPW.out.into (HN14.out.step (t15.mono fun k _ e => .inr e) hp15 rfl rfl) rfl rfl rfl rfl HPW.out.sim)
      clear hp15 t15 e15 HN14
      go_wp2_with fail
      refine (close_as HB15.out).mono ?_; rintro e w16 ⟨rfl, hb16, t16⟩
      have HB16 := Lib.hid hb16
      clear hb16 t16
      go_wp2_with fail
      refine (same_any ((s.as x.L).as x.L) x w16 HB16.out.agree).mono ?_; rintro e w17 ⟨rfl, t17⟩
      have HB17 := Lib.hid (HB16.out.still t17)
      clear t17 HB16
      go_wp2_with (go_at_call 16; (with_reducible refine (lives_any _).mono ?_); rintro e wz ⟨rfl, hb⟩)
      go_ret
      have hh := HB17.out.below
      exact ⟨rfl, hh.trans (hb.mono hh.size)⟩
end Go.Proofs.Yteanlncnhncpbaa
