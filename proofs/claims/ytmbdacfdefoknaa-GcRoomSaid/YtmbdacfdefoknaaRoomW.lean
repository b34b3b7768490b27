/- Behind a collection there is just the room that is not live. -/
import Derived.Test.YtmbdacfdefoknaaK21
namespace Go.Proofs.Ytmbdacfdefoknaa
set_option linter.unusedVariables false
open Go.ChangeShapes Go.WideShapes Go.ChangeAt Go.RowKit
open M (W)

set_option maxRecDepth 100000 in
set_option maxHeartbeats 4000000 in
theorem gcRoom_w {w : World} {a0 : Option Addr} {n0 c0 : Nat} {K N : Nat → Int} {a1 : Option Addr} {n1 c1 : Nat} {F : Nat → OpR} {a2 : Option Addr} {n2 c2 : Nat} {G : Nat → Nat} {near : Nat → Bool} (h : IsCase w a0 n0 c0 K N a1 n1 c1 F a2 n2 c2 G near) (q : Int) (q1 : -9223372036854775808 ≤ q) (q2 : q ≤ 9223372036854775807) :
    Calls Try.prog 10 #[.agg #[.slice a0 n0 c0, .slice a1 n1 c1, .slice a2 n2 c2], .int .i64 q] w fun e w' => e = .returned (.bool true) ∧ Below w.heap.size w w' := by
  have S1 : Still w (w.alloc (.cells #[.slice a0 n0 c0, .slice a1 n1 c1, .slice a2 n2 c2] 48)) := (Still.refl w).alloc _
  have HM := Lib.hid (made3_any h _ S1)
  have HS1 := Lib.hid S1
  have HIS := Lib.hid h
  have HBX := Lib.hid (Blk.new w 48 #[.slice a0 n0 c0, .slice a1 n1 c1, .slice a2 n2 c2])
  clear h S1
  go_enter Try.func10, Try.ntmps10
  go_wp2_with fail
  refine HM.out.mono ?_; rintro e w1 (⟨rfl, t1⟩ | ⟨wa, s, x, a, n, c, rl, rfl, hc, hlay⟩)
  · have HT := Lib.hid (HS1.out.trans t1)
    clear t1 HM
    go_wp2_with fail
    refine (lives3_any _).mono ?_; rintro e w2 ⟨rfl, b2⟩
    go_wp2_with fail
    go_ret
    exact ⟨rfl, (Still.below HT.out).trans (b2.mono HT.out.size)⟩
  have hq := hc.que
  obtain ⟨B, hq, hB1, hB2, hB3⟩ := hq
  have hnc := hq.2.1
  have hcm := hq.2.2.1
  have HF := Lib.hid (fit_any x a n c rl w1 hc.both.rf (ReadL.of_que hq).1 hc.len hnc hcm hc.lt)
  have HC := Lib.hid hc
  have HLAY := Lib.hid hlay
  clear hlay
  have HBL := Lib.hid (show Below w.heap.size w w1 from (Still.below (HS1.out.trans hc.still)).trans (hc.both.below.mono (HS1.out.trans hc.still).size))
  have HNC := Lib.hid (And.intro hnc hcm)
  have HBG : Hid (∀ k, k = s.g ∨ k = s.gw → w.heap.size ≤ k) := fun k hk => by
    have h1 := hc.both.bg
    have h2 := hc.both.bgw
    have h3 := (HS1.out.trans hc.still).size
    rcases hk with e | e <;> omega
  clear hc hq hB1 hB2 hB3 hnc hcm HM
  go_wp2_with fail
  refine HF.out.mono ?_; rintro e w2 ⟨t2, ⟨rfl, hfit⟩ | ⟨rfl, hno⟩⟩
  case inr =>
    have HT := Lib.hid t2
    clear t2 hno HF
    go_wp2_with fail
    refine (lives3_any _).mono ?_; rintro e w3 ⟨rfl, b3⟩
    go_wp2_with fail
    go_ret
    exact ⟨rfl, (HBL.out.trans ((Still.below HT.out).mono HBL.out.size)).trans (b3.mono (Nat.le_trans HBL.out.size HT.out.size))⟩
  have HR2 := Lib.hid (HC.out.both.right.still t2)
  have HRT2 := Lib.hid (HC.out.root.turn (Still.turn t2))
  have HFIT : Hid (∀ v ∈ rl, s.fits (v : Nat) = true) := fun v hv => by rw [← HC.out.both.fits]; exact hfit v hv
  have HB2 := Lib.hid (HBL.out.trans ((Still.below t2).mono HBL.out.size))
  have HBX2 := Lib.hid (show Blk w2 w.heap.size 48 #[.slice a0 n0 c0, .slice a1 n1 c1, .slice a2 n2 c2] from Still.blk t2 ((HC.out.both.below.block _ (HC.out.still.blk HBX.out).lt).trans (HC.out.still.blk HBX.out)))
  have hcs := Blk.cell HBX2.out 0
  change w2.cell? ⟨w.heap.size, 0, none⟩ = some (.slice a0 n0 c0) at hcs
  have hbl := HBX2.out.lt
  have hgx := HC.out.both.rf.still t2 |>.blk.lt
  obtain ⟨xa, xc, cx1⟩ : ∃ xa xc, w2.cell? ⟨x.gx, 1, none⟩ = some (.slice xa n0 xc) := ⟨x.a, x.cap, by have := (HC.out.both.rf.still t2).c1; rw [HC.out.both.len, HLAY.out.1] at this; exact this⟩
  have hn0 : n0 ≤ 512 := by have := HC.out.both.hp.m_le; rw [HLAY.out.1] at this; exact this
  clear t2 hfit HF
  go_wp2_with fail
  go_loopw [8, 35] (fun t v wr => ∃ (j : Nat) (sh : Int), v = .int .i64 j ∧ t = .int .i64 sh ∧ j ≤ n0 ∧ (sh = -1 ∨ ∃ r : Nat, sh = r ∧ r < n0 ∧ K r = 2) ∧ Still w2 wr) (fun _ v _ => n0 - (intOf v).toNat)
  case atStart => exact ⟨0, -1, rfl, rfl, by omega, .inl rfl, Still.refl _⟩
  case round =>
    obtain ⟨j, sh, rfl, rfl, hj, hsh, ht⟩ := hrel
    have HSH := Lib.hid hsh
    have HT := Lib.hid ht
    by_cases hlt : j < n0
    · obtain ⟨b, off, rfl, hbb, hcell⟩ := HIS.out.lays.at_ (by have := HIS.out.lays.le; omega)
      obtain ⟨d0, d1, _, _⟩ := hcell j (by have := HIS.out.lays.le; omega)
      have hbel := HB2.out.trans ((Still.below ht).mono HB2.out.size)
      rw [← hbel.cell (p := ⟨b, _, none⟩) hbb] at d0 d1
      have hbw : b < wr.heap.size := Nat.lt_of_lt_of_le hbb hbel.size
      have cx : wr.cell? ⟨x.gx, 1, none⟩ = some (.slice xa n0 xc) := by rw [ht.cell (p := ⟨x.gx, 1, none⟩) hgx]; exact cx1
      have hgxw : x.gx < wr.heap.size := Nat.lt_of_lt_of_le hgx ht.size
      have hc0 := HIS.out.lays.le
      clear hcell hsh ht hbel cx1
      by_cases hk : K j = 2
      · have hkk : ((K j : Int) == 2) = true := beq_iff_eq.2 hk
        have HK := Lib.hid hk
        clear hk
        go_wp2_with fail
        go_roundw
        case rel => exact ⟨j + 1, j, by go_num, rfl, by omega, .inr ⟨j, rfl, hlt, HK.out⟩, HT.out.alloc _⟩
        case measure => simp [intOf]; omega
      · have hkk : ((K j : Int) == 2) = false := beq_eq_false_iff_ne.2 hk
        clear hk
        go_wp2_with fail
        go_roundw
        case rel => exact ⟨j + 1, sh, by go_num, rfl, by omega, HSH.out, HT.out.alloc _⟩
        case measure => simp [intOf]; omega
    · have HR3 := Lib.hid (HR2.out.still ht)
      have HRT3 := Lib.hid (HRT2.out.turn (Still.turn ht))
      have HB3 := Lib.hid (HB2.out.trans ((Still.below ht).mono HB2.out.size))
      have HLV := Lib.hid (live_l HR3.out a n c rl HC.out.len HRT3.out HNC.out.1 HNC.out.2)
      clear hsh ht cx1 hcs hbl hgx
      go_wp2_with fail
      refine HLV.out.mono ?_; rintro e w4 (⟨rfl, hu⟩ | ⟨mk, rfl, hft⟩)
      · exfalso
        obtain ⟨v, hv, hf⟩ := hu.unfit
        rw [HFIT.out v hv] at hf; simp at hf
      have hR4 : Right w4 (s.as x.L) x.L := hft.right
      have HR4 := Lib.hid hR4
      have HB4 : Hid (Below w.heap.size w w4) := hft.turn.own HB3.out (Nat.le_refl _) HBG.out
      have HRT4 := Lib.hid (HRT3.out.turn hft.turn)
      have HFIT4 : Hid (∀ v ∈ rl, (s.as x.L).fits (v : Nat) = true) := fun v hv => by rw [fits_same HR2.out.sim HR4.out.sim]; exact HFIT.out v hv
      have HMI := Lib.hid hft.mk_iff
      have HCO := Lib.hid (collect_l HR4.out a n c rl HC.out.len HRT4.out HNC.out.1 HNC.out.2)
      change Hid (Calls _ _ #[s.ptr, _] _ _) at HCO
      obtain ⟨T, hT⟩ : ∃ T, M.tof s mk x.L s.top = T := ⟨_, rfl⟩
      rw [hT]
      have HTT := Lib.hid hT
      clear hft hR4 HLV hT
      go_wp2_with fail
      refine HCO.out.mono ?_; rintro e w5 (⟨rfl, hu⟩ | ⟨mk2, gr, s5, rfl, hsw⟩)
      · exfalso
        obtain ⟨v, hv, hf⟩ := hu.unfit
        rw [HFIT4.out v hv] at hf; simp at hf
      obtain rfl : mk2 = mk := mk_same hsw.mk_iff HMI.out
      have hg5 := hsw.is.1
      have ht5 : s5.top = T := by rw [hsw.top, tof_same (s := s) (s' := s.as x.L) (fun _ => rfl)]; exact HTT.out
      have HB5 : Hid (Below w.heap.size w w5) := hsw.turn.own HB4.out (Nat.le_refl _) HBG.out
      have HIS5 := Lib.hid hsw.is
      have HP5 := Lib.hid hsw.right.hp
      have HT5 := Lib.hid ht5
      have hTn : T ≤ 1500 := by have h1 := HP5.out.top_le; rw [ht5, hsw.is.2.2.2.1] at h1; have h2 := HC.out.sn; have h3 : (s.as x.L).n = s.n := rfl; omega
      clear hsw HCO ht5 hg5
      by_cases hout : sh < 0 ∨ q < 0 ∨ 65536 < q
      · by_cases g1 : sh < 0
        · clear hout
          go_wp2_with fail
          refine (lives3_any _).mono ?_; rintro e w9 ⟨rfl, b9⟩
          go_wp2_with fail
          go_ret
          exact ⟨rfl, HB5.out.trans (b9.mono HB5.out.size)⟩
        · by_cases g2 : q < 0
          · clear hout
            go_wp2_with fail
            refine (lives3_any _).mono ?_; rintro e w9 ⟨rfl, b9⟩
            go_wp2_with fail
            go_ret
            exact ⟨rfl, HB5.out.trans (b9.mono HB5.out.size)⟩
          · have g3 : 65536 < q := by omega
            clear hout
            go_wp2_with fail
            refine (lives3_any _).mono ?_; rintro e w9 ⟨rfl, b9⟩
            go_wp2_with fail
            go_ret
            exact ⟨rfl, HB5.out.trans (b9.mono HB5.out.size)⟩
      · obtain ⟨r, rfl, hr, hk⟩ : ∃ r : Nat, sh = r ∧ r < n0 ∧ K r = 2 := by
          rcases HSH.out with e | e
          · omega
          · exact e
        obtain ⟨p, rfl⟩ := Int.eq_ofNat_of_zero_le (show 0 ≤ q by omega)
        have hp6 : p ≤ 65536 := by omega
        have hkd : s5.kind (r : Int) = 2 := by
          unfold St.kind
          have e1 : s5.m = n0 := by rw [HIS5.out.2.2.2.2.1]; exact HLAY.out.1
          have e2 : s5.lk = K := by rw [HIS5.out.2.2.2.2.2.1]; exact HLAY.out.2.1
          rw [if_pos (by omega), e2]; simpa using hk
        have hne : s5.needE (r : Int) (p : Int) = 0 := by
          unfold St.needE M.needE
          rw [hkd, if_neg (by omega), if_neg (by omega)]
        have hnd : s5.need (r : Int) (p : Int) = ((1 + p : Nat) : Int) := by
          unfold St.need M.need
          rw [hkd, if_neg (by omega), if_neg (by omega), if_neg (by omega)]; omega
        have hn5 : s5.n = 1500 := by rw [HIS5.out.2.2.2.1]; exact HC.out.sn
        have hpt : s5.ptr = s.ptr := by show Value.pointer (some ⟨s5.g, 0, none⟩) = _; rw [HIS5.out.1]; rfl
        have o1 : ¬ ((r : Int) < 0) := by omega
        have o2 : ¬ ((p : Int) < 0) := by omega
        have o3 : ¬ ((65536 : Int) < (p : Int)) := by omega
        by_cases hroom : 1 + p ≤ 1500 - T
        · have hA := alloc_ok s5 r p (1 + p) w5 HP5.out hne hnd (by rw [hn5, HT5.out]; omega) (by omega)
          rw [hpt] at hA
          have HA := Lib.hid hA
          have hlt2 : decide ((p : Int) < 1500 - (T : Int)) = true := decide_eq_true (by omega)
          clear hout hk hkd hne hnd hn5 hpt hA hroom
          go_wp2_with fail
          refine HA.out.mono ?_; rintro e w6 ⟨rfl, _, t6⟩
          have HB6 : Hid (Below w.heap.size w w6) := t6.own HB5.out (Nat.le_refl _) (by
            rintro k (e | e)
            · exact HBG.out k (.inl (by rw [e, HIS5.out.1]; rfl))
            · exact HBG.out k (.inr (by rw [e, HIS5.out.2.1]; rfl)))
          clear t6 HA
          go_wp2_with fail
          refine (lives3_any _).mono ?_; rintro e w9 ⟨rfl, b9⟩
          go_wp2_with fail
          go_ret
          exact ⟨rfl, HB6.out.trans (b9.mono HB6.out.size)⟩
        · have hA := alloc_full s5 r p w5 HP5.out hne (by rw [hn5, HT5.out, hnd]; omega)
          rw [hpt] at hA
          have HA := Lib.hid hA
          have hlt2 : decide ((p : Int) < 1500 - (T : Int)) = false := decide_eq_false (by omega)
          clear hout hk hkd hne hnd hn5 hpt hA hroom
          go_wp2_with fail
          refine HA.out.mono ?_; rintro e w6 ⟨rfl, t6⟩
          have HB6 := Lib.hid (HB5.out.trans ((Still.below t6).mono HB5.out.size))
          clear t6 HA
          go_wp2_with fail
          refine (lives3_any _).mono ?_; rintro e w9 ⟨rfl, b9⟩
          go_wp2_with fail
          go_ret
          exact ⟨rfl, HB6.out.trans (b9.mono HB6.out.size)⟩
end Go.Proofs.Ytmbdacfdefoknaa
