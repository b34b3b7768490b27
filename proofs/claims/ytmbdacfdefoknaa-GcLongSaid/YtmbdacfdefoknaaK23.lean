/- Lemmas, put together: MarksW. -/
import Derived.Test.YtmbdacfdefoknaaK22
/- Just what is reached is told, and nothing changes. -/
namespace Go.Proofs.Ytmbdacfdefoknaa
set_option linter.unusedVariables false
open Go.ChangeShapes Go.WideShapes Go.ChangeAt Go.RowKit
open M (W)

theorem mkl_split (mk : Nat → Bool) (L : List RO) (j : Nat) : M.mkl mk L = M.mkl mk (L.take j) ++ M.mkl mk (L.drop j) := by
  unfold M.mkl
  rw [← List.map_append, ← List.filter_append, List.take_append_drop]
theorem mkl_get {mk : Nat → Bool} {L : List RO} {j : Nat} {o : RO} (h : L[j]? = some o) (hm : mk o.at_ = true) : (M.mkl mk (L.take j)).length < (M.mkl mk L).length ∧ (M.mkl mk L).getD (M.mkl mk (L.take j)).length 0 = o.at_ := by
  obtain ⟨hl, he⟩ := List.getElem?_eq_some_iff.1 h
  have hd : M.mkl mk (L.drop j) = o.at_ :: M.mkl mk (L.drop (j + 1)) := by
    rw [List.drop_eq_getElem_cons hl, he]
    unfold M.mkl
    rw [List.filter_cons, if_pos hm]; rfl
  have hs := mkl_split mk L j
  rw [hd] at hs
  generalize M.mkl mk (L.take j) = A at *
  rw [hs]
  refine ⟨by simp, ?_⟩
  rw [List.getD_eq_getElem?_getD, List.getElem?_append_right (Nat.le_refl _), Nat.sub_self]; rfl
theorem tof_append {s : St} {mk : Nat → Bool} (B : List RO) (a : Nat) : ∀ A : List RO, M.tof s mk (A ++ B) a = M.tof s mk A a + M.tof s mk B a
  | [] => by simp [M.tof]
  | o :: A => by rw [List.cons_append, M.tof, M.tof, tof_append B a A, Nat.add_assoc]
theorem tof_take {s : St} {mk : Nat → Bool} {L : List RO} {j : Nat} {o : RO} (h : L[j]? = some o) (a : Nat) : M.tof s mk (L.take (j + 1)) a = M.tof s mk (L.take j) a + if mk o.at_ = true ∧ o.at_ < a then s.sz o else 0 := by
  rw [List.take_add_one, h, tof_append]
  rfl
theorem tof_bound {s : St} {mk : Nat → Bool} (a : Nat) (hz : ∀ o : RO, s.sz o ≤ 65537) : ∀ L : List RO, M.tof s mk L a ≤ L.length * 65537
  | [] => by simp [M.tof]
  | o :: L => by
    have h1 := tof_bound (mk := mk) a hz L
    have h2 := hz o
    rw [M.tof, List.length_cons, Nat.succ_mul]
    split <;> omega
theorem as_as (s : St) (L : List RO) : (s.as L).as L = s.as L := by
  unfold St.as St.closed
  simp only
  congr 1
  funext i
  by_cases h : i < s.top
  · rw [if_pos h]
  · rw [if_neg h, if_neg h]
theorem sz_le (s : St) (o : RO) : s.sz o ≤ 65537 := by
  unfold St.sz St.need
  have := M.need_bd (s.kind o.sh) (s.len o.sh) o.n
  omega
theorem Sim.one {s : St} {L : List RO} (h : Sim s L) (j k : Nat) (p o : RO) (hj : L[j]? = some p) (hk : L[k]? = some o) (e : p.at_ = o.at_) : j = k := by
  rcases Nat.lt_trichotomy j k with x | x | x
  · exact absurd (by omega) (h.uniq hk j p x hj)
  · exact x
  · exact absurd (by omega) (h.uniq hj k o x hk)
theorem reached_both {wa w : World} {s : St} {x : Rf} (h : Both wa w s x) (rl : List Nat) (a : Option Addr) (n c B : Nat) (hq : Que w B 33 a n c (M.u64l rl)) (hn : n ≤ 65536) (hlt : ∀ v ∈ rl, v < 18446744073709551616) (hfit : ∀ v ∈ rl, s.fits (v : Nat) = true) :
    Calls Try.prog 31 #[x.ptr, .slice a n c] w fun e w' => ∃ (gi : Nat) (is : Nat → Bool), e = .returned (.slice (some ⟨gi, 0, none⟩) x.L.length x.L.length) ∧ w'.rowIs gi 4 x.L.length (fun k => .bool (is k)) ∧ (∀ (k : Nat) (o : RO), x.L[k]? = some o → (is k = true ↔ M.Rch x.L rl o.at_)) ∧ Still w w' ∧ w.heap.size ≤ gi := by
  refine reached_any x w h.rf rl a n c B hq hlt hn (fun o ho => ?_) (fun o ho => (h.sim.good o ho).fl) (fun v hv he => ?_) (fun o ho v hv he => ?_) h.sim.one
  · have hg := h.sim.good o ho
    by_cases hk : s.kind o.sh = 3
    · rw [(hg.b hk).1]; simp
    · rw [(hg.f hk).2.1]; exact hg.kd.2.1
  · obtain ⟨p, hp, e⟩ := h.right.root (hfit v hv) he
    exact ⟨p, hp, by omega⟩
  · rcases h.laid.fit o ho v hv with e | e
    · omega
    · exact e
theorem need_both {wa w : World} {s : St} {x : Rf} (h : Both wa w s x) {o : RO} (ho : o ∈ x.L) (W : World) (hW : Still w W) : Calls Try.prog 32 #[x.ptr, .int .i64 o.sh, .int .i64 o.n] W fun e w' => e = .returned (.tuple #[.int .i64 (s.sz o : Nat), .int .i64 0]) ∧ w' = W := by
  have h' := h.still hW
  have := refNeed_any x.gx x.a x.len x.cap x.K x.N W o.sh o.n h'.rf.c1 h'.rf.lays h.valid
  rw [(h.kd o.sh).1, (h.kd o.sh).2] at this
  have hg := h.sim.good o ho
  have e1 : M.need (s.kind o.sh) (s.len o.sh) o.n = ((s.sz o : Nat) : Int) := hg.sz.2.1
  have e2 : M.needE (s.kind o.sh) (s.len o.sh) o.n = 0 := hg.e
  rw [e1, e2] at this
  exact this
set_option maxRecDepth 100000 in
set_option maxHeartbeats 4000000 in
theorem gcMarks_w {w : World} {a0 : Option Addr} {n0 c0 : Nat} {K N : Nat → Int} {a1 : Option Addr} {n1 c1 : Nat} {F : Nat → OpR} {a2 : Option Addr} {n2 c2 : Nat} {G : Nat → Nat} {near : Nat → Bool} (h : IsCase w a0 n0 c0 K N a1 n1 c1 F a2 n2 c2 G near) :
    Calls Try.prog 5 #[.agg #[.slice a0 n0 c0, .slice a1 n1 c1, .slice a2 n2 c2]] w fun e w' => e = .returned (.bool true) ∧ Below w.heap.size w w' := by
  have S1 : Still w (w.alloc (.cells #[.slice a0 n0 c0, .slice a1 n1 c1, .slice a2 n2 c2] 48)) := (Still.refl w).alloc _
  have HM := Lib.hid (made3_any h _ S1)
  have HS1 := Lib.hid S1
  clear h S1
  go_enter Try.func5, Try.ntmps5
  go_wp2_with fail
  refine HM.out.mono ?_; rintro e w1 (⟨rfl, t1⟩ | ⟨wa, s, x, a, n, c, rl, rfl, hc, _⟩)
  · have HT := Lib.hid (HS1.out.trans t1)
    clear t1 HM
    go_wp2_with fail
    refine (lives3_any _).mono ?_; rintro e w2 ⟨rfl, b2⟩
    go_wp2_with fail
    go_ret
    exact ⟨rfl, (Still.below HT.out).trans (b2.mono HT.out.size)⟩
  obtain ⟨B, hq, hB1, hB2, hB3⟩ := hc.que
  have HC := Lib.hid hc
  have HBL := Lib.hid (show Below w.heap.size w w1 from (Still.below (HS1.out.trans hc.still)).trans (hc.both.below.mono (HS1.out.trans hc.still).size))
  have HBG : Hid (∀ k, k = s.g ∨ k = s.gw → w.heap.size ≤ k) := fun k hk => by
    have h1 := hc.both.bg
    have h2 := hc.both.bgw
    have h3 := (HS1.out.trans hc.still).size
    rcases hk with e | e <;> omega
  have HQ := Lib.hid hq
  have hKQ : ∀ W W', Turn (fun b => b = s.g ∨ b = s.gw) W W' → Que W B 33 a n c (M.u64l rl) → Que W' B 33 a n c (M.u64l rl) := fun W W' t hqq => hqq.keep t fun g off e hs => by
    have := (ReadL.of_que hqq).2 g off e
    rcases hs with e | e <;> omega
  have HKQ := Lib.hid hKQ
  have HMK := Lib.hid (marks_l hc.both.right a n c rl hc.len hc.root hq.2.1 hq.2.2.1 (by have := hc.few; omega))
  have hn65 : n ≤ 65536 := by have := hc.le; omega
  clear hc hq hB1 hB2 hB3 HM hKQ
  by_cases hfit : ∀ v ∈ rl, s.fits (v : Nat) = true
  case neg =>
    have HNO : Hid (∃ v ∈ rl, s.fits (v : Nat) = false) := by
      by_cases h : ∃ v ∈ rl, s.fits (v : Nat) = false
      · exact h
      · exact absurd (fun v hv => by
          cases hb : s.fits (v : Nat) with
          | true => rfl
          | false => exact absurd ⟨v, hv, hb⟩ h) hfit
    clear hfit
    go_wp2_with fail
    refine HMK.out.mono ?_; rintro e w2 (⟨rfl, hu⟩ | ⟨mk, Bm, ma, mc, rfl, hBm, hown, hft⟩)
    case inr =>
      exfalso
      obtain ⟨v, hv, hf⟩ := HNO.out
      rw [hft.fit v hv] at hf; simp at hf
    have hb2 := HC.out.both.again hu.right hu.turn
    have HB2 := Lib.hid hb2
    have HBL2 : Hid (Below w.heap.size w w2) := hu.turn.own HBL.out (Nat.le_refl _) HBG.out
    have HQ2 := Lib.hid (HKQ.out _ _ hu.turn HQ.out)
    have HLV := Lib.hid (live_l hb2.right a n c rl HC.out.len (HC.out.root.turn hu.turn) HQ.out.2.1 HQ.out.2.2.1)
    change Hid (Calls _ _ #[s.ptr, _] _ _) at HLV
    clear hu hb2 HMK
    go_wp2_with fail
    refine HLV.out.mono ?_; rintro e w3 (⟨rfl, hu⟩ | ⟨mk, rfl, hft⟩)
    case inr =>
      exfalso
      obtain ⟨v, hv, hf⟩ := HNO.out
      have := hft.fit v hv
      rw [fits_same HC.out.both.sim HB2.out.sim, hf] at this; simp at this
    have hb3 := HB2.out.again hu.right hu.turn
    rw [as_as] at hb3
    have HB3 := Lib.hid hb3
    have HBL3 : Hid (Below w.heap.size w w3) := hu.turn.own HBL2.out (Nat.le_refl _) HBG.out
    have HQ3 := Lib.hid (HKQ.out _ _ hu.turn HQ2.out)
    have HF := Lib.hid (fit_any x a n c rl w3 hb3.rf (ReadL.of_que HQ3.out).1 HC.out.len HQ.out.2.1 HQ.out.2.2.1 HC.out.lt)
    clear hu hb3 HLV
    go_wp2_with fail
    refine HF.out.mono ?_; rintro e w4 ⟨t4, ⟨rfl, hfit⟩ | ⟨rfl, hno⟩⟩
    case inl =>
      exfalso
      obtain ⟨v, hv, hf⟩ := HNO.out
      have := hfit v hv
      rw [HB3.out.fits, fits_same HC.out.both.sim HB3.out.sim, hf] at this; simp at this
    have HT4 := Lib.hid t4
    have HSM := Lib.hid (same_any _ x w4 (HB3.out.agree.still t4))
    change Hid (Calls _ _ #[s.ptr, _] _ _) at HSM
    clear t4 hno HF
    go_wp2_with fail
    refine HSM.out.mono ?_; rintro e w5 ⟨rfl, t5⟩
    have HT5 := Lib.hid (HT4.out.trans t5)
    clear t5
    go_wp2_with fail
    refine (lives3_any _).mono ?_; rintro e w6 ⟨rfl, b6⟩
    go_wp2_with fail
    go_ret
    exact ⟨rfl, (HBL3.out.trans ((Still.below HT5.out).mono HBL3.out.size)).trans (b6.mono (Nat.le_trans HBL3.out.size HT5.out.size))⟩
  have HFIT := Lib.hid hfit
  clear hfit
  go_wp2_with fail
  refine HMK.out.mono ?_; rintro e w2 (⟨rfl, hu⟩ | ⟨mk, Bm, ma, mc, rfl, hBm, hown, hft⟩)
  case inl =>
    exfalso
    obtain ⟨v, hv, hf⟩ := hu.unfit
    rw [HFIT.out v hv] at hf; simp at hf
  have hb2 := HC.out.both.again hft.right hft.turn
  have HB2 := Lib.hid hb2
  have HBL2 : Hid (Below w.heap.size w w2) := hft.turn.own HBL.out (Nat.le_refl _) HBG.out
  have HQ2 := Lib.hid (HKQ.out _ _ hft.turn HQ.out)
  have HMI := Lib.hid hft.mk_iff
  have HLV := Lib.hid (live_l hb2.right a n c rl HC.out.len (HC.out.root.turn hft.turn) HQ.out.2.1 HQ.out.2.2.1)
  change Hid (Calls _ _ #[s.ptr, _] _ _) at HLV
  have HOW := Lib.hid hown
  have hml : (M.mkl mk x.L).length ≤ 200 := by have := mkl_len mk x.L; have := HC.out.few; omega
  obtain ⟨NM, hNM⟩ : ∃ NM, (M.mkl mk x.L).length = NM := ⟨_, rfl⟩
  rw [hNM] at HOW hml ⊢
  have HNM := Lib.hid hNM
  clear hft hb2 HMK hown hBm hNM
  go_wp2_with fail
  refine HLV.out.mono ?_; rintro e w3 (⟨rfl, hu⟩ | ⟨mk2, rfl, hft⟩)
  case inl =>
    exfalso
    obtain ⟨v, hv, hf⟩ := hu.unfit
    rw [fits_same HC.out.both.sim HB2.out.sim, HFIT.out v hv] at hf; simp at hf
  obtain rfl : mk2 = mk := mk_same hft.mk_iff HMI.out
  have hb3 := HB2.out.again hft.right hft.turn
  rw [as_as] at hb3
  have HB3 := Lib.hid hb3
  have HBL3 : Hid (Below w.heap.size w w3) := hft.turn.own HBL2.out (Nat.le_refl _) HBG.out
  have HQ3 := Lib.hid (HKQ.out _ _ hft.turn HQ2.out)
  have HOW3 := Lib.hid (HB2.out.right.own_keep hft.turn HOW.out)
  have HF := Lib.hid (fit_any x a n c rl w3 hb3.rf (ReadL.of_que HQ3.out).1 HC.out.len HQ.out.2.1 HQ.out.2.2.1 HC.out.lt)
  obtain ⟨T, hT⟩ : ∃ T, M.tof (s.as x.L) mk2 x.L (s.as x.L).top = T := ⟨_, rfl⟩
  rw [hT]
  have HTT := Lib.hid hT
  clear hft hb3 HLV hT
  go_wp2_with fail
  refine HF.out.mono ?_; rintro e w4 ⟨t4, ⟨rfl, hfit⟩ | ⟨rfl, hno⟩⟩
  case inr =>
    exfalso
    obtain ⟨v, hv, hf⟩ := hno
    rw [HB3.out.fits, fits_same HC.out.both.sim HB3.out.sim, HFIT.out v hv] at hf; simp at hf
  have HT4 := Lib.hid t4
  have HRE := Lib.hid (reached_both (HB3.out.still t4) rl a n c B (HQ3.out.still t4) hn65 HC.out.lt (fun v hv => by rw [fits_same HC.out.both.sim HB3.out.sim]; exact HFIT.out v hv))
  clear t4 hfit HF
  go_wp2_with fail
  refine HRE.out.mono ?_; rintro e w5 ⟨gi, is, rfl, hrow, his, t5, hgi⟩
  have HIS : Hid (∀ (k : Nat) (o : RO), x.L[k]? = some o → is k = mk2 o.at_) := fun k o hk => by
    have h1 := his k o hk
    have h2 := HMI.out o.at_
    cases ha : is k <;> cases hb : mk2 o.at_
    · rfl
    · rw [ha] at h1; rw [hb] at h2; exact absurd (h1.2 (h2.1 rfl)) (by simp)
    · rw [ha] at h1; rw [hb] at h2; exact absurd (h2.2 (h1.1 rfl)) (by simp)
    · rfl
  have HROW := Lib.hid hrow
  have HT5 := Lib.hid (HT4.out.trans t5)
  have HB5 := Lib.hid ((HB3.out.still HT4.out).still t5)
  have HOW5 := Lib.hid (own_keep HOW3.out HT5.out (fun _ _ e => e))
  obtain ⟨la, lc, hlv⟩ := HB5.out.rf.lv_slice
  have c2 : w5.cell? ⟨x.gx, 2, none⟩ = some (.slice la x.L.length lc) := by rw [HB5.out.rf.c2, hlv]
  have HLV2 := Lib.hid hlv
  have hgx := HB5.out.rf.blk.lt
  have hgl := hrow.lt
  have hNL : x.L.length ≤ 200 := HC.out.few
  have hlc : x.L.length ≤ lc ∧ lc ≤ maxLen := by
    rcases HB5.out.rf.lv_form with ⟨h1, h0⟩ | ⟨g, cap, h1, _, _, h2, h3, _⟩
    · rw [h1] at hlv; injection hlv with _ e1 e2
      subst e2; rw [h0]; exact ⟨Nat.le_refl _, by unfold maxLen; omega⟩
    · rw [h1] at hlv; injection hlv with _ e1 e2
      subst e2; exact ⟨h2, h3⟩
  obtain ⟨hlc1, hlc2⟩ := hlc
  unfold maxLen at hlc2
  obtain ⟨NL, hNLe⟩ : ∃ NL, x.L.length = NL := ⟨_, rfl⟩
  rw [hNLe] at c2 hNL hlc1 HROW ⊢
  have HNL := Lib.hid hNLe
  clear hrow his t5 hgi hlv HRE hNLe
  go_wp2_with fail
  go_loopw [11, 12, 73] (fun kv wv v wr => ∃ j kk ww : Nat, v = .int .i64 j ∧ kv = .int .i64 kk ∧ wv = .int .i64 ww ∧ j ≤ NL ∧ kk = (M.mkl mk2 (x.L.take j)).length ∧ ww = M.tof (s.as x.L) mk2 (x.L.take j) (s.as x.L).top ∧ Still w5 wr) (fun _ _ v _ => NL - (intOf v).toNat)
  case atStart => exact ⟨0, 0, 0, rfl, rfl, rfl, by omega, rfl, rfl, Still.refl _⟩
  case round =>
    obtain ⟨j, kk, ww, rfl, rfl, rfl, hj, hkk, hww, ht⟩ := hrel
    have HT := Lib.hid ht
    have HKK := Lib.hid (And.intro hkk hww)
    have hk2 : kk ≤ 200 := by
      have h1 := mkl_len mk2 (x.L.take j)
      rw [List.length_take] at h1
      omega
    have hw2 : ww ≤ 200 * 65537 := by
      have h1 := tof_bound (mk := mk2) (s.as x.L).top (sz_le (s.as x.L)) (x.L.take j)
      rw [List.length_take] at h1
      have : min j x.L.length * 65537 ≤ 200 * 65537 := Nat.mul_le_mul_right _ (by omega)
      omega
    by_cases hlt : j < NL
    · rcases HB5.out.rf.lv_form with ⟨_, h0⟩ | ⟨g, cap, h1, hg, hb, hle, hm, hf, hc⟩
      · rw [← HNL.out, h0] at hlt; simp at hlt
      have h2 := h1.symm.trans HLV2.out
      injection h2 with h3 _ h4
      subst h3; subst h4
      obtain ⟨o, ho⟩ : ∃ o, x.L[j]? = some o := ⟨_, List.getElem?_eq_getElem (by rw [HNL.out]; exact hlt)⟩
      obtain ⟨d0, d1, d2, d3, d4⟩ := hc j o ho
      rw [← ht.cell (p := ⟨g, _, none⟩) hg] at d0 d1 d2 d3 d4
      have hgw : g < wr.heap.size := Nat.lt_of_lt_of_le hg ht.size
      have hci : (wr.alloc (.cells o.arr 67)).cell? ⟨gi, j, none⟩ = some (.bool (mk2 o.at_)) := by
        rw [(ht.alloc (.cells o.arr 67)).cell (p := ⟨gi, j, none⟩) hgl, HROW.out.cell (i := j) hlt, HIS.out j o ho]
      have hgl2 : gi < wr.heap.size := Nat.lt_of_lt_of_le hgl ht.size
      have hom := List.mem_of_getElem? ho
      have HO := Lib.hid ho
      have HA := Lib.hid (ht.alloc (.cells o.arr 67))
      have HBK := Lib.hid (Blk.new wr 67 o.arr)
      have HTK := tof_take (s := s.as x.L) (mk := mk2) ho (s.as x.L).top
      have hat := (HB5.out.right.at_le hom).1
      have HTK2 := Lib.hid HTK
      have HAT := Lib.hid hat
      have HOM := Lib.hid hom
      unfold RO.arr at hci HA HBK
      clear hc h1 hf hb hle hm ht ho hkk hww HTK hat hom
      cases hmk : mk2 o.at_ with
      | false =>
        rw [hmk] at hci
        have HMF := Lib.hid hmk
        clear hmk
        go_wp2_with fail
        go_roundw
        case rel => exact ⟨j + 1, kk, ww, by go_num, rfl, rfl, by omega, by rw [mkl_step HO.out, HMF.out]; simpa using HKK.out.1, by rw [HTK2.out, HMF.out]; simpa using HKK.out.2, HA.out⟩
        case measure => simp [intOf]; omega
      | true =>
        rw [hmk] at hci
        have HMT := Lib.hid hmk
        obtain ⟨g1, g2⟩ := mkl_get HO.out hmk
        rw [← HKK.out.1] at g1 g2
        rw [HNM.out] at g1
        obtain ⟨lb, rfl, hlb, hle2, hmx2, hcl⟩ := ints_at (own_keep HOW5.out HA.out (fun _ _ e => e)) HNM.out g1
        rw [g2] at hcl
        unfold maxLen at hmx2
        have x1 : ((o.at_ : Int) != o.at_) = false := by simp
        have x2 : ¬ ((NM : Int) ≤ (kk : Int)) := by omega
        have x3 : decide ((NM : Int) ≤ (kk : Int)) = false := decide_eq_false x2
        have HND := Lib.hid (need_both HB5.out HOM.out)
        have hszo := sz_le (s.as x.L) o
        have HGG := Lib.hid g1
        obtain ⟨z, hz⟩ : ∃ z, (s.as x.L).sz o = z := ⟨_, rfl⟩
        rw [hz] at HND hszo
        have HZ := Lib.hid hz
        clear hmk g2 hz
        go_wp2_with fail
        go_quiet (fail)
        have HA2 := Lib.hid (HA.out.drewN nq)
        clear hcl hci d0 d1 d2 d3 d4
        go_wp2_with fail
        refine (HND.out _ HA2.out).mono ?_; rintro e w8 ⟨rfl, rfl⟩
        go_wp2_with fail
        go_roundw
        case rel => exact ⟨j + 1, kk + 1, ww + z, by go_num, by go_num, by go_num, by omega, by rw [mkl_step HO.out, if_pos HMT.out, List.length_append]; have := HKK.out.1; simp; omega, by rw [HTK2.out, if_pos ⟨HMT.out, HAT.out⟩, HZ.out]; have := HKK.out.2; omega, HA2.out⟩
        case measure => simp [intOf]; omega
    · obtain rfl : j = NL := by omega
      have htk : x.L.take j = x.L := List.take_of_length_le (by rw [HNL.out]; exact Nat.le_refl _)
      rw [htk, HNM.out] at hkk
      rw [htk, HTT.out] at hww
      subst hkk; subst hww
      have HSM := Lib.hid (same_any _ x wr (HB5.out.agree.still ht))
      change Hid (Calls _ _ #[s.ptr, _] _ _) at HSM
      have y1 : ((kk : Int) == kk) = true := by simp
      have y2 : ((ww : Int) == ww) = true := by simp
      clear ht htk
      go_wp2_with fail
      refine HSM.out.mono ?_; rintro e w9 ⟨rfl, t9⟩
      have HT9 := Lib.hid ((HT5.out.trans HT.out).trans t9)
      clear t9
      go_wp2_with fail
      refine (lives3_any _).mono ?_; rintro e w10 ⟨rfl, b10⟩
      go_wp2_with fail
      go_ret
      exact ⟨rfl, (HBL3.out.trans ((Still.below HT9.out).mono HBL3.out.size)).trans (b10.mono (Nat.le_trans HBL3.out.size HT9.out.size))⟩
end Go.Proofs.Ytmbdacfdefoknaa
