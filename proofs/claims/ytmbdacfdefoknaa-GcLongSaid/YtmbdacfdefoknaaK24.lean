/- Lemmas, put together: TwiceW. -/
import Derived.Test.YtmbdacfdefoknaaK22
/- A second collection changes nothing. -/
namespace Go.Proofs.Ytmbdacfdefoknaa
set_option linter.unusedVariables false
open Go.ChangeShapes Go.WideShapes Go.ChangeAt Go.RowKit
open M (W)

theorem tile_cover {s : St} {top : Nat} : ∀ {L : List RO} {p i : Nat}, TileTo s top p L → p ≤ i → i < top → ∃ o ∈ L, o.at_ ≤ i ∧ i < o.at_ + s.sz o
  | [], p, i, h, h1, h2 => by have : p = top := h; omega
  | o :: L, p, i, h, h1, h2 => by
    have hp := h.1
    by_cases hi : i < p + s.sz o
    · exact ⟨o, List.mem_cons_self, by omega, by omega⟩
    · obtain ⟨q, hq, e⟩ := tile_cover h.2 (i := i) (by omega) h2
      exact ⟨q, List.mem_cons_of_mem _ hq, e⟩
/-- Two heaps with the same objects have the same words. -/
theorem sim_ws {s s' : St} {L : List RO} (h : Sim s L) (h' : Sim s' L) (ht : s'.top = s.top) (i : Nat) : s'.ws i = s.ws i := by
  by_cases hi : i < s.top
  · obtain ⟨o, ho, h1, h2⟩ := tile_cover h.tile.to (Nat.zero_le _) hi
    have hg := h.good o ho
    have hg' := h'.good o ho
    obtain ⟨z1, z2, z3, _⟩ := hg.flat
    obtain ⟨_, y2, y3, _⟩ := hg'.flat
    by_cases e : i = o.at_
    · rw [e, hg.hd, hg'.hd]
    · by_cases e2 : i < o.at_ + 1 + o.fs.length
      · obtain ⟨k, rfl⟩ : ∃ k, i = o.at_ + 1 + k := ⟨i - (o.at_ + 1), by omega⟩
        rw [z2 k (by omega), y2 k (by omega)]
      · obtain ⟨k, rfl⟩ : ∃ k, i = o.at_ + 1 + o.fs.length + k := ⟨i - (o.at_ + 1 + o.fs.length), by omega⟩
        rw [z3 k (by omega), y3 k (by omega)]
  · rw [h.zero i (by omega), h'.zero i (by omega)]
/-- What was reached is reached from the roots' new pointers. -/
theorem rch_slid {s : St} {L : List RO} {rl : List Nat} {mk : Nat → Bool} {t : Nat → Nat} (hmk : ∀ b, mk b = true ↔ M.Rch L rl b) {b : Nat} (h : M.Rch L rl b) : M.Rch (M.slid mk t L) (rl.map (M.ren t)) (t b) := by
  induction h with
  | @root v hv he =>
    have := M.Rch.root (L := M.slid mk t L) (rl := rl.map (M.ren t)) (v := M.ren t v) (List.mem_map_of_mem hv) (by unfold M.ren; rw [if_pos he]; omega)
    rwa [show M.ren t v / 2 = t (v / 2) by unfold M.ren; rw [if_pos he]; omega] at this
  | @field o v ho hr hv he ih =>
    have hom : o.goes t ∈ M.slid mk t L := mem_slid.2 ⟨o, ho, (hmk _).2 hr, rfl⟩
    have := M.Rch.field (L := M.slid mk t L) (rl := rl.map (M.ren t)) (o := o.goes t) (v := M.ren t v) hom ih (List.mem_map_of_mem (f := M.ren t) hv) (by unfold M.ren; rw [if_pos he]; omega)
    rwa [show M.ren t v / 2 = t (v / 2) by unfold M.ren; rw [if_pos he]; omega] at this
/-- The new pointers of roots fit. -/
theorem ren_fits {w w' : World} {s s' : St} {L : List RO} {rl : List Nat} {mk : Nat → Bool} {t : Nat → Nat} (h : Right w s L) (h' : Right w' s' (M.slid mk t L)) (hmk : ∀ b, mk b = true ↔ M.Rch L rl b) (hfit : ∀ v ∈ rl, s.fits (v : Nat) = true) : ∀ v ∈ rl.map (M.ren t), s'.fits (v : Nat) = true := fun u hu => by
  obtain ⟨v, hv, rfl⟩ := List.mem_map.1 hu
  by_cases he : v % 2 = 0
  · obtain ⟨p, hp, e⟩ := h.root (hfit v hv) he
    have hr : M.Rch L rl (v / 2) := .root hv he
    have hpm : p.goes t ∈ M.slid mk t L := mem_slid.2 ⟨p, hp, by rw [show p.at_ = v / 2 by omega]; exact (hmk _).2 hr, rfl⟩
    refine h'.fits_at hpm ?_
    unfold M.ren
    rw [if_pos he]
    show ((2 * t (v / 2) : Nat) : Int) / 2 = ((t p.at_ : Nat) : Int)
    rw [show p.at_ = v / 2 by omega]; omega
  · refine fits_odd _ ?_
    unfold M.ren
    rw [if_neg he]; omega
theorem ren_lt {w : World} {s : St} {L : List RO} {rl : List Nat} {mk : Nat → Bool} (h : Right w s L) (hlt : ∀ v ∈ rl, v < 18446744073709551616) (hfit : ∀ v ∈ rl, s.fits (v : Nat) = true) : ∀ v ∈ rl.map (M.ren (M.tof s mk L)), v < 18446744073709551616 := fun u hu => by
  obtain ⟨v, hv, rfl⟩ := List.mem_map.1 hu
  have h1 := hlt v hv
  unfold M.ren
  by_cases he : v % 2 = 0
  · obtain ⟨p, hp, e⟩ := h.root (hfit v hv) he
    have h2 := tof_below (mk := mk) h hp
    have h3 := (h.at_le hp).2
    rw [if_pos he, show v / 2 = p.at_ by omega]; omega
  · rw [if_neg he]; exact h1
theorem getD_map (f : Nat → Nat) (l : List Nat) (i : Nat) (hi : i < l.length) : (l.map f).getD i 0 = f (l.getD i 0) := by
  rw [List.getD_eq_getElem?_getD, List.getD_eq_getElem?_getD, List.getElem?_map, List.getElem?_eq_getElem hi]; rfl
set_option maxRecDepth 100000 in
set_option maxHeartbeats 4000000 in
theorem gcTwice_w {w : World} {a0 : Option Addr} {n0 c0 : Nat} {K N : Nat → Int} {a1 : Option Addr} {n1 c1 : Nat} {F : Nat → OpR} {a2 : Option Addr} {n2 c2 : Nat} {G : Nat → Nat} {near : Nat → Bool} (h : IsCase w a0 n0 c0 K N a1 n1 c1 F a2 n2 c2 G near) :
    Calls Try.prog 6 #[.agg #[.slice a0 n0 c0, .slice a1 n1 c1, .slice a2 n2 c2]] w fun e w' => e = .returned (.bool true) ∧ Below w.heap.size w w' := by
  have S1 : Still w (w.alloc (.cells #[.slice a0 n0 c0, .slice a1 n1 c1, .slice a2 n2 c2] 48)) := (Still.refl w).alloc _
  have HM := Lib.hid (made3_any h _ S1)
  have HS1 := Lib.hid S1
  clear h S1
  go_enter Try.func6, Try.ntmps6
  go_wp2_with fail
  refine HM.out.mono ?_; rintro e w1 (⟨rfl, t1⟩ | ⟨wa, s, x, a, n, c, rl, rfl, hc, _⟩)
  · have HT := Lib.hid (HS1.out.trans t1)
    clear t1 HM
    go_wp2_with fail
    refine (lives3_any _).mono ?_; rintro e w2 ⟨rfl, b2⟩
    go_wp2_with fail
    go_ret
    exact ⟨rfl, (Still.below HT.out).trans (b2.mono HT.out.size)⟩
  have hq := hc.que
  obtain ⟨B, hq, hB1, hB2, hB3⟩ := hq
  have hnc := hq.2.1
  have hcm := hq.2.2.1
  have HF := Lib.hid (fit_any x a n c rl w1 hc.both.rf (ReadL.of_que hq).1 hc.len hnc hcm hc.lt)
  have HC := Lib.hid hc
  have HBL := Lib.hid (show Below w.heap.size w w1 from (Still.below (HS1.out.trans hc.still)).trans (hc.both.below.mono (HS1.out.trans hc.still).size))
  have HNC := Lib.hid (And.intro hnc hcm)
  have HBG : Hid (∀ k, k = s.g ∨ k = s.gw → w.heap.size ≤ k) := fun k hk => by
    have h1 := hc.both.bg
    have h2 := hc.both.bgw
    have h3 := (HS1.out.trans hc.still).size
    rcases hk with e | e <;> omega
  clear hc hq hB1 hB2 hB3 hnc hcm HM
  go_wp2_with fail
  refine HF.out.mono ?_; rintro e w2 ⟨t2, ⟨rfl, hfit⟩ | ⟨rfl, hno⟩⟩
  case inr =>
    have HT := Lib.hid t2
    clear t2 hno HF
    go_wp2_with fail
    refine (lives3_any _).mono ?_; rintro e w3 ⟨rfl, b3⟩
    go_wp2_with fail
    go_ret
    exact ⟨rfl, (HBL.out.trans ((Still.below HT.out).mono HBL.out.size)).trans (b3.mono (Nat.le_trans HBL.out.size HT.out.size))⟩
  have HR2 := Lib.hid (HC.out.both.right.still t2)
  have HRT2 := Lib.hid (HC.out.root.turn (Still.turn t2))
  have HFIT : Hid (∀ v ∈ rl, s.fits (v : Nat) = true) := fun v hv => by rw [← HC.out.both.fits]; exact hfit v hv
  have HB2 := Lib.hid (HBL.out.trans ((Still.below t2).mono HBL.out.size))
  have HB2B := Lib.hid (HC.out.both.still t2)
  have HLV := Lib.hid (live_l HR2.out a n c rl HC.out.len HRT2.out HNC.out.1 HNC.out.2)
  have hsn := HC.out.sn
  clear t2 hfit HF
  go_wp2_with fail
  refine HLV.out.mono ?_; rintro e w4 (⟨rfl, hu⟩ | ⟨mk, rfl, hft⟩)
  · exfalso
    obtain ⟨v, hv, hf⟩ := hu.unfit
    rw [HFIT.out v hv] at hf; simp at hf
  have hb4 := HB2B.out.again hft.right hft.turn
  have HB4B := Lib.hid hb4
  have HR4 := Lib.hid hb4.right
  have HB4 : Hid (Below w.heap.size w w4) := hft.turn.own HB2.out (Nat.le_refl _) HBG.out
  have HRT4 := Lib.hid (HRT2.out.turn hft.turn)
  have HFIT4 : Hid (∀ v ∈ rl, (s.as x.L).fits (v : Nat) = true) := fun v hv => by rw [fits_same HR2.out.sim HR4.out.sim]; exact HFIT.out v hv
  have HMI := Lib.hid hft.mk_iff
  have HCO := Lib.hid (collect_l HR4.out a n c rl HC.out.len HRT4.out HNC.out.1 HNC.out.2)
  change Hid (Calls _ _ #[s.ptr, _] _ _) at HCO
  obtain ⟨T, hT⟩ : ∃ T, M.tof s mk x.L s.top = T := ⟨_, rfl⟩
  rw [hT]
  have HTT := Lib.hid hT
  clear hft hb4 HLV hT
  go_wp2_with fail
  refine HCO.out.mono ?_; rintro e w5 (⟨rfl, hu⟩ | ⟨mk2, gr, s5, rfl, hsw⟩)
  · exfalso
    obtain ⟨v, hv, hf⟩ := hu.unfit
    rw [HFIT4.out v hv] at hf; simp at hf
  obtain rfl : mk2 = mk := mk_same hsw.mk_iff HMI.out
  have ht5 : s5.top = T := by rw [hsw.top, tof_same (s := s) (s' := s.as x.L) (fun _ => rfl)]; exact HTT.out
  have hTle : T ≤ s.top := by
    have h1 := tof_le (mk := mk2) (a := s.top) HR2.out.laid.tile (fun o ho _ => HR2.out.laid.tile.in.2 o ho) (Nat.zero_le _)
    have h2 := HTT.out
    omega
  have HB5 : Hid (Below w.heap.size w w5) := hsw.turn.own HB4.out (Nat.le_refl _) HBG.out
  have hpt : s5.ptr = s.ptr := by show Value.pointer (some ⟨s5.g, 0, none⟩) = _; rw [hsw.is.1]; rfl
  have hTOP := top_any s5 w5 hsw.right.hp
  rw [hpt, ht5] at hTOP
  have HTOP := Lib.hid hTOP
  have hXT := refTop_any x w5 (HB4B.out.rf_gw hsw.turn) HC.out.both.valid
  rw [HC.out.both.sum] at hXT
  have HXT := Lib.hid hXT
  have HSW := Lib.hid hsw
  have HPT := Lib.hid hpt
  have HT5 := Lib.hid ht5
  have htn5 := hsw.right.hp.top_le
  have hn5 : s5.n = 1500 := by rw [hsw.is.2.2.2.1]; exact hsn
  have hs15 : s.top ≤ 1500 := by have := HR2.out.hp.top_le; omega
  clear hsw HCO ht5 hpt hTOP hXT
  have x1 : ((T : Int) != T) = false := by simp
  have x2 : decide ((s.top : Int) < (T : Int)) = false := decide_eq_false (by omega)
  have x3 : ¬ ((s.top : Int) < (T : Int)) := by omega
  go_wp2_with fail
  refine HTOP.out.mono ?_; rintro e w6 ⟨rfl, rfl⟩
  go_wp2_with fail
  refine HXT.out.mono ?_; rintro e w7 ⟨rfl, t7⟩
  have HT7 := Lib.hid t7
  have HR7 := Lib.hid (HSW.out.right.still t7)
  have hSZ := size_any s5 w7 HR7.out.hp
  rw [HPT.out, hn5] at hSZ
  have HSZ := Lib.hid hSZ
  clear t7 hSZ HXT HTOP
  go_wp2_with fail
  refine HSZ.out.mono ?_; rintro e w8 ⟨rfl, rfl⟩
  go_wp2_with fail
  go_loopw [10, 62] (fun t v wr => ∃ (j : Nat) (a : Option Addr) (n c : Nat), v = .int .i64 j ∧ t = .slice a n c ∧ n = j ∧ j ≤ 1500 ∧ wr.ownsRow w8.heap.size 33 1 (.slice a n c) n (M.u64s s5.ws j) ∧ Still w8 wr) (fun _ v _ => 1500 - (intOf v).toNat)
  case atStart => exact ⟨0, none, 0, 0, rfl, rfl, rfl, by omega, World.ownsRow_nil _ _ _ _, Still.refl _⟩
  case round =>
    obtain ⟨j, sa, sn, sc, rfl, rfl, rfl, hj, hsh, ht⟩ := hrel
    have HSH := Lib.hid hsh
    have HT := Lib.hid ht
    by_cases hlt : sn < 1500
    · have hLD := load_in s5 sn wr (HR7.out.still ht).hp (by rw [hn5]; exact hlt)
      rw [HPT.out] at hLD
      have HLD := Lib.hid hLD
      obtain ⟨v, hv⟩ : ∃ v, s5.ws sn = v := ⟨_, rfl⟩
      rw [hv] at HLD
      have HV := Lib.hid hv
      clear hsh ht hLD hv
      go_wp2_with fail
      refine HLD.out.mono ?_; rintro e w9 ⟨rfl, rfl⟩
      go_wp2_with (first
        | (at_builtin; refine wpList_append_form rfl (.tmp 65) (.tmp 69) 24 rfl w8.heap.size 33 1 8 (.int .u64 0) Try.underlying24 infoWord rfl (by decide) sa sn sc _ rfl (own_keep HSH.out ((Still.refl w9).alloc (.cells #[.int .u64 v] 33)) (fun _ _ e => e)) ⟨w9.heap.size, 0, none⟩ 1 1 [.int .u64 v] rfl rfl (cell_one_new _ _ _) (by simp [Value.oneCell']) (by decide) (by unfold maxLen; omega) (by omega) (by have := HT.out.size; simp; omega) ?_
           intro g9 c9 w10 hown9 ht9 hnew9))
      go_roundw
      case rel => exact ⟨sn + 1, some ⟨g9, 0, none⟩, sn + 1, c9, by go_num, rfl, rfl, by omega, by rw [u64s_succ, HV.out]; exact hown9.out, (HT.out.alloc _).own_turn ht9.out (own_keep HSH.out ((Still.refl w9).alloc _) (fun _ _ e => e))⟩
      case measure => simp [intOf]; omega
    · obtain rfl : sn = 1500 := by omega
      have hR8 := HR7.out.still ht
      have etof : M.tof (s.as x.L) mk2 x.L = M.tof s mk2 x.L := funext fun a => tof_same (s := s) (s' := s.as x.L) (fun _ => rfl) x.L a
      have hlt5 := ren_lt (mk := mk2) HR4.out HC.out.lt HFIT4.out
      have hfit5 := ren_fits HR4.out hR8 HMI.out HFIT4.out
      have hrow5 : wr.rowIs gr 33 (rl.map (M.ren (M.tof (s.as x.L) mk2 x.L))).length (fun i => .int .u64 ((rl.map (M.ren (M.tof (s.as x.L) mk2 x.L))).getD i 0 : Nat)) := by
        have h1 := HSW.out.row.of_block ((HT7.out.trans ht).block _ HSW.out.row.lt (fun e => e))
        rw [List.length_map]
        exact h1.congr fun i hi => by rw [getD_map _ _ _ hi]
      have hrl5 : (rl.map (M.ren (M.tof (s.as x.L) mk2 x.L))).length = n := by rw [List.length_map]; exact HC.out.len
      obtain ⟨rl5, hrle⟩ : ∃ rl5, rl.map (M.ren (M.tof (s.as x.L) mk2 x.L)) = rl5 := ⟨_, rfl⟩
      obtain ⟨L5, hL5⟩ : ∃ L5, M.slid mk2 (M.tof (s.as x.L) mk2 x.L) x.L = L5 := ⟨_, rfl⟩
      have hall0 : ∀ o ∈ L5, M.Rch L5 rl5 o.at_ := fun o ho => by
        rw [← hL5] at ho
        obtain ⟨q, hq, hm, e⟩ := mem_slid.1 ho
        have := rch_slid (s := s) (t := M.tof (s.as x.L) mk2 x.L) HMI.out ((HMI.out q.at_).1 hm)
        rw [hL5, hrle] at this
        rw [← e]; exact this
      rw [hrle] at hlt5 hfit5 hrow5 hrl5
      rw [hL5] at hR8
      have hRG : ReadL wr (some ⟨gr, 0, none⟩) rl5 := ReadL.of_row hrow5
      have hrootg : RootL wr s5 (some ⟨gr, 0, none⟩) rl5 := ⟨fun h0 => ⟨gr, 0, rfl, hrow5.lt, by
        have h1 := HSW.out.new
        have h2 := HR4.out.hp.blk.lt
        have h3 := HR4.out.hp.words.lt
        have h4 := HSW.out.is
        change s.g < _ at h2
        change s.gw < _ at h3
        rw [h4.1, h4.2.1]
        show ¬ (gr = s.g ∨ gr = s.gw)
        omega, fun i hi => by rw [Nat.zero_add]; exact hrow5.cell (i := i) hi⟩, getD_lt64 hlt5, by have := HC.out.le; omega⟩
      have hC2 := collect_l hR8 (some ⟨gr, 0, none⟩) n n rl5 hrl5 hrootg (Nat.le_refl _) (by have := HC.out.le; unfold maxLen; omega)
      rw [HPT.out] at hC2
      have HC2 := Lib.hid hC2
      have HR8 := Lib.hid hR8
      have HFIT5 := Lib.hid hfit5
      have HALL := Lib.hid hall0
      have HRG8 := Lib.hid hRG
      have HRT8 := Lib.hid hrootg
      have HLT5 := Lib.hid hlt5
      have HRL5 := Lib.hid hrl5
      have HT8 := Lib.hid (HT7.out.trans ht)
      have HB8 := Lib.hid (HB5.out.trans ((Still.below (HT7.out.trans ht)).mono HB5.out.size))
      have HIS5 := Lib.hid HSW.out.is
      have hn30 := HC.out.le
      clear hR8 etof hlt5 hfit5 hrow5 hrl5 hrle hL5 hall0 hRG hrootg hC2 hsh ht
      go_wp2_with fail
      refine HC2.out.mono ?_; rintro e w11 (⟨rfl, hu⟩ | ⟨mk3, g3, s11, rfl, hsw⟩)
      · exfalso
        obtain ⟨v, hv, hf⟩ := hu.unfit
        rw [HFIT5.out v hv] at hf; simp at hf
      have hall : ∀ o ∈ L5, mk3 o.at_ = true := fun o ho => (hsw.mk_iff _).2 (HALL.out o ho)
      have hz : ∀ o ∈ L5, 1 ≤ s5.sz o := fun o ho => (HR8.out.sim.good o ho).sz.2.2
      obtain ⟨k1, k2⟩ := tof_all HR8.out.laid.tile hall hz
      have k1' : ∀ o ∈ L5, M.tof s5 mk3 L5 o.at_ = o.at_ := fun o ho => by have := k1 o ho; omega
      have hr11 := hsw.right
      rw [slid_all hall k1' HR8.out.laid.fit] at hr11
      have ht11 : s11.top = T := by rw [hsw.top]; have := HT5.out; omega
      have hp11 : s11.ptr = s.ptr := by show Value.pointer (some ⟨s11.g, 0, none⟩) = _; rw [hsw.is.1, HIS5.out.1]; rfl
      have hn11 : s11.n = 1500 := by rw [hsw.is.2.2.2.1]; exact hn5
      have hws : ∀ i, s11.ws i = s5.ws i := sim_ws HR8.out.sim hr11.sim (by rw [ht11, HT5.out])
      have HB11 : Hid (Below w.heap.size w w11) := hsw.turn.own HB8.out (Nat.le_refl _) (by
        rintro k (e | e)
        · exact HBG.out k (.inl (by rw [e, HIS5.out.1]; rfl))
        · exact HBG.out k (.inr (by rw [e, HIS5.out.2.1]; rfl)))
      have HRD := Lib.hid (ReadL.of_root (HRT8.out.turn hsw.turn))
      have HRG11 : Hid (ReadL w11 (some ⟨g3, 0, none⟩) rl5) := ReadL.of_row (hsw.row.congr fun i hi => by
        have hv := HFIT5.out _ (getD_mem hi)
        rw [ren_same]
        by_cases he : rl5.getD i 0 % 2 = 0
        · obtain ⟨p, hp, e⟩ := HR8.out.root hv he
          right
          rw [show rl5.getD i 0 / 2 = p.at_ by omega]; exact k1' p hp
        · left; omega)
      have HAL := Lib.hid (alike_same (some ⟨gr, 0, none⟩) (some ⟨g3, 0, none⟩) n n n rl5 w11 HRD.out HRG11.out HRL5.out (Nat.le_refl _) (Nat.le_refl _) (by omega) HLT5.out)
      have HBE := Lib.hid (own_keep HSH.out hsw.turn (fun k hk e => by
        have h1 := (HSH.out.lt k hk).1
        have h2 := HR7.out.hp.blk.lt
        have h3 := HR7.out.hp.words.lt
        rcases e with e | e <;> omega))
      have HR11 := Lib.hid hr11
      have HP11 := Lib.hid hp11
      have HWS := Lib.hid hws
      have HT11 := Lib.hid ht11
      clear hsw HC2 hall hz k1 k1' k2 hr11 ht11 hp11 hws
      go_wp2_with fail
      refine HAL.out.mono ?_; rintro e w12 ⟨rfl, t12⟩
      have hTOP := top_any s11 w12 (HR11.out.still t12).hp
      rw [HP11.out, HT11.out] at hTOP
      have HTOP := Lib.hid hTOP
      have HT12 := Lib.hid t12
      clear t12 hTOP HAL
      go_wp2_with fail
      refine HTOP.out.mono ?_; rintro e w13 ⟨rfl, rfl⟩
      have HBE13 := Lib.hid (own_keep HBE.out HT12.out (fun _ _ e => e))
      obtain ⟨gb, hsa, hgb, hb1, hb2, hb3, _⟩ := own_form HBE13.out (by decide)
      subst hsa
      have HBC := Lib.hid hb3
      unfold maxLen at hb2
      clear hb3
      go_wp2_with fail
      go_loopw [94] (fun v wq => ∃ j : Nat, v = .int .i64 j ∧ j ≤ 1500 ∧ Still w13 wq) (fun v _ => 1500 - (intOf v).toNat)
      case atStart => exact ⟨0, rfl, by omega, Still.refl _⟩
      case round =>
        obtain ⟨j, rfl, hj2, htq⟩ := hrel
        have HTQ := Lib.hid htq
        by_cases hjl : j < 1500
        · have hcell := HBC.out j _ (u64s_get s5.ws 1500 j hjl)
          have hcell2 : wr.cell? ⟨gb, j, none⟩ = some (.int .u64 (s5.ws j)) := by rw [htq.cell (p := ⟨gb, j, none⟩) hgb]; exact hcell
          have hgb2 : gb < wr.heap.size := Nat.lt_of_lt_of_le hgb htq.size
          have hLD := fun W (hW : Still wr W) => load_in s11 j W ((HR11.out.still HT12.out).still (htq.trans hW)).hp (by rw [hn11]; exact hjl)
          rw [HP11.out, HWS.out] at hLD
          obtain ⟨v, hv⟩ : ∃ v, s5.ws j = v := ⟨_, rfl⟩
          rw [hv] at hLD hcell2
          have HLD := Lib.hid hLD
          have hvn : ((v : Int) != v) = false := by simp
          clear hcell htq hLD hv
          go_wp2_with fail
          go_quiet ((go_at_call 21; exact Calls.quiet_of_same (HLD.out _ ((Still.refl _).drewN _))))
          go_wp2_with fail
          go_roundw
          case rel => exact ⟨j + 1, by go_num, by omega, HTQ.out.drewN nq⟩
          case measure => simp [intOf]; omega
        · clear htq
          go_wp2_with fail
          refine (lives3_any _).mono ?_; rintro e w15 ⟨rfl, b15⟩
          go_wp2_with fail
          go_ret
          have ht := HT12.out.trans HTQ.out
          exact ⟨rfl, (HB11.out.trans ((Still.below ht).mono HB11.out.size)).trans (b15.mono (Nat.le_trans HB11.out.size ht.size))⟩
end Go.Proofs.Ytmbdacfdefoknaa
