/- Lemmas, put together: AllW. -/
import Derived.Test.YtmbdacfdefoknaaK21
import Derived.StillTailTactics
/- With all objects as roots nothing moves; with none nothing is left. -/
namespace Go.Proofs.Ytmbdacfdefoknaa
set_option linter.unusedVariables false
open Go.ChangeShapes Go.WideShapes Go.ChangeAt Go.RowKit
open M (W)

theorem tof_all {s : St} {mk : Nat → Bool} {top : Nat} : ∀ {L : List RO} {p : Nat}, TileTo s top p L → (∀ o ∈ L, mk o.at_ = true) → (∀ o ∈ L, 1 ≤ s.sz o) → (∀ q ∈ L, p + M.tof s mk L q.at_ = q.at_) ∧ p + M.tof s mk L top = top
  | [], p, h, _, _ => ⟨fun q hq => by simp at hq, h⟩
  | o :: L, p, h, hm, hz => by
    have hp := h.1
    have hle := h.2.le
    have hzo := hz o (List.mem_cons_self)
    obtain ⟨i1, i2⟩ := tof_all h.2 (fun q hq => hm q (List.mem_cons_of_mem _ hq)) (fun q hq => hz q (List.mem_cons_of_mem _ hq))
    refine ⟨fun q hq => ?_, ?_⟩
    · rcases List.mem_cons.1 hq with e | hq
      · subst e
        rw [M.tof, if_neg (by omega), tof_zero h.2 (by omega)]; omega
      · have h1 := i1 q hq
        rw [M.tof, if_pos ⟨hm o (List.mem_cons_self), by omega⟩]; omega
    · rw [M.tof, if_pos ⟨hm o (List.mem_cons_self), by omega⟩]; omega
theorem ren_same {t : Nat → Nat} {v : Nat} (h : v % 2 = 1 ∨ t (v / 2) = v / 2) : M.ren t v = v := by
  unfold M.ren
  rcases h with h | h
  · rw [if_neg (by omega)]
  · by_cases e : v % 2 = 0
    · rw [if_pos e, h]; omega
    · rw [if_neg e]
theorem slid_all {mk : Nat → Bool} {t : Nat → Nat} {L : List RO} (hm : ∀ o ∈ L, mk o.at_ = true) (ht : ∀ o ∈ L, t o.at_ = o.at_) (hf : ∀ o ∈ L, ∀ v ∈ o.fs, v % 2 = 1 ∨ ∃ p ∈ L, p.at_ = v / 2) : M.slid mk t L = L := by
  unfold M.slid
  rw [List.filter_eq_self.2 hm]
  have : ∀ o ∈ L, o.goes t = o := fun o ho => by
    have h1 : o.fs.map (M.ren t) = o.fs := by
      conv => rhs; rw [← List.map_id o.fs]
      refine List.map_congr_left fun v hv => ?_
      refine ren_same ?_
      rcases hf o ho v hv with e | ⟨p, hp, e⟩
      · exact .inl e
      · exact .inr (by rw [← e]; exact ht p hp)
    unfold RO.goes
    rw [h1, ht o ho]
  conv => rhs; rw [← List.map_id L]
  exact List.map_congr_left this
theorem slid_none {s : St} {mk : Nat → Bool} (hm : ∀ b, mk b = false) : ∀ (L : List RO) (t : Nat → Nat) (a : Nat), M.slid mk t L = [] ∧ M.tof s mk L a = 0
  | [], t, a => ⟨rfl, rfl⟩
  | o :: L, t, a => by
    obtain ⟨h1, h2⟩ := slid_none hm L t a
    refine ⟨?_, ?_⟩
    · rw [slid_cons, if_neg (by rw [hm]; simp)]; exact h1
    · rw [M.tof, if_neg (by rw [hm]; simp), h2]
theorem right_root_lit {w : World} {s : St} {L : List RO} (h : Right w s L) (rl : List Nat) (hrl : ∀ v ∈ rl, v < 18446744073709551616) (hl : rl.length ≤ 65536) : RootL (w.alloc (.cells (rl.map fun v : Nat => Value.int .u64 (v : Int)).toArray 33)) s (some ⟨w.heap.size, 0, none⟩) rl := by
  refine ⟨fun h0 => ⟨w.heap.size, 0, rfl, by simp, ?_, fun i hi => ?_⟩, fun i => getD_lt64 hrl i, hl⟩
  · rintro (e | e)
    · have := h.hp.blk.lt; omega
    · have := h.hp.words.lt; omega
  · have hb := Blk.new w 33 (rl.map fun v : Nat => Value.int .u64 (v : Int)).toArray
    have hc := hb.cell i
    rw [Nat.zero_add, hc, List.getElem?_toArray, List.getElem?_map, List.getElem?_eq_getElem hi, List.getD_eq_getElem?_getD, List.getElem?_eq_getElem hi]; rfl
theorem ReadL.of_root {w : World} {s : St} {a : Option Addr} {rl : List Nat} (h : RootL w s a rl) : ReadL w a rl :=
  ⟨fun h0 => by
    obtain ⟨b, off, e, hb, _, hc⟩ := h.at_ h0
    exact ⟨b, off, e, hb, hc⟩⟩
theorem root_of_que {w : World} {B : Nat} {s : St} {a : Option Addr} {n c : Nat} {rl : List Nat} (h : Que w B 33 a n c (M.u64l rl)) (h1 : s.g < B) (h2 : s.gw < B) (hlt : ∀ v ∈ rl, v < 18446744073709551616) (hn : rl.length ≤ 65536) : RootL w s a rl := by
  obtain ⟨hr, hb⟩ := ReadL.of_que h
  refine ⟨fun h0 => ?_, getD_lt64 hlt, hn⟩
  obtain ⟨b, off, e, hl, hc⟩ := hr.at_ h0
  exact ⟨b, off, e, hl, by have := hb b off e; omega, hc⟩
theorem imm_m1 (w : World) : Calls Try.prog 38 #[.int .i64 (-1)] w fun e w' => e = .returned (.int .u64 18446744073709551615) ∧ w' = w := imm_any (-1) w
theorem ptr_lit (k : Nat) (hk : k ≤ 65536) (w : World) : Calls Try.prog 37 #[.int .i64 k] w fun e w' => e = .returned (.int .u64 (2 * k : Nat)) ∧ w' = w := by
  have := ptr_any (k : Int) w
  rwa [show M.ptr (k : Int) = ((2 * k : Nat) : Int) by unfold M.ptr; omega] at this
theorem Right.at_le {w : World} {s : St} {L : List RO} (h : Right w s L) {o : RO} (ho : o ∈ L) : o.at_ < s.top ∧ o.at_ ≤ 65536 := by
  have h1 := h.laid.tile.in.2 o ho
  have h2 := (h.sim.good o ho).sz.2.2
  have h3 := h.hp.top_le
  have h4 := h.hp.n_le
  omega
set_option maxRecDepth 100000 in
set_option maxHeartbeats 4000000 in
theorem gcAll_w {w : World} {a0 : Option Addr} {n0 c0 : Nat} {K N : Nat → Int} {a1 : Option Addr} {n1 c1 : Nat} {F : Nat → OpR} {a2 : Option Addr} {n2 c2 : Nat} {G : Nat → Nat} {near : Nat → Bool} (h : IsCase w a0 n0 c0 K N a1 n1 c1 F a2 n2 c2 G near) :
    Calls Try.prog 9 #[.agg #[.slice a0 n0 c0, .slice a1 n1 c1, .slice a2 n2 c2]] w fun e w' => e = .returned (.bool true) ∧ Below w.heap.size w w' := by
  have S1 : Still w (w.alloc (.cells #[.slice a0 n0 c0, .slice a1 n1 c1, .slice a2 n2 c2] 48)) := (Still.refl w).alloc _
  have HM := Lib.hid (made3_any h _ S1)
  have HS1 := Lib.hid S1
  clear h S1
  go_enter Try.func9, Try.ntmps9
  go_wp2_with fail
  refine HM.out.mono ?_; rintro e w1 (⟨rfl, t1⟩ | ⟨wa, s, x, a, n, c, rl, rfl, hc, _⟩)
  · have HT := Lib.hid (HS1.out.trans t1)
    clear t1 HM
    go_wp2_with fail
    refine (lives3_any _).mono ?_; rintro e w2 ⟨rfl, b2⟩
    go_wp2_with fail
    go_ret
    exact ⟨rfl, (Still.below HT.out).trans (b2.mono HT.out.size)⟩
  have HB := Lib.hid hc.both
  have HBL := Lib.hid (show Below w.heap.size w w1 from (Still.below (HS1.out.trans hc.still)).trans (hc.both.below.mono (HS1.out.trans hc.still).size))
  have HBG : Hid (∀ k, k = s.g ∨ k = s.gw → w.heap.size ≤ k) := fun k hk => by
    have h1 := hc.both.bg
    have h2 := hc.both.bgw
    have h3 := (HS1.out.trans hc.still).size
    rcases hk with e | e <;> omega
  have HFEW := Lib.hid hc.few
  have hsn := hc.sn
  have HOBJ := Lib.hid (right_objects hc.both.right)
  obtain ⟨NN, hNN⟩ : ∃ NN, x.L.length = NN := ⟨_, rfl⟩
  rw [hNN] at HOBJ HFEW
  have HNN := Lib.hid hNN
  have hN2 := HFEW.out
  clear hc HM hNN
  go_wp2_with fail
  refine HOBJ.out.mono ?_; rintro e w2 ⟨⟨oa, oc, rfl, hown⟩, t2⟩
  have HT2 := Lib.hid t2
  have HOW := Lib.hid hown
  have HLT2 := Lib.hid (And.intro (HB.out.still t2).hp.blk.lt (HB.out.still t2).hp.words.lt)
  clear t2 hown HOBJ
  go_wp2_with fail
  go_loopw [6, 25] (fun t v wr => ∃ (j : Nat) (a : Option Addr) (n c : Nat), v = .int .i64 j ∧ t = .slice a n c ∧ n = j ∧ j ≤ NN ∧ wr.ownsRow w2.heap.size 33 1 (.slice a n c) n (M.u64l ((x.L.take j).map fun o => 2 * o.at_)) ∧ Still w2 wr) (fun _ v _ => NN - (intOf v).toNat)
  case atStart => exact ⟨0, none, 0, 0, rfl, rfl, rfl, by omega, World.ownsRow_nil _ _ _ _, Still.refl _⟩
  case round =>
    obtain ⟨j, sa, sn, sc, rfl, rfl, rfl, hj, hsh, ht⟩ := hrel
    have HSH := Lib.hid hsh
    have HT := Lib.hid ht
    by_cases hlt : sn < NN
    · obtain ⟨b, rfl, hb, hle, hmx, hcell⟩ := ints_at (own_keep HOW.out ht (fun _ _ e => e)) (by rw [List.length_map]; exact HNN.out) hlt
      obtain ⟨o, ho⟩ : ∃ o, x.L[sn]? = some o := ⟨_, List.getElem?_eq_getElem (by rw [HNN.out]; exact hlt)⟩
      have hat : (x.L.map RO.at_).getD sn 0 = o.at_ := by rw [List.getD_eq_getElem?_getD, List.getElem?_map, ho]; rfl
      rw [hat] at hcell
      have HPT := Lib.hid (ptr_lit o.at_ (HB.out.right.at_le (List.mem_of_getElem? ho)).2)
      have HO := Lib.hid ho
      unfold maxLen at hmx
      clear hsh ht ho hat
      go_wp2_with fail
      refine (HPT.out _).mono ?_; rintro e w4 ⟨rfl, rfl⟩
      obtain ⟨v, hv⟩ : ∃ v, 2 * o.at_ = v := ⟨_, rfl⟩
      rw [hv]
      have HV := Lib.hid hv
      clear hv
      go_wp2_with (first
        | (at_builtin; refine wpList_append_form rfl (.tmp 29) (.tmp 32) 24 rfl w2.heap.size 33 1 8 (.int .u64 0) Try.underlying24 infoWord rfl (by decide) sa sn sc _ rfl (own_keep HSH.out ((Still.refl w4).alloc (.cells #[.int .u64 v] 33)) (fun _ _ e => e)) ⟨w4.heap.size, 0, none⟩ 1 1 [.int .u64 v] rfl rfl (cell_one_new _ _ _) (by simp [Value.oneCell']) (by decide) (by unfold maxLen; omega) (by omega) (by have := HT.out.size; simp; omega) ?_
           intro g9 c9 w9 hown9 ht9 hnew9))
      go_roundw
      case rel => exact ⟨sn + 1, some ⟨g9, 0, none⟩, sn + 1, c9, by go_num, rfl, rfl, by omega, by rw [map_take_succ (fun o => 2 * o.at_) _ _ _ HO.out, HV.out]; simpa [M.u64l] using hown9.out, (HT.out.alloc _).own_turn ht9.out (own_keep HSH.out ((Still.refl w4).alloc _) (fun _ _ e => e))⟩
      case measure => simp [intOf]; omega
    · obtain rfl : sn = NN := by omega
      have htk : x.L.take sn = x.L := List.take_of_length_le (by rw [HNN.out]; exact Nat.le_refl _)
      rw [htk] at hsh
      obtain ⟨rl2, hrl2⟩ : ∃ rl2, x.L.map (fun o => 2 * o.at_) = rl2 := ⟨_, rfl⟩
      rw [hrl2] at hsh
      have hrn : rl2.length = sn := by rw [← hrl2, List.length_map, HNN.out]
      have hin : ∀ v ∈ rl2, ∃ o ∈ x.L, v = 2 * o.at_ := fun v hv => by
        rw [← hrl2] at hv
        obtain ⟨o, ho, e⟩ := List.mem_map.1 hv
        exact ⟨o, ho, e.symm⟩
      have hB3 := (HB.out.still HT2.out).still ht
      have hR3 := hB3.right
      have hlt2 : ∀ v ∈ rl2, v < 18446744073709551616 := fun v hv => by
        obtain ⟨o, ho, rfl⟩ := hin v hv
        have := (hR3.at_le ho).2
        omega
      have hq := Que.of_own hsh
      have hnc := hq.2.1
      have hcm := hq.2.2.1
      have hrt := root_of_que (s := s) hq HLT2.out.1 HLT2.out.2 hlt2 (by rw [hrn]; omega)
      have hfit : ∀ v ∈ rl2, s.fits (v : Nat) = true := fun v hv => by
        obtain ⟨o, ho, rfl⟩ := hin v hv
        exact hR3.fits_at ho (by omega)
      have HCO := Lib.hid (collect_l hR3 sa sn sc rl2 hrn hrt hnc hcm)
      have HB3 := Lib.hid hB3
      have HRT := Lib.hid hrt
      have HFIT := Lib.hid hfit
      have HIN := Lib.hid hin
      have HLT3 := Lib.hid hlt2
      have HRN := Lib.hid hrn
      have HNC := Lib.hid (And.intro hnc hcm)
      have HRL2 := Lib.hid hrl2
      have HB3L := Lib.hid (HBL.out.trans ((Still.below (HT2.out.trans ht)).mono HBL.out.size))
      clear hsh ht hrn hin hB3 hR3 hlt2 hq hnc hcm hrt hfit hrl2 htk
      go_wp2_with fail
      refine HCO.out.mono ?_; rintro e w5 (⟨rfl, hu⟩ | ⟨mk, gr, s5, rfl, hsw⟩)
      · exfalso
        obtain ⟨v, hv, hf⟩ := hu.unfit
        rw [HFIT.out v hv] at hf; simp at hf
      have hall : ∀ o ∈ x.L, mk o.at_ = true := fun o ho => (hsw.mk_iff _).2 (by
        have := M.Rch.root (L := x.L) (rl := rl2) (v := 2 * o.at_) (by rw [← HRL2.out]; exact List.mem_map_of_mem (f := fun o => 2 * o.at_) ho) (by omega)
        rwa [show 2 * o.at_ / 2 = o.at_ by omega] at this)
      have hz : ∀ o ∈ x.L, 1 ≤ s.sz o := fun o ho => (HB3.out.sim.good o ho).sz.2.2
      obtain ⟨k1, k2⟩ := tof_all HB3.out.right.laid.tile hall hz
      have k1' : ∀ o ∈ x.L, M.tof s mk x.L o.at_ = o.at_ := fun o ho => by have := k1 o ho; omega
      have hsl := slid_all hall k1' HB3.out.right.laid.fit
      have hr5 := hsw.right
      rw [hsl] at hr5
      have HR5 := Lib.hid hr5
      have ht5 : s5.top = s.top := by rw [hsw.top]; omega
      have hpt : s5.ptr = s.ptr := by show Value.pointer (some ⟨s5.g, 0, none⟩) = _; rw [hsw.is.1]
      have HPT := Lib.hid hpt
      have HIS := Lib.hid hsw.is
      have HB5 : Hid (Below w.heap.size w w5) := hsw.turn.own HB3L.out (Nat.le_refl _) HBG.out
      have HAG : Hid (Agree wa.heap.size w5 s5 x) := ⟨hr5.hp, HB3.out.rf_gw hsw.turn, HB3.out.n.trans hsw.is.2.2.2.1.symm, HB3.out.len.trans hsw.is.2.2.2.2.1.symm, HB3.out.K.trans hsw.is.2.2.2.2.2.1.symm, HB3.out.N.trans hsw.is.2.2.2.2.2.2.symm, hr5.sim⟩
      have HRD := Lib.hid (ReadL.of_root (HRT.out.turn hsw.turn))
      have HRG : Hid (ReadL w5 (some ⟨gr, 0, none⟩) rl2) := ReadL.of_row (hsw.row.congr fun i hi => by
        obtain ⟨o, ho, e⟩ := HIN.out _ (getD_mem hi)
        rw [ren_same (.inr (by rw [e, show 2 * o.at_ / 2 = o.at_ by omega]; exact k1' o ho))])
      have HAL := Lib.hid (alike_same (some ⟨gr, 0, none⟩) sa sn sn sc rl2 w5 HRG.out HRD.out HRN.out (Nat.le_refl _) HNC.out.1 (by omega) HLT3.out)
      clear hsw HCO hall hz k1 k1' k2 hsl hr5 ht5 hpt
      go_wp2_with fail
      refine HAL.out.mono ?_; rintro e w6 ⟨rfl, t6⟩
      have HSM := same_any s5 x w6 (HAG.out.still t6)
      rw [HPT.out] at HSM
      have HSMM := Lib.hid HSM
      have HT6 := Lib.hid t6
      clear t6 HSM HAL
      go_wp2_with fail
      refine HSMM.out.mono ?_; rintro e w7 ⟨rfl, t7⟩
      have HR7 := Lib.hid (HR5.out.still (HT6.out.trans t7))
      have HB7 := Lib.hid (HB5.out.trans ((Still.below (HT6.out.trans t7)).mono HB5.out.size))
      clear t7 HSMM
      go_wp2_with fail
      refine (imm_m1 _).mono ?_; rintro e w8 ⟨rfl, rfl⟩
      have hrl := right_root_lit HR7.out [18446744073709551615] (by simp) (by decide)
      have HC2 := collect_l (HR7.out.still ((Still.refl w8).alloc (.cells (([18446744073709551615] : List Nat).map fun v : Nat => Value.int .u64 (v : Int)).toArray 33))) (some ⟨w8.heap.size, 0, none⟩) 1 1 [18446744073709551615] rfl hrl (by decide) (by decide)
      rw [HPT.out] at HC2
      have HCC := Lib.hid HC2
      change Hid (Calls _ _ _ (w8.alloc (.cells #[.int .u64 18446744073709551615] 33)) _) at HCC
      have HB8 : Hid (Below w.heap.size w (w8.alloc (.cells #[.int .u64 18446744073709551615] 33))) := HB7.out.trans ((Still.below ((Still.refl w8).alloc _)).mono HB7.out.size)
      clear hrl HC2
      go_wp2_with fail
      refine HCC.out.mono ?_; rintro e w9 (⟨rfl, hu⟩ | ⟨mk2, g2, s9, rfl, hsw⟩)
      · exfalso
        obtain ⟨v, hv, hf⟩ := hu.unfit
        simp at hv; subst hv
        rw [fits_odd s5 (by decide)] at hf; simp at hf
      have hnone : ∀ b, mk2 b = false := fun b => by
        cases hb : mk2 b with
        | false => rfl
        | true =>
          exfalso
          have := (hsw.mk_iff b).1 hb
          clear hb
          induction this with
          | @root v hv he => simp at hv; subst hv; simp at he
          | field _ _ _ _ ih => exact ih
      obtain ⟨z1, _⟩ := slid_none (s := s5) hnone x.L (M.tof s5 mk2 x.L) 0
      have z2 := (slid_none (s := s5) hnone x.L (M.tof s5 mk2 x.L) s5.top).2
      have hr9 := hsw.right
      rw [z1] at hr9
      have ht9 : s9.top = 0 := by rw [hsw.top]; exact z2
      have hp9 : s9.ptr = s.ptr := by show Value.pointer (some ⟨s9.g, 0, none⟩) = _; rw [hsw.is.1, HIS.out.1]
      have c0 : w9.drew.cell? ⟨g2, 0, none⟩ = some (.int .u64 18446744073709551615) := hsw.row.cell (i := 0) (by decide)
      have hgl : g2 < w9.drew.heap.size := hsw.row.lt
      have hb9 : Below w.heap.size w w9 := hsw.turn.own HB8.out (Nat.le_refl _) (by
        rintro k (e | e)
        · exact HBG.out k (.inl (by rw [e, HIS.out.1]))
        · exact HBG.out k (.inr (by rw [e, HIS.out.2.1])))
      have HB9 := Lib.hid (hb9.trans ((Still.below (Turn.drew (Still.refl w9) : Still w9 w9.drew)).mono hb9.size))
      clear hb9
      have hrd : Right w9.drew s9 [] := hr9.still (Turn.drew (Still.refl w9) : Still w9 w9.drew)
      have hTP := top_any s9 w9.drew hrd.hp
      rw [hp9, ht9] at hTP
      have HTP := Lib.hid hTP
      have hOB := right_objects hrd
      rw [hp9] at hOB
      have HOB := Lib.hid hOB
      have hn9 : s9.n = 1500 := by rw [hsw.is.2.2.2.1, HIS.out.2.2.2.1]; exact hsn
      have hLD : ∀ W, Still w9.drew W → Calls Try.prog 21 #[s.ptr, .int .i64 0] W fun e w' => e = .returned (.int .u64 0) ∧ w' = W := fun W hW => by
        have := load_in s9 0 W (hrd.still hW).hp (by rw [hn9]; decide)
        rw [hp9, hrd.sim.zero 0 (by rw [ht9]; exact Nat.le_refl _)] at this
        exact this
      have HLD := Lib.hid hLD
      clear hsw HCC hnone z1 z2 hr9 ht9 hp9 hrd hTP hOB hLD hn9
      go_wp2_with fail
      refine wp_region_still_tail 21 (by kernel_rfl) (by kernel_rfl) ?_
      simp only [List.take_succ_cons, List.take_zero, List.drop_succ_cons, List.drop_zero]
      change wpStill _ _ w9.drew (fun a' => wpList _ _ _ _ a' w9.drew) _ _
      repeat still_step
      still_call (imm_m1 w9.drew)
      repeat still_step
      still_call HTP.out
      repeat still_step
      refine wpStill_nil ?_
      go_wp2_with fail
      refine HOB.out.mono ?_; rintro e w10 ⟨⟨oa2, oc2, rfl, _⟩, t10⟩
      have HT10 := Lib.hid t10
      have HLD2 := Lib.hid (HLD.out w10 t10)
      clear t10 HOB HTP c0 hgl
      go_wp2_with fail
      refine HLD2.out.mono ?_; rintro e w11 ⟨rfl, rfl⟩
      go_wp2_with fail
      refine (lives3_any _).mono ?_; rintro e w12 ⟨rfl, b12⟩
      go_wp2_with fail
      go_ret
      exact ⟨rfl, (HB9.out.trans ((Still.below HT10.out).mono HB9.out.size)).trans (b12.mono (Nat.le_trans HB9.out.size HT10.out.size))⟩
end Go.Proofs.Ytmbdacfdefoknaa
