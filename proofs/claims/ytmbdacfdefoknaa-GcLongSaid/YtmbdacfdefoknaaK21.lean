/- Lemmas, put together: OrderW. -/
import Derived.Test.YtmbdacfdefoknaaK20
import Derived.Test.YtmbdacfdefoknaaK18
/- Objects keep their order, and none moves up. -/
namespace Go.Proofs.Ytmbdacfdefoknaa
set_option linter.unusedVariables false
open Go.ChangeShapes Go.WideShapes Go.ChangeAt Go.RowKit
open M (W)

theorem right_shape {w : World} {s : St} {L : List RO} (h : Right w s L) {o : RO} (ho : o ∈ L) : Calls Try.prog 35 #[s.ptr, .int .i64 o.at_] w fun e w' => e = .returned (.tuple #[.int .i64 o.sh, .int .i64 0]) ∧ Still w w' :=
  shape_ok s o.at_ _ w h.hp (h.sim.obAt h.hp ho)
theorem right_objects {w : World} {s : St} {L : List RO} (h : Right w s L) : Calls Try.prog 36 #[s.ptr] w fun e w' => (∃ a c, e = .returned (.slice a L.length c) ∧ w'.ownsRow w.heap.size 3 1 (.slice a L.length c) L.length (M.ints (L.map RO.at_))) ∧ Still w w' := by
  refine (objects_any s w h.hp (by have := h.hp.top_le; have := h.hp.n_le; omega)).mono ?_
  rintro e w' ⟨⟨a, c, rfl, ho⟩, t⟩
  have hpl := h.sim.places
  unfold St.owns at ho
  rw [hpl, List.length_map] at ho
  rw [hpl, List.length_map]
  exact ⟨⟨a, c, rfl, ho⟩, t⟩
/-- A row of ints of the call's own stays, whatever a collection turns. -/
theorem Right.own_keep {w w' : World} {s : St} {L : List RO} (h : Right w s L) (t : Turn (fun b => b = s.g ∨ b = s.gw) w w') {B : Nat} {v : Value} {n : Nat} {xs : List Value} (ho : w.ownsRow B 3 1 v n xs) : w'.ownsRow B 3 1 v n xs :=
  Go.Proofs.Ytmbdacfdefoknaa.own_keep ho t fun k hk e => e.elim (fun e => own_type ho h.hp.blk (by decide) (by rw [hk, e])) (fun e => own_type ho h.hp.words (by decide) (by rw [hk, e]))
/-- Cells of a row of ints. -/
theorem ints_at {w : World} {B n c : Nat} {a : Option Addr} {l : List Nat} (h : w.ownsRow B 3 1 (.slice a n c) n (M.ints l)) (hn : l.length = n) {j : Nat} (hj : j < n) : ∃ b, a = some ⟨b, 0, none⟩ ∧ b < w.heap.size ∧ n ≤ c ∧ c ≤ maxLen ∧ w.cell? ⟨b, j, none⟩ = some (.int .i64 (l.getD j 0 : Nat)) := by
  obtain ⟨g, hra, hg, h1, h2, h3, _⟩ := own_form h (by omega)
  refine ⟨g, hra, hg, h1, h2, h3 j _ ?_⟩
  unfold M.ints
  rw [List.getElem?_map, List.getElem?_eq_getElem (by omega), List.getD_eq_getElem?_getD, List.getElem?_eq_getElem (by omega)]; rfl
theorem tof_below {w : World} {s : St} {L : List RO} {mk : Nat → Bool} (h : Right w s L) {o : RO} (ho : o ∈ L) : M.tof s mk L o.at_ ≤ o.at_ := by
  have htile := h.laid.tile
  have hz : ∀ q ∈ L, 1 ≤ s.sz q := fun q hq => (h.sim.good q hq).sz.2.2
  have hfar := htile.far hz
  have := tof_le (mk := mk) (a := o.at_) htile (fun q hq hlt => by
    rcases hfar q hq o ho with x | x | x
    · rw [x] at hlt; omega
    · exact x
    · have := hz o ho; omega) (Nat.zero_le _)
  omega
theorem Right.as_again {w w' : World} {s : St} {L : List RO} (h : Right w' (s.as L) L) : Right w' (s.as L) L := h
/-- A row of which a number more than that is laid. -/
theorem map_take_succ {α : Type} (f : α → Nat) (l : List α) (j : Nat) (o : α) (h : l[j]? = some o) : (l.take (j + 1)).map f = (l.take j).map f ++ [f o] := by
  rw [List.take_add_one, h]; simp
theorem slid_at {s : St} {L : List RO} {mk : Nat → Bool} {j : Nat} {o : RO} (h : (L.filter fun o => mk o.at_)[j]? = some o) : (M.slid mk (M.tof s mk L) L)[j]? = some (o.goes (M.tof s mk L)) := by
  unfold M.slid
  rw [List.getElem?_map, h]; rfl
set_option maxRecDepth 100000 in
set_option maxHeartbeats 4000000 in
theorem gcOrder_w {w : World} {a0 : Option Addr} {n0 c0 : Nat} {K N : Nat → Int} {a1 : Option Addr} {n1 c1 : Nat} {F : Nat → OpR} {a2 : Option Addr} {n2 c2 : Nat} {G : Nat → Nat} {near : Nat → Bool} (h : IsCase w a0 n0 c0 K N a1 n1 c1 F a2 n2 c2 G near) :
    Calls Try.prog 8 #[.agg #[.slice a0 n0 c0, .slice a1 n1 c1, .slice a2 n2 c2]] w fun e w' => e = .returned (.bool true) ∧ Below w.heap.size w w' := by
  have S1 : Still w (w.alloc (.cells #[.slice a0 n0 c0, .slice a1 n1 c1, .slice a2 n2 c2] 48)) := (Still.refl w).alloc _
  have HM := Lib.hid (made3_any h _ S1)
  have HS1 := Lib.hid S1
  clear h S1
  go_enter Try.func8, Try.ntmps8
  go_wp2_with fail
  refine HM.out.mono ?_; rintro e w1 (⟨rfl, t1⟩ | ⟨wa, s, x, a, n, c, rl, rfl, hc, _⟩)
  · have HT := Lib.hid (HS1.out.trans t1)
    clear t1 HM
    go_wp2_with fail
    refine (lives3_any _).mono ?_; rintro e w2 ⟨rfl, b2⟩
    go_wp2_with fail
    go_ret
    exact ⟨rfl, (Still.below HT.out).trans (b2.mono HT.out.size)⟩
  have hq := hc.que
  obtain ⟨B, hq, hB1, hB2, hB3⟩ := hq
  have hnc := hq.2.1
  have hcm := hq.2.2.1
  have HF := Lib.hid (fit_any x a n c rl w1 hc.both.rf (ReadL.of_que hq).1 hc.len hnc hcm hc.lt)
  have HC := Lib.hid hc
  have HBL := Lib.hid (show Below w.heap.size w w1 from (Still.below (HS1.out.trans hc.still)).trans (hc.both.below.mono (HS1.out.trans hc.still).size))
  have HNC := Lib.hid (And.intro hnc hcm)
  have HBG : Hid (∀ k, k = s.g ∨ k = s.gw → w.heap.size ≤ k) := fun k hk => by
    have h1 := hc.both.bg
    have h2 := hc.both.bgw
    have h3 := (HS1.out.trans hc.still).size
    rcases hk with e | e <;> omega
  clear hc hq hB1 hB2 hB3 hnc hcm HM
  go_wp2_with fail
  refine HF.out.mono ?_; rintro e w2 ⟨t2, ⟨rfl, hfit⟩ | ⟨rfl, hno⟩⟩
  case inr =>
    have HT := Lib.hid t2
    clear t2 hno HF
    go_wp2_with fail
    refine (lives3_any _).mono ?_; rintro e w3 ⟨rfl, b3⟩
    go_wp2_with fail
    go_ret
    exact ⟨rfl, (HBL.out.trans ((Still.below HT.out).mono HBL.out.size)).trans (b3.mono (Nat.le_trans HBL.out.size HT.out.size))⟩
  have HR2 := Lib.hid (HC.out.both.right.still t2)
  have HRT2 := Lib.hid (HC.out.root.turn (Still.turn t2))
  have HFIT : Hid (∀ v ∈ rl, s.fits (v : Nat) = true) := fun v hv => by rw [← HC.out.both.fits]; exact hfit v hv
  have HB2 := Lib.hid (HBL.out.trans ((Still.below t2).mono HBL.out.size))
  have HMK := Lib.hid (marks_l HR2.out a n c rl HC.out.len HRT2.out HNC.out.1 HNC.out.2 (by have := HC.out.few; omega))
  clear t2 hfit HF
  go_wp2_with fail
  refine HMK.out.mono ?_; rintro e w3 (⟨rfl, hu⟩ | ⟨mk, Bm, ma, mc, rfl, hBm, hown, hft⟩)
  · exfalso
    obtain ⟨v, hv, hf⟩ := hu.unfit
    rw [HFIT.out v hv] at hf; simp at hf
  obtain ⟨FL, hFL⟩ : ∃ FL, x.L.filter (fun o => mk o.at_) = FL := ⟨_, rfl⟩
  have hml : M.mkl mk x.L = FL.map RO.at_ := by unfold M.mkl; rw [hFL]
  rw [hml] at hown ⊢
  rw [List.length_map] at hown ⊢
  obtain ⟨N, hN⟩ : ∃ N, FL.length = N := ⟨_, rfl⟩
  rw [hN] at hown ⊢
  have hN2 : N ≤ 200 := by
    have h1 := mkl_len mk x.L
    rw [hml, List.length_map] at h1
    have := HC.out.few
    omega
  have hin : ∀ o ∈ FL, o ∈ x.L := fun o ho => by rw [← hFL] at ho; exact (List.mem_filter.1 ho).1
  have hR3 : Right w3 (s.as x.L) x.L := hft.right
  have HR3 := Lib.hid hR3
  have HRT3 := Lib.hid (HRT2.out.turn hft.turn)
  have HB3 : Hid (Below w.heap.size w w3) := hft.turn.own HB2.out (Nat.le_refl _) HBG.out
  have HMI := Lib.hid hft.mk_iff
  have HIN := Lib.hid hin
  have HFL := Lib.hid hFL
  have HN := Lib.hid hN
  have HOW := Lib.hid hown
  clear hft hown hin hFL hN hml HMK hR3 hBm
  go_wp2_with fail
  go_loopw [8, 42] (fun t v wr => ∃ (j : Nat) (a : Option Addr) (n c : Nat), v = .int .i64 j ∧ t = .slice a n c ∧ n = j ∧ j ≤ N ∧ wr.ownsRow w3.heap.size 3 1 (.slice a n c) n (M.ints ((FL.take j).map RO.sh)) ∧ Still w3 wr) (fun _ v _ => N - (intOf v).toNat)
  case atStart => exact ⟨0, none, 0, 0, rfl, rfl, rfl, by omega, World.ownsRow_nil _ _ _ _, Still.refl _⟩
  case round =>
    obtain ⟨j, sa, sn, sc, rfl, rfl, rfl, hj, hsh, ht⟩ := hrel
    have HSH := Lib.hid hsh
    have HT := Lib.hid ht
    by_cases hlt : sn < N
    · obtain ⟨b, rfl, hb, hle, hmx, hcell⟩ := ints_at (own_keep HOW.out ht (fun _ _ e => e)) (by rw [List.length_map]; exact HN.out) hlt
      obtain ⟨o, ho⟩ : ∃ o, FL[sn]? = some o := ⟨_, List.getElem?_eq_getElem (by rw [HN.out]; exact hlt)⟩
      have hat : (FL.map RO.at_).getD sn 0 = o.at_ := by rw [List.getD_eq_getElem?_getD, List.getElem?_map, ho]; rfl
      rw [hat] at hcell
      have HSP := Lib.hid (right_shape (HR3.out.still ht) (HIN.out o (List.mem_of_getElem? ho)))
      change Hid (Calls _ _ #[s.ptr, _] _ _) at HSP
      have HO := Lib.hid ho
      unfold maxLen at hmx
      clear hsh ht ho hat
      go_wp2_with fail
      refine HSP.out.mono ?_; rintro e w4 ⟨rfl, t4⟩
      have HT4 := Lib.hid (HT.out.trans t4)
      have HSH4 := Lib.hid (own_keep HSH.out t4 (fun _ _ e => e))
      clear t4
      go_wp2_with (first
        | (at_builtin; refine wpList_append_form rfl (.tmp 52) (.tmp 54) 58 rfl w3.heap.size 3 1 8 (.int .i64 0) Try.underlying58 infoI rfl (by decide) sa sn sc _ rfl (own_keep HSH4.out ((Still.refl w4).alloc (.cells #[.int .i64 o.sh] 3)) (fun _ _ e => e)) ⟨w4.heap.size, 0, none⟩ 1 1 [.int .i64 o.sh] rfl rfl (cell_one_new _ _ _) (by simp [Value.oneCell']) (by decide) (by unfold maxLen; omega) (by omega) (by have := HT4.out.size; simp; omega) ?_
           intro g9 c9 w9 hown9 ht9 hnew9))
      go_roundw
      case rel => exact ⟨sn + 1, some ⟨g9, 0, none⟩, sn + 1, c9, by go_num, rfl, rfl, by omega, by rw [map_take_succ _ _ _ _ HO.out]; simpa [M.ints] using hown9.out, (HT4.out.alloc _).own_turn ht9.out (own_keep HSH4.out ((Still.refl w4).alloc _) (fun _ _ e => e))⟩
      case measure => simp [intOf]; omega
    · obtain rfl : sn = N := by omega
      have HR4 := Lib.hid (HR3.out.still ht)
      have HRT4 := Lib.hid (HRT3.out.turn (Still.turn ht))
      have HFIT4 : Hid (∀ v ∈ rl, (s.as x.L).fits (v : Nat) = true) := fun v hv => by rw [fits_same HR2.out.sim HR3.out.sim]; exact HFIT.out v hv
      have HCO := Lib.hid (collect_l HR4.out a n c rl HC.out.len HRT4.out HNC.out.1 HNC.out.2)
      change Hid (Calls _ _ #[s.ptr, _] _ _) at HCO
      clear hsh ht
      go_wp2_with fail
      refine HCO.out.mono ?_; rintro e w5 (⟨rfl, hu⟩ | ⟨mk2, gr, s5, rfl, hsw⟩)
      · exfalso
        obtain ⟨v, hv, hf⟩ := hu.unfit
        rw [HFIT4.out v hv] at hf; simp at hf
      obtain rfl : mk2 = mk := mk_same hsw.mk_iff HMI.out
      have HR5 := Lib.hid hsw.right
      have HP5 : Hid (s5.ptr = s.ptr) := by show Value.pointer (some ⟨s5.g, 0, none⟩) = _; rw [hsw.is.1]; rfl
      have HB5 : Hid (Below w.heap.size w w5) := hsw.turn.own (HB3.out.trans ((Still.below HT.out).mono HB3.out.size)) (Nat.le_refl _) HBG.out
      have HOW5 := Lib.hid (HR4.out.own_keep hsw.turn (own_keep HOW.out HT.out (fun _ _ e => e)))
      have HSH5 := Lib.hid (HR4.out.own_keep hsw.turn HSH.out)
      have hlen : (M.slid mk2 (M.tof (s.as x.L) mk2 x.L) x.L).length = sn := by unfold M.slid; rw [HFL.out, List.length_map, HN.out]
      have HOB := Lib.hid (right_objects HR5.out)
      rw [HP5.out, hlen] at HOB
      have HLEN := Lib.hid hlen
      clear hsw HCO hlen
      go_wp2_with fail
      refine HOB.out.mono ?_; rintro e w6 ⟨⟨oa, oc, rfl, hob⟩, t6⟩
      have HOB6 := Lib.hid hob
      have HT6 := Lib.hid t6
      have hnn : ((sn : Int) != sn) = false := by simp
      clear hob t6 HOB
      go_wp2_with fail
      go_loopw [80] (fun v wr => ∃ j : Nat, v = .int .i64 j ∧ j ≤ sn ∧ Still w6 wr) (fun v _ => sn - (intOf v).toNat)
      case atStart => exact ⟨0, rfl, by omega, Still.refl _⟩
      case round =>
        obtain ⟨j, rfl, hj2, ht7⟩ := hrel
        have HT7 := Lib.hid (HT6.out.trans ht7)
        have HT67 := Lib.hid ht7
        by_cases hjl : j < sn
        · obtain ⟨o, ho⟩ : ∃ o, FL[j]? = some o := ⟨_, List.getElem?_eq_getElem (by rw [HN.out]; exact hjl)⟩
          have hso := slid_at (s := s.as x.L) (mk := mk2) (by rw [HFL.out]; exact ho)
          obtain ⟨b, rfl, hb, hle, hmx, hcell⟩ := ints_at (own_keep HOB6.out ht7 (fun _ _ e => e)) (by rw [List.length_map]; exact HLEN.out) hjl
          obtain ⟨b', rfl, hb', hle', hmx', hcell'⟩ := ints_at (own_keep HOW5.out HT7.out (fun _ _ e => e)) (by rw [List.length_map]; exact HN.out) hjl
          obtain ⟨b'', rfl, hb'', hle'', hmx'', hcell''⟩ := ints_at (own_keep HSH5.out HT7.out (fun _ _ e => e)) (by rw [List.length_map, List.length_take, HN.out]; omega) hjl
          have e1 : ((M.slid mk2 (M.tof (s.as x.L) mk2 x.L) x.L).map RO.at_).getD j 0 = M.tof (s.as x.L) mk2 x.L o.at_ := by rw [List.getD_eq_getElem?_getD, List.getElem?_map, hso]; rfl
          have e2 : (FL.map RO.at_).getD j 0 = o.at_ := by rw [List.getD_eq_getElem?_getD, List.getElem?_map, ho]; rfl
          have e3 : ((FL.take sn).map RO.sh).getD j 0 = o.sh := by rw [List.take_of_length_le (by rw [HN.out]; exact Nat.le_refl _), List.getD_eq_getElem?_getD, List.getElem?_map, ho]; rfl
          rw [e1] at hcell
          rw [e2] at hcell'
          rw [e3] at hcell''
          have hle4 := tof_below (mk := mk2) HR3.out (HIN.out o (List.mem_of_getElem? ho))
          have HSP := right_shape (HR5.out.still HT7.out) (List.mem_of_getElem? hso)
          rw [HP5.out] at HSP
          change Calls _ _ #[_, .int .i64 (M.tof (s.as x.L) mk2 x.L o.at_ : Nat)] _ (fun e w' => e = .returned (.tuple #[.int .i64 o.sh, .int .i64 0]) ∧ _) at HSP
          obtain ⟨t, ht⟩ : ∃ t, M.tof (s.as x.L) mk2 x.L o.at_ = t := ⟨_, rfl⟩
          rw [ht] at hcell HSP hle4
          have HSPP := Lib.hid HSP
          have x1 : ((o.sh : Int) != o.sh) = false := by simp
          have x2 : decide ((o.at_ : Int) < (t : Int)) = false := decide_eq_false (by omega)
          unfold maxLen at hmx hmx' hmx''
          clear e1 e2 e3 hso ho ht ht7 HSP
          go_wp2_with fail
          refine HSPP.out.mono ?_; rintro e w8 ⟨rfl, t8⟩
          have HT8 := Lib.hid (HT67.out.trans t8)
          have d1 : w8.cell? ⟨b, j, none⟩ = some (.int .i64 t) := by rw [t8.cell (p := ⟨b, j, none⟩) hb]; exact hcell
          have d2 : w8.cell? ⟨b', j, none⟩ = some (.int .i64 o.at_) := by rw [t8.cell (p := ⟨b', j, none⟩) hb']; exact hcell'
          have d3 : w8.cell? ⟨b'', j, none⟩ = some (.int .i64 o.sh) := by rw [t8.cell (p := ⟨b'', j, none⟩) hb'']; exact hcell''
          have f1 : b < w8.heap.size := Nat.lt_of_lt_of_le hb t8.size
          have f2 : b' < w8.heap.size := Nat.lt_of_lt_of_le hb' t8.size
          have f3 : b'' < w8.heap.size := Nat.lt_of_lt_of_le hb'' t8.size
          clear t8 hcell hcell' hcell'' hb hb' hb''
          go_wp2_with fail
          go_quiet (fail)
          go_wp2_with fail
          go_roundw
          case rel => exact ⟨j + 1, by go_num, by omega, HT8.out.drewN nq⟩
          case measure => simp [intOf]; omega
        · obtain rfl : j = sn := by omega
          clear ht7
          go_wp2_with fail
          refine (lives3_any _).mono ?_; rintro e w9 ⟨rfl, b9⟩
          go_wp2_with fail
          go_ret
          exact ⟨rfl, (HB5.out.trans ((Still.below HT7.out).mono HB5.out.size)).trans (b9.mono (Nat.le_trans HB5.out.size HT7.out.size))⟩
end Go.Proofs.Ytmbdacfdefoknaa
