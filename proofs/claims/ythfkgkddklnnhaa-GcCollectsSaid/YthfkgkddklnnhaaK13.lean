/- Lemmas, put together: GcWalk GcMark GcEach GcSlide. -/
import Derived.Test.YthfkgkddklnnhaaK12
import Derived.WalkMore
/- The contract of gc's walk: it marks what is reached from an object. -/
namespace Go.Proofs.Ythfkgkddklnnhaa
set_option linter.unusedVariables false
open Go.ChangeShapes Go.WideShapes Go.ChangeAt Go.RowKit
open M (W)

theorem count_le {p q : RO → Bool} : ∀ {L : List RO}, (∀ o ∈ L, p o = true → q o = true) → (L.filter p).length ≤ (L.filter q).length
  | [], _ => by simp
  | o :: L, h => by
    have ih := count_le (L := L) fun x hx => h x (List.mem_cons_of_mem _ hx)
    simp only [List.filter_cons]
    cases hp : p o with
    | false =>
      simp only [Bool.false_eq_true, if_false]
      split
      · simp only [List.length_cons]; omega
      · exact ih
    | true =>
      rw [h o (List.mem_cons_self) hp]
      simp only [if_true, List.length_cons]; omega
theorem count_lt {p q : RO → Bool} : ∀ {L : List RO}, (∀ o ∈ L, p o = true → q o = true) → (∃ o ∈ L, q o = true ∧ p o = false) → (L.filter p).length < (L.filter q).length
  | [], _, h => by obtain ⟨o, ho, _⟩ := h; simp at ho
  | o :: L, h, hx => by
    have hle := count_le (L := L) fun x hx => h x (List.mem_cons_of_mem _ hx)
    obtain ⟨x, hxm, hq, hp⟩ := hx
    simp only [List.filter_cons]
    rcases List.mem_cons.1 hxm with rfl | hxL
    · rw [hp, hq]
      simp only [Bool.false_eq_true, if_false, if_true, List.length_cons]; omega
    · have ih := count_lt (L := L) (fun y hy => h y (List.mem_cons_of_mem _ hy)) ⟨x, hxL, hq, hp⟩
      cases hpo : p o with
      | false =>
        simp only [Bool.false_eq_true, if_false]
        split
        · simp only [List.length_cons]; omega
        · exact ih
      | true =>
        rw [h o (List.mem_cons_self) hpo]
        simp only [if_true, List.length_cons]; omega
/-- How many objects are not marked, the current one aside. -/
def M.left (L : List RO) (mk : Nat → Bool) (a : Nat) : Nat := (L.filter fun o => !mk o.at_ && decide (o.at_ ≠ a)).length
def M.base : Nat → List (Nat × Nat) → Nat
  | a, [] => a
  | _, (b, _) :: st => M.base b st
theorem left_on {L : List RO} {mk : Nat → Bool} {a b : Nat} : M.left L (M.on mk a) b ≤ M.left L mk a := by
  refine count_le fun o _ h => ?_
  rw [Bool.and_eq_true, decide_eq_true_eq] at h ⊢
  obtain ⟨h1, h2⟩ := h
  by_cases e : o.at_ = a
  · rw [e, on_self] at h1; simp at h1
  · rw [on_other e] at h1; exact ⟨h1, e⟩
theorem left_push {L : List RO} {mk : Nat → Bool} {a b : Nat} (hb : ∃ p ∈ L, p.at_ = b) (hm : M.on mk a b = false) : M.left L (M.on mk a) b < M.left L mk a := by
  obtain ⟨p, hp, hpb⟩ := hb
  have hba : b ≠ a := fun e => by rw [e, on_self] at hm; simp at hm
  refine count_lt (fun o _ h => ?_) ⟨p, hp, ?_, ?_⟩
  · rw [Bool.and_eq_true, decide_eq_true_eq] at h ⊢
    obtain ⟨h1, h2⟩ := h
    by_cases e : o.at_ = a
    · rw [e, on_self] at h1; simp at h1
    · rw [on_other e] at h1; exact ⟨h1, e⟩
  · rw [hpb, Bool.and_eq_true, decide_eq_true_eq]
    rw [on_other hba] at hm
    rw [hm]; exact ⟨rfl, hba⟩
  · rw [hpb]; simp

theorem fresh_val {s : St} {L : List RO} {m0 : Nat → Nat} {mk : Nat → Bool} {ct : Nat → Nat} {stk : List (Nat × Nat)} {m : Nat → Nat} (h : Mem s L m0 mk ct stk m) {p : RO} (hp : p ∈ L) {z : Nat} (hz : z = 2 * p.at_) : M.fresh m z = !mk p.at_ := by
  subst hz
  unfold M.fresh
  rw [decide_eq_true (show 2 * p.at_ % 2 = 0 by omega), Bool.true_and, show 2 * p.at_ / 2 = p.at_ by omega, h.head p hp]
  unfold M.hdOf
  rw [M.hd_marked]
  cases mk p.at_ <;> rfl
theorem fresh_odd {m : Nat → Nat} {z : Nat} (h : z % 2 = 1) : M.fresh m z = false := by
  unfold M.fresh
  rw [decide_eq_false (show ¬ z % 2 = 0 by omega), Bool.false_and]
set_option maxRecDepth 100000 in
set_option maxHeartbeats 8000000 in
theorem walk_marks (s : St) (c : Cl) (L : List RO) (m0 : Nat → Nat) (R : Nat → Prop) (mk0 : Nat → Bool) (m : Nat → Nat) (a0 : Nat) (w : World) (h : GcIs w s c m) (hG : Ground s L m0) (hRC : RClosed s L m0 R) (hM : Marked s L m0 R mk0 m) (hR : R a0) (ha : ∃ o ∈ L, o.at_ = a0) :
    Calls Try.prog 77 #[c.ptr, .int .u64 ((2 * a0 : Nat) : Int)] w fun e w' => e = .returned (.tuple #[]) ∧ ∃ mk m', GcIs w' s c m' ∧ Marked s L m0 R mk m' ∧ (∀ b, mk0 b = true → mk b = true) ∧ mk a0 = true ∧ GcTurn s c w w' := by
  have hn := h.n_le
  have HG := Lib.hid hG
  have HRC := Lib.hid hRC
  have HM0 := Lib.hid (hM.first hR ha)
  have HH := Lib.hid h
  have hI0 := fun W => imm_any 0 W
  have HIM : Hid (∀ W, Calls Try.prog 42 #[.int .i64 0] W fun e w' => e = .returned (.int .u64 1) ∧ w' = W) := fun W => imm_any 0 W
  clear hG hRC hM hR ha h hI0
  go_enter Try.func77, Try.ntmps77
  go_wp2_with fail
  go_step3
  go_wp2_with fail
  refine (HIM.out _).mono ?_; rintro e w1 ⟨rfl, rfl⟩
  go_wp2_with fail
  go_step3
  go_wp2_with fail
  go_loopg [1, 4] (2 * M.left L mk0 a0 + 0) (fun g v u wr => ∃ (a x y : Nat) (stk : List (Nat × Nat)) (mk : Nat → Bool) (ct m' : Nat → Nat), v = .int .u64 x ∧ x = 2 * a ∧ u = .int .u64 y ∧ y = M.bk stk ∧ g = 2 * M.left L mk a + stk.length ∧ M.base a stk = a0 ∧ Dsw s L m0 R mk0 a stk mk ct m' ∧ GcIs wr s c m' ∧ GcTurn s c w1 wr)
  case atStart => exact ⟨a0, 2 * a0, 1, [], mk0, fun _ => 0, m, congrArg (Value.int .u64) (by omega), rfl, rfl, rfl, rfl, rfl, HM0.out, HH.out, Turn.refl _ _⟩
  case round =>
    obtain ⟨a, x, y, stk, mk, ct, m', rfl, hx, rfl, hy, hg, hbase, hD, hgc, ht⟩ := hrel
    obtain ⟨o, ho, hoa, hcto⟩ := hD.cur
    have hGl := HG.out.le o ho
    have hnf := HG.out.nf o ho
    obtain ⟨hsh, hon⟩ := HG.out.sh o ho
    have hcg := hgc.g_lt
    have c0 := hgc.c0
    have hal : a < s.n := by omega
    have hAT := fun W => at_twice a (by omega) W
    rw [← hx] at hAT
    have hLD := hgc.load (k := a) hal
    have hhd : (m' a : Int) = M.hdOf o (mk a) (ct a) := by have := hD.mem.head o ho; rw [hoa] at this; exact this
    have hMK := fun W => mark_hd o.sh o.n (if mk a then 1 else 0) (ct a) true 1 rfl W
    obtain ⟨v1, hv1⟩ : ∃ v : Nat, M.hd o.sh o.n 1 (ct a) = (v : Int) := ⟨_, (Int.toNat_of_nonneg (M.hd_lo ..)).symm⟩
    have hv1l : v1 < 18446744073709551616 := by have := M.hd_hi o.sh o.n 1 (ct a); omega
    have hhd2 : M.hd o.sh o.n (if mk a then 1 else 0) (ct a) = (m' a : Int) := hhd.symm
    rw [hhd2, hv1] at hMK
    have hTU := fun W => turned_hd o.sh o.n 1 (ct a) W
    rw [hv1, show ((ct a : Nat) : Int) % 1048576 = (ct a : Nat) by omega] at hTU
    have hD1 := hD.enter HG.out ho hoa (v := v1) hv1.symm
    have HD1 := Lib.hid hD1
    have HST := Lib.hid (hgc.store (k := a) (v := v1) hal hv1l)
    have HAT := Lib.hid hAT
    have HLD := Lib.hid hLD
    have HMK := Lib.hid hMK
    have HTU := Lib.hid hTU
    have HV1 := Lib.hid hv1
    have HTR := Lib.hid ht
    have HO := Lib.hid (And.intro ho (And.intro hoa (And.intro hx (And.intro hy (And.intro hg hbase)))))
    obtain ⟨X, hX⟩ : ∃ X, m' a = X := ⟨_, rfl⟩
    rw [hX] at HLD HMK
    obtain ⟨ca, hca⟩ : ∃ ca, ct a = ca := ⟨_, rfl⟩
    rw [hca] at HTU HV1 hcto
    have HCA := Lib.hid hca
    clear hD hgc ht hoa hx hy hg hbase hAT hLD hhd hMK hv1 hv1l hhd2 hTU hD1 hX hca ho
    go_wp2_with fail
    refine (HAT.out _).mono ?_; rintro e w2 ⟨rfl, rfl⟩
    go_wp2_with fail
    refine HLD.out.mono ?_; rintro e w2 ⟨rfl, rfl⟩
    go_wp2_with fail
    refine (HMK.out _).mono ?_; rintro e w2 ⟨rfl, rfl⟩
    go_wp2_with fail
    refine HST.out.mono ?_; rintro e w3 ⟨rfl, h3, t3⟩
    have HG3 := Lib.hid h3
    have HT3 := Lib.hid (HTR.out.trans t3)
    clear h3 t3 c0 hcg
    go_wp2_with fail
    refine (HTU.out _).mono ?_; rintro e w4 ⟨rfl, rfl⟩
    go_wp2_with fail
    have HS0 : Hid (∀ j, j < ca → Seen m0 (M.on mk a) (a + 1 + j)) := fun j hj => by
      have := HD1.out.done o HO.out.1 (by rw [HO.out.2.1]; exact on_self) j (by rw [if_pos (.inl HO.out.2.1), HO.out.2.1, HCA.out]; exact hj)
      rw [HO.out.2.1] at this; exact this
    go_loopw [1, 4, 7] (fun v1' v4' v wr => ∃ i nd : Nat, v1' = .int .u64 x ∧ v4' = .int .u64 y ∧ v = .int .i64 i ∧ i ≤ s.nf o ∧ wr = w4.drewN nd ∧ ∀ j, j < i → Seen m0 (M.on mk a) (a + 1 + j)) (fun _ _ v _ => s.nf o - (intOf v).toNat)
    case atStart => exact ⟨ca, 0, rfl, rfl, rfl, hcto, rfl, HS0.out⟩
    case round =>
      obtain ⟨i, nd, rfl, rfl, rfl, hi, rfl, hseen⟩ := hrel
      have HSEEN := Lib.hid hseen
      have hgi := HG3.out.drewN nd
      have hFD := fields_hd s c _ o.sh o.n 1 ca (w4.drewN nd) hgi hsh hon
      rw [HV1.out] at hFD
      change Calls _ _ _ _ fun e w' => e = .returned (.int .i64 (s.nf o : Nat)) ∧ _ at hFD
      have HFD := Lib.hid hFD
      have HGI := Lib.hid hgi
      clear hseen hgi hFD
      go_wp2_with fail
      refine HFD.out.mono ?_; rintro e w5 ⟨rfl, nf1, rfl⟩
      have hg5 : Hid (GcIs ((w4.drewN nd).drewN nf1) s c (M.upd m' a v1)) := HGI.out.drewN nf1
      have ht5 : Hid (GcTurn s c w1 ((w4.drewN nd).drewN nf1)) := HT3.out.trans (Still.turn (((Still.refl w4).drewN nd).drewN nf1))
      have hnd5 : ∃ n5, ((w4.drewN nd).drewN nf1) = w4.drewN n5 := ⟨nd + nf1, by simp⟩
      have HN5 := Lib.hid hnd5
      clear hnd5
      generalize ((w4.drewN nd).drewN nf1) = w5 at *
      have c5 := hg5.out.c0
      have hcg5 := hg5.out.g_lt
      by_cases hlt : i < s.nf o
      · obtain ⟨j, hj⟩ : ∃ j, a + 1 + i = j := ⟨_, rfl⟩
        have ej : (a : Int) + 1 + (i : Int) = (j : Int) := by omega
        have hjn : j < s.n := by have := HO.out.2.1; omega
        have hLJ := hg5.out.load (k := j) hjn
        have hfe := HD1.out.mem.field HG.out HD1.out.way HO.out.1 (by rw [HO.out.2.1]; exact HD1.out.off) (i := i) hlt
        rw [HO.out.2.1, hj] at hfe
        rw [hfe] at hLJ
        have hfg := HG.out.field o HO.out.1 i hlt
        rw [HO.out.2.1, hj] at hfg
        have hzl := HG.out.lt j
        obtain ⟨z, hz⟩ : ∃ z, m0 j = z := ⟨_, rfl⟩
        rw [hz] at hLJ hfg hzl
        have hin : z % 2 = 0 → z / 2 < s.n := fun he => by
          rcases hfg with h1 | ⟨p, hp, h1⟩
          · omega
          · have := HG.out.le p hp; have := HG.out.nf p hp; omega
        have hFR := fun W (hW : GcIs W s c (M.upd m' a v1)) => fresh_any s c _ z W hW hzl hin
        have HLJ := Lib.hid hLJ
        have HZ := Lib.hid (And.intro hz (And.intro hj hfg))
        have HJN := Lib.hid hjn
        cases hfr : M.fresh (M.upd m' a v1) z with
        | false =>
          rw [hfr] at hFR
          have HFR := Lib.hid hFR
          have HSN : Hid (Seen m0 (M.on mk a) (a + 1 + i)) := by
            rw [hj]
            rcases hfg with h1 | ⟨p, hp, h1⟩
            · left; rw [hz]; exact h1
            · right
              rw [fresh_val HD1.out.mem hp h1] at hfr
              rw [hz, h1, show 2 * p.at_ / 2 = p.at_ by omega]
              simpa using hfr
          clear hFR hLJ hz hj hfg hfr hfe hin hzl hjn
          go_wp2_with fail
          refine HLJ.out.mono ?_; rintro e w6 ⟨rfl, rfl⟩
          go_wp2_with fail
          refine (HFR.out _ hg5.out).mono ?_; rintro e w7 ⟨rfl, nf2, rfl⟩
          go_wp2_with fail
          go_roundw
          case rel =>
            obtain ⟨n5, e5⟩ := HN5.out
            refine ⟨i + 1, n5 + nf2, rfl, rfl, by go_num, by omega, by rw [e5]; simp, fun q hq => ?_⟩
            by_cases e : q = i
            · rw [e]; exact HSN.out
            · exact HSEEN.out q (by omega)
          case measure => simp [intOf]; omega
        | true =>
          rw [hfr] at hFR
          have HFR := Lib.hid hFR
          obtain ⟨p, hp, hzp⟩ : ∃ p ∈ L, z = 2 * p.at_ := by
            rcases hfg with h1 | h1
            · rw [fresh_odd h1] at hfr; simp at hfr
            · exact h1
          have hmp : M.on mk a p.at_ = false := by
            rw [fresh_val HD1.out.mem hp hzp] at hfr
            simpa using hfr
          obtain ⟨v2, hv2⟩ : ∃ v : Nat, M.hd o.sh o.n 1 i = (v : Int) := ⟨_, (Int.toNat_of_nonneg (M.hd_lo ..)).symm⟩
          have hv2l : v2 < 18446744073709551616 := by have := M.hd_hi o.sh o.n 1 i; omega
          have hTI := fun W => turn_hd o.sh o.n 1 ca i W
          rw [HV1.out, hv2] at hTI
          have HTI := Lib.hid hTI
          have hal' : a < s.n := hal
          have hyl : y < 18446744073709551616 := by
            rw [HO.out.2.2.2.1]
            cases hst : stk with
            | nil => decide
            | cons e st =>
              obtain ⟨b', k'⟩ := e
              obtain ⟨⟨q, hq, hqb, _⟩, _⟩ := HD1.out.way.mem b' k' (by rw [hst]; exact List.mem_cons_self)
              have := HG.out.le q hq; have := HG.out.nf q hq
              show 2 * b' < _
              omega
          have HST2 := Lib.hid (fun W (hW : GcIs W s c (M.upd m' a v1)) => hW.store (k := a) (v := v2) hal hv2l)
          have HPU := Lib.hid (Dsw.push (b := p.at_) HD1.out HG.out HRC.out HO.out.1 HO.out.2.1 on_self hlt hv2.symm (by rw [hj, hz, hzp]) ⟨p, hp, rfl⟩ hmp HSEEN.out)
          have HLP := Lib.hid (left_push (mk := mk) (a := a) ⟨p, hp, rfl⟩ hmp)
          have HZP := Lib.hid hzp
          have HYL := Lib.hid hyl
          rw [hj] at HPU
          clear hFR hLJ hz hj hfg hfr hfe hin hzl hjn hmp hv2 hv2l hTI hyl hzp hp
          go_wp2_with fail
          refine HLJ.out.mono ?_; rintro e w6 ⟨rfl, rfl⟩
          go_wp2_with fail
          refine (HFR.out _ hg5.out).mono ?_; rintro e w7 ⟨rfl, nf2, rfl⟩
          have hg7 : Hid (GcIs (w6.drewN nf2) s c (M.upd m' a v1)) := hg5.out.drewN nf2
          have ht7 : Hid (GcTurn s c w1 (w6.drewN nf2)) := ht5.out.trans (Still.turn ((Still.refl w6).drewN nf2))
          clear ht5 HGI c5 hcg5 HN5 HFD
          generalize w6.drewN nf2 = w7 at *
          have c7 := hg7.out.c0
          have hcg7 := hg7.out.g_lt
          go_wp2_with fail
          go_region_with (first
            | (go_at_call 95; (with_reducible refine (HTI.out _).mono ?_); rintro e w8 ⟨rfl, nd8, rfl⟩)
            | (go_at_call 9; (with_reducible refine (HST2.out _ (hg7.out.drewN _)).mono ?_); rintro e w9 ⟨rfl, h9, t9⟩; have HR9 := Lib.hid (And.intro h9 t9); clear h9 t9))
          all_goals (
            have c9 := HR9.out.1.c0
            have hcg9 := HR9.out.1.g_lt
            have HT9 : Hid (GcTurn s c w1 w9) := ht7.out.trans ((Still.turn ((Still.refl w7).drewN _)).trans HR9.out.2)
            clear c7 hcg7
            go_simp
            go_wp2_with fail
            refine (HR9.out.1.store (k := j) HJN.out HYL.out).mono ?_; rintro e w10 ⟨rfl, h10, t10⟩
            have HR10 := Lib.hid (And.intro h10 (HT9.out.trans t10))
            clear h10 t10
            go_wp2_with fail
            go_roundg (2 * M.left L (M.on mk a) p.at_ + (stk.length + 1))
            case measure => have := HLP.out; have := HO.out.2.2.2.2.1; omega
            case rel => exact ⟨p.at_, z, x, (a, i) :: stk, M.on mk a, M.upd ct a i, _, rfl, HZP.out, rfl, HO.out.2.2.1, rfl, HO.out.2.2.2.2.2, HPU.out, by rw [← HO.out.2.2.2.1]; exact HR10.out.1, HR10.out.2⟩)
      · obtain rfl : i = s.nf o := by omega
        obtain ⟨v2, hv2⟩ : ∃ v : Nat, M.hd o.sh o.n 1 (0 : Nat) = (v : Int) := ⟨_, (Int.toNat_of_nonneg (M.hd_lo ..)).symm⟩
        have hv2l : v2 < 18446744073709551616 := by have := M.hd_hi o.sh o.n 1 (0 : Nat); omega
        have hTI := fun W => turn_hd o.sh o.n 1 ca 0 W
        change ∀ W, Calls _ _ _ W fun e w' => e = .returned (.int .u64 (M.hd o.sh o.n 1 (0 : Nat))) ∧ _ at hTI
        rw [HV1.out, hv2] at hTI
        have HTI := Lib.hid hTI
        have HST2 := Lib.hid (fun W (hW : GcIs W s c (M.upd m' a v1)) => hW.store (k := a) (v := v2) hal hv2l)
        have HV2 : Hid ((v2 : Int) = M.hdOf o true 0) := hv2.symm
        clear hTI hv2 hv2l HGI HFD HN5
        go_wp2_with fail
        go_region_with (first
          | (go_at_call 95; (with_reducible refine (HTI.out _).mono ?_); rintro e w8 ⟨rfl, nd8, rfl⟩)
          | (go_at_call 9; (with_reducible refine (HST2.out _ (hg5.out.drewN _)).mono ?_); rintro e w9 ⟨rfl, h9, t9⟩; have HR9 := Lib.hid (And.intro h9 t9); clear h9 t9))
        all_goals (
          have HT9 : Hid (GcTurn s c w1 w9) := ht5.out.trans ((Still.turn ((Still.refl w5).drewN _)).trans HR9.out.2)
          have HG9 := Lib.hid HR9.out.1
          clear c5 hcg5 ht5 HR9
          go_simp
          cases hst : stk with
          | nil =>
            have hy1 : y = 1 := by rw [HO.out.2.2.2.1, hst]; rfl
            have hI := fun W => isImm_any y W (by omega) (by omega)
            rw [show ((y : Int) % 2 == 1) = true from beq_iff_eq.2 (by omega)] at hI
            have HI := Lib.hid hI
            have HST := Lib.hid hst
            clear hI hy1 hst
            go_wp2_with fail
            refine (HI.out _).mono ?_; rintro e w10 ⟨rfl, rfl⟩
            go_wp2_with fail
            (try rw [Exit.noGoto_ret])
            first | go_end0 | refine bodyPost_ret (results_none rfl _ _ _) rfl ?_
            have hd := HD1.out
            rw [HST.out] at hd
            have hbs := HO.out.2.2.2.2.2
            rw [HST.out] at hbs
            have hba : a = a0 := hbs
            exact ⟨rfl, _, _, HG9.out, hd.last HG.out HO.out.1 HO.out.2.1 on_self HV2.out HSEEN.out, hd.sup, by rw [← hba]; exact on_self, HT9.out⟩
          | cons e1 st =>
            obtain ⟨b, k⟩ := e1
            have hy1 : y = 2 * b := by rw [HO.out.2.2.2.1, hst]; rfl
            have hd := HD1.out
            rw [hst] at hd
            obtain ⟨⟨p, hp, hpb, hkp⟩, hmb, hcb, hfb, _⟩ := hd.way
            have hoff := hd.off
            simp only [List.map_cons, List.mem_cons, not_or] at hoff
            have hI := fun W => isImm_any y W (by omega) (by have := HG.out.le p hp; omega)
            rw [show ((y : Int) % 2 == 1) = false from beq_eq_false_iff_ne.2 (by omega)] at hI
            have hpa : p.at_ ≠ a := fun e => hoff.1 (by rw [← e, hpb])
            have hm9 : ((M.upd (M.upd m' a v1) a v2) p.at_ : Int) = M.hdOf p true k := by
              have := hd.mem.head p hp
              rw [hpb, hmb, hcb] at this
              rw [← this, ← hpb]
              show ((if p.at_ = a then v2 else _ : Nat) : Int) = _
              rw [if_neg hpa]
            have hnp := HG.out.nf p hp
            have hlp := HG.out.le p hp
            have hf9 : (M.upd (M.upd m' a v1) a v2) (p.at_ + 1 + k) = M.bk st := by
              have hoa2 : p.at_ + 1 + k ≠ a := fun e => HG.out.off_head hp hkp o HO.out.1 (by rw [HO.out.2.1]; exact e)
              show (if p.at_ + 1 + k = a then v2 else M.upd m' a v1 (p.at_ + 1 + k)) = _
              rw [if_neg hoa2, hd.mem.rest _ (HG.out.off_head hp hkp)]
              show (if p.at_ + 1 + k = b + 1 + k then M.bk st else _) = _
              rw [if_pos (by rw [hpb])]
            have hxl : x < 18446744073709551616 := by have := HO.out.2.2.1; omega
            have hTB := fun W (hW : GcIs W s c (M.upd (M.upd m' a v1) a v2)) => turnBack_any s c _ p k x W hW hm9 (by omega) hxl
            rw [hf9, show 2 * p.at_ = y by rw [hy1, hpb]] at hTB
            have HPOP := Lib.hid (fun (u : Nat) (hu : (u : Int) = M.hdOf p true (k + 1)) => hd.pop HG.out HO.out.1 HO.out.2.1 hp hpb on_self HV2.out hu HSEEN.out)
            have hbase : M.base b st = a0 := by have := HO.out.2.2.2.2.2; rw [hst] at this; exact this
            have hlen : stk.length = st.length + 1 := by rw [hst]; rfl
            have HX := Lib.hid (And.intro hy1 (And.intro hpb (And.intro hbase hlen)))
            obtain ⟨z, hz⟩ : ∃ z, M.bk st = z := ⟨_, rfl⟩
            rw [hz] at hTB
            have HZ := Lib.hid hz
            have HI := Lib.hid hI
            have HTB := Lib.hid hTB
            clear hI hy1 hst hd hmb hcb hfb hoff hpa hm9 hnp hlp hf9 hxl hTB hbase hlen hz hp hpb hkp
            go_wp2_with fail
            refine (HI.out _).mono ?_; rintro e w10 ⟨rfl, rfl⟩
            go_wp2_with fail
            refine (HTB.out _ HG9.out).mono ?_; rintro e w11 ⟨rfl, u, hu, h11, t11⟩
            have HR := Lib.hid (And.intro hu (And.intro h11 (HT9.out.trans t11)))
            clear hu h11 t11
            go_wp2_with fail
            go_roundg (2 * M.left L (M.on mk a) b + st.length)
            case measure => have := HO.out.2.2.2.2.1; have := HX.out.2.2.2; have := left_on (L := L) (mk := mk) (a := a) (b := b); omega
            case rel => exact ⟨b, y, z, st, M.on mk a, _, _, rfl, HX.out.1, rfl, HZ.out.symm, rfl, HX.out.2.2.1, HPOP.out u HR.out.1, by rw [← HO.out.2.2.1, ← HX.out.2.1]; exact HR.out.2.1, HR.out.2.2⟩)
end Go.Proofs.Ythfkgkddklnnhaa
/- The contract of gc's mark. -/
namespace Go.Proofs.Ythfkgkddklnnhaa
set_option linter.unusedVariables false
open Go.ChangeShapes Go.WideShapes Go.ChangeAt Go.RowKit
open M (W)

/-- The roots: each is a number, or the pointer of an object. -/
structure Roots (s : St) (c : Cl) (L : List RO) (m0 : Nat → Nat) (R : Nat → Prop) : Prop where
  is : ∀ i, i < c.r → m0 (s.n + i) % 2 = 1 ∨ ∃ p ∈ L, m0 (s.n + i) = 2 * p.at_
  r : ∀ i, i < c.r → m0 (s.n + i) % 2 = 0 → R (m0 (s.n + i) / 2)
theorem Ground.behind {s : St} {L : List RO} {m : Nat → Nat} (h : Ground s L m) (i : Nat) : ∀ o ∈ L, s.n + i ≠ o.at_ := fun o ho e => by
  have := h.le o ho
  have := h.nf o ho
  omega
theorem fresh_marked {s : St} {L : List RO} {m0 : Nat → Nat} {R : Nat → Prop} {mk : Nat → Bool} {m : Nat → Nat} (h : Marked s L m0 R mk m) {p : RO} (hp : p ∈ L) {z : Nat} (hz : z = 2 * p.at_) : M.fresh m z = !mk p.at_ := by
  subst hz
  unfold M.fresh
  rw [decide_eq_true (show 2 * p.at_ % 2 = 0 by omega), Bool.true_and, show 2 * p.at_ / 2 = p.at_ by omega, h.head p hp]
  unfold M.hdOf
  rw [M.hd_marked]
  cases mk p.at_ <;> rfl
set_option maxRecDepth 100000 in
set_option maxHeartbeats 4000000 in
theorem mark_any (s : St) (c : Cl) (L : List RO) (m0 : Nat → Nat) (R : Nat → Prop) (mk0 : Nat → Bool) (m : Nat → Nat) (w : World) (h : GcIs w s c m) (hG : Ground s L m0) (hRC : RClosed s L m0 R) (hM : Marked s L m0 R mk0 m) (hRt : Roots s c L m0 R) :
    Calls Try.prog 45 #[c.ptr] w fun e w' => e = .returned (.tuple #[]) ∧ ∃ mk m', GcIs w' s c m' ∧ Marked s L m0 R mk m' ∧ (∀ i, i < c.r → m0 (s.n + i) % 2 = 0 → mk (m0 (s.n + i) / 2) = true) ∧ GcTurn s c w w' := by
  have hn := h.n_le
  have hr := h.r_le
  have hg := h.g_lt
  have c0 := h.c0
  have c1 : w.cell? ⟨c.g, 1, none⟩ = some (.slice (some ⟨c.gr, 0, none⟩) c.r c.r) := h.is.c1
  have HG := Lib.hid hG
  have HRC := Lib.hid hRC
  have HM := Lib.hid hM
  have HH := Lib.hid h
  have HRT := Lib.hid hRt
  clear h hG hRC hM hRt
  go_enter Try.func45, Try.ntmps45
  go_wp2_with fail
  go_loopw [9] (fun v wr => ∃ (i : Nat) (mk : Nat → Bool) (m' : Nat → Nat), v = .int .i64 i ∧ i ≤ c.r ∧ GcIs wr s c m' ∧ Marked s L m0 R mk m' ∧ (∀ j, j < i → m0 (s.n + j) % 2 = 0 → mk (m0 (s.n + j) / 2) = true) ∧ GcTurn s c w wr) (fun v _ => c.r - (intOf v).toNat)
  case atStart => exact ⟨0, mk0, m, rfl, by omega, HH.out, HM.out, fun j hj => by omega, Turn.refl _ _⟩
  case round =>
    obtain ⟨i, mk, m', rfl, hi, hgc, hMk, hdone, ht⟩ := hrel
    have HGC := Lib.hid hgc
    have HMK := Lib.hid hMk
    have HD := Lib.hid hdone
    have HTR := Lib.hid ht
    have hcg := hgc.g_lt
    have hcgr : c.gr < wr.heap.size := hgc.is.roots.lt
    by_cases hlt : i < c.r
    · have hcell : wr.cell? ⟨c.gr, i, none⟩ = some (.int .u64 (m' (s.n + i))) := hgc.is.roots.cell (i := i) hlt
      have hme : m' (s.n + i) = m0 (s.n + i) := hMk.rest _ (HG.out.behind i)
      rw [hme] at hcell
      obtain ⟨z, hz⟩ : ∃ z, m0 (s.n + i) = z := ⟨_, rfl⟩
      have hzl := HG.out.lt (s.n + i)
      have hzr := HRT.out.is i hlt
      rw [hz] at hcell hzl hzr
      have hin : z % 2 = 0 → z / 2 < s.n := fun he => by
        rcases hzr with h1 | ⟨p, hp, h1⟩
        · omega
        · have := HG.out.le p hp; have := HG.out.nf p hp; omega
      have hFR := fresh_any s c m' z wr hgc hzl hin
      have HZ := Lib.hid (And.intro hz hzr)
      cases hfr : M.fresh m' z with
      | false =>
        rw [hfr] at hFR
        have HFR := Lib.hid hFR
        have HSN : Hid (z % 2 = 0 → mk (z / 2) = true) := fun he => by
          rcases hzr with h1 | ⟨p, hp, h1⟩
          · omega
          · rw [fresh_marked hMk hp h1] at hfr
            rw [h1, show 2 * p.at_ / 2 = p.at_ by omega]
            simpa using hfr
        clear hgc hMk hdone ht hme hz hzl hzr hin hFR hfr
        go_wp2_with fail
        refine HFR.out.mono ?_; rintro e w2 ⟨rfl, nf, rfl⟩
        go_wp2_with fail
        go_roundw
        case rel => exact ⟨i + 1, mk, m', by go_num, by omega, HGC.out.drewN nf, HMK.out, fun j hj he => by
          by_cases e : j = i
          · subst e; rw [HZ.out.1] at he ⊢; exact HSN.out he
          · exact HD.out j (by omega) he, HTR.out.trans (Still.turn ((Still.refl wr).drewN nf))⟩
        case measure => simp [intOf]; omega
      | true =>
        rw [hfr] at hFR
        have HFR := Lib.hid hFR
        obtain ⟨p, hp, hzp⟩ : ∃ p ∈ L, z = 2 * p.at_ := by
          rcases hzr with h1 | h1
          · rw [fresh_odd h1] at hfr; simp at hfr
          · exact h1
        have hRp : R p.at_ := by
          have := HRT.out.r i hlt (by rw [hz]; omega)
          rw [hz, hzp, show 2 * p.at_ / 2 = p.at_ by omega] at this; exact this
        have HW := fun W (hW : GcIs W s c m') => walk_marks s c L m0 R mk m' p.at_ W hW HG.out HRC.out hMk hRp ⟨p, hp, rfl⟩
        rw [← hzp] at HW
        have HWW := Lib.hid HW
        have HZP := Lib.hid hzp
        clear hgc hMk hdone ht hme hz hzl hzr hin hFR hfr HW hzp hp hRp
        go_wp2_with fail
        refine HFR.out.mono ?_; rintro e w2 ⟨rfl, nf, rfl⟩
        go_wp2_with fail
        refine (HWW.out _ (HGC.out.drewN nf)).mono ?_; rintro e w3 ⟨rfl, mk3, m3, h3, hm3, hs3, ha3, t3⟩
        have HR3 := Lib.hid (And.intro h3 (And.intro hm3 (And.intro hs3 (And.intro ha3 (HTR.out.trans ((Still.turn ((Still.refl wr).drewN nf)).trans t3))))))
        clear h3 hm3 hs3 ha3 t3
        go_wp2_with fail
        go_roundw
        case rel => exact ⟨i + 1, mk3, m3, by go_num, by omega, HR3.out.1, HR3.out.2.1, fun j hj he => by
          by_cases e : j = i
          · subst e; rw [HZ.out.1, HZP.out, show 2 * p.at_ / 2 = p.at_ by omega]; exact HR3.out.2.2.2.1
          · exact HR3.out.2.2.1 _ (HD.out j (by omega) he), HR3.out.2.2.2.2⟩
        case measure => simp [intOf]; omega
    · obtain rfl : i = c.r := by omega
      clear hgc hMk hdone ht
      go_wp2_with fail
      first | go_end0 | refine bodyPost_ret (results_none rfl _ _ _) rfl ?_
      exact ⟨rfl, mk, m', HGC.out, HMK.out, HD.out, HTR.out⟩
end Go.Proofs.Ythfkgkddklnnhaa
/- The contract of gc's each, for any closure. -/
namespace Go.Proofs.Ythfkgkddklnnhaa
set_option linter.unusedVariables false
open Go.ChangeShapes Go.WideShapes Go.ChangeAt Go.RowKit
open M (W)

theorem Good.needOf {s : St} {o : RO} (h : Good s o) : s.needOf o.sh o.n = s.sz o := by
  have := h.sz.1
  unfold St.needOf
  rw [this]
set_option maxRecDepth 100000 in
set_option maxHeartbeats 4000000 in
theorem each_any (s : St) (c : Cl) (L : List RO) (fid : FuncId) (hfid : ∀ args W, (callFunc fid args).run Try.prog W = .ok (.enter fid args) W) (caps : Array Value) (I : Nat → Nat → World → Prop) (w : World)
    (htile : TileTo s s.top 0 L) (hneed : ∀ o ∈ L, s.needOf o.sh o.n = s.sz o ∧ o.sh < 512 ∧ o.n ≤ 65536 ∧ 1 ≤ s.sz o) (htop : s.top ≤ s.n)
    (h0 : I 0 0 w) (hgc : ∀ j to W, I j to W → ∃ m, GcIs W s c m) (hto : ∀ j to W o, L[j]? = some o → I j to W → to ≤ o.at_) (hend : ∀ to W, I L.length to W → to ≤ s.top)
    (hstep : ∀ j o to W, L[j]? = some o → I j to W → ∃ (m : Nat → Nat) (ps : List Nat) (v : Nat) (b : Bool), GcIs W s c m ∧ Thread m (m o.at_) ps v ∧ ps.Nodup ∧ (∀ p ∈ ps, p < s.n + c.r) ∧ (v : Int) = M.hdOf o b 0 ∧
      ∀ W1, GcIs W1 s c (M.upd (M.all m ps (2 * to)) o.at_ v) → GcTurn s c W W1 →
        (b = false → I (j + 1) to W1) ∧ (b = true → Calls Try.prog fid (#[.int .i64 o.at_, .int .i64 to, .int .u64 v] ++ caps) W1 fun e w' => e = .returned (.tuple #[]) ∧ I (j + 1) (to + s.sz o) w')) :
    Calls Try.prog 79 #[c.ptr, .func (.func fid) #[] caps] w fun e w' => ∃ to, e = .returned (.int .i64 (to : Nat)) ∧ I L.length to w' := by
  obtain ⟨m00, hm00⟩ := hgc _ _ _ h0
  have hn := hm00.n_le
  have HFID := Lib.hid hfid
  have HT := Lib.hid htile
  have HND := Lib.hid hneed
  have H0 := Lib.hid h0
  have HGC := Lib.hid hgc
  have HTO := Lib.hid hto
  have HEND := Lib.hid hend
  have HST := Lib.hid hstep
  clear htile hneed h0 hgc hto hend hstep hm00 hfid
  go_enter Try.func79, Try.ntmps79
  go_wp2_with fail
  go_loopw [5, 6] (fun t v wr => ∃ j p to : Nat, t = .int .i64 to ∧ v = .int .i64 p ∧ j ≤ L.length ∧ TileTo s s.top p (L.drop j) ∧ I j to wr) (fun _ v _ => s.top - (intOf v).toNat)
  case atStart => exact ⟨0, 0, 0, rfl, rfl, by omega, HT.out, H0.out⟩
  case round =>
    obtain ⟨j, p, to, rfl, rfl, hj, htl, hI⟩ := hrel
    have HI := Lib.hid hI
    have HTL := Lib.hid htl
    obtain ⟨m1, hm1⟩ := HGC.out _ _ _ hI
    have HM1 := Lib.hid hm1
    have hcg := hm1.g_lt
    have c0 := hm1.c0
    have hTP := top_any (s.at m1) wr hm1.is.hp
    change Calls _ _ #[.pointer (some ⟨s.g, 0, none⟩)] wr fun e w' => e = .returned (.int .i64 s.top) ∧ w' = wr at hTP
    have HTP := Lib.hid hTP
    by_cases hjl : j < L.length
    · obtain ⟨o, ho⟩ : ∃ o, L[j]? = some o := ⟨_, List.getElem?_eq_getElem hjl⟩
      have hdrop : L.drop j = o :: L.drop (j + 1) := by
        obtain ⟨hl, he⟩ := List.getElem?_eq_some_iff.1 ho
        rw [List.drop_eq_getElem_cons hl, he]
      rw [hdrop] at htl
      obtain ⟨hop, htl2⟩ := htl
      subst hop
      obtain ⟨hnd, hsh, hon, hsz⟩ := HND.out o (List.mem_of_getElem? ho)
      have hle := htl2.le
      have htoa := HTO.out _ _ _ _ ho hI
      obtain ⟨m, ps, v, b, hg, hth, hnp, hin, hv, hk⟩ := HST.out j o to wr ho hI
      have hodd : v % 2 = 1 := by
        have : ((v : Nat) : Int) % 2 = 1 := by rw [hv]; unfold M.hdOf; exact M.hd_odd ..
        omega
      have hUN := untie_any s c m o.at_ to v ps wr hg (by omega) (by omega) hth hodd hnp hin
      have HUN := Lib.hid hUN
      have HNE := Lib.hid (fun W (hW : GcIs W s c (M.upd (M.all m ps (2 * to)) o.at_ v)) => by
        have := need_hd s c _ o.sh o.n (if b then 1 else 0) (0 : Nat) W hW hsh hon
        change Calls _ _ #[_, .int .u64 (M.hdOf o b 0)] W _ at this
        rw [← hv, hnd] at this
        exact this)
      have hmk := fun W => marked_hd o.sh o.n (if b then 1 else 0) (0 : Nat) b rfl W
      change ∀ W, Calls _ _ #[.int .u64 (M.hdOf o b 0)] W _ at hmk
      rw [← hv] at hmk
      have HMK := Lib.hid hmk
      have HK := Lib.hid hk
      have HTL2 := Lib.hid htl2
      have hlt : o.at_ < s.top := by omega
      obtain ⟨D, hD⟩ : ∃ D, s.sz o = D := ⟨_, rfl⟩
      rw [hD] at HNE hsz hle
      have HD := Lib.hid hD
      obtain ⟨a, ha⟩ : ∃ a, o.at_ = a := ⟨_, rfl⟩
      rw [ha] at HUN hle htoa hlt ⊢
      have HA := Lib.hid ha
      clear hI hm1 hTP ho hdrop htl2 hnd hg hth hnp hin hv hk hodd hUN hmk hD ha
      go_wp2_with fail
      refine HTP.out.mono ?_; rintro e w1 ⟨rfl, rfl⟩
      go_wp2_with fail
      refine HUN.out.mono ?_; rintro e w2 ⟨rfl, h2, t2⟩
      rw [← HA.out] at h2
      have HG2 := Lib.hid h2
      have HT2 := Lib.hid t2
      clear h2 t2 c0 hcg
      go_wp2_with fail
      refine (HNE.out _ HG2.out).mono ?_; rintro e w3 ⟨rfl, nf, rfl⟩
      go_wp2_with fail
      refine (HMK.out _).mono ?_; rintro e w4 ⟨rfl, rfl⟩
      have hkk := HK.out _ (HG2.out.drewN nf) (HT2.out.trans (Still.turn ((Still.refl w2).drewN nf)))
      generalize w2.drewN nf = w5 at *
      cases b with
      | false =>
        have HI2 := Lib.hid (hkk.1 rfl)
        clear hkk
        go_wp2_with fail
        go_roundw
        case rel => exact ⟨j + 1, a + D, to, rfl, by go_num, by omega, by rw [← HA.out, ← HD.out]; exact HTL2.out, HI2.out⟩
        case measure => simp [intOf]; omega
      | true =>
        have hcl := hkk.2 rfl
        rw [HA.out, HD.out] at hcl
        have HCL := Lib.hid hcl
        clear hkk hcl
        have hfid := HFID.out
        go_wp2_with fail
        refine HCL.out.mono ?_; rintro e w6 ⟨rfl, hI6⟩
        have HI6 := Lib.hid hI6
        clear hI6 hfid
        go_wp2_with fail
        go_roundw
        case rel => exact ⟨j + 1, a + D, to + D, by go_num, by go_num, by omega, by rw [← HA.out, ← HD.out]; exact HTL2.out, HI6.out⟩
        case measure => simp [intOf]; omega
    · obtain rfl : j = L.length := by omega
      have htt : p = s.top := by have := htl; rw [List.drop_length] at this; exact this
      subst htt
      clear htl hI hm1 hTP
      go_wp2_with fail
      refine HTP.out.mono ?_; rintro e w1 ⟨rfl, rfl⟩
      go_wp2_with fail
      go_ret
      exact ⟨to, rfl, HI.out⟩
end Go.Proofs.Ythfkgkddklnnhaa
/- The contracts of slide's closures: an object's fields are tied; an object is moved. -/
namespace Go.Proofs.Ythfkgkddklnnhaa
set_option linter.unusedVariables false
open Go.ChangeShapes Go.WideShapes Go.ChangeAt Go.RowKit
open M (W)

/-- A box that holds the collector's pointer. -/
def Boxed (W : World) (bx : Nat) (c : Cl) : Prop := Blk W bx 95 #[c.ptr]
theorem Boxed.turn {W W' : World} {bx : Nat} {c : Cl} {s : St} {m : Nat → Nat} (h : Boxed W bx c) (hg : GcIs W s c m) (t : GcTurn s c W W') : Boxed W' bx c := by
  refine Blk.keep h t ?_
  rintro (e | e)
  · obtain ⟨x, hx, _⟩ := hg.is.hp.words
    have h' := h
    unfold Boxed Blk at h'
    rw [e] at h'
    change W.heap[s.gw]? = _ at hx
    rw [hx] at h'; injection h' with h'; injection h' with _ e2; exact absurd e2 (by decide)
  · obtain ⟨x, hx, _⟩ := hg.is.roots
    have h' := h
    unfold Boxed Blk at h'
    rw [e] at h'
    change W.heap[c.gr]? = _ at hx
    rw [hx] at h'; injection h' with h'; injection h' with _ e2; exact absurd e2 (by decide)
theorem Boxed.still {W W' : World} {bx : Nat} {c : Cl} (h : Boxed W bx c) (t : Still W W') : Boxed W' bx c := Still.blk t h
theorem Boxed.c {W : World} {bx : Nat} {c : Cl} (h : Boxed W bx c) : W.cell? ⟨bx, 0, none⟩ = some (.pointer (some ⟨c.g, 0, none⟩)) := Blk.cell h 0

set_option maxRecDepth 100000 in
set_option maxHeartbeats 4000000 in
theorem slide1_any (s : St) (c : Cl) (m : Nat → Nat) (bx : Nat) (o : RO) (to v : Nat) (Q : Nat → (Nat → Nat) → Prop) (w : World) (h : GcIs w s c m) (hb : Boxed w bx c) (hsh : o.sh < 512) (hon : o.n ≤ 65536) (hle : o.at_ + 1 + s.nf o ≤ s.n) (hv : (v : Int) = M.hdOf o true 0)
    (h0 : Q 0 m) (hQ : ∀ k m, k < s.nf o → Q k m → (m (o.at_ + 1 + k) % 2 = 0 → m (o.at_ + 1 + k) / 2 < s.n) ∧ Q (k + 1) (M.tie m (o.at_ + 1 + k))) :
    Calls Try.prog 80 #[.int .i64 o.at_, .int .i64 to, .int .u64 v, .pointer (some ⟨bx, 0, none⟩)] w fun e w' => e = .returned (.tuple #[]) ∧ ∃ m', GcIs w' s c m' ∧ Q (s.nf o) m' ∧ GcTurn s c w w' := by
  have hn := h.n_le
  have hFD := fields_hd s c m o.sh o.n (if true then 1 else 0) (0 : Nat) w h hsh hon
  change Calls _ _ #[_, .int .u64 (M.hdOf o true 0)] w fun e w' => e = .returned (.int .i64 (s.nf o : Nat)) ∧ _ at hFD
  rw [← hv] at hFD
  have cb := hb.c
  have hbl := Blk.lt hb
  have HFD := Lib.hid hFD
  have HH := Lib.hid h
  have HB := Lib.hid hb
  have HQ := Lib.hid hQ
  have H0 := Lib.hid h0
  obtain ⟨N, hN⟩ : ∃ N, s.nf o = N := ⟨_, rfl⟩
  rw [hN] at HFD hle HQ ⊢
  obtain ⟨a, ha⟩ : ∃ a, o.at_ = a := ⟨_, rfl⟩
  rw [ha] at hle HQ ⊢
  clear h hb hQ h0 hFD hv hN ha
  go_enter Try.func80, Try.ntmps80
  go_wp2_with fail
  refine HFD.out.mono ?_; rintro e w1 ⟨rfl, nf, rfl⟩
  go_wp2_with fail
  go_loopw [11] (fun x wr => ∃ (k : Nat) (m' : Nat → Nat), x = .int .i64 k ∧ k ≤ N ∧ GcIs wr s c m' ∧ Q k m' ∧ Boxed wr bx c ∧ GcTurn s c w wr) (fun x _ => N - (intOf x).toNat)
  case atStart => exact ⟨0, m, rfl, by omega, HH.out.drewN nf, H0.out, HB.out.still ((Still.refl w).drewN nf), Still.turn ((Still.refl w).drewN nf)⟩
  case round =>
    obtain ⟨k, m', rfl, hk, hg, hq, hbx, ht⟩ := hrel
    have HG := Lib.hid hg
    have HT := Lib.hid ht
    have HBX := Lib.hid hbx
    have cbr := hbx.c
    have hblr := Blk.lt hbx
    by_cases hlt : k < N
    · obtain ⟨hin, hq2⟩ := HQ.out k m' hlt hq
      obtain ⟨j, hj⟩ : ∃ j, a + 1 + k = j := ⟨_, rfl⟩
      rw [hj] at hin hq2
      have ej : (a : Int) + 1 + (k : Int) = (j : Int) := by omega
      have HTIE := Lib.hid (tie_any s c m' j wr hg (by omega) hin)
      have HQ2 := Lib.hid hq2
      clear hg hq hbx ht hin hq2 hj
      go_wp2_with fail
      refine HTIE.out.mono ?_; rintro e w2 ⟨rfl, h2, t2⟩
      have HR := Lib.hid (And.intro h2 t2)
      clear h2 t2
      go_wp2_with fail
      go_roundw
      case rel => exact ⟨k + 1, _, by go_num, by omega, HR.out.1, HQ2.out, HBX.out.turn HG.out HR.out.2, HT.out.trans HR.out.2⟩
      case measure => simp [intOf]; omega
    · obtain rfl : k = N := by omega
      have HQ2 := Lib.hid hq
      clear hg hq hbx ht
      go_wp2_with fail
      first | go_end0 | refine bodyPost_ret (results_none rfl _ _ _) rfl ?_
      exact ⟨rfl, m', HG.out, HQ2.out, HT.out⟩
/-- The words of D places from a on stand from to on as well, the first of them another one. -/
def M.moved (m : Nat → Nat) (a to i h0 : Nat) : Nat → Nat := fun j => if j = to then h0 else if to < j ∧ j < to + i then m (j - to + a) else m j
theorem moved_one (m : Nat → Nat) (a to h0 : Nat) : M.moved m a to 1 h0 = M.upd m to h0 := by
  funext j; unfold M.moved M.upd
  by_cases e : j = to
  · rw [if_pos e, if_pos e]
  · rw [if_neg e, if_neg e, if_neg (by omega)]
theorem moved_succ (m : Nat → Nat) (a to i h0 : Nat) (hi : 1 ≤ i) : M.moved m a to (i + 1) h0 = M.upd (M.moved m a to i h0) (to + i) (m (a + i)) := by
  funext j; unfold M.upd
  show (if j = to then h0 else if to < j ∧ j < to + (i + 1) then m (j - to + a) else m j) = if j = to + i then m (a + i) else if j = to then h0 else if to < j ∧ j < to + i then m (j - to + a) else m j
  by_cases e : j = to + i
  · rw [if_pos e, if_neg (by omega), if_pos (by omega), show j - to + a = a + i by omega]
  · rw [if_neg e]
    by_cases e2 : j = to
    · rw [if_pos e2, if_pos e2]
    · rw [if_neg e2, if_neg e2]
      by_cases e3 : to < j ∧ j < to + i
      · rw [if_pos e3, if_pos (by omega)]
      · rw [if_neg e3, if_neg (by omega)]
theorem moved_at (m : Nat → Nat) (a to i h0 : Nat) (hi : 1 ≤ i) (hto : to ≤ a) : M.moved m a to i h0 (a + i) = m (a + i) := by
  show (if a + i = to then h0 else if to < a + i ∧ a + i < to + i then _ else m (a + i)) = _
  rw [if_neg (by omega), if_neg (by omega)]
set_option maxRecDepth 100000 in
set_option maxHeartbeats 4000000 in
theorem slide2_any (s : St) (c : Cl) (m : Nat → Nat) (bx : Nat) (o : RO) (to v D : Nat) (w : World) (h : GcIs w s c m) (hb : Boxed w bx c) (hsh : o.sh < 512) (hon : o.n ≤ 65536) (hD : s.needOf o.sh o.n = D) (hD1 : 1 ≤ D) (hle : o.at_ + D ≤ s.n) (hto : to ≤ o.at_) (hv : (v : Int) = M.hdOf o true 0) :
    Calls Try.prog 82 #[.int .i64 o.at_, .int .i64 to, .int .u64 v, .pointer (some ⟨bx, 0, none⟩)] w fun e w' => e = .returned (.tuple #[]) ∧ ∃ u : Nat, (u : Int) = M.hdOf o false 0 ∧ GcIs w' s c (M.moved m o.at_ to D u) ∧ GcTurn s c w w' := by
  have hn := h.n_le
  have hMK := fun W => mark_hd o.sh o.n (if true then 1 else 0) (0 : Nat) false 0 rfl W
  change ∀ W, Calls _ _ #[.int .u64 (M.hdOf o true 0), _] W fun e w' => e = .returned (.int .u64 (M.hdOf o false 0)) ∧ _ at hMK
  obtain ⟨u, hu⟩ : ∃ u : Nat, M.hdOf o false 0 = (u : Int) := ⟨_, (Int.toNat_of_nonneg (M.hd_lo ..)).symm⟩
  have hul : u < 18446744073709551616 := by have h1 : M.hdOf o false 0 < 18446744073709551616 := M.hd_hi ..; omega
  have hNE := fun W m' (hW : GcIs W s c m') => need_hd s c m' o.sh o.n (if true then 1 else 0) (0 : Nat) W hW hsh hon
  change ∀ W m', GcIs W s c m' → Calls _ _ #[_, .int .u64 (M.hdOf o true 0)] W _ at hNE
  rw [← hv, hu] at hMK
  rw [← hv, hD] at hNE
  have HU : Hid ((u : Int) = M.hdOf o false 0) := hu.symm
  have HMK := Lib.hid hMK
  have HNE := Lib.hid hNE
  have HH := Lib.hid h
  have HB := Lib.hid hb
  have HUL := Lib.hid hul
  obtain ⟨a, ha⟩ : ∃ a, o.at_ = a := ⟨_, rfl⟩
  rw [ha] at hle hto ⊢
  have hton : to < s.n := by omega
  have HGD : Hid (GcIs (w.drew) s c m) := h.still (Turn.drew (Still.refl w) : Still w w.drew)
  have HBD : Hid (Boxed (w.drew) bx c) := hb.still (Turn.drew (Still.refl w) : Still w w.drew)
  have cb : (w.drew).cell? ⟨bx, 0, none⟩ = some (.pointer (some ⟨c.g, 0, none⟩)) := HBD.out.c
  have hbl : bx < (w.drew).heap.size := Blk.lt HBD.out
  have c0 : (w.drew).cell? ⟨c.g, 0, none⟩ = some (.pointer (some ⟨s.g, 0, none⟩)) := HGD.out.c0
  have hcg : c.g < (w.drew).heap.size := HGD.out.g_lt
  have HTD : Hid (GcTurn s c w w.drew) := Still.turn (Turn.drew (Still.refl w) : Still w w.drew)
  clear h hb hMK hNE hu hul hv hD ha
  go_enter Try.func82, Try.ntmps82
  go_wp2_with fail
  refine wp_region_still_tail 7 (by kernel_rfl) (by kernel_rfl) ?_
  simp only [List.take_succ_cons, List.take_zero, List.drop_succ_cons, List.drop_zero]
  change wpStill _ _ w.drew (fun a' => wpList _ _ _ _ a' w.drew) _ _
  repeat still_step
  still_call (HMK.out w.drew)
  refine wpStill_nil ?_
  go_wp2_with fail
  refine (HGD.out.store hton HUL.out).mono ?_; rintro e w1 ⟨rfl, h1, t1⟩
  have HG1 := Lib.hid h1
  have HT1 := Lib.hid (HTD.out.trans t1)
  have HB1 := Lib.hid (HBD.out.turn HGD.out t1)
  clear h1 t1 cb hbl c0 hcg
  go_wp2_with fail
  go_loopw [7] (fun x wr => ∃ i : Nat, x = .int .i64 i ∧ 1 ≤ i ∧ i ≤ D ∧ GcIs wr s c (M.moved m a to i u) ∧ Boxed wr bx c ∧ GcTurn s c w wr) (fun x _ => D - (intOf x).toNat)
  case atStart => exact ⟨1, rfl, by omega, hD1, by rw [moved_one]; exact HG1.out, HB1.out, HT1.out⟩
  case round =>
    obtain ⟨i, rfl, hi1, hiD, hg, hbx, ht⟩ := hrel
    have HG := Lib.hid hg
    have HBX := Lib.hid hbx
    have HT := Lib.hid ht
    have HNW := Lib.hid (HNE.out wr _ hg)
    have cbr := hbx.c
    have hblr := Blk.lt hbx
    clear hg hbx ht
    by_cases hlt : i < D
    · go_wp2_with fail
      refine HNW.out.mono ?_; rintro e w2 ⟨rfl, nf, rfl⟩
      have hst : Still wr (wr.drewN nf).drew := (Turn.drew ((Still.refl wr).drewN nf) : Still wr (wr.drewN nf).drew)
      have HG2 := Lib.hid (HG.out.still hst)
      have HB2 := Lib.hid (HBX.out.still hst)
      have HT2 : Hid (GcTurn s c w (wr.drewN nf).drew) := HT.out.trans (Still.turn hst)
      clear hst cbr hblr
      go_wp2_with fail
      generalize wr.drewN nf = w5 at *
      have cb : (w5.drew).cell? ⟨bx, 0, none⟩ = some (.pointer (some ⟨c.g, 0, none⟩)) := HB2.out.c
      have hbl : bx < (w5.drew).heap.size := Blk.lt HB2.out
      have c0 : (w5.drew).cell? ⟨c.g, 0, none⟩ = some (.pointer (some ⟨s.g, 0, none⟩)) := HG2.out.c0
      have hcg : c.g < (w5.drew).heap.size := HG2.out.g_lt
      obtain ⟨j1, hj1⟩ : ∃ j1, to + i = j1 := ⟨_, rfl⟩
      obtain ⟨j2, hj2⟩ : ∃ j2, a + i = j2 := ⟨_, rfl⟩
      have hw1 : IntKind.i64.wrap ((to : Int) + (i : Int)) = (j1 : Int) := by rw [IntKind.wrap_i64]; omega
      have hw2 : IntKind.i64.wrap ((a : Int) + (i : Int)) = (j2 : Int) := by rw [IntKind.wrap_i64]; omega
      have hj1n : j1 < s.n := by omega
      have hj2n : j2 < s.n := by omega
      have hld := HG2.out.load (k := j2) hj2n
      have hmv := moved_at m a to i u hi1 hto
      rw [hj2] at hmv
      rw [hmv] at hld
      have hml : m j2 < 18446744073709551616 := HH.out.lt j2
      have HLD := Lib.hid hld
      have HML := Lib.hid hml
      have HJ := Lib.hid (And.intro hj1 (And.intro hj2 (And.intro hj1n hj2n)))
      generalize hz : m j2 = z at *
      have HZ := Lib.hid hz
      clear hj1 hj2 hld hmv hml hz hj1n hj2n
      refine wp_region_still_tail 15 (by kernel_rfl) (by kernel_rfl) ?_
      simp only [List.take_succ_cons, List.take_zero, List.drop_succ_cons, List.drop_zero]
      change wpStill _ _ w5.drew (fun a' => wpList _ _ _ _ a' w5.drew) _ _
      repeat still_step
      still_call HLD.out
      refine wpStill_nil ?_
      go_wp2_with fail
      refine (HG2.out.store HJ.out.2.2.1 HML.out).mono ?_; rintro e w6 ⟨rfl, h6, t6⟩
      have HR := Lib.hid (And.intro h6 (And.intro (HT2.out.trans t6) (HB2.out.turn HG2.out t6)))
      clear h6 t6
      go_wp2_with fail
      go_roundw
      case rel => exact ⟨i + 1, by go_num, by omega, by omega, by rw [moved_succ _ _ _ _ _ hi1, HJ.out.1, HJ.out.2.1, HZ.out]; exact HR.out.1, HR.out.2.2, HR.out.2.1⟩
      case measure => simp [intOf]; omega
    · obtain rfl : i = D := by omega
      go_wp2_with fail
      refine HNW.out.mono ?_; rintro e w2 ⟨rfl, nf, rfl⟩
      go_wp2_with fail
      first | go_end0 | refine bodyPost_ret (results_none rfl _ _ _) rfl ?_
      exact ⟨rfl, u, HU.out, HG.out.drewN nf, HT.out.trans (Still.turn ((Still.refl wr).drewN nf))⟩
end Go.Proofs.Ythfkgkddklnnhaa
