/- Print, of any tokens, wherever they lie. -/
import Derived.Test.YtpccfimjkffkfaaDoorLxPrA
import Derived.Test.YtpccfimjkffkfaaDoorLxNumsW
import Derived.Test.YtpccfimjkffkfaaDoorLxBackL
namespace Go.Proofs.YtpccfimjkffkfaaDoor
set_option linter.unusedVariables false
set_option linter.unusedSimpArgs false
open Go.ChangeShapes Go.WideShapes Go.ChangeAt Go.RowKit
theorem numA {m : Int} (h0 : -9223372036854775808 ≤ m) (h1 : m ≤ 9223372036854775807) (W : World) (hT : Tab W) : Calls Tryd.prog 28 #[.int .i64 m, .int .i64 10] W fun e w' => e = .returned (.string ⟨(Lib.itoa m).toArray⟩) ∧ Still W w' :=
  (Tryd.strconv_FormatInt_10 m h0 h1 W hT).mono fun e w' ⟨h1, k, os, h2⟩ => by
    subst h2
    exact ⟨h1, grow_still W k os⟩
set_option maxHeartbeats 4000000 in
theorem printA_any {w : World} {n c : Nat} {a : Option Addr} {F : Nat → TA} (h : ToksA w a n F) (hcap : n ≤ 200) (ht : ∀ i, i < n → (F i).t.size ≤ 3000) (hT : Tab w) :
    Calls Tryd.prog 17 #[.slice a n c] w fun e w' => e = .returned (.string ⟨(u8l (prA F n)).toArray⟩) ∧ Still w w' := by
  have H := Lib.hid (And.intro h (And.intro ht hT))
  clear h ht hT
  go_enter Tryd.func17, Tryd.ntmps17
  go_wp2_with fail
  obtain ⟨b, hb⟩ : ∃ b, w.heap.size = b := ⟨_, rfl⟩
  obtain ⟨w1, hw1⟩ : ∃ w1, w.alloc (.cells #[.pointer none, .slice none 0 0] 52) = w1 := ⟨_, rfl⟩
  rw [hw1, hb]
  have hbl : Bld b b (Lib.byteCells []) w1 := by rw [← hw1, ← hb]; exact Lib.fresh_isBuilder _ _ _
  have hb1 : b < w1.heap.size := by rw [← hw1, ← hb]; simp
  have hbel : ∀ wr, Below b w1 wr → Below w.heap.size w wr := fun wr hbw => by
    rw [hb]
    exact (hw1 ▸ (Below.refl b w).alloc (by omega) _ : Below b w w1).trans hbw
  have HBEL := Lib.hid hbel
  clear hbel
  have hfin : ∀ wr, Below b w1 wr → Still w wr := fun wr hbw => by
    have hbw2 : Below b w wr := (hw1 ▸ (Below.refl b w).alloc (by omega) _ : Below b w w1).trans hbw
    exact Turn.of_below hbw2 fun k hk e => by omega
  have H1 := Lib.hid (And.intro (Bs.mk hbl (Below.refl _ _) (Lib.OthersKept.refl _ _ _) hb1) hfin)
  clear hbl hb1 hfin hw1 hb
  go_loopw [8] (fun v wr => ∃ i : Nat, v = .int .i64 i ∧ i ≤ n ∧ Bs b (u8l (prA F i)) w1 wr) (fun v _ => n - (intOf v).toNat)
  case atStart => exact ⟨0, rfl, Nat.zero_le _, H1.out.1⟩
  case round =>
    obtain ⟨i, rfl, hi, hbs⟩ := hrel
    have HB := Lib.hid hbs
    clear hbs
    by_cases hlt : i < n
    · obtain ⟨bk, off, rfl, hbk, hcs⟩ := H.out.1.at_ (by omega)
      have hbelw := HBEL.out _ HB.out.below
      obtain ⟨d0, d1, d2, d3⟩ := hcs i hlt
      have hnum := H.out.1.num i hlt
      have htx := H.out.2.1 i hlt
      have hmuch : (prA F (i + 1)).length ≤ 12003 * (i + 1) := prA_len (F := F) (i + 1) (fun j hj => pcA_len (H.out.1.num j (by omega)).1 (H.out.1.num j (by omega)).2 (H.out.2.1 j (by omega)))
      have hpr : prA F (i + 1) = prA F i ++ ((if i = 0 then [] else [32]) ++ pcA (F i)) := rfl
      obtain ⟨x, hx⟩ : ∃ x, F i = x := ⟨_, rfl⟩
      rw [hx] at d0 d1 d2 d3 hnum htx hpr
      obtain ⟨k, p, t, m⟩ := x
      simp only at d0 d1 d2 d3 hnum htx
      have g1 := (hbelw.cell (p := ⟨bk, off + i * 4, none⟩) hbk).trans d0
      have g2 := (hbelw.cell (p := ⟨bk, off + i * 4 + 1, none⟩) hbk).trans d1
      have g3 := (hbelw.cell (p := ⟨bk, off + i * 4 + 2, none⟩) hbk).trans d2
      have g4 := (hbelw.cell (p := ⟨bk, off + i * 4 + 3, none⟩) hbk).trans d3
      obtain ⟨pU, hpU⟩ : ∃ pU, u8l (pcA ⟨k, p, t, m⟩) = pU := ⟨_, rfl⟩
      have hstep : u8l (prA F (i + 1)) = u8l (prA F i) ++ ((if i = 0 then [] else [32]) ++ pU) := by
        rw [hpr, ← hpU]
        unfold u8l
        rw [List.map_append, List.map_append]
        split <;> rfl
      have hmuch2 : (u8l (prA F (i + 1))).length ≤ 2400600 := by unfold u8l; rw [List.length_map]; omega
      have hst : (⟨(u8l (Lx.bs t)).toArray⟩ : ByteArray) = t := Lx.str_bs t
      have HX := Lib.hid (And.intro hstep (And.intro hmuch2 (And.intro hnum (And.intro htx (And.intro hpU hst)))))
      clear hcs hmuch hpr hx d0 d1 d2 d3 hnum htx hpU hst hbelw hmuch2
      have HLT := Lib.hid hlt
      have x0 : (i : Int) < (n : Int) := by omega
      have x1 : decide (i < n) = true := decide_eq_true hlt
      have HBX := Lib.hid (Blk.new wr 31 #[.int .i64 k, .int .i64 p, .string t, .int .i64 m])
      have HBA := Lib.hid (HB.out.alloc (.cells #[.int .i64 k, .int .i64 p, .string t, .int .i64 m] 31))
      have hblt := HB.out.lt
      obtain ⟨nb, hnb⟩ : ∃ nb, wr.heap.size = nb := ⟨_, rfl⟩
      obtain ⟨wA, hwA⟩ : ∃ wA, wr.alloc (.cells #[.int .i64 k, .int .i64 p, .string t, .int .i64 m] 31) = wA := ⟨_, rfl⟩
      rw [hwA] at HBX HBA
      rw [hnb] at HBX
      have HWA := Lib.hid hwA
      have HNB := Lib.hid hnb
      have hbn : b ≠ nb := by omega
      have HBN := Lib.hid hbn
      clear hstep hwA hnb hbn hblt
      by_cases hz : i = 0
      · have x2 : decide (0 < i) = false := decide_eq_false (by omega)
        have x3 : ¬0 < i := by omega
        have HZ := Lib.hid hz
        clear hz
        by_cases hk : k = 1
        · have xk : (k == 1) = true := beq_iff_eq.2 (by assumption)
          have HK := Lib.hid hk
          clear hk
          go_wp2_with fail
          rw [HWA.out]
          refine (numA HX.out.2.2.1.1 HX.out.2.2.1.2 _ (H.out.2.2.below (HBEL.out _ HBA.out.below))).mono ?_; rintro e w3 ⟨rfl, t3⟩
          have B3 := Lib.hid (HBA.out.still t3)
          clear t3
          have hpc : pU = Lib.itoa m := by rw [← HX.out.2.2.2.2.1]; unfold pcA; rw [if_pos HK.out]; exact u8_nat _
          have HPC := Lib.hid hpc
          have HS := Lib.hid (B3.out.string (Lib.itoa m) (by have h1 := HX.out.1; have h2 := HX.out.2.1; rw [h1, hpc] at h2; simp only [List.length_append] at h2 ⊢; first | omega | (simp only [List.length_cons, List.length_nil] at h2 ⊢; omega)))
          clear hpc
          go_wp2_with fail
          refine HS.out.mono ?_; rintro e w4 ⟨⟨z, rfl⟩, b4, o4⟩
          have B4 := Lib.hid b4
          clear b4 o4 HS
          go_wp2_with fail
          refine ⟨⟨i + 1, by go_num, HLT.out, ?_⟩, by simp [intOf]; have := HLT.out; omega⟩
          rw [HX.out.1, HPC.out, if_pos HZ.out]
          exact B4.out
        · have xk : (k == 1) = false := beq_eq_false_iff_ne.2 (by assumption)
          by_cases hk2 : k = 2
          · have xk2 : (k == 2) = true := beq_iff_eq.2 (by assumption)
            have HK2 := Lib.hid hk2
            clear hk2
            have HK := Lib.hid hk
            clear hk
            go_wp2_with fail
            have hpc : pU = u8l (34 :: (Lx.qbs (Lx.bs t) ++ [34])) := by rw [← HX.out.2.2.2.2.1]; unfold pcA; rw [if_neg HK.out, if_pos HK2.out]
            have HPC := Lib.hid hpc
            have HS := Lib.hid (quote_any HBA.out t HX.out.2.2.2.1 (by have h1 := HX.out.1; have h2 := HX.out.2.1; rw [h1] at h2; simp only [List.length_append, List.length_cons, List.length_nil] at h2 ⊢; omega))
            clear hpc
            rw [HWA.out]
            refine HS.out.mono ?_; rintro e w4 ⟨⟨v, rfl⟩, b4, o4⟩
            have B4 := Lib.hid b4
            clear b4 o4 HS
            go_wp2_with fail
            refine ⟨⟨i + 1, by go_num, HLT.out, ?_⟩, by simp [intOf]; have := HLT.out; omega⟩
            rw [HX.out.1, HPC.out, if_pos HZ.out]
            exact B4.out
          · have xk2 : (k == 2) = false := beq_eq_false_iff_ne.2 (by assumption)
            have HK2 := Lib.hid hk2
            clear hk2
            have HK := Lib.hid hk
            clear hk
            go_wp2_with fail
            have hpc : pU = u8l (Lx.bs t) := by rw [← HX.out.2.2.2.2.1]; unfold pcA; rw [if_neg HK.out, if_neg HK2.out]
            have HPC := Lib.hid hpc
            have HS := Lib.hid (HBA.out.string (u8l (Lx.bs t)) (by have h1 := HX.out.1; have h2 := HX.out.2.1; rw [h1, hpc] at h2; simp only [List.length_append] at h2 ⊢; first | omega | (simp only [List.length_cons, List.length_nil] at h2 ⊢; omega)))
            rw [HX.out.2.2.2.2.2] at HS
            clear hpc
            rw [HWA.out]
            refine HS.out.mono ?_; rintro e w4 ⟨⟨z, rfl⟩, b4, o4⟩
            have B4 := Lib.hid b4
            clear b4 o4 HS
            go_wp2_with fail
            refine ⟨⟨i + 1, by go_num, HLT.out, ?_⟩, by simp [intOf]; have := HLT.out; omega⟩
            rw [HX.out.1, HPC.out, if_pos HZ.out]
            exact B4.out
      · have x2 : decide (0 < i) = true := decide_eq_true (by omega)
        have x3 : 0 < i := by omega
        have HZ := Lib.hid hz
        clear hz
        by_cases hk : k = 1
        · have xk : (k == 1) = true := beq_iff_eq.2 (by assumption)
          have HK := Lib.hid hk
          clear hk
          have HC := Lib.hid (HBA.out.byte 32 (by have h1 := HX.out.1; have h2 := HX.out.2.1; rw [h1] at h2; simp only [List.length_append] at h2; omega))
          go_wp2_with fail
          rw [HWA.out, HNB.out]
          refine HC.out.mono ?_; rintro e w2 ⟨rfl, b2, o2⟩
          have B2 := Lib.hid b2
          have K2 := Lib.hid (show Blk w2 nb 31 #[.int .i64 k, .int .i64 p, .string t, .int .i64 m] from o2 nb _ HBX.out (fun e => HBN.out (Option.some.inj e).symm) (fun c fz e => by cases e))
          obtain ⟨c0, c1, c2, c3, c4, c5, c6, c7, c8⟩ := tokBox K2.out
          clear b2 o2 HC
          go_wp2_with fail
          refine (numA HX.out.2.2.1.1 HX.out.2.2.1.2 _ (H.out.2.2.below (HBEL.out _ B2.out.below))).mono ?_; rintro e w3 ⟨rfl, t3⟩
          have B3 := Lib.hid (B2.out.still t3)
          clear t3
          have hpc : pU = Lib.itoa m := by rw [← HX.out.2.2.2.2.1]; unfold pcA; rw [if_pos HK.out]; exact u8_nat _
          have HPC := Lib.hid hpc
          have HS := Lib.hid (B3.out.string (Lib.itoa m) (by have h1 := HX.out.1; have h2 := HX.out.2.1; rw [h1, hpc] at h2; simp only [List.length_append] at h2 ⊢; first | omega | (simp only [List.length_cons, List.length_nil] at h2 ⊢; omega)))
          clear hpc
          go_wp2_with fail
          refine HS.out.mono ?_; rintro e w4 ⟨⟨z, rfl⟩, b4, o4⟩
          have B4 := Lib.hid b4
          clear b4 o4 HS
          go_wp2_with fail
          refine ⟨⟨i + 1, by go_num, HLT.out, ?_⟩, by simp [intOf]; have := HLT.out; omega⟩
          rw [HX.out.1, HPC.out, if_neg HZ.out]
          exact (by rw [← List.append_assoc]; exact B4.out)
        · have xk : (k == 1) = false := beq_eq_false_iff_ne.2 (by assumption)
          by_cases hk2 : k = 2
          · have xk2 : (k == 2) = true := beq_iff_eq.2 (by assumption)
            have HK2 := Lib.hid hk2
            clear hk2
            have HK := Lib.hid hk
            clear hk
            have HC := Lib.hid (HBA.out.byte 32 (by have h1 := HX.out.1; have h2 := HX.out.2.1; rw [h1] at h2; simp only [List.length_append] at h2; omega))
            go_wp2_with fail
            rw [HWA.out, HNB.out]
            refine HC.out.mono ?_; rintro e w2 ⟨rfl, b2, o2⟩
            have B2 := Lib.hid b2
            have K2 := Lib.hid (show Blk w2 nb 31 #[.int .i64 k, .int .i64 p, .string t, .int .i64 m] from o2 nb _ HBX.out (fun e => HBN.out (Option.some.inj e).symm) (fun c fz e => by cases e))
            obtain ⟨c0, c1, c2, c3, c4, c5, c6, c7, c8⟩ := tokBox K2.out
            clear b2 o2 HC
            go_wp2_with fail
            have hpc : pU = u8l (34 :: (Lx.qbs (Lx.bs t) ++ [34])) := by rw [← HX.out.2.2.2.2.1]; unfold pcA; rw [if_neg HK.out, if_pos HK2.out]
            have HPC := Lib.hid hpc
            have HS := Lib.hid (quote_any B2.out t HX.out.2.2.2.1 (by have h1 := HX.out.1; have h2 := HX.out.2.1; rw [h1] at h2; simp only [List.length_append, List.length_cons, List.length_nil] at h2 ⊢; omega))
            clear hpc
            refine HS.out.mono ?_; rintro e w4 ⟨⟨v, rfl⟩, b4, o4⟩
            have B4 := Lib.hid b4
            clear b4 o4 HS
            go_wp2_with fail
            refine ⟨⟨i + 1, by go_num, HLT.out, ?_⟩, by simp [intOf]; have := HLT.out; omega⟩
            rw [HX.out.1, HPC.out, if_neg HZ.out]
            exact (by rw [← List.append_assoc]; exact B4.out)
          · have xk2 : (k == 2) = false := beq_eq_false_iff_ne.2 (by assumption)
            have HK2 := Lib.hid hk2
            clear hk2
            have HK := Lib.hid hk
            clear hk
            have HC := Lib.hid (HBA.out.byte 32 (by have h1 := HX.out.1; have h2 := HX.out.2.1; rw [h1] at h2; simp only [List.length_append] at h2; omega))
            go_wp2_with fail
            rw [HWA.out, HNB.out]
            refine HC.out.mono ?_; rintro e w2 ⟨rfl, b2, o2⟩
            have B2 := Lib.hid b2
            have K2 := Lib.hid (show Blk w2 nb 31 #[.int .i64 k, .int .i64 p, .string t, .int .i64 m] from o2 nb _ HBX.out (fun e => HBN.out (Option.some.inj e).symm) (fun c fz e => by cases e))
            obtain ⟨c0, c1, c2, c3, c4, c5, c6, c7, c8⟩ := tokBox K2.out
            clear b2 o2 HC
            go_wp2_with fail
            have hpc : pU = u8l (Lx.bs t) := by rw [← HX.out.2.2.2.2.1]; unfold pcA; rw [if_neg HK.out, if_neg HK2.out]
            have HPC := Lib.hid hpc
            have HS := Lib.hid (B2.out.string (u8l (Lx.bs t)) (by have h1 := HX.out.1; have h2 := HX.out.2.1; rw [h1, hpc] at h2; simp only [List.length_append] at h2 ⊢; first | omega | (simp only [List.length_cons, List.length_nil] at h2 ⊢; omega)))
            rw [HX.out.2.2.2.2.2] at HS
            clear hpc
            refine HS.out.mono ?_; rintro e w4 ⟨⟨z, rfl⟩, b4, o4⟩
            have B4 := Lib.hid b4
            clear b4 o4 HS
            go_wp2_with fail
            refine ⟨⟨i + 1, by go_num, HLT.out, ?_⟩, by simp [intOf]; have := HLT.out; omega⟩
            rw [HX.out.1, HPC.out, if_neg HZ.out]
            exact (by rw [← List.append_assoc]; exact B4.out)
    · obtain rfl : i = n := by omega
      have x0 : ¬ (i : Int) < (i : Int) := by omega
      have x1 : decide (i < i) = false := decide_eq_false (by omega)
      have HS := Lib.hid (Tryd.Builder_String_any b b (u8l (prA F i)) wr HB.out.bld (by have := HB.out.lt; omega))
      clear hlt
      go_wp2_with fail
      refine HS.out.mono ?_; rintro e w4 ⟨rfl, t4⟩
      go_wp2_with fail
      go_ret
      exact ⟨rfl, H1.out.2 _ (HB.out.below.trans t4)⟩
end Go.Proofs.YtpccfimjkffkfaaDoor
