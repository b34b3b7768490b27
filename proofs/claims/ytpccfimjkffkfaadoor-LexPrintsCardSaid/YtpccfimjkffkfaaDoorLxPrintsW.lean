/- LexPrints: its walk. -/
import Derived.Test.YtpccfimjkffkfaaDoorLxPrintA
import Derived.Test.YtpccfimjkffkfaaDoorOpenToks
namespace Go.Proofs.YtpccfimjkffkfaaDoor
set_option linter.unusedVariables false
set_option linter.unusedSimpArgs false
open Go.ChangeShapes Go.WideShapes Go.ChangeAt Go.RowKit
theorem ToksA.less {w : World} {a : Option Addr} {n m : Nat} {F : Nat → TA} (h : ToksA w a n F) (hm : m ≤ n) : ToksA w a m F :=
  ⟨fun h0 => by
    obtain ⟨b, off, e, hb, hc⟩ := h.at_ (by omega)
    exact ⟨b, off, e, hb, fun i hi => hc i (by omega)⟩, fun i hi => h.num i (by omega)⟩
theorem prA_small {F : Nat → TA} : ∀ n, ∀ c ∈ prA F n, c < 256
  | 0, c, h => by cases h
  | n + 1, c, h => by
    rw [prA] at h
    rcases List.mem_append.1 h with h | h
    · exact prA_small n c h
    · rcases List.mem_append.1 h with h | h
      · split at h
        · cases h
        · rw [List.mem_singleton.1 h]; decide
      · unfold pcA at h
        split at h
        · exact Lx.byte_lt _ c h
        · split at h
          · rcases List.mem_cons.1 h with rfl | h
            · decide
            · rcases List.mem_append.1 h with h | h
              · exact Lx.qbs_small (Lx.byte_lt _) c h
              · rw [List.mem_singleton.1 h]; decide
          · exact Lx.byte_lt _ c h
set_option maxRecDepth 100000 in
set_option maxHeartbeats 8000000 in
theorem lexPrints_w (a : Option Addr) (len cap : Nat) (F : Nat → TA) (w : World) (h : IsToks w a len cap F) (hT : Tab w) : Calls Tryd.prog 4 #[.slice a len cap] w fun e w' => e = .returned (.bool true) ∧ Below w.heap.size w w' := by
  have hcut : ∃ n, n ≤ 200 ∧ n ≤ len ∧ ((len ≤ 200 ∧ n = len) ∨ (200 < len ∧ n = 200)) := by
    by_cases h2 : len ≤ 200
    · exact ⟨len, h2, Nat.le_refl _, .inl ⟨h2, rfl⟩⟩
    · exact ⟨200, Nat.le_refl _, by omega, .inr ⟨by omega, rfl⟩⟩
  obtain ⟨n, hn, hnl, hcase⟩ := hcut
  have hcl := h.le
  have HTK := Lib.hid (And.intro (h.toks.less hnl) hT)
  have hx : ((len : Int) ≤ 200 ∧ ¬ (200 : Int) < (len : Int) ∧ decide (200 < len) = false ∧ n = len) ∨ ((200 : Int) < (len : Int) ∧ decide (200 < len) = true ∧ (200 : Int) ≤ (cap : Int) ∧ n = 200) := by
    rcases hcase with ⟨h1, h2⟩ | ⟨h1, h2⟩
    · exact .inl ⟨by omega, by omega, decide_eq_false (by omega), h2⟩
    · exact .inr ⟨by omega, decide_eq_true h1, by omega, h2⟩
  clear h hT hcase
  rcases hx with ⟨x0, x1, x2, hnn⟩ | ⟨x0, x1, x2, hnn⟩
  · subst hnn
    go_enter Tryd.func4, Tryd.ntmps4
    go_wp2_with fail
    go_loopw [12] (fun v wr => ∃ i : Nat, v = .int .i64 i ∧ i ≤ n ∧ Still w wr ∧ ∀ j, j < i → (F j).t.size ≤ 3000) (fun v _ => n - (intOf v).toNat)
    case atStart => exact ⟨0, rfl, Nat.zero_le _, Still.refl _, fun j hj => absurd hj (Nat.not_lt_zero _)⟩
    case round =>
      obtain ⟨i, rfl, hi, hst, hsz⟩ := hrel
      have HS := Lib.hid hst
      have HZ := Lib.hid hsz
      clear hst hsz
      by_cases hlt : i < n
      · obtain ⟨b, off, rfl, hb, hcs⟩ := (HTK.out.1.still HS.out).at_ (by omega)
        obtain ⟨c0, c1, c2, c3⟩ := hcs i hlt
        obtain ⟨x, hx⟩ : ∃ x, F i = x := ⟨_, rfl⟩
        rw [hx] at c0 c1 c2 c3
        obtain ⟨k, p, t, m⟩ := x
        simp only at c0 c1 c2 c3
        have y0 : (i : Int) < (n : Int) := by omega
        have y1 : decide (i < n) = true := decide_eq_true hlt
        have HX := Lib.hid hx
        have HLT := Lib.hid hlt
        have HA := Lib.hid (HS.out.alloc (.cells #[.int .i64 k, .int .i64 p, .string t, .int .i64 m] 31))
        clear hcs hx hlt
        by_cases hbig : 3000 < t.size
        · have z0 : (3000 : Int) < (t.size : Int) := by omega
          have z1 : decide (3000 < t.size) = true := decide_eq_true hbig
          go_wp2_with fail
          refine (lives_any _).mono ?_; rintro e w5 ⟨rfl, t5⟩
          go_wp2_with fail
          go_ret
          exact ⟨rfl, (HA.out.trans t5).below⟩
        · have z0 : ¬ (3000 : Int) < (t.size : Int) := by omega
          have z1 : decide (3000 < t.size) = false := decide_eq_false hbig
          have HBG := Lib.hid (Nat.not_lt.1 hbig)
          clear hbig
          go_wp2_with fail
          have hlt := HLT.out
          exact ⟨⟨i + 1, by go_num, hlt, HA.out, fun j hj => by
            by_cases hji : j < i
            · exact HZ.out j hji
            · obtain rfl : j = i := by omega
              rw [HX.out]; exact HBG.out⟩, by simp [intOf]; omega⟩
      · obtain rfl : i = n := by omega
        have y0 : ¬ (i : Int) < (i : Int) := by omega
        have y1 : decide (i < i) = false := decide_eq_false (by omega)
        have hT1 := HTK.out.1.still HS.out
        have HP := Lib.hid (printA_any (c := cap) hT1 (by omega) HZ.out (HTK.out.2.below HS.out.below))
        have HT1 := Lib.hid hT1
        clear hT1 hlt
        obtain ⟨X, hX⟩ : ∃ X, (⟨(u8l (prA F i)).toArray⟩ : ByteArray) = X := ⟨_, rfl⟩
        have hXb : Lx.bs X = prA F i := by rw [← hX]; exact Lx.bs_str (prA_small _)
        rw [hX] at HP
        have HXB := Lib.hid hXb
        have hq : (X.toList == X.toList) = true := by rw [Lx.toList_beq]; exact decide_eq_true rfl
        clear hX hXb
        go_wp2_with fail
        refine HP.out.mono ?_; rintro e w5 ⟨rfl, t5⟩
        have T5 := Lib.hid (HS.out.trans t5)
        have HR := Lib.hid (printA_ref (c := cap) (HT1.out.still t5) (by omega) HZ.out)
        clear t5
        go_wp2_with fail
        refine HR.out.mono ?_; rintro e w6 ⟨⟨o, rfl, ho⟩, t6⟩
        obtain rfl : X = o := Lx.bs_inj (HXB.out.trans ho.symm)
        have T6 := Lib.hid (T5.out.trans t6)
        clear t6 ho
        go_wp2_with fail
        refine (lives_any _).mono ?_; rintro e w7 ⟨rfl, t7⟩
        go_wp2_with fail
        go_ret
        exact ⟨rfl, (T6.out.trans t7).below⟩
  · subst hnn
    go_enter Tryd.func4, Tryd.ntmps4
    go_wp2_with fail
    go_loopw [12] (fun v wr => ∃ i : Nat, v = .int .i64 i ∧ i ≤ 200 ∧ Still w wr ∧ ∀ j, j < i → (F j).t.size ≤ 3000) (fun v _ => 200 - (intOf v).toNat)
    case atStart => exact ⟨0, rfl, Nat.zero_le _, Still.refl _, fun j hj => absurd hj (Nat.not_lt_zero _)⟩
    case round =>
      obtain ⟨i, rfl, hi, hst, hsz⟩ := hrel
      have HS := Lib.hid hst
      have HZ := Lib.hid hsz
      clear hst hsz
      by_cases hlt : i < 200
      · obtain ⟨b, off, rfl, hb, hcs⟩ := (HTK.out.1.still HS.out).at_ (by omega)
        obtain ⟨c0, c1, c2, c3⟩ := hcs i hlt
        obtain ⟨x, hx⟩ : ∃ x, F i = x := ⟨_, rfl⟩
        rw [hx] at c0 c1 c2 c3
        obtain ⟨k, p, t, m⟩ := x
        simp only at c0 c1 c2 c3
        have y0 : (i : Int) < (200 : Int) := by omega
        have y1 : decide (i < 200) = true := decide_eq_true hlt
        have HX := Lib.hid hx
        have HLT := Lib.hid hlt
        have HA := Lib.hid (HS.out.alloc (.cells #[.int .i64 k, .int .i64 p, .string t, .int .i64 m] 31))
        clear hcs hx hlt
        by_cases hbig : 3000 < t.size
        · have z0 : (3000 : Int) < (t.size : Int) := by omega
          have z1 : decide (3000 < t.size) = true := decide_eq_true hbig
          go_wp2_with fail
          refine (lives_any _).mono ?_; rintro e w5 ⟨rfl, t5⟩
          go_wp2_with fail
          go_ret
          exact ⟨rfl, (HA.out.trans t5).below⟩
        · have z0 : ¬ (3000 : Int) < (t.size : Int) := by omega
          have z1 : decide (3000 < t.size) = false := decide_eq_false hbig
          have HBG := Lib.hid (Nat.not_lt.1 hbig)
          clear hbig
          go_wp2_with fail
          have hlt := HLT.out
          exact ⟨⟨i + 1, by go_num, hlt, HA.out, fun j hj => by
            by_cases hji : j < i
            · exact HZ.out j hji
            · obtain rfl : j = i := by omega
              rw [HX.out]; exact HBG.out⟩, by simp [intOf]; omega⟩
      · obtain rfl : i = 200 := by omega
        have y0 : ¬ (200 : Int) < (200 : Int) := by omega
        have y1 : decide (200 < 200) = false := decide_eq_false (by omega)
        have hT1 := HTK.out.1.still HS.out
        have HP := Lib.hid (printA_any (c := cap) hT1 (by omega) HZ.out (HTK.out.2.below HS.out.below))
        have HT1 := Lib.hid hT1
        clear hT1 hlt
        obtain ⟨X, hX⟩ : ∃ X, (⟨(u8l (prA F 200)).toArray⟩ : ByteArray) = X := ⟨_, rfl⟩
        have hXb : Lx.bs X = prA F 200 := by rw [← hX]; exact Lx.bs_str (prA_small _)
        rw [hX] at HP
        have HXB := Lib.hid hXb
        have hq : (X.toList == X.toList) = true := by rw [Lx.toList_beq]; exact decide_eq_true rfl
        clear hX hXb
        go_wp2_with fail
        refine HP.out.mono ?_; rintro e w5 ⟨rfl, t5⟩
        have T5 := Lib.hid (HS.out.trans t5)
        have HR := Lib.hid (printA_ref (c := cap) (HT1.out.still t5) (by omega) HZ.out)
        clear t5
        go_wp2_with fail
        refine HR.out.mono ?_; rintro e w6 ⟨⟨o, rfl, ho⟩, t6⟩
        obtain rfl : X = o := Lx.bs_inj (HXB.out.trans ho.symm)
        have T6 := Lib.hid (T5.out.trans t6)
        clear t6 ho
        go_wp2_with fail
        refine (lives_any _).mono ?_; rintro e w7 ⟨rfl, t7⟩
        go_wp2_with fail
        go_ret
        exact ⟨rfl, (T6.out.trans t7).below⟩
/-- What the row lays gives the table. -/
theorem tab_ofP {w : World} (h : laidMetH Tryd.prog Rows.lexPrintsRow.laid w) : Tab w := by
  rw [MakeChecks.laidMetH_plain _ _ _ (by kernel_rfl)] at h
  obtain ⟨ps, ⟨g0, t0, cs0, f0, p0, q0, hg0, ht0, hv0, hd0, ⟨g1, t1, cs1, f1, p1, q1, hg1, ht1, hv1, hd1, ⟨g2, t2, cs2, f2, p2, q2, hg2, ht2, hv2, hd2, _, _⟩, _⟩, _⟩, _, _⟩ := h
  obtain rfl := Option.some.inj ((show Tryd.prog.globalNamed "internal/strconv.uint64pow10" = some 0 by kernel_rfl).symm.trans hg2)
  obtain rfl := Option.some.inj ((show (Tryd.prog.globals[0]?).map (·.type) = some 88 by kernel_rfl).symm.trans ht2)
  have e := Lib.cells_of_tab (zs := Lib.pow10Tab) (k := .u64) Tryd.underlying88 Tryd.underlying79 (by kernel_rfl) (by kernel_rfl) hd2
  unfold Tab Lib.TabIs
  rw [hv2, ← e]
end Go.Proofs.YtpccfimjkffkfaaDoor
