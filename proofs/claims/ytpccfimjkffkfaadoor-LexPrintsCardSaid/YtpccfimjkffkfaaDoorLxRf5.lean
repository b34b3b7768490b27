/- The document's own reader: text's walk. -/
import Derived.Test.YtpccfimjkffkfaaDoorLxRf4
namespace Go.Proofs.YtpccfimjkffkfaaDoor
set_option linter.unusedVariables false
set_option linter.unusedSimpArgs false
open Go.ChangeShapes Go.WideShapes Go.ChangeAt Go.RowKit
/-- Why what stands behind a backslash is no byte: which test says so. -/
inductive EscNo (r : ByteArray) : Prop
  | short (h : r.size < 3)
  | d0 (h : 3 ≤ r.size) (h0 : Lx.dig r[0]!.toNat = false)
  | d1 (h : 3 ≤ r.size) (h0 : Lx.dig r[0]!.toNat = true) (h1 : Lx.dig r[1]!.toNat = false)
  | d2 (h : 3 ≤ r.size) (h0 : Lx.dig r[0]!.toNat = true) (h1 : Lx.dig r[1]!.toNat = true) (h2 : Lx.dig r[2]!.toNat = false)
  | big (h : 3 ≤ r.size) (h0 : Lx.dig r[0]!.toNat = true) (h1 : Lx.dig r[1]!.toNat = true) (h2 : Lx.dig r[2]!.toNat = true) (h3 : 255 < Lx.num [r[0]!.toNat, r[1]!.toNat, r[2]!.toNat])
theorem bs_three {r : ByteArray} (h : 3 ≤ r.size) : Lx.bs r = r[0]!.toNat :: r[1]!.toNat :: r[2]!.toNat :: (Lx.bs r).drop 3 := by
  have e0 : r[0]! = r[0] := getElem!_pos r 0 (by omega)
  have e1 : r[1]! = r[1] := getElem!_pos r 1 (by omega)
  have e2 : r[2]! = r[2] := getElem!_pos r 2 (by omega)
  rw [e0, e1, e2]
  have h0 := Lx.drop_lt (s := r) (k := 0) (by omega)
  have h1 := Lx.drop_lt (s := r) (k := 1) (by omega)
  have h2 := Lx.drop_lt (s := r) (k := 2) (by omega)
  rw [List.drop_zero, h1, h2] at h0
  exact h0
theorem escD_cases (r : ByteArray) : (∃ v, Lx.escD (Lx.bs r) = some (v, 3) ∧ 3 ≤ r.size ∧ Lx.dig r[0]!.toNat = true ∧ Lx.dig r[1]!.toNat = true ∧ Lx.dig r[2]!.toNat = true ∧ Lx.num [r[0]!.toNat, r[1]!.toNat, r[2]!.toNat] = v ∧ v ≤ 255) ∨ (Lx.escD (Lx.bs r) = none ∧ EscNo r) := by
  by_cases h : 3 ≤ r.size
  · rw [bs_three h]
    unfold Lx.escD
    by_cases hc : Lx.dig r[0]!.toNat = true ∧ Lx.dig r[1]!.toNat = true ∧ Lx.dig r[2]!.toNat = true ∧ Lx.num [r[0]!.toNat, r[1]!.toNat, r[2]!.toNat] ≤ 255
    · simp only [if_pos hc]
      exact .inl ⟨_, rfl, h, hc.1, hc.2.1, hc.2.2.1, rfl, hc.2.2.2⟩
    · simp only [if_neg hc]
      refine .inr ⟨trivial, ?_⟩
      cases h0 : Lx.dig r[0]!.toNat with
      | false => exact .d0 h h0
      | true =>
        cases h1 : Lx.dig r[1]!.toNat with
        | false => exact .d1 h h0 h1
        | true =>
          cases h2 : Lx.dig r[2]!.toNat with
          | false => exact .d2 h h0 h1 h2
          | true => exact .big h h0 h1 h2 (Nat.lt_of_not_le fun e => hc ⟨h0, h1, h2, e⟩)
  · refine .inr ⟨?_, .short (by omega)⟩
    have hl := Lx.bs_len r
    rcases hb : Lx.bs r with _ | ⟨a, _ | ⟨b, _ | ⟨c, L⟩⟩⟩
    · rfl
    · rfl
    · rfl
    · rw [hb] at hl; simp only [List.length_cons] at hl; omega
/-- The number of the first three bytes. -/
theorem number_three {r : ByteArray} (h : 3 ≤ r.size) (h0 : Lx.dig r[0]!.toNat = true) (h1 : Lx.dig r[1]!.toNat = true) (h2 : Lx.dig r[2]!.toNat = true) (w : World) :
    Calls Tryd.prog 35 #[.string (r.extract 0 3)] w fun e w' => e = .returned (.int .i64 ((Lx.num [r[0]!.toNat, r[1]!.toNat, r[2]!.toNat] : Nat) : Int)) ∧ w' = w := by
  have hb : Lx.bs (r.extract 0 3) = [r[0]!.toNat, r[1]!.toNat, r[2]!.toNat] := by
    rw [Lx.bs_extract, List.drop_zero, bs_three h]
    rfl
  have hn := number_ref (r.extract 0 3) w (by rw [ByteArray.size_extract]; omega) (by
    rw [hb]
    intro c hc
    simp only [List.mem_cons, List.not_mem_nil, or_false] at hc
    rcases hc with rfl | rfl | rfl
    · exact h0
    · exact h1
    · exact h2)
  rw [hb] at hn
  have hs : Lx.num [r[0]!.toNat, r[1]!.toNat, r[2]!.toNat] ≤ 4611686018427387903 := by
    have a0 : 48 ≤ r[0]!.toNat ∧ r[0]!.toNat ≤ 57 := by simpa [Lx.dig] using h0
    have a1 : 48 ≤ r[1]!.toNat ∧ r[1]!.toNat ≤ 57 := by simpa [Lx.dig] using h1
    have a2 : 48 ≤ r[2]!.toNat ∧ r[2]!.toNat ≤ 57 := by simpa [Lx.dig] using h2
    simp only [Lx.num, List.foldl_cons, List.foldl_nil]
    omega
  unfold Lx.numI at hn
  rw [if_pos hs] at hn
  exact hn
theorem conv_one (W : World) (v : Nat) : (convert 40 9 (.slice (some ⟨W.heap.size, 0, none⟩) 1 1)).run Tryd.prog (W.alloc (.cells #[.int .u8 (v : Int)] 5)) = .ok (.string (Lx.str [v])) (W.alloc (.cells #[.int .u8 (v : Int)] 5)) :=
  run_convert_bytes_arg (W.alloc (.cells #[.int .u8 (v : Int)] 5)) 40 5 Tryd.underlying40 Tryd.underlying5 W.heap.size 0 1 1 [(v : Int)] rfl (fun i hi => by
    obtain rfl : i = 0 := by omega
    exact (Blk.new W 5 #[.int .u8 (v : Int)]).cell 0) 9 Tryd.underlying9
set_option maxRecDepth 100000 in
set_option maxHeartbeats 8000000 in
theorem text_ref (s : ByteArray) (w : World) (hs : s.size ≤ 16384) : Calls Tryd.prog 36 #[.string s] w (RTxR w (Lx.text (Lx.bs s))) := by
  obtain ⟨T, hT⟩ : ∃ T, Lx.text (Lx.bs s) = T := ⟨_, rfl⟩
  have HT := Lib.hid hT
  rw [hT]
  clear hT
  go_enter Tryd.func36, Tryd.ntmps36
  go_wp2_with fail
  go_loopw [5, 6] (fun v5 v6 wr => ∃ (o : ByteArray) (i : Nat), v5 = .string o ∧ v6 = .int .i64 i ∧ RTx w wr s o i) (fun v5 v6 _ => s.size - (intOf v6).toNat)
  case atStart => exact ⟨_, 0, rfl, rfl, Nat.zero_le _, by decide, by rw [List.drop_zero]; cases Lx.text (Lx.bs s) <;> simp [Lx.bs], Still.refl _⟩
  case round =>
    obtain ⟨o, i, rfl, rfl, htx⟩ := hrel
    have HX := Lib.hid htx
    have hi := htx.le
    have hof := htx.few
    clear htx
    by_cases hlt : i < s.size
    · have x0 : (i : Int) < (s.size : Int) := by omega
      have x1 : decide (i < s.size) = true := decide_eq_true hlt
      have eq1 : s[i]! = s[i] := getElem!_pos s i hlt
      obtain ⟨c, hc⟩ : ∃ c : Nat, s[i].toNat = c := ⟨_, rfl⟩
      have hc256 : c < 256 := by rw [← hc]; exact s[i].toNat_lt
      by_cases h34 : c = 34
      · subst h34
        have hd := Lx.text_done hlt hc HX.out.eq
        have HD := Lib.hid (HT.out.symm.trans hd)
        clear hd
        go_wp2_with fail
        go_ret3
        exact rtxR_yes HD.out HX.out.turn
      · have b34 : ((c : Int) == 34) = false := by rw [beq_eq_false_iff_ne]; omega
        have HC := Lib.hid (And.intro hc h34)
        by_cases h32 : c < 32
        · have hn := Lx.text_no hlt (by omega) (Lx.unit_low hlt (by omega)) HX.out.eq
          have HN := Lib.hid (HT.out.symm.trans hn)
          have y0 : (c : Int) < 32 := by omega
          have y1 : decide (c < 32) = true := decide_eq_true h32
          clear hn
          go_wp2_with fail
          go_ret3
          exact rtxR_no HN.out HX.out.turn
        · have y0 : ¬ (c : Int) < 32 := by omega
          have y1 : decide (c < 32) = false := decide_eq_false h32
          by_cases h92 : c = 92
          · subst h92
            obtain ⟨r, hr⟩ : ∃ r, s.extract (i + 1) s.size = r := ⟨_, rfl⟩
            have hbr : Lx.bs r = (Lx.bs s).drop (i + 1) := by rw [← hr]; exact bs_from _
            have hu : Lx.unit ((Lx.bs s).drop i) = (Lx.esc (Lx.bs r)).map (fun x => (x.1, x.2 + 1)) := by rw [hbr]; exact Lx.unit_esc hlt hc
            have x2 : (i : Int) + 1 ≤ (s.size : Int) := by omega
            have hrs : r.size = s.size - (i + 1) := by rw [← hr, ByteArray.size_extract]; omega
            have BN := Lib.hid (begins_any r { data := #[110] } wr)
            have BT := Lib.hid (begins_any r { data := #[116] } wr)
            have BB := Lib.hid (begins_any r { data := #[92] } wr)
            have BQ := Lib.hid (begins_any r { data := #[34] } wr)
            rw [show Lx.bs { data := #[110] } = [110] from rfl] at BN
            rw [show Lx.bs { data := #[116] } = [116] from rfl] at BT
            rw [show Lx.bs { data := #[92] } = [92] from rfl] at BB
            rw [show Lx.bs { data := #[34] } = [34] from rfl] at BQ
            cases bn : ([110] : List Nat).isPrefixOf (Lx.bs r) with
            | true =>
              rw [bn] at BN
              rw [Lx.esc_n bn] at hu
              have HU := Lib.hid hu
              clear hu bn hbr hrs
              go_wp2_with fail
              refine BN.out.mono ?_; rintro e w5 ⟨rfl, rfl⟩
              go_wp2_with fail
              exact ⟨⟨_, i + 2, rfl, by go_num, HX.out.go hlt (by omega) HU.out (Still.refl _) (Lx.bs_append _ _)⟩, by simp [intOf]; omega⟩
            | false =>
              rw [bn] at BN
              cases bt : ([116] : List Nat).isPrefixOf (Lx.bs r) with
              | true =>
                rw [bt] at BT
                rw [Lx.esc_t bt] at hu
                have HU := Lib.hid hu
                clear hu bn bt hbr hrs
                go_wp2_with fail
                refine BN.out.mono ?_; rintro e w5 ⟨rfl, rfl⟩
                go_wp2_with fail
                refine BT.out.mono ?_; rintro e w5 ⟨rfl, rfl⟩
                go_wp2_with fail
                exact ⟨⟨_, i + 2, rfl, by go_num, HX.out.go hlt (by omega) HU.out (Still.refl _) (Lx.bs_append _ _)⟩, by simp [intOf]; omega⟩
              | false =>
                rw [bt] at BT
                cases bb : ([92] : List Nat).isPrefixOf (Lx.bs r) with
                | true =>
                  rw [bb] at BB
                  rw [Lx.esc_b bb] at hu
                  obtain ⟨M, hM⟩ := Lx.pre1.1 bb
                  have hr1 : 1 ≤ r.size := by have := congrArg List.length hM; rw [Lx.bs_len] at this; simp only [List.length_cons] at this; omega
                  have x4 : (1 : Int) ≤ (r.size : Int) := by omega
                  have h1 : Lx.bs (o ++ r.extract 0 1) = Lx.bs o ++ [92] := by rw [Lx.bs_append, Lx.bs_extract, hM]; rfl
                  have HU := Lib.hid (And.intro hu h1)
                  clear hu bn bt bb hbr hrs hM h1
                  go_wp2_with fail
                  refine BN.out.mono ?_; rintro e w5 ⟨rfl, rfl⟩
                  go_wp2_with fail
                  refine BT.out.mono ?_; rintro e w5 ⟨rfl, rfl⟩
                  go_wp2_with fail
                  refine BB.out.mono ?_; rintro e w5 ⟨rfl, rfl⟩
                  go_wp2_with fail
                  exact ⟨⟨_, i + 2, rfl, by go_num, HX.out.go hlt (by omega) HU.out.1 (Still.refl _) HU.out.2⟩, by simp [intOf]; omega⟩
                | false =>
                  rw [bb] at BB
                  cases bq : ([34] : List Nat).isPrefixOf (Lx.bs r) with
                  | true =>
                    rw [bq] at BQ
                    rw [Lx.esc_q bq] at hu
                    obtain ⟨M, hM⟩ := Lx.pre1.1 bq
                    have hr1 : 1 ≤ r.size := by have := congrArg List.length hM; rw [Lx.bs_len] at this; simp only [List.length_cons] at this; omega
                    have x4 : (1 : Int) ≤ (r.size : Int) := by omega
                    have h1 : Lx.bs (o ++ r.extract 0 1) = Lx.bs o ++ [34] := by rw [Lx.bs_append, Lx.bs_extract, hM]; rfl
                    have HU := Lib.hid (And.intro hu h1)
                    clear hu bn bt bb bq hbr hrs hM h1
                    go_wp2_with fail
                    refine BN.out.mono ?_; rintro e w5 ⟨rfl, rfl⟩
                    go_wp2_with fail
                    refine BT.out.mono ?_; rintro e w5 ⟨rfl, rfl⟩
                    go_wp2_with fail
                    refine BB.out.mono ?_; rintro e w5 ⟨rfl, rfl⟩
                    go_wp2_with fail
                    refine BQ.out.mono ?_; rintro e w5 ⟨rfl, rfl⟩
                    go_wp2_with fail
                    exact ⟨⟨_, i + 2, rfl, by go_num, HX.out.go hlt (by omega) HU.out.1 (Still.refl _) HU.out.2⟩, by simp [intOf]; omega⟩
                  | false =>
                    rw [bq] at BQ
                    rw [Lx.esc_digits bn bt bb bq] at hu
                    rcases escD_cases r with ⟨v, he, h3, h0, h1, h2, hnum, hv⟩ | ⟨he, hno⟩
                    · rw [he] at hu
                      have HNM := Lib.hid (number_three h3 h0 h1 h2)
                      rw [hnum] at HNM
                      have HD0 := Lib.hid (rDigit_any r[0]!.toNat)
                      have HD1 := Lib.hid (rDigit_any r[1]!.toNat)
                      have HD2 := Lib.hid (rDigit_any r[2]!.toNat)
                      rw [h0] at HD0
                      rw [h1] at HD1
                      rw [h2] at HD2
                      have x5 : (3 : Int) ≤ (r.size : Int) := by omega
                      have x6 : (0 : Int) < (r.size : Int) := by omega
                      have x7 : (1 : Int) < (r.size : Int) := by omega
                      have x8 : (2 : Int) < (r.size : Int) := by omega
                      have e0 : r[0]! = r[0] := getElem!_pos r 0 (by omega)
                      have e1 : r[1]! = r[1] := getElem!_pos r 1 (by omega)
                      have e2 : r[2]! = r[2] := getElem!_pos r 2 (by omega)
                      have x9 : (v : Int) ≤ 255 := by omega
                      have xa : ((v : Nat) : Int) % 256 = (v : Int) := by omega
                      have z2 : ¬ 9223372036854775807 < o.size + (Lx.str [v]).size := by
                        have z1 : (Lx.str [v]).size = 1 := rfl
                        omega
                      have HU := Lib.hid (And.intro hu hv)
                      have hcv := fun W : World => conv_one W v
                      rw [e0] at HD0
                      rw [e1] at HD1
                      rw [e2] at HD2
                      clear hu bn bt bb bq hbr he h0 h1 h2 hnum hv
                      go_wp2_with fail
                      refine BN.out.mono ?_; rintro e w5 ⟨rfl, rfl⟩
                      go_wp2_with fail
                      refine BT.out.mono ?_; rintro e w5 ⟨rfl, rfl⟩
                      go_wp2_with fail
                      refine BB.out.mono ?_; rintro e w5 ⟨rfl, rfl⟩
                      go_wp2_with fail
                      refine BQ.out.mono ?_; rintro e w5 ⟨rfl, rfl⟩
                      go_wp2_with fail
                      refine (HD0.out _).mono ?_; rintro e w5 ⟨rfl, rfl⟩
                      go_wp2_with fail
                      refine (HD1.out _).mono ?_; rintro e w5 ⟨rfl, rfl⟩
                      go_wp2_with fail
                      refine (HD2.out _).mono ?_; rintro e w5 ⟨rfl, rfl⟩
                      go_wp2_with fail
                      refine (HNM.out _).mono ?_; rintro e w5 ⟨rfl, rfl⟩
                      go_wp2_with fail
                      refine (HNM.out _).mono ?_; rintro e w5 ⟨rfl, rfl⟩
                      go_wp2_with fail
                      have hb1 : Lx.bs (o ++ Lx.str [v]) = Lx.bs o ++ [v] := by
                        rw [Lx.bs_append, Lx.bs_str]
                        intro c hc
                        rw [List.mem_singleton.1 hc]
                        have := HU.out.2
                        omega
                      exact ⟨⟨_, i + 4, rfl, by go_num, HX.out.go hlt (by omega) HU.out.1 ((Still.refl _).alloc _) hb1⟩, by simp [intOf]; omega⟩
                    · rw [he] at hu
                      have hn := Lx.text_no hlt (by omega) hu HX.out.eq
                      have HN := Lib.hid (HT.out.symm.trans hn)
                      clear hu bn bt bb bq hbr he hn
                      cases hno with
                      | short h3 =>
                        have x5 : ¬ (3 : Int) ≤ (r.size : Int) := by omega
                        have x6 : decide (3 ≤ r.size) = false := decide_eq_false (by omega)
                        go_wp2_with fail
                        refine BN.out.mono ?_; rintro e w5 ⟨rfl, rfl⟩
                        go_wp2_with fail
                        refine BT.out.mono ?_; rintro e w5 ⟨rfl, rfl⟩
                        go_wp2_with fail
                        refine BB.out.mono ?_; rintro e w5 ⟨rfl, rfl⟩
                        go_wp2_with fail
                        refine BQ.out.mono ?_; rintro e w5 ⟨rfl, rfl⟩
                        go_wp2_with fail
                        go_ret3
                        exact rtxR_no HN.out HX.out.turn
                      | d0 h3 h0 =>
                        have x5 : (3 : Int) ≤ (r.size : Int) := by omega
                        have x6 : (0 : Int) < (r.size : Int) := by omega
                        have x7 : (1 : Int) < (r.size : Int) := by omega
                        have x8 : (2 : Int) < (r.size : Int) := by omega
                        have e0 : r[0]! = r[0] := getElem!_pos r 0 (by omega)
                        have e1 : r[1]! = r[1] := getElem!_pos r 1 (by omega)
                        have e2 : r[2]! = r[2] := getElem!_pos r 2 (by omega)
                        have HD0 := Lib.hid (rDigit_any r[0]!.toNat)
                        have HD1 := Lib.hid (rDigit_any r[1]!.toNat)
                        have HD2 := Lib.hid (rDigit_any r[2]!.toNat)
                        rw [h0, e0] at HD0
                        clear h0
                        go_wp2_with fail
                        refine BN.out.mono ?_; rintro e w5 ⟨rfl, rfl⟩
                        go_wp2_with fail
                        refine BT.out.mono ?_; rintro e w5 ⟨rfl, rfl⟩
                        go_wp2_with fail
                        refine BB.out.mono ?_; rintro e w5 ⟨rfl, rfl⟩
                        go_wp2_with fail
                        refine BQ.out.mono ?_; rintro e w5 ⟨rfl, rfl⟩
                        go_wp2_with fail
                        refine (HD0.out _).mono ?_; rintro e w5 ⟨rfl, rfl⟩
                        go_wp2_with fail
                        go_ret3
                        exact rtxR_no HN.out HX.out.turn
                      | d1 h3 h0 h1 =>
                        have x5 : (3 : Int) ≤ (r.size : Int) := by omega
                        have x6 : (0 : Int) < (r.size : Int) := by omega
                        have x7 : (1 : Int) < (r.size : Int) := by omega
                        have x8 : (2 : Int) < (r.size : Int) := by omega
                        have e0 : r[0]! = r[0] := getElem!_pos r 0 (by omega)
                        have e1 : r[1]! = r[1] := getElem!_pos r 1 (by omega)
                        have e2 : r[2]! = r[2] := getElem!_pos r 2 (by omega)
                        have HD0 := Lib.hid (rDigit_any r[0]!.toNat)
                        have HD1 := Lib.hid (rDigit_any r[1]!.toNat)
                        have HD2 := Lib.hid (rDigit_any r[2]!.toNat)
                        rw [h0, e0] at HD0
                        rw [h1, e1] at HD1
                        clear h0 h1
                        go_wp2_with fail
                        refine BN.out.mono ?_; rintro e w5 ⟨rfl, rfl⟩
                        go_wp2_with fail
                        refine BT.out.mono ?_; rintro e w5 ⟨rfl, rfl⟩
                        go_wp2_with fail
                        refine BB.out.mono ?_; rintro e w5 ⟨rfl, rfl⟩
                        go_wp2_with fail
                        refine BQ.out.mono ?_; rintro e w5 ⟨rfl, rfl⟩
                        go_wp2_with fail
                        refine (HD0.out _).mono ?_; rintro e w5 ⟨rfl, rfl⟩
                        go_wp2_with fail
                        refine (HD1.out _).mono ?_; rintro e w5 ⟨rfl, rfl⟩
                        go_wp2_with fail
                        go_ret3
                        exact rtxR_no HN.out HX.out.turn
                      | d2 h3 h0 h1 h2 =>
                        have x5 : (3 : Int) ≤ (r.size : Int) := by omega
                        have x6 : (0 : Int) < (r.size : Int) := by omega
                        have x7 : (1 : Int) < (r.size : Int) := by omega
                        have x8 : (2 : Int) < (r.size : Int) := by omega
                        have e0 : r[0]! = r[0] := getElem!_pos r 0 (by omega)
                        have e1 : r[1]! = r[1] := getElem!_pos r 1 (by omega)
                        have e2 : r[2]! = r[2] := getElem!_pos r 2 (by omega)
                        have HD0 := Lib.hid (rDigit_any r[0]!.toNat)
                        have HD1 := Lib.hid (rDigit_any r[1]!.toNat)
                        have HD2 := Lib.hid (rDigit_any r[2]!.toNat)
                        rw [h0, e0] at HD0
                        rw [h1, e1] at HD1
                        rw [h2, e2] at HD2
                        clear h0 h1 h2
                        go_wp2_with fail
                        refine BN.out.mono ?_; rintro e w5 ⟨rfl, rfl⟩
                        go_wp2_with fail
                        refine BT.out.mono ?_; rintro e w5 ⟨rfl, rfl⟩
                        go_wp2_with fail
                        refine BB.out.mono ?_; rintro e w5 ⟨rfl, rfl⟩
                        go_wp2_with fail
                        refine BQ.out.mono ?_; rintro e w5 ⟨rfl, rfl⟩
                        go_wp2_with fail
                        refine (HD0.out _).mono ?_; rintro e w5 ⟨rfl, rfl⟩
                        go_wp2_with fail
                        refine (HD1.out _).mono ?_; rintro e w5 ⟨rfl, rfl⟩
                        go_wp2_with fail
                        refine (HD2.out _).mono ?_; rintro e w5 ⟨rfl, rfl⟩
                        go_wp2_with fail
                        go_ret3
                        exact rtxR_no HN.out HX.out.turn
                      | big h3 h0 h1 h2 h4 =>
                        have HNM := Lib.hid (number_three h3 h0 h1 h2)
                        obtain ⟨v, hv⟩ : ∃ v, Lx.num [r[0]!.toNat, r[1]!.toNat, r[2]!.toNat] = v := ⟨_, rfl⟩
                        rw [hv] at HNM h4
                        have y5 : ¬ (v : Int) ≤ 255 := by omega
                        have x5 : (3 : Int) ≤ (r.size : Int) := by omega
                        have x6 : (0 : Int) < (r.size : Int) := by omega
                        have x7 : (1 : Int) < (r.size : Int) := by omega
                        have x8 : (2 : Int) < (r.size : Int) := by omega
                        have e0 : r[0]! = r[0] := getElem!_pos r 0 (by omega)
                        have e1 : r[1]! = r[1] := getElem!_pos r 1 (by omega)
                        have e2 : r[2]! = r[2] := getElem!_pos r 2 (by omega)
                        have HD0 := Lib.hid (rDigit_any r[0]!.toNat)
                        have HD1 := Lib.hid (rDigit_any r[1]!.toNat)
                        have HD2 := Lib.hid (rDigit_any r[2]!.toNat)
                        rw [h0, e0] at HD0
                        rw [h1, e1] at HD1
                        rw [h2, e2] at HD2
                        clear h0 h1 h2 hv
                        go_wp2_with fail
                        refine BN.out.mono ?_; rintro e w5 ⟨rfl, rfl⟩
                        go_wp2_with fail
                        refine BT.out.mono ?_; rintro e w5 ⟨rfl, rfl⟩
                        go_wp2_with fail
                        refine BB.out.mono ?_; rintro e w5 ⟨rfl, rfl⟩
                        go_wp2_with fail
                        refine BQ.out.mono ?_; rintro e w5 ⟨rfl, rfl⟩
                        go_wp2_with fail
                        refine (HD0.out _).mono ?_; rintro e w5 ⟨rfl, rfl⟩
                        go_wp2_with fail
                        refine (HD1.out _).mono ?_; rintro e w5 ⟨rfl, rfl⟩
                        go_wp2_with fail
                        refine (HD2.out _).mono ?_; rintro e w5 ⟨rfl, rfl⟩
                        go_wp2_with fail
                        refine (HNM.out _).mono ?_; rintro e w5 ⟨rfl, rfl⟩
                        go_wp2_with fail
                        go_ret3
                        exact rtxR_no HN.out HX.out.turn
          · have b92 : ((c : Int) == 92) = false := by rw [beq_eq_false_iff_ne]; omega
            have hu : Lx.unit ((Lx.bs s).drop i) = some (c, 1) := by rw [← hc]; exact Lx.unit_plain hlt (by omega) (by omega)
            have HU := Lib.hid hu
            clear hu
            have HS := Lib.hid (bs_push1 (o := o) hlt)
            have x2 : (i : Int) + 1 ≤ (s.size : Int) := by omega
            have x3 : (i : Int) ≤ (i : Int) + 1 := by omega
            go_wp2_with fail
            exact ⟨⟨_, i + 1, rfl, by go_num, HX.out.go hlt (by omega) HU.out (Still.refl _) (by rw [HS.out, hc])⟩, by simp [intOf]; omega⟩
    · have x0 : ¬ (i : Int) < (s.size : Int) := by omega
      have x1 : decide (i < s.size) = false := decide_eq_false hlt
      have hn : T = none := by
        rw [← HT.out, HX.out.eq, Lx.drop_ge (by omega), Lx.text_nil]; rfl
      have HN := Lib.hid hn
      clear hn hlt
      go_wp2_with fail
      go_ret3
      exact rtxR_no HN.out HX.out.turn
end Go.Proofs.YtpccfimjkffkfaaDoor
