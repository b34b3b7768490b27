/- LexNumbers: its walk. -/
import Derived.Test.YtpccfimjkffkfaaDoorLxLives
import Derived.Test.YtpccfimjkffkfaaDoorLxPrintN
import Derived.Test.YtpccfimjkffkfaaDoorLxNumN
import Derived.LaidMore
import Derived.Lib.LaidTab
namespace Go.Proofs.YtpccfimjkffkfaaDoor
set_option linter.unusedVariables false
set_option linter.unusedSimpArgs false
open Go.ChangeShapes Go.WideShapes Go.ChangeAt Go.RowKit
abbrev Tab (w : World) : Prop := Lib.TabIs Tryd.prog w "internal/strconv.uint64pow10" .u64 Lib.pow10Tab
theorem Tab.below {w w' : World} (h : Tab w) (t : Below w.heap.size w w') : Tab w' := by
  unfold Tab Lib.TabIs World.var? at *
  obtain ⟨g, hg, hc⟩ := Option.bind_eq_some_iff.1 h
  rw [hg]
  show (match w'.heap[g]? with | some (.cells cs _ _) => some cs | _ => none) = _
  have hlt : g < w.heap.size := by
    rcases Nat.lt_or_ge g w.heap.size with h | h
    · exact h
    · rw [Array.getElem?_eq_none h] at hc; cases hc
  rw [t.block g hlt]
  exact hc
theorem numW_of {w : World} (h : Tab w) {n : Nat} (hn : n ≤ 9223372036854775807) : NumW w n := fun W hW =>
  (Tryd.strconv_FormatInt_10 (n : Int) (by omega) (by omega) W (h.below hW)).mono fun e w' ⟨h1, k, os, h2⟩ => by
    subst h2
    refine ⟨?_, grow_still W k os⟩
    rw [h1]
    unfold Lib.itoa
    rw [if_neg (by omega)]; rfl
set_option maxHeartbeats 4000000 in
theorem lexNumbers_n {a0 a1 : Int} {n z : Nat} (w : World) (hT : Tab w) (hn : n ≤ 9223372036854775807) (hz : z ≤ 50) (hz1 : max 0 (min a1 50) = (z : Int)) (ha : (0 ≤ a0 ∧ a0 = (n : Int)) ∨ (a0 < 0 ∧ -(a0 + 1) = (n : Int))) :
    Calls Tryd.prog 9 #[.int .i64 a0, .int .i64 a1] w fun e w' => e = .returned (.bool true) ∧ Below w.heap.size w w' := by
  obtain ⟨ts, hts⟩ : ∃ ts : List (Lx.Tok × Nat), ts = [(⟨1, [], n⟩, 0)] := ⟨_, rfl⟩
  have hpr : prT ts 1 = Lib.decDigits n := by rw [hts]; rfl
  have hdl : (Lib.decDigits n).length ≤ 19 := by
    have := Lx.dd_len2 18 n (by omega)
    simpa [Lx.dd] using this
  have hrow : TokRow (w.alloc (.cells #[.int .i64 1, .int .i64 0, .string ⟨#[]⟩, .int .i64 (n : Int)] 31)) w.heap.size (some ⟨w.heap.size, 0, none⟩) 1 1 ts := by
    have := World.ownsRow_lit (base := w.heap.size) (e := 31) (size := 4) w #[.int .i64 1, .int .i64 0, .string ⟨#[]⟩, .int .i64 (n : Int)] 1 (Nat.le_refl _) (by decide) rfl
    rw [hts]
    exact this
  have tA : Still w (w.alloc (.cells #[.int .i64 1, .int .i64 0, .string ⟨#[]⟩, .int .i64 (n : Int)] 31)) := (Still.refl w).alloc _
  have HP := Lib.hid (printN_any hrow (by rw [hts]; rfl) (by rw [hts]; intro x hx; rw [List.mem_singleton.1 hx]; exact ⟨fun h => (by cases h), fun _ => numW_of (hT.below tA.below) hn⟩) (by rw [hpr]; omega) (by decide))
  rw [hpr] at HP
  have hdd : Lx.bs ⟨(Lib.decDigits n).toArray⟩ = Lx.dd n := rfl
  have hdz : (⟨(Lib.decDigits n).toArray⟩ : ByteArray).size = (Lib.decDigits n).length := by show (Lib.decDigits n).toArray.size = _; rw [List.size_toArray]
  obtain ⟨s1, hs1⟩ : ∃ s1 : ByteArray, (⟨(Lib.decDigits n).toArray⟩ : ByteArray) = s1 := ⟨_, rfl⟩
  rw [hs1] at HP hdd hdz
  have HT := Lib.hid tA
  have HD := Lib.hid (And.intro hdd (show s1.size ≤ 19 by omega))
  have HN := Lib.hid (And.intro hn hz)
  clear hts hpr hdl hrow tA hdd hdz hs1 hT
  rcases ha with ⟨h0, rfl⟩ | ⟨h0, ha⟩
  · have x1 : ¬ (n : Int) < 0 := by omega
    have x2 : decide ((n : Int) < 0) = false := decide_eq_false x1
    clear h0
    go_enter Tryd.func9, Tryd.ntmps9
    go_wp2_with fail
    refine HP.out.mono ?_; rintro e w2 ⟨rfl, t2⟩
    have T2 := Lib.hid (HT.out.trans t2)
    clear t2 HP HT
    go_wp2_with fail
    go_loopw [5, 21] (fun v5 v21 wr => ∃ (t : ByteArray) (j : Nat), v5 = .string t ∧ v21 = .int .i64 j ∧ j ≤ z ∧ Lx.bs t = Lx.nums j n ∧ t.size ≤ 19 + j ∧ wr = w2) (fun v5 v21 _ => z - (intOf v21).toNat)
    case atStart => exact ⟨s1, 0, rfl, rfl, Nat.zero_le _, HD.out.1, HD.out.2, rfl⟩
    case round =>
      obtain ⟨t, j, rfl, rfl, hj, ht, hsz, hwr⟩ := hrel
      subst hwr
      have HT := Lib.hid (And.intro ht hj)
      have hzz := HN.out.2
      clear ht hj
      by_cases hlt : j < z
      · have x3 : decide ((j : Int) < z) = true := decide_eq_true (by omega)
        have HLT := Lib.hid hlt
        clear hlt
        go_wp2_with fail
        have hlt := HLT.out
        refine ⟨⟨_, j + 1, rfl, by go_num, hlt, ?_, ?_, trivial⟩, by simp [intOf]; omega⟩
        · rw [Lx.bs_append, HT.out.1]
          unfold Lx.nums
          rw [List.replicate_succ]
          rfl
        · rw [ByteArray.size_append]
          show 1 + t.size ≤ _
          omega
      · obtain rfl : j = z := by have := HT.out.2; omega
        have x3 : decide ((j : Int) < j) = false := decide_eq_false (by omega)
        have hL : Lx.bs ({ data := #[32] } ++ t) = 32 :: Lx.nums j n := by rw [Lx.bs_append, HT.out.1]; rfl
        have hlex := Lx.lex_nums hzz (show n < 10 ^ 19 by have := HN.out.1; omega)
        rw [← hL] at hlex
        have hnn := HN.out.1
        by_cases hbig : n ≤ 4611686018427387903
        · have x4 : ¬ (4611686018427387904 : Int) ≤ n := by omega
          have x5 : decide ((4611686018427387904 : Int) ≤ n) = false := decide_eq_false x4
          rw [if_pos hbig] at hlex
          have HL := Lib.hid hlex
          clear hlex hL hbig hlt
          go_wp2_with fail
          refine (lexOk (n := 1) HL.out rfl).mono ?_; rintro e w3 ⟨t3, a, d, rfl, o3⟩
          obtain ⟨g, x, rfl, hx, g0, g1, g2, g3, g4⟩ := tokRow_cells o3 rfl (i := 0) (by decide)
          cases hx
          have e1 : w3.cell? ⟨g, 0, none⟩ = some (.int .i64 1) := g1
          have e2 : w3.cell? ⟨g, 1, none⟩ = some (.int .i64 1) := g2
          have e3 : w3.cell? ⟨g, 2, none⟩ = some (.string { data := #[] }) := g3
          have e4 : w3.cell? ⟨g, 3, none⟩ = some (.int .i64 n) := g4
          have T3 := Lib.hid (T2.out.trans t3)
          clear t3 o3 g0 g1 g2 g3 g4
          go_wp2_with fail
          refine (lives_any _).mono ?_; rintro e w4 ⟨rfl, t4⟩
          go_wp2_with fail
          go_ret
          exact ⟨rfl, (T3.out.trans t4).below⟩
        · have x4 : (4611686018427387904 : Int) ≤ n := by omega
          have x5 : decide ((4611686018427387904 : Int) ≤ n) = true := decide_eq_true x4
          rw [if_neg hbig] at hlex
          have HL := Lib.hid hlex
          clear hlex hL hbig hlt
          go_wp2_with fail
          refine (lexNo HL.out).mono ?_; rintro e w3 ⟨t3, rfl⟩
          have T3 := Lib.hid (T2.out.trans t3)
          clear t3
          go_wp2_with fail
          refine (lives_any _).mono ?_; rintro e w4 ⟨rfl, t4⟩
          go_wp2_with fail
          go_ret
          exact ⟨rfl, (T3.out.trans t4).below⟩
  · have x1 : a0 < 0 := h0
    have x2 : decide (a0 < 0) = true := decide_eq_true x1
    clear h0
    go_enter Tryd.func9, Tryd.ntmps9
    go_wp2_with fail
    refine HP.out.mono ?_; rintro e w2 ⟨rfl, t2⟩
    have T2 := Lib.hid (HT.out.trans t2)
    clear t2 HP HT
    go_wp2_with fail
    go_loopw [5, 21] (fun v5 v21 wr => ∃ (t : ByteArray) (j : Nat), v5 = .string t ∧ v21 = .int .i64 j ∧ j ≤ z ∧ Lx.bs t = Lx.nums j n ∧ t.size ≤ 19 + j ∧ wr = w2) (fun v5 v21 _ => z - (intOf v21).toNat)
    case atStart => exact ⟨s1, 0, rfl, rfl, Nat.zero_le _, HD.out.1, HD.out.2, rfl⟩
    case round =>
      obtain ⟨t, j, rfl, rfl, hj, ht, hsz, hwr⟩ := hrel
      subst hwr
      have HT := Lib.hid (And.intro ht hj)
      have hzz := HN.out.2
      clear ht hj
      by_cases hlt : j < z
      · have x3 : decide ((j : Int) < z) = true := decide_eq_true (by omega)
        have HLT := Lib.hid hlt
        clear hlt
        go_wp2_with fail
        have hlt := HLT.out
        refine ⟨⟨_, j + 1, rfl, by go_num, hlt, ?_, ?_, trivial⟩, by simp [intOf]; omega⟩
        · rw [Lx.bs_append, HT.out.1]
          unfold Lx.nums
          rw [List.replicate_succ]
          rfl
        · rw [ByteArray.size_append]
          show 1 + t.size ≤ _
          omega
      · obtain rfl : j = z := by have := HT.out.2; omega
        have x3 : decide ((j : Int) < j) = false := decide_eq_false (by omega)
        have hL : Lx.bs ({ data := #[32] } ++ t) = 32 :: Lx.nums j n := by rw [Lx.bs_append, HT.out.1]; rfl
        have hlex := Lx.lex_nums hzz (show n < 10 ^ 19 by have := HN.out.1; omega)
        rw [← hL] at hlex
        have hnn := HN.out.1
        by_cases hbig : n ≤ 4611686018427387903
        · have x4 : ¬ (4611686018427387904 : Int) ≤ n := by omega
          have x5 : decide ((4611686018427387904 : Int) ≤ n) = false := decide_eq_false x4
          rw [if_pos hbig] at hlex
          have HL := Lib.hid hlex
          clear hlex hL hbig hlt
          go_wp2_with fail
          refine (lexOk (n := 1) HL.out rfl).mono ?_; rintro e w3 ⟨t3, a, d, rfl, o3⟩
          obtain ⟨g, x, rfl, hx, g0, g1, g2, g3, g4⟩ := tokRow_cells o3 rfl (i := 0) (by decide)
          cases hx
          have e1 : w3.cell? ⟨g, 0, none⟩ = some (.int .i64 1) := g1
          have e2 : w3.cell? ⟨g, 1, none⟩ = some (.int .i64 1) := g2
          have e3 : w3.cell? ⟨g, 2, none⟩ = some (.string { data := #[] }) := g3
          have e4 : w3.cell? ⟨g, 3, none⟩ = some (.int .i64 n) := g4
          have T3 := Lib.hid (T2.out.trans t3)
          clear t3 o3 g0 g1 g2 g3 g4
          go_wp2_with fail
          refine (lives_any _).mono ?_; rintro e w4 ⟨rfl, t4⟩
          go_wp2_with fail
          go_ret
          exact ⟨rfl, (T3.out.trans t4).below⟩
        · have x4 : (4611686018427387904 : Int) ≤ n := by omega
          have x5 : decide ((4611686018427387904 : Int) ≤ n) = true := decide_eq_true x4
          rw [if_neg hbig] at hlex
          have HL := Lib.hid hlex
          clear hlex hL hbig hlt
          go_wp2_with fail
          refine (lexNo HL.out).mono ?_; rintro e w3 ⟨t3, rfl⟩
          have T3 := Lib.hid (T2.out.trans t3)
          clear t3
          go_wp2_with fail
          refine (lives_any _).mono ?_; rintro e w4 ⟨rfl, t4⟩
          go_wp2_with fail
          go_ret
          exact ⟨rfl, (T3.out.trans t4).below⟩
theorem lexNumbers_w (a0 a1 : Int) (w : World) (hT : Tab w) (hw : (Lit.int .i64 a0).wf = true) : Calls Tryd.prog 9 #[.int .i64 a0, .int .i64 a1] w fun e w' => e = .returned (.bool true) ∧ Below w.heap.size w w' := by
  have hb : -9223372036854775808 ≤ a0 ∧ a0 ≤ 9223372036854775807 := by simpa [Lit.wf, IntKind.min, IntKind.max, IntKind.signed, IntKind.bits] using hw
  obtain ⟨z, hz⟩ : ∃ z : Nat, max 0 (min a1 50) = (z : Int) := ⟨(max 0 (min a1 50)).toNat, by omega⟩
  by_cases h : 0 ≤ a0
  · exact lexNumbers_n (n := a0.toNat) w hT (by omega) (by omega) hz (.inl ⟨h, by omega⟩)
  · exact lexNumbers_n (n := (-(a0 + 1)).toNat) w hT (by omega) (by omega) hz (.inr ⟨by omega, by omega⟩)
/-- What the row lays gives the table. -/
theorem tab_of {w : World} (h : laidMetH Tryd.prog Rows.lexNumbersRow.laid w) : Tab w := by
  rw [MakeChecks.laidMetH_plain _ _ _ (by kernel_rfl)] at h
  obtain ⟨ps, ⟨g0, t0, cs0, f0, p0, q0, hg0, ht0, hv0, hd0, ⟨g1, t1, cs1, f1, p1, q1, hg1, ht1, hv1, hd1, ⟨g2, t2, cs2, f2, p2, q2, hg2, ht2, hv2, hd2, _, _⟩, _⟩, _⟩, _, _⟩ := h
  obtain rfl := Option.some.inj ((show Tryd.prog.globalNamed "internal/strconv.uint64pow10" = some 0 by kernel_rfl).symm.trans hg2)
  obtain rfl := Option.some.inj ((show (Tryd.prog.globals[0]?).map (·.type) = some 88 by kernel_rfl).symm.trans ht2)
  have e := Lib.cells_of_tab (zs := Lib.pow10Tab) (k := .u64) Tryd.underlying88 Tryd.underlying79 (by kernel_rfl) (by kernel_rfl) hd2
  unfold Tab Lib.TabIs
  rw [hv2, ← e]
end Go.Proofs.YtpccfimjkffkfaaDoor
