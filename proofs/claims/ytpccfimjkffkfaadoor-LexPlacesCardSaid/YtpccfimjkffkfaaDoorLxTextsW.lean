/- LexTexts: its walk. -/
import Derived.Test.YtpccfimjkffkfaaDoorLxLives
import Derived.Test.YtpccfimjkffkfaaDoorLxPrintT
import Derived.Test.YtpccfimjkffkfaaDoorLxTextN
namespace Go.Proofs.YtpccfimjkffkfaaDoor
set_option linter.unusedVariables false
set_option linter.unusedSimpArgs false
open Go.ChangeShapes Go.WideShapes Go.ChangeAt Go.RowKit
theorem cut_any (s : ByteArray) (w : World) : ∃ s' : ByteArray, s'.size ≤ 3000 ∧ Calls Tryd.prog 12 #[.string s] w fun e w' => e = .returned (.string s') ∧ w' = w := by
  by_cases h : 3000 < s.size
  · refine ⟨s.extract 0 3000, by rw [ByteArray.size_extract]; omega, ?_⟩
    have x1 : (3000 : Int) < (s.size : Int) := by omega
    have x2 : decide ((3000 : Int) < (s.size : Int)) = true := decide_eq_true x1
    go_enter Tryd.func12, Tryd.ntmps12
    go_wp2_with fail
    go_ret
    exact ⟨rfl, rfl⟩
  · refine ⟨s, by omega, ?_⟩
    have x1 : ¬ (3000 : Int) < (s.size : Int) := by omega
    have x2 : decide ((3000 : Int) < (s.size : Int)) = false := decide_eq_false x1
    go_enter Tryd.func12, Tryd.ntmps12
    go_wp2_with fail
    go_ret
    exact ⟨rfl, rfl⟩
set_option maxHeartbeats 4000000 in
theorem lexTexts_w (s0 : ByteArray) (w : World) : Calls Tryd.prog 8 #[.string s0] w fun e w' => e = .returned (.bool true) ∧ Below w.heap.size w w' := by
  obtain ⟨s, hs, hcut⟩ := cut_any s0 w
  have HC := Lib.hid hcut
  obtain ⟨ts, hts⟩ : ∃ ts : List (Lx.Tok × Nat), ts = [(⟨2, Lx.bs s, 0⟩, 0)] := ⟨_, rfl⟩
  have hpr : prT ts 1 = u8l (34 :: (Lx.qbs (Lx.bs s) ++ [34])) := by rw [hts]; rfl
  have hlen : (prT ts 1).length ≤ 100000 := by
    have := Lx.qbs_len (Lx.bs s)
    rw [Lx.bs_len] at this
    rw [hpr]
    simp only [u8l, List.length_map, List.length_cons, List.length_append, List.length_nil]
    omega
  have hL : Lx.lex (Lx.bs ⟨(prT ts 1).toArray⟩) = .ok [(⟨2, Lx.bs s, 0⟩, 0)] := by
    rw [hpr]
    show Lx.lex (Lx.bs (Lx.str (34 :: (Lx.qbs (Lx.bs s) ++ [34])))) = _
    rw [Lx.bs_str, Lx.lex_text (Lx.byte_lt s) (by rw [Lx.bs_len]; exact hs)]
    intro c hc
    rcases List.mem_cons.1 hc with rfl | hc
    · decide
    · rcases List.mem_append.1 hc with hc | hc
      · exact Lx.qbs_small (Lx.byte_lt s) c hc
      · rw [List.mem_singleton.1 hc]; decide
  have hrow : TokRow (w.alloc (.cells #[.int .i64 2, .int .i64 0, .string s, .int .i64 0] 31)) w.heap.size (some ⟨w.heap.size, 0, none⟩) 1 1 ts := by
    have := World.ownsRow_lit (base := w.heap.size) (e := 31) (size := 4) w #[.int .i64 2, .int .i64 0, .string s, .int .i64 0] 1 (Nat.le_refl _) (by decide) rfl
    rw [hts]
    show World.ownsRow _ _ _ _ _ _ [.int .i64 2, .int .i64 0, .string (Lx.str (Lx.bs s)), .int .i64 0]
    rw [Lx.str_bs]
    exact this
  have HP := Lib.hid (printT_any hrow (by rw [hts]; rfl) (by rw [hts]; intro x hx; rw [List.mem_singleton.1 hx]; exact ⟨fun _ => ⟨by rw [Lx.bs_len]; exact hs, Lx.byte_lt s⟩, fun h => by cases h⟩) hlen (by decide))
  have HL := Lib.hid hL
  have HB := Lib.hid (Lx.str_bs s)
  have HT : Hid (Still w (w.alloc (.cells #[.int .i64 2, .int .i64 0, .string s, .int .i64 0] 31))) := (Still.refl w).alloc _
  clear hcut hts hpr hlen hL hrow hs
  go_enter Tryd.func8, Tryd.ntmps8
  go_wp2_with fail
  refine HC.out.mono ?_; rintro e w1 ⟨rfl, rfl⟩
  go_wp2_with fail
  refine HP.out.mono ?_; rintro e w2 ⟨rfl, t2⟩
  have T2 := Lib.hid (HT.out.trans t2)
  clear t2 HP HT HC
  go_wp2_with fail
  refine (lexOk (n := 1) HL.out rfl).mono ?_; rintro e w3 ⟨t3, a, d, rfl, o3⟩
  obtain ⟨g, x, rfl, hx, g0, g1, g2, g3, g4⟩ := tokRow_cells o3 rfl (i := 0) (by decide)
  cases hx
  rw [HB.out] at g3
  have e1 : w3.cell? ⟨g, 0, none⟩ = some (.int .i64 2) := g1
  have e2 : w3.cell? ⟨g, 1, none⟩ = some (.int .i64 0) := g2
  have e3 : w3.cell? ⟨g, 2, none⟩ = some (.string s) := g3
  have e4 : w3.cell? ⟨g, 3, none⟩ = some (.int .i64 0) := g4
  have T3 := Lib.hid (T2.out.trans t3)
  clear t3 o3 g0 g1 g2 g3 g4
  go_wp2_with fail
  refine (lives_any _).mono ?_; rintro e w4 ⟨rfl, t4⟩
  go_wp2_with fail
  go_ret
  exact ⟨rfl, (T3.out.trans t4).below⟩
end Go.Proofs.YtpccfimjkffkfaaDoor
