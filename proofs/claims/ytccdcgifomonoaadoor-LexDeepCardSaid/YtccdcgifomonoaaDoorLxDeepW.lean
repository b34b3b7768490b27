/- LexDeep: its walk. -/
import Derived.Test.YtccdcgifomonoaaDoorLxLives
import Derived.Test.YtccdcgifomonoaaDoorLxDeepN
namespace Go.Proofs.YtccdcgifomonoaaDoor
set_option linter.unusedVariables false
set_option linter.unusedSimpArgs false
open Go.ChangeShapes Go.WideShapes Go.ChangeAt Go.RowKit
set_option maxHeartbeats 4000000 in
theorem lexDeep_pc {a0 a1 : Int} {p c m : Nat} (w : World) (hp : max 1 (min a0 300) = (p : Int)) (hp1 : 1 ≤ p) (hp2 : p ≤ 300) (hc : max 0 (min a1 300) = (c : Int)) (hc2 : c ≤ 300) (hm : min (c : Int) (p : Int) = (m : Int)) :
    Calls Tryd.prog 10 #[.int .i64 a0, .int .i64 a1] w fun e w' => e = .returned (.bool true) ∧ Below w.heap.size w w' := by
  have HP := Lib.hid hp
  have HC := Lib.hid hc
  have HM := Lib.hid hm
  have hmp : m ≤ p ∧ m ≤ c := by omega
  have HMP := Lib.hid hmp
  clear hp hc hm hmp
  go_enter Tryd.func10, Tryd.ntmps10
  go_wp2_with fail
  rw [HP.out, HC.out]
  go_loopw [5, 16] (fun v5 v16 wr => ∃ (t : ByteArray) (i : Nat), v5 = .string t ∧ v16 = .int .i64 i ∧ i ≤ p ∧ Lx.bs t = [97, 32] ++ Lx.rep Lx.opn i ∧ wr = w) (fun v5 v16 _ => p - (intOf v16).toNat)
  case atStart => exact ⟨_, 0, rfl, rfl, Nat.zero_le _, rfl, rfl⟩
  case round =>
    obtain ⟨t, i, rfl, rfl, hi, ht, hwr⟩ := hrel
    subst hwr
    have hsz : t.size = 2 + 5 * i := by rw [← Lx.bs_len, ht, List.length_append, Lx.rep_len]; simp [Lx.opn]; omega
    have HT := Lib.hid (And.intro ht hi)
    clear ht hi
    by_cases hlt : i < p
    · have x1 : decide ((i : Int) < p) = true := decide_eq_true (by omega)
      have HLT := Lib.hid hlt
      clear hlt
      go_wp2_with fail
      have hlt := HLT.out
      refine ⟨⟨_, i + 1, rfl, by go_num, hlt, ?_, trivial⟩, by simp [intOf]; omega⟩
      rw [Lx.bs_append, HT.out.1, Lx.rep_succ, List.append_assoc]
      rfl
    · obtain rfl : i = p := by have := HT.out.2; omega
      have x1 : decide ((i : Int) < i) = false := decide_eq_false (by omega)
      clear hlt
      go_wp2_with fail
      rw [HM.out]
      go_loopw [5, 24] (fun v5 v24 wq => ∃ (t : ByteArray) (j : Nat), v5 = .string t ∧ v24 = .int .i64 j ∧ j ≤ m ∧ Lx.bs t = [97, 32] ++ (Lx.rep Lx.opn i ++ Lx.rep Lx.cls j) ∧ wq = wr) (fun v5 v24 _ => m - (intOf v24).toNat)
      case atStart => exact ⟨t, 0, rfl, rfl, Nat.zero_le _, by rw [HT.out.1]; simp [Lx.rep], rfl⟩
      case round =>
        obtain ⟨t, j, rfl, rfl, hj, ht, hwr⟩ := hrel
        subst hwr
        have hsz : t.size = 2 + 5 * i + 3 * j := by rw [← Lx.bs_len, ht, List.length_append, List.length_append, Lx.rep_len, Lx.rep_len]; simp [Lx.opn, Lx.cls]; omega
        have HT := Lib.hid (And.intro ht hj)
        clear ht hj
        by_cases hlt : j < m
        · have x1 : decide ((j : Int) < m) = true := decide_eq_true (by omega)
          have HLT := Lib.hid hlt
          have hmm := HMP.out
          clear hlt
          go_wp2_with fail
          have hlt := HLT.out
          refine ⟨⟨_, j + 1, rfl, by go_num, hlt, ?_, trivial⟩, by simp [intOf]; omega⟩
          rw [Lx.bs_append, HT.out.1, Lx.rep_succ Lx.cls, List.append_assoc, List.append_assoc]
          rfl
        · obtain rfl : j = m := by have := HT.out.2; omega
          have x2 : decide ((j : Int) < j) = false := decide_eq_false (by omega)
          clear hlt
          have hmm := HMP.out
          have hd : Lx.bs (t ++ { data := #[99] }) = Lx.deep i j := by
            rw [Lx.bs_append, HT.out.1]
            unfold Lx.deep
            simp only [List.append_assoc, List.cons_append, List.nil_append]
            rfl
          have hcl := HM.out
          by_cases hlt : c < i
          · have hji : j < i := by omega
            have x3 : decide ((c : Int) < i) = true := decide_eq_true (by omega)
            have x4 : (c : Int) < i := by omega
            have HL := Lib.hid (show Lx.lex (Lx.bs (t ++ { data := #[99] })) = .error (10, 2) by rw [hd]; exact Lx.lex_deep_less hji hp2)
            clear hd hcl hlt hji
            go_wp2_with fail
            refine (lexNo HL.out).mono ?_; rintro e w1 ⟨t1, rfl⟩
            have T1 := Lib.hid t1
            clear t1
            go_wp2_with fail
            refine (lives_any _).mono ?_; rintro e w2 ⟨rfl, t2⟩
            go_wp2_with fail
            go_ret
            exact ⟨rfl, (T1.out.trans t2).below⟩
          · have hji : j = i := by omega
            have x3 : decide ((c : Int) < i) = false := decide_eq_false (by omega)
            have x4 : ¬ (c : Int) < i := by omega
            have HL := Lib.hid (show Lx.lex (Lx.bs (t ++ { data := #[99] })) = .ok [(⟨3, [97], 0⟩, 0), (⟨3, [99], 0⟩, 8 * i + 2)] by rw [hd, hji]; exact Lx.lex_deep_all hp1 hp2)
            clear hd hcl hlt hji
            go_wp2_with fail
            refine (lexOk (n := 2) HL.out rfl).mono ?_; rintro e w1 ⟨t1, a, d, rfl, o1⟩
            obtain ⟨g, x, rfl, hx, g0, g1, g2, g3, g4⟩ := tokRow_cells o1 rfl (i := 1) (by decide)
            cases hx
            have e2 : w1.cell? ⟨g, 6, none⟩ = some (.string { data := #[99] }) := g3
            have T1 := Lib.hid t1
            clear t1 o1 g0 g1 g2 g3 g4
            go_wp2_with fail
            refine (lives_any _).mono ?_; rintro e w2 ⟨rfl, t2⟩
            go_wp2_with fail
            go_ret
            exact ⟨rfl, (T1.out.trans t2).below⟩
theorem lexDeep_w (a0 a1 : Int) (w : World) : Calls Tryd.prog 10 #[.int .i64 a0, .int .i64 a1] w fun e w' => e = .returned (.bool true) ∧ Below w.heap.size w w' := by
  obtain ⟨p, hp⟩ : ∃ p : Nat, max 1 (min a0 300) = (p : Int) := ⟨(max 1 (min a0 300)).toNat, by omega⟩
  obtain ⟨c, hc⟩ : ∃ c : Nat, max 0 (min a1 300) = (c : Int) := ⟨(max 0 (min a1 300)).toNat, by omega⟩
  exact lexDeep_pc (m := min c p) w hp (by omega) (by omega) hc (by omega) (by omega)
end Go.Proofs.YtccdcgifomonoaaDoor
