/- LexReads: its walk. -/
import Derived.Test.YtpccfimjkffkfaaDoorLxRf8
import Derived.Test.YtpccfimjkffkfaaDoorLxSame
import Derived.Test.YtpccfimjkffkfaaDoorLxTextsW
namespace Go.Proofs.YtpccfimjkffkfaaDoor
set_option linter.unusedVariables false
set_option linter.unusedSimpArgs false
open Go.ChangeShapes Go.WideShapes Go.ChangeAt Go.RowKit
theorem refOk {w : World} {s : ByteArray} {l : List (Lx.Tok × Nat)} {n : Nat} (h : Lx.lex (Lx.bs s) = .ok l) (hn : n = l.length) :
    Calls Tryd.prog 14 #[.string s] w fun e w' => Still w w' ∧ ∃ (a : Option Addr) (c : Nat), e = .returned (.tuple #[.slice a n c, .int .i64 0, .int .i64 0]) ∧ TokRow w' w.heap.size a n c l :=
  (lex_ref w s).mono fun e w' ⟨h1, h2⟩ => by
    subst hn
    rw [h] at h2
    exact ⟨h1, h2⟩
theorem refNo {w : World} {s : ByteArray} {x k : Nat} (h : Lx.lex (Lx.bs s) = .error (x, k)) :
    Calls Tryd.prog 14 #[.string s] w fun e w' => Still w w' ∧ e = .returned (.tuple #[.slice none 0 0, .int .i64 (x : Int), .int .i64 (k : Int)]) :=
  (lex_ref w s).mono fun e w' ⟨h1, h2⟩ => by
    rw [h] at h2
    exact ⟨h1, h2⟩
theorem tokRow_nil (w : World) (B : Nat) : TokRow w B none 0 0 [] := ⟨rfl, .inl ⟨rfl, rfl⟩⟩
set_option maxRecDepth 100000 in
set_option maxHeartbeats 4000000 in
theorem lexReads_w (s0 : ByteArray) (w : World) : Calls Tryd.prog 3 #[.string s0] w fun e w' => e = .returned (.bool true) ∧ Below w.heap.size w w' := by
  obtain ⟨s, hs, hcut⟩ := cut_any s0 w
  have HC := Lib.hid hcut
  clear hcut
  go_enter Tryd.func3, Tryd.ntmps3
  go_wp2_with fail
  refine HC.out.mono ?_; rintro e w1 ⟨rfl, rfl⟩
  cases hl : Lx.lex (Lx.bs s) with
  | error e0 =>
    obtain ⟨x, k⟩ := e0
    have HL := Lib.hid hl
    have e1 : ((x : Int) == (x : Int)) = true := beq_self_eq_true _
    have e2 : ((k : Int) == (k : Int)) = true := beq_self_eq_true _
    clear hl
    go_wp2_with fail
    refine (lexNo HL.out).mono ?_; rintro e w2 ⟨t2, rfl⟩
    go_wp2_with fail
    refine (refNo HL.out).mono ?_; rintro e w3 ⟨t3, rfl⟩
    have T3 := Lib.hid (t2.trans t3)
    clear t2 t3
    go_wp2_with fail
    refine (same_any (tokRow_nil _ 0) (tokRow_nil _ 0) rfl (by decide)).mono ?_; rintro e w4 ⟨rfl, t4⟩
    have T4 := Lib.hid (T3.out.trans t4)
    clear t4
    go_wp2_with fail
    refine (lives_any _).mono ?_; rintro e w5 ⟨rfl, t5⟩
    go_wp2_with fail
    go_ret
    exact ⟨rfl, (T4.out.trans t5).below⟩
  | ok l =>
    have HL := Lib.hid hl
    have hlen : l.length ≤ 3000 := by
      have := Lx.lex_len_le hl
      rw [Lx.bs_len] at this
      omega
    clear hl
    go_wp2_with fail
    refine (lexOk (n := l.length) HL.out rfl).mono ?_; rintro e w2 ⟨t2, a, c, rfl, o2⟩
    have T2 := Lib.hid t2
    have O2 := Lib.hid o2
    clear t2 o2
    go_wp2_with fail
    refine (refOk (n := l.length) HL.out rfl).mono ?_; rintro e w3 ⟨t3, a', c', rfl, o3⟩
    have O2' := Lib.hid (O2.out.still t3)
    have O3 := Lib.hid o3
    have T3 := Lib.hid (T2.out.trans t3)
    clear t3 o3
    go_wp2_with fail
    refine (same_any O2'.out O3.out rfl (by omega)).mono ?_; rintro e w4 ⟨rfl, t4⟩
    have T4 := Lib.hid (T3.out.trans t4)
    clear t4
    go_wp2_with fail
    refine (lives_any _).mono ?_; rintro e w5 ⟨rfl, t5⟩
    go_wp2_with fail
    go_ret
    exact ⟨rfl, (T4.out.trans t5).below⟩
end Go.Proofs.YtpccfimjkffkfaaDoor
