/- The law's lives. -/
import Derived.Test.YtpccfimjkffkfaaDoorLxPrint
namespace Go.Proofs.YtpccfimjkffkfaaDoor
set_option linter.unusedVariables false
set_option linter.unusedSimpArgs false
open Go.ChangeShapes Go.WideShapes Go.ChangeAt Go.RowKit
def src1 : ByteArray := ⟨#[118, 97, 108, 32, 120, 61, 126, 49]⟩
def src2 : ByteArray := ⟨#[40, 42, 32, 97, 32, 40, 42, 32, 98, 32, 42, 41, 32, 42, 41, 32, 99]⟩
def src3 : ByteArray := ⟨#[52, 54, 49, 49, 54, 56, 54, 48, 49, 56, 52, 50, 55, 51, 56, 55, 57, 48, 52]⟩
def toks1 : List (Lx.Tok × Nat) := [(⟨6, [118, 97, 108], 0⟩, 0), (⟨3, [120], 0⟩, 4), (⟨6, [61], 0⟩, 5), (⟨6, [126], 0⟩, 6), (⟨1, [], 1⟩, 7)]
def toks2 : List (Lx.Tok × Nat) := [(⟨3, [99], 0⟩, 16)]
theorem closes2 : Lx.closes 1 [32, 97, 32, 40, 42, 32, 98, 32, 42, 41, 32, 42, 41, 32, 99] = some 13 := by
  rw [Lx.closes_other _ (by simp) (by simp), Lx.closes_other _ (by simp) (by simp), Lx.closes_other _ (by simp) (by simp), Lx.closes_open, Lx.closes_other _ (by simp) (by simp), Lx.closes_other _ (by simp) (by simp), Lx.closes_other _ (by simp) (by simp), Lx.closes_shut, Lx.closes_other _ (by simp) (by simp), Lx.closes_shut, Lx.closes_zero]
  rfl
theorem lex1 : Lx.lex (Lx.bs src1) = .ok toks1 := by kernel_rfl
theorem lex2 : Lx.lex (Lx.bs src2) = .ok toks2 := by kernel_rfl
theorem lex3 : Lx.lex (Lx.bs src3) = .error (10, 0) := by kernel_rfl
theorem pr1 : prN toks1 5 = [118, 97, 108, 32, 120, 32, 61, 32, 126, 32, 49] := by kernel_rfl
theorem lexOk {w : World} {s : ByteArray} {l : List (Lx.Tok × Nat)} {n : Nat} (h : Lx.lex (Lx.bs s) = .ok l) (hn : n = l.length) :
    Calls Tryd.prog 13 #[.string s] w fun e w' => Still w w' ∧ ∃ (a : Option Addr) (c : Nat), e = .returned (.tuple #[.slice a n c, .int .i64 0, .int .i64 0]) ∧ TokRow w' w.heap.size a n c l :=
  (lex_any w s).mono fun e w' ⟨h1, h2⟩ => by
    subst hn
    rw [h] at h2
    exact ⟨h1, h2⟩
theorem lexNo {w : World} {s : ByteArray} {x k : Nat} (h : Lx.lex (Lx.bs s) = .error (x, k)) :
    Calls Tryd.prog 13 #[.string s] w fun e w' => Still w w' ∧ e = .returned (.tuple #[.slice none 0 0, .int .i64 (x : Int), .int .i64 (k : Int)]) :=
  (lex_any w s).mono fun e w' ⟨h1, h2⟩ => by
    rw [h] at h2
    exact ⟨h1, h2⟩
set_option maxHeartbeats 4000000 in
theorem lives_any (w : World) : Calls Tryd.prog 16 #[] w fun e w' => e = .returned (.bool true) ∧ Still w w' := by
  go_enter Tryd.func16, Tryd.ntmps16
  go_wp2_with fail
  refine (lexOk (s := src1) (n := 5) lex1 rfl).mono ?_; rintro e w1 ⟨t1, a, c, rfl, o1⟩
  obtain ⟨g, x, rfl, hx, g0, g1, g2, g3, g4⟩ := tokRow_cells o1 rfl (i := 4) (by decide)
  obtain ⟨g', y, hg, hy, p0, p1, p2, p3, p4⟩ := tokRow_cells o1 rfl (i := 3) (by decide)
  cases hg
  cases hx
  cases hy
  have T1 := Lib.hid t1
  have O1 := Lib.hid o1
  have G4 := Lib.hid (And.intro g0 (And.intro g4 p3))
  clear t1 o1 g0 g1 g2 g3 g4 p0 p1 p2 p3 p4
  go_wp2_with fail
  refine (lexOk (s := src2) (n := 1) lex2 rfl).mono ?_; rintro e w2 ⟨t2, b, d, rfl, o2⟩
  obtain ⟨h, z, rfl, hz, q0, q1, q2, q3, q4⟩ := tokRow_cells o2 rfl (i := 0) (by decide)
  cases hz
  have T2 := Lib.hid t2
  have Q2 := Lib.hid (And.intro q0 q2)
  clear t2 o2 q0 q1 q2 q3 q4
  go_wp2_with fail
  refine (lexNo (s := src3) lex3).mono ?_; rintro e w3 ⟨t3, rfl⟩
  have T13 : Still w1 w3 := T2.out.trans t3
  have e1 : w3.cell? ⟨g, 19, none⟩ = some (.int .i64 1) := (T13.cell G4.out.1).trans G4.out.2.1
  have e2 : w3.cell? ⟨g, 14, none⟩ = some (.string { data := #[126] }) := (T13.cell G4.out.1).trans G4.out.2.2
  have e3 : w3.cell? ⟨h, 1, none⟩ = some (.int .i64 16) := (t3.cell Q2.out.1).trans Q2.out.2
  have O3 := Lib.hid (own_keep O1.out T13 fun k e f => f)
  have T3 : Hid (Still w w3) := T1.out.trans T13
  clear t3 T13
  go_wp2_with fail
  refine (printEasy_any O3.out rfl (by simp [toks1, Easy]) (by rw [pr1]; decide) (by decide)).mono ?_; rintro e w4 ⟨rfl, t4⟩
  rw [pr1]
  go_wp2_with fail
  go_ret
  exact ⟨rfl, T3.out.trans t4⟩
end Go.Proofs.YtpccfimjkffkfaaDoor
