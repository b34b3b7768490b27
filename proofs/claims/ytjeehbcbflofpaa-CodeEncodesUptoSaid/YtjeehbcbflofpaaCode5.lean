/- The reader over seven zeros. -/
import Derived.Test.YtjeehbcbflofpaaCode4
namespace Go.Proofs.Ytjeehbcbflofpaa
set_option linter.unusedVariables false
open Go.ChangeShapes Go.WideShapes Go.ChangeAt Go.RowKit
open M (W)
def M.zs : List Int := [0, 0, 0, 0, 0, 0, 0]
theorem getRes_z {k : Nat} (hk : k < 7) : getRes M.zs k = .tuple #[.int .i64 0, .int .i64 (k + 1 : Nat), .bool true] := by
  have : k = 0 ∨ k = 1 ∨ k = 2 ∨ k = 3 ∨ k = 4 ∨ k = 5 ∨ k = 6 := by omega
  rcases this with rfl | rfl | rfl | rfl | rfl | rfl | rfl
  all_goals (unfold getRes; simp [M.zs, M.got, M.zag, M.stop, M.fits, M.val])
structure RdZ (w : World) (g b off cap k : Nat) : Prop where
  blk : Blk w g 69 #[.slice (some ⟨b, off, none⟩) 7 cap, .int .i64 k, .int .i64 0, .bool false]
  ne : b ≠ g
  lt : b < w.heap.size
  cells : ∀ j, j < 7 → w.cell? ⟨b, off + j, none⟩ = some (.int .u8 (M.zs.getD j 0))
theorem RdZ.still {w w' : World} {g b off cap k : Nat} (h : RdZ w g b off cap k) (t : Still w w') : RdZ w' g b off cap k :=
  ⟨t.blk h.blk, h.ne, Nat.lt_of_lt_of_le h.lt t.size, fun j hj => (t.cell (p := ⟨b, off + j, none⟩) h.lt).trans (h.cells j hj)⟩
set_option maxRecDepth 100000 in
theorem rlong_z {w : World} {g b off cap k : Nat} (h : RdZ w g b off cap k) (hk : k < 7) :
    Calls Try.prog 94 #[.pointer (some ⟨g, 0, none⟩)] w fun e w' => e = .returned (.int .i64 0) ∧ RdZ w' g b off cap (k + 1) ∧ Turn (fun i => i = g) w w' := by
  have HG : Hid (∀ W, Still w W → Calls Try.prog 104 #[.slice (some ⟨b, off, none⟩) 7 cap, .int .i64 k] W fun e w' => e = .returned (.tuple #[.int .i64 0, .int .i64 (k + 1 : Nat), .bool true]) ∧ w' = W) := fun W hW => by
    have := get_in b off cap M.zs k W (by decide) hk (h.still hW).cells (by decide)
    rwa [getRes_z hk] at this
  have c0 := h.blk.cell 0
  have c1 := h.blk.cell 1
  have c2 := h.blk.cell 2
  have c3 := h.blk.cell 3
  simp only [List.getElem?_toArray, List.getElem?_cons_succ, List.getElem?_cons_zero] at c0 c1 c2 c3
  have f1 := h.blk.frozen 1
  have hl := h.blk.lt
  have H := Lib.hid h
  clear h
  go_enter Try.func94, Try.ntmps94
  go_wp2_with fail
  go_quiet ((go_at_call 104; exact Calls.quiet_of_same (HG.out _ ((Still.refl _).drewN _))))
  go_wp2_with fail
  go_ret
  refine ⟨rfl, ⟨?_, H.out.ne, by simpa using H.out.lt, fun j hj => ?_⟩, ((Turn.refl (fun i => i = g) w).drewN nq).setCell (p := ⟨g, 1, none⟩) (fun _ => rfl) _⟩
  · exact (H.out.blk.drewN nq).set 1 _
  · exact (Turn.cell (((Turn.refl (fun i => i = g) w).drewN nq).setCell (p := ⟨g, 1, none⟩) (fun _ => rfl) _) (p := ⟨b, off + j, none⟩) H.out.lt H.out.ne).trans (H.out.cells j hj)
theorem rnumber_z {w : World} {g b off cap k : Nat} (h : RdZ w g b off cap k) (hk : k < 7) :
    Calls Try.prog 71 #[.pointer (some ⟨g, 0, none⟩)] w fun e w' => e = .returned (.int .i64 0) ∧ RdZ w' g b off cap (k + 1) ∧ Turn (fun i => i = g) w w' := by
  have H := Lib.hid (rlong_z h hk)
  clear h
  go_enter Try.func71, Try.ntmps71
  go_wp2_with fail
  refine H.out.mono ?_; rintro e w1 ⟨rfl, h1, t1⟩
  go_wp2_with fail
  go_ret
  exact ⟨rfl, h1, t1⟩
set_option maxRecDepth 100000 in
theorem rlength_z (most : Nat) {w : World} {g b off cap k : Nat} (h : RdZ w g b off cap k) (hk : k < 7) (hm : most ≤ 1000000) :
    Calls Try.prog 89 #[.pointer (some ⟨g, 0, none⟩), .int .i64 most] w fun e w' => e = .returned (.int .i64 0) ∧ RdZ w' g b off cap (k + 1) ∧ Turn (fun i => i = g) w w' := by
  have H := Lib.hid (rnumber_z h hk)
  clear h
  have x1 : decide ((most : Int) < 0) = false := decide_eq_false (by omega)
  go_enter Try.func89, Try.ntmps89
  go_wp2_with fail
  refine H.out.mono ?_; rintro e w1 ⟨rfl, h1, t1⟩
  have c0 := h1.blk.cell 0
  have c1 := h1.blk.cell 1
  simp only [List.getElem?_toArray, List.getElem?_cons_succ, List.getElem?_cons_zero] at c0 c1
  have hl := h1.blk.lt
  have H1 := Lib.hid (And.intro h1 t1)
  clear h1 t1
  have x2 : decide ((7 : Int) - ((k + 1 : Nat) : Int) < 0) = false := decide_eq_false (by omega)
  go_wp2_with fail
  go_quiet (fail)
  go_wp2_with fail
  go_ret
  exact ⟨rfl, H1.out.1.still ((Still.refl w1).drewN nq), H1.out.2.drewN nq⟩
theorem takeT_z (most : Nat) (f : Value) {w : World} {g b off cap k : Nat} (h : RdZ w g b off cap k) (hk : k < 7) (hm : most ≤ 1000000) :
    Calls Try.prog 63 #[.pointer (some ⟨g, 0, none⟩), .int .i64 most, f] w fun e w' => e = .returned (.slice none 0 0) ∧ RdZ w' g b off cap (k + 1) ∧ Turn (fun i => i = g) w w' := by
  have H := Lib.hid (rlength_z most h hk hm)
  clear h
  go_enter Try.func63, Try.ntmps63
  go_wp2_with fail
  refine H.out.mono ?_; rintro e w1 ⟨rfl, h1, t1⟩
  go_wp2_with fail
  go_ret
  exact ⟨rfl, h1, t1⟩
theorem takeS_z (most : Nat) (f : Value) {w : World} {g b off cap k : Nat} (h : RdZ w g b off cap k) (hk : k < 7) (hm : most ≤ 1000000) :
    Calls Try.prog 65 #[.pointer (some ⟨g, 0, none⟩), .int .i64 most, f] w fun e w' => e = .returned (.slice none 0 0) ∧ RdZ w' g b off cap (k + 1) ∧ Turn (fun i => i = g) w w' := by
  have H := Lib.hid (rlength_z most h hk hm)
  clear h
  go_enter Try.func65, Try.ntmps65
  go_wp2_with fail
  refine H.out.mono ?_; rintro e w1 ⟨rfl, h1, t1⟩
  go_wp2_with fail
  go_ret
  exact ⟨rfl, h1, t1⟩
theorem takeX_z (most : Nat) (f : Value) {w : World} {g b off cap k : Nat} (h : RdZ w g b off cap k) (hk : k < 7) (hm : most ≤ 1000000) :
    Calls Try.prog 67 #[.pointer (some ⟨g, 0, none⟩), .int .i64 most, f] w fun e w' => e = .returned (.slice none 0 0) ∧ RdZ w' g b off cap (k + 1) ∧ Turn (fun i => i = g) w w' := by
  have H := Lib.hid (rlength_z most h hk hm)
  clear h
  go_enter Try.func67, Try.ntmps67
  go_wp2_with fail
  refine H.out.mono ?_; rintro e w1 ⟨rfl, h1, t1⟩
  go_wp2_with fail
  go_ret
  exact ⟨rfl, h1, t1⟩
theorem takeF_z (most : Nat) (f : Value) {w : World} {g b off cap k : Nat} (h : RdZ w g b off cap k) (hk : k < 7) (hm : most ≤ 1000000) :
    Calls Try.prog 69 #[.pointer (some ⟨g, 0, none⟩), .int .i64 most, f] w fun e w' => e = .returned (.slice none 0 0) ∧ RdZ w' g b off cap (k + 1) ∧ Turn (fun i => i = g) w w' := by
  have H := Lib.hid (rlength_z most h hk hm)
  clear h
  go_enter Try.func69, Try.ntmps69
  go_wp2_with fail
  refine H.out.mono ?_; rintro e w1 ⟨rfl, h1, t1⟩
  go_wp2_with fail
  go_ret
  exact ⟨rfl, h1, t1⟩
end Go.Proofs.Ytjeehbcbflofpaa
