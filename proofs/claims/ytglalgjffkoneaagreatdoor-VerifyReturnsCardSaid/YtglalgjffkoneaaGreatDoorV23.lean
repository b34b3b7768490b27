/- Lemmas, put together: Vre0 Vre1. -/
import Derived.Test.YtglalgjffkoneaaGreatDoorV22
/- VerifyReturns: its walk, one of four ways. -/
namespace Go.Proofs.YtglalgjffkoneaaGreatDoor
set_option linter.unusedVariables false
set_option linter.unusedSimpArgs false
open Go.ChangeShapes Go.WideShapes Go.ChangeAt Go.RowKit
open Vf (K nth nth_nat tyAt atK isK numT oneT le beginK tsub RowK FitsK CalledK resT ObjK keepK KeepsK setK hasK)
set_option maxRecDepth 100000 in
set_option maxHeartbeats 8000000 in
theorem ret_0_n (u : Nat) (w : World) (ht : Tz w) (hr : Int.tmod (u : Int) 2 = 0) : Calls Tryz.prog 7 #[.int .u64 (u : Int), .bool false] w fun e w' => e = .returned (.bool true) ∧ Still w w' := by
  have HT : Hid (∀ W, Still w W → Tz W) := fun W t => ht.keep t (fun e => e)
  have hr2 : (u : Int) % 2 = 0 := by rw [← hr, Int.tmod_eq_emod_of_nonneg (by omega)]
  clear ht
  go_enter Tryz.func7, Tryz.ntmps7
  go_wp2_with fail
  refine (least_any _).mono ?_; rintro e w1 ⟨p, rfl, ha, t1, hp6⟩
  have H1 := Lib.hid (And.intro ha t1)
  have hp6' := Lib.hid hp6
  clear ha t1 hp6
  go_wp2_with (at_builtin; refine wpList_append_new rfl (.tmp 17) (.tmp 20) 22 rfl 51 2 32 _ Tryz.underlying22 infoType rfl (by decide) (some ⟨p.p2, 0, none⟩) 2 [.bool true, .slice none 0 0, .bool false, .slice (some ⟨p.p1, 0, none⟩) 1 1] rfl (fun e => by cases e) rfl (fun b hb => ⟨p.p2, (Option.some.inj hb).symm, Blk.row' (by repeat (first | exact H1.out.1.a2 | refine Blk.alloc ?_ _))⟩) (w1.heap.size + 1 + 1 + 1) 1 1 [.bool true, .slice (some ⟨w1.heap.size + 1 + 1, 0, none⟩) 1 1] rfl rfl (Blk.row' (blk_at' (by simp))) (by simp [Value.oneCell']) (by decide) (by decide) (by decide) ?_; intro g cap w2 hg hc hst hrow; refine Wait.out ?_)
  refine ⟨?_⟩
  have st2 : Still w1 w2 := (((((Still.refl w1).alloc _).alloc _).alloc _).alloc _).trans hst
  obtain ⟨Q, hQ⟩ : ∃ Q, w1.heap.size = Q := ⟨_, rfl⟩
  rw [hQ] at hst hrow hg
  have RW : Hid (Rws w2 [(p.p1, 3, [.int .i64 0]), (p.p3, 42, [.int .i64 3, .slice none 0 0, .string ⟨#[]⟩]), (p.p4, 3, [.int .i64 (-1)]), (p.p5, 36, [.int .i64 1, .int .i64 0, .int .i64 0, .int .i64 0, .int .i64 0, .int .i64 5, .slice none 0 0, .slice none 0 0, .slice none 0 0, .int .i64 22, .int .i64 0, .int .i64 0, .int .i64 0, .int .i64 0, .int .i64 0, .slice none 0 0, .slice none 0 0, .slice none 0 0]), (p.p6, 48, [.slice (some ⟨p.p4, 0, none⟩) 1 1, .slice (some ⟨p.p5, 0, none⟩) 2 2]), (Q, 27, [.slice (some ⟨p.p2, 0, none⟩) 2 2, .slice (some ⟨p.p3, 0, none⟩) 1 1, .slice (some ⟨Q + 1, 0, none⟩) 1 1, .slice none 0 0, .slice (some ⟨p.p7, 0, none⟩) 1 1, .int .i64 0, .int .i64 0]), (Q + 1, 9, [.string ⟨#[120]⟩]), (Q + 1 + 1, 3, [.int .i64 0]), (g, 51, [.bool true, .slice none 0 0, .bool false, .slice (some ⟨p.p1, 0, none⟩) 1 1, .bool true, .slice (some ⟨Q + 1 + 1, 0, none⟩) 1 1])]) := by
    have h5 := (((((least_rws H1.out.1).made (e := 27) (cs := #[.slice (some ⟨p.p2, 0, none⟩) 2 2, .slice (some ⟨p.p3, 0, none⟩) 1 1, .slice (some ⟨Q + 1, 0, none⟩) 1 1, .slice none 0 0, .slice (some ⟨p.p7, 0, none⟩) 1 1, .int .i64 0, .int .i64 0]) hQ).made (b := Q + 1) (e := 9) (cs := #[.string ⟨#[120]⟩]) (by simp [hQ])).made (b := Q + 1 + 1) (e := 3) (cs := #[.int .i64 0]) (by simp [hQ])).alloc (.cells #[.bool true, .slice (some ⟨Q + 1 + 1, 0, none⟩) 1 1] 51)).new (w' := w2) hst hrow hg
    exact h5
  have HQ : Hid (w1.heap.size = Q ∧ Still w1 w2) := ⟨hQ, st2⟩
  have hp7 : Blk w2 p.p7 45 #[.slice none 0 0, .int .i64 0, .int .i64 1, .slice (some ⟨p.p6, 0, none⟩) 1 1] := (H1.out.1.still st2).a7
  have HP7 := Lib.hid hp7
  have hp7Q : p.p7 ≠ Q := by have := H1.out.1.a7.lt; omega
  have HP7Q := Lib.hid hp7Q
  rw [hQ]
  clear hst hg hrow hQ st2 hp7 hp7Q
  have qR := RW.out.at 5 (b := Q) (e := 27) rfl
  have q0 := qR.cell (i := 0) rfl
  have q1 := qR.cell (i := 1) rfl
  have q2 := qR.cell (i := 2) rfl
  have q3 := qR.cell (i := 3) rfl
  have q4 := qR.cell (i := 4) rfl
  have q5 := qR.cell (i := 5) rfl
  have q6 := qR.cell (i := 6) rfl
  have qf0 := qR.frozen 0
  have qf2 := qR.frozen 2
  have qf4 := qR.frozen 4
  have ql := qR.lt
  clear qR
  go_wp2_with (at_builtin; refine wpList_append_new rfl (.tmp 35) (.tmp 44) 25 rfl 45 4 64 _ Tryz.underlying25 infoFunc rfl (by decide) (some ⟨p.p7, 0, none⟩) 1 [.slice none 0 0, .int .i64 0, .int .i64 1, .slice (some ⟨p.p6, 0, none⟩) 1 1] rfl (fun e => by cases e) rfl (fun b hb => ⟨p.p7, (Option.some.inj hb).symm, Blk.row' (by repeat (first | exact HP7.out | refine Blk.alloc ?_ _ | refine Blk.far ?_ HP7Q.out _))⟩) (w2.heap.size + 1 + 1 + 1 + 1) 1 1 [.slice none 0 0, .int .i64 0, .int .i64 1, .slice (some ⟨w2.heap.size + 1 + 1 + 1, 0, none⟩) 1 1] rfl rfl (Blk.row' (blk_at' (by simp))) (by simp [Value.oneCell']) (by decide) (by decide) (by decide) ?_; intro gF capF w3 hg hc hst hrow; refine Wait.out ?_)
  refine ⟨?_⟩
  clear q0 q1 q2 q3 q4 q5 q6 qf0 qf2 qf4 ql
  have RW3 : Hid (Rws w3 [(p.p1, 3, [.int .i64 0]), (p.p3, 42, [.int .i64 3, .slice none 0 0, .string ⟨#[]⟩]), (p.p4, 3, [.int .i64 (-1)]), (p.p5, 36, [.int .i64 1, .int .i64 0, .int .i64 0, .int .i64 0, .int .i64 0, .int .i64 5, .slice none 0 0, .slice none 0 0, .slice none 0 0, .int .i64 22, .int .i64 0, .int .i64 0, .int .i64 0, .int .i64 0, .int .i64 0, .slice none 0 0, .slice none 0 0, .slice none 0 0]), (p.p6, 48, [.slice (some ⟨p.p4, 0, none⟩) 1 1, .slice (some ⟨p.p5, 0, none⟩) 2 2]), (Q, 27, [.slice (some ⟨g, 0, none⟩) 3 cap, .slice (some ⟨p.p3, 0, none⟩) 1 1, .slice (some ⟨Q + 1, 0, none⟩) 1 1, .slice none 0 0, .slice (some ⟨p.p7, 0, none⟩) 1 1, .int .i64 0, .int .i64 0]), (Q + 1, 9, [.string ⟨#[120]⟩]), (Q + 1 + 1, 3, [.int .i64 0]), (g, 51, [.bool true, .slice none 0 0, .bool false, .slice (some ⟨p.p1, 0, none⟩) 1 1, .bool true, .slice (some ⟨Q + 1 + 1, 0, none⟩) 1 1]), (w2.heap.size + 1, 3, [.int .i64 (-1)]), (w2.heap.size + 1 + 1, 36, [.int .i64 1, .int .i64 0, .int .i64 0, .int .i64 0, .int .i64 0, .int .i64 7, .slice none 0 0, .slice none 0 0, .slice none 0 0, .int .i64 22, .int .i64 0, .int .i64 0, .int .i64 0, .int .i64 0, .int .i64 0, .slice none 0 0, .slice none 0 0, .slice none 0 0]), (w2.heap.size + 1 + 1 + 1, 48, [.slice (some ⟨w2.heap.size + 1, 0, none⟩) 1 1, .slice (some ⟨w2.heap.size + 1 + 1, 0, none⟩) 2 2]), (gF, 45, [.slice none 0 0, .int .i64 0, .int .i64 1, .slice (some ⟨p.p6, 0, none⟩) 1 1, .slice none 0 0, .int .i64 0, .int .i64 1, .slice (some ⟨w2.heap.size + 1 + 1 + 1, 0, none⟩) 1 1])]) := by
    have h5 := ((((((RW.out.set 5 rfl 0 (by simp) (.slice (some ⟨g, 0, none⟩) 3 cap)).alloc (.cells #[.int .i64 1, .int .i64 0, .int .i64 0, .int .i64 0, .int .i64 0, .int .i64 7, .slice none 0 0, .slice none 0 0, .slice none 0 0] 36)).made (b := w2.heap.size + 1) (e := 3) (cs := #[.int .i64 (-1)]) (by simp)).made (b := w2.heap.size + 1 + 1) (e := 36) (cs := #[.int .i64 1, .int .i64 0, .int .i64 0, .int .i64 0, .int .i64 0, .int .i64 7, .slice none 0 0, .slice none 0 0, .slice none 0 0, .int .i64 22, .int .i64 0, .int .i64 0, .int .i64 0, .int .i64 0, .int .i64 0, .slice none 0 0, .slice none 0 0, .slice none 0 0]) (by simp)).made (b := w2.heap.size + 1 + 1 + 1) (e := 48) (cs := #[.slice (some ⟨w2.heap.size + 1, 0, none⟩) 1 1, .slice (some ⟨w2.heap.size + 1 + 1, 0, none⟩) 2 2]) (by simp)).alloc (.cells #[.slice none 0 0, .int .i64 0, .int .i64 1, .slice (some ⟨w2.heap.size + 1 + 1 + 1, 0, none⟩) 1 1] 45)).new (w' := w3) hst hrow hg
    exact h5
  have HQ3 : Hid (Still w1 w3) := by
    have t2 : Turn (fun j => j = Q) w1 (w2.setCell ⟨Q, 0, none⟩ (.slice (some ⟨g, 0, none⟩) 3 cap)) := (HQ.out.2.turn (S := fun j => j = Q)).setCell (p := ⟨Q, 0, none⟩) (fun _ => rfl) _
    have t3 : Turn (fun j => j = Q) w1 w3 := ((((((t2.alloc (.cells #[.int .i64 1, .int .i64 0, .int .i64 0, .int .i64 0, .int .i64 0, .int .i64 7, .slice none 0 0, .slice none 0 0, .slice none 0 0] 36)).alloc _).alloc _).alloc _).alloc _)).trans (Turn.mono hst fun _ _ e => e.elim)
    exact t3.mono fun j hj e => by have := HQ.out.1; omega
  have hgQ : w2.heap.size ≤ gF := by simp at hg; omega
  clear hst hg hrow
  obtain ⟨I0, hI0⟩ : ∃ I0, w2.heap.size + 1 = I0 := ⟨_, rfl⟩
  obtain ⟨C0, hC0⟩ : ∃ C0, I0 + 1 = C0 := ⟨_, rfl⟩
  obtain ⟨B0, hB0⟩ : ∃ B0, C0 + 1 = B0 := ⟨_, rfl⟩
  rw [hI0, hC0, hB0] at RW3
  rw [hI0, hC0, hB0]
  have HGE_gF : Hid (w1.heap.size ≤ gF) := by show _ ≤ _; have h1 := hgQ; have h2 := HQ.out.2.size; omega
  have HGE_C0 : Hid (w1.heap.size ≤ C0) := by show _ ≤ _; have h2 := HQ.out.2.size; omega
  have HGE_p6 : Hid (w.heap.size ≤ p.p6) := hp6'.out
  clear hI0 hC0 hB0 hgQ RW HP7 HP7Q
  have qR := RW3.out.at 5 (b := Q) (e := 27) rfl
  have q0 := qR.cell (i := 0) rfl
  have q1 := qR.cell (i := 1) rfl
  have q2 := qR.cell (i := 2) rfl
  have q3 := qR.cell (i := 3) rfl
  have q4 := qR.cell (i := 4) rfl
  have q5 := qR.cell (i := 5) rfl
  have q6 := qR.cell (i := 6) rfl
  have qf4 := qR.frozen 4
  have ql := qR.lt
  clear qR
  go_wp2_with fail
  have ne_Q_gF : Q ≠ gF := RW3.out.ne 5 12 rfl rfl (by decide)
  have ne_Q_B0 : Q ≠ B0 := RW3.out.ne 5 11 rfl rfl (by decide)
  have ne_Q_C0 : Q ≠ C0 := RW3.out.ne 5 10 rfl rfl (by decide)
  have ne_Q_p6 : Q ≠ p.p6 := RW3.out.ne 5 4 rfl rfl (by decide)
  have ne_gF_Q : gF ≠ Q := RW3.out.ne 12 5 rfl rfl (by decide)
  have ne_gF_B0 : gF ≠ B0 := RW3.out.ne 12 11 rfl rfl (by decide)
  have ne_gF_C0 : gF ≠ C0 := RW3.out.ne 12 10 rfl rfl (by decide)
  have ne_gF_p6 : gF ≠ p.p6 := RW3.out.ne 12 4 rfl rfl (by decide)
  have ne_B0_Q : B0 ≠ Q := RW3.out.ne 11 5 rfl rfl (by decide)
  have ne_B0_gF : B0 ≠ gF := RW3.out.ne 11 12 rfl rfl (by decide)
  have ne_B0_C0 : B0 ≠ C0 := RW3.out.ne 11 10 rfl rfl (by decide)
  have ne_B0_p6 : B0 ≠ p.p6 := RW3.out.ne 11 4 rfl rfl (by decide)
  have ne_C0_Q : C0 ≠ Q := RW3.out.ne 10 5 rfl rfl (by decide)
  have ne_C0_gF : C0 ≠ gF := RW3.out.ne 10 12 rfl rfl (by decide)
  have ne_C0_B0 : C0 ≠ B0 := RW3.out.ne 10 11 rfl rfl (by decide)
  have ne_C0_p6 : C0 ≠ p.p6 := RW3.out.ne 10 4 rfl rfl (by decide)
  have ne_p6_Q : p.p6 ≠ Q := RW3.out.ne 4 5 rfl rfl (by decide)
  have ne_p6_gF : p.p6 ≠ gF := RW3.out.ne 4 12 rfl rfl (by decide)
  have ne_p6_B0 : p.p6 ≠ B0 := RW3.out.ne 4 11 rfl rfl (by decide)
  have ne_p6_C0 : p.p6 ≠ C0 := RW3.out.ne 4 10 rfl rfl (by decide)
  clear q0 q1 q2 q3 q4 q5 q6 qf4 ql
  generalize hW4 : (w3.setCell ⟨Q, 4, none⟩ (.slice (some ⟨gF, 0, none⟩) 2 capF)) = w4
  have RW4 : Hid (Rws w4 [(p.p1, 3, [.int .i64 0]), (p.p3, 42, [.int .i64 3, .slice none 0 0, .string ⟨#[]⟩]), (p.p4, 3, [.int .i64 (-1)]), (p.p5, 36, [.int .i64 1, .int .i64 0, .int .i64 0, .int .i64 0, .int .i64 0, .int .i64 5, .slice none 0 0, .slice none 0 0, .slice none 0 0, .int .i64 22, .int .i64 0, .int .i64 0, .int .i64 0, .int .i64 0, .int .i64 0, .slice none 0 0, .slice none 0 0, .slice none 0 0]), (p.p6, 48, [.slice (some ⟨p.p4, 0, none⟩) 1 1, .slice (some ⟨p.p5, 0, none⟩) 2 2]), (Q, 27, [.slice (some ⟨g, 0, none⟩) 3 cap, .slice (some ⟨p.p3, 0, none⟩) 1 1, .slice (some ⟨Q + 1, 0, none⟩) 1 1, .slice none 0 0, .slice (some ⟨gF, 0, none⟩) 2 capF, .int .i64 0, .int .i64 0]), (Q + 1, 9, [.string ⟨#[120]⟩]), (Q + 1 + 1, 3, [.int .i64 0]), (g, 51, [.bool true, .slice none 0 0, .bool false, .slice (some ⟨p.p1, 0, none⟩) 1 1, .bool true, .slice (some ⟨Q + 1 + 1, 0, none⟩) 1 1]), (I0, 3, [.int .i64 (-1)]), (C0, 36, [.int .i64 1, .int .i64 0, .int .i64 0, .int .i64 0, .int .i64 0, .int .i64 7, .slice none 0 0, .slice none 0 0, .slice none 0 0, .int .i64 22, .int .i64 0, .int .i64 0, .int .i64 0, .int .i64 0, .int .i64 0, .slice none 0 0, .slice none 0 0, .slice none 0 0]), (B0, 48, [.slice (some ⟨I0, 0, none⟩) 1 1, .slice (some ⟨C0, 0, none⟩) 2 2]), (gF, 45, [.slice none 0 0, .int .i64 0, .int .i64 1, .slice (some ⟨p.p6, 0, none⟩) 1 1, .slice none 0 0, .int .i64 0, .int .i64 1, .slice (some ⟨B0, 0, none⟩) 1 1])]) := by
    rw [← hW4]
    exact (RW3.out.set 5 rfl 4 (by simp) (.slice (some ⟨gF, 0, none⟩) 2 capF))
  have HS4 : Hid (Still w1 w4) := by
    rw [← hW4]
    refine Turn.mono (S := fun j => j = Q) ((((HQ3.out)).turn (S := fun j => j = Q)).setCell (p := ⟨Q, 4, none⟩) (fun _ => rfl) _) fun j hj e => ?_
    have k_Q := HQ.out.1
    omega
  clear hW4
  have SW5 : Hid (Still w w4) := H1.out.2.trans HS4.out
  have HF5 := Lib.hid (Bm.fault_built (RW4.out.holds (D := [[.int 0], [.int 3, .sl none 0 0, .str ⟨#[]⟩], [.int (-1)], [.int 1, .int 0, .int 0, .int 0, .int 0, .int 5, .sl none 0 0, .sl none 0 0, .sl none 0 0, .int 22, .int 0, .int 0, .int 0, .int 0, .int 0, .sl none 0 0, .sl none 0 0, .sl none 0 0], [.sl (some (2, 0)) 1 1, .sl (some (3, 0)) 2 2], [.sl (some (8, 0)) 3 cap, .sl (some (1, 0)) 1 1, .sl (some (6, 0)) 1 1, .sl none 0 0, .sl (some (12, 0)) 2 capF, .int 0, .int 0], [.str ⟨#[120]⟩], [.int 0], [.bool true, .sl none 0 0, .bool false, .sl (some (0, 0)) 1 1, .bool true, .sl (some (7, 0)) 1 1], [.int (-1)], [.int 1, .int 0, .int 0, .int 0, .int 0, .int 7, .sl none 0 0, .sl none 0 0, .sl none 0 0, .int 22, .int 0, .int 0, .int 0, .int 0, .int 0, .sl none 0 0, .sl none 0 0, .sl none 0 0], [.sl (some (9, 0)) 1 1, .sl (some (10, 0)) 2 2], [.sl none 0 0, .int 0, .int 1, .sl (some (4, 0)) 1 1, .sl none 0 0, .int 0, .int 1, .sl (some (11, 0)) 1 1]]) rfl) (HT.out _ SW5.out) (c := ⟨some (8, 0), 3, cap, some (1, 0), 1, 1, some (6, 0), 1, 1, none, 0, 0, some (12, 0), 2, capF, 0, 0⟩) (m := (⟨[⟨true, []⟩, ⟨false, [0]⟩, ⟨true, [0]⟩], [⟨3, [], ⟨#[]⟩⟩], [⟨#[120]⟩], [], [⟨[], 0, 1, [⟨[-1], [⟨1, 0, 0, 0, 0, 5, [], [], []⟩, ⟨22, 0, 0, 0, 0, 0, [], [], []⟩]⟩]⟩, ⟨[], 0, 1, [⟨[-1], [⟨1, 0, 0, 0, 0, 7, [], [], []⟩, ⟨22, 0, 0, 0, 0, 0, [], [], []⟩]⟩]⟩], 0, 0⟩ : M.Img)) (by kernel_rfl) (by decide +kernel) (by decide +kernel))
  have HE5 : Hid (Bm.faultE (⟨[⟨true, []⟩, ⟨false, [0]⟩, ⟨true, [0]⟩], [⟨3, [], ⟨#[]⟩⟩], [⟨#[120]⟩], [], [⟨[], 0, 1, [⟨[-1], [⟨1, 0, 0, 0, 0, 5, [], [], []⟩, ⟨22, 0, 0, 0, 0, 0, [], [], []⟩]⟩]⟩, ⟨[], 0, 1, [⟨[-1], [⟨1, 0, 0, 0, 0, 7, [], [], []⟩, ⟨22, 0, 0, 0, 0, 0, [], [], []⟩]⟩]⟩], 0, 0⟩ : M.Img) = .tuple #[.int .i64 0, .int .i64 0, .int .i64 0, .bool true]) := by show _ = _; kernel_rfl
  refine HF5.out.mono ?_; rintro e w5 ⟨rfl, t5⟩
  rw [HE5.out]
  have RW5 : Hid (Rws w5 [(p.p1, 3, [.int .i64 0]), (p.p3, 42, [.int .i64 3, .slice none 0 0, .string ⟨#[]⟩]), (p.p4, 3, [.int .i64 (-1)]), (p.p5, 36, [.int .i64 1, .int .i64 0, .int .i64 0, .int .i64 0, .int .i64 0, .int .i64 5, .slice none 0 0, .slice none 0 0, .slice none 0 0, .int .i64 22, .int .i64 0, .int .i64 0, .int .i64 0, .int .i64 0, .int .i64 0, .slice none 0 0, .slice none 0 0, .slice none 0 0]), (p.p6, 48, [.slice (some ⟨p.p4, 0, none⟩) 1 1, .slice (some ⟨p.p5, 0, none⟩) 2 2]), (Q, 27, [.slice (some ⟨g, 0, none⟩) 3 cap, .slice (some ⟨p.p3, 0, none⟩) 1 1, .slice (some ⟨Q + 1, 0, none⟩) 1 1, .slice none 0 0, .slice (some ⟨gF, 0, none⟩) 2 capF, .int .i64 0, .int .i64 0]), (Q + 1, 9, [.string ⟨#[120]⟩]), (Q + 1 + 1, 3, [.int .i64 0]), (g, 51, [.bool true, .slice none 0 0, .bool false, .slice (some ⟨p.p1, 0, none⟩) 1 1, .bool true, .slice (some ⟨Q + 1 + 1, 0, none⟩) 1 1]), (I0, 3, [.int .i64 (-1)]), (C0, 36, [.int .i64 1, .int .i64 0, .int .i64 0, .int .i64 0, .int .i64 0, .int .i64 7, .slice none 0 0, .slice none 0 0, .slice none 0 0, .int .i64 22, .int .i64 0, .int .i64 0, .int .i64 0, .int .i64 0, .int .i64 0, .slice none 0 0, .slice none 0 0, .slice none 0 0]), (B0, 48, [.slice (some ⟨I0, 0, none⟩) 1 1, .slice (some ⟨C0, 0, none⟩) 2 2]), (gF, 45, [.slice none 0 0, .int .i64 0, .int .i64 1, .slice (some ⟨p.p6, 0, none⟩) 1 1, .slice none 0 0, .int .i64 0, .int .i64 1, .slice (some ⟨B0, 0, none⟩) 1 1])]) := RW4.out.still t5
  have HS5 : Hid (Still w1 w5) := HS4.out.trans t5
  clear t5 HF5 HE5
  have qR := RW5.out.at 5 (b := Q) (e := 27) rfl
  have q0 := qR.cell (i := 0) rfl
  have q1 := qR.cell (i := 1) rfl
  have q2 := qR.cell (i := 2) rfl
  have q3 := qR.cell (i := 3) rfl
  have q4 := qR.cell (i := 4) rfl
  have q5 := qR.cell (i := 5) rfl
  have q6 := qR.cell (i := 6) rfl
  have ql := qR.lt
  clear qR
  have gfR := RW5.out.at 12 (b := gF) (e := 45) rfl
  have gf0 := gfR.cell (i := 0) rfl
  have gf1 := gfR.cell (i := 1) rfl
  have gf2 := gfR.cell (i := 2) rfl
  have gf3 := gfR.cell (i := 3) rfl
  have gf4 := gfR.cell (i := 4) rfl
  have gf5 := gfR.cell (i := 5) rfl
  have gf6 := gfR.cell (i := 6) rfl
  have gf7 := gfR.cell (i := 7) rfl
  have gff5 := gfR.frozen 5
  have gfl := gfR.lt
  clear gfR
  go_wp2_with fail
  clear q0 q1 q2 q3 q4 q5 q6 ql gf0 gf1 gf2 gf3 gf4 gf5 gf6 gf7 gff5 gfl
  generalize hW6 : (w5.setCell ⟨gF, 5, none⟩ (.int .i64 2)) = w6
  have RW6 : Hid (Rws w6 [(p.p1, 3, [.int .i64 0]), (p.p3, 42, [.int .i64 3, .slice none 0 0, .string ⟨#[]⟩]), (p.p4, 3, [.int .i64 (-1)]), (p.p5, 36, [.int .i64 1, .int .i64 0, .int .i64 0, .int .i64 0, .int .i64 0, .int .i64 5, .slice none 0 0, .slice none 0 0, .slice none 0 0, .int .i64 22, .int .i64 0, .int .i64 0, .int .i64 0, .int .i64 0, .int .i64 0, .slice none 0 0, .slice none 0 0, .slice none 0 0]), (p.p6, 48, [.slice (some ⟨p.p4, 0, none⟩) 1 1, .slice (some ⟨p.p5, 0, none⟩) 2 2]), (Q, 27, [.slice (some ⟨g, 0, none⟩) 3 cap, .slice (some ⟨p.p3, 0, none⟩) 1 1, .slice (some ⟨Q + 1, 0, none⟩) 1 1, .slice none 0 0, .slice (some ⟨gF, 0, none⟩) 2 capF, .int .i64 0, .int .i64 0]), (Q + 1, 9, [.string ⟨#[120]⟩]), (Q + 1 + 1, 3, [.int .i64 0]), (g, 51, [.bool true, .slice none 0 0, .bool false, .slice (some ⟨p.p1, 0, none⟩) 1 1, .bool true, .slice (some ⟨Q + 1 + 1, 0, none⟩) 1 1]), (I0, 3, [.int .i64 (-1)]), (C0, 36, [.int .i64 1, .int .i64 0, .int .i64 0, .int .i64 0, .int .i64 0, .int .i64 7, .slice none 0 0, .slice none 0 0, .slice none 0 0, .int .i64 22, .int .i64 0, .int .i64 0, .int .i64 0, .int .i64 0, .int .i64 0, .slice none 0 0, .slice none 0 0, .slice none 0 0]), (B0, 48, [.slice (some ⟨I0, 0, none⟩) 1 1, .slice (some ⟨C0, 0, none⟩) 2 2]), (gF, 45, [.slice none 0 0, .int .i64 0, .int .i64 1, .slice (some ⟨p.p6, 0, none⟩) 1 1, .slice none 0 0, .int .i64 2, .int .i64 1, .slice (some ⟨B0, 0, none⟩) 1 1])]) := by
    rw [← hW6]
    exact (RW5.out.set 12 rfl 5 (by simp) (.int .i64 2))
  have HS6 : Hid (Still w1 w6) := by
    rw [← hW6]
    refine Turn.mono (S := fun j => j = gF) ((((HS5.out)).turn (S := fun j => j = gF)).setCell (p := ⟨gF, 5, none⟩) (fun _ => rfl) _) fun j hj e => ?_
    have k_gF := HGE_gF.out
    omega
  clear hW6
  have SW7 : Hid (Still w w6) := H1.out.2.trans HS6.out
  have HF7 := Lib.hid (Bm.verify_built (RW6.out.holds (D := [[.int 0], [.int 3, .sl none 0 0, .str ⟨#[]⟩], [.int (-1)], [.int 1, .int 0, .int 0, .int 0, .int 0, .int 5, .sl none 0 0, .sl none 0 0, .sl none 0 0, .int 22, .int 0, .int 0, .int 0, .int 0, .int 0, .sl none 0 0, .sl none 0 0, .sl none 0 0], [.sl (some (2, 0)) 1 1, .sl (some (3, 0)) 2 2], [.sl (some (8, 0)) 3 cap, .sl (some (1, 0)) 1 1, .sl (some (6, 0)) 1 1, .sl none 0 0, .sl (some (12, 0)) 2 capF, .int 0, .int 0], [.str ⟨#[120]⟩], [.int 0], [.bool true, .sl none 0 0, .bool false, .sl (some (0, 0)) 1 1, .bool true, .sl (some (7, 0)) 1 1], [.int (-1)], [.int 1, .int 0, .int 0, .int 0, .int 0, .int 7, .sl none 0 0, .sl none 0 0, .sl none 0 0, .int 22, .int 0, .int 0, .int 0, .int 0, .int 0, .sl none 0 0, .sl none 0 0, .sl none 0 0], [.sl (some (9, 0)) 1 1, .sl (some (10, 0)) 2 2], [.sl none 0 0, .int 0, .int 1, .sl (some (4, 0)) 1 1, .sl none 0 0, .int 2, .int 1, .sl (some (11, 0)) 1 1]]) rfl) (HT.out _ SW7.out) (c := ⟨some (8, 0), 3, cap, some (1, 0), 1, 1, some (6, 0), 1, 1, none, 0, 0, some (12, 0), 2, capF, 0, 0⟩) (m := (⟨[⟨true, []⟩, ⟨false, [0]⟩, ⟨true, [0]⟩], [⟨3, [], ⟨#[]⟩⟩], [⟨#[120]⟩], [], [⟨[], 0, 1, [⟨[-1], [⟨1, 0, 0, 0, 0, 5, [], [], []⟩, ⟨22, 0, 0, 0, 0, 0, [], [], []⟩]⟩]⟩, ⟨[], 2, 1, [⟨[-1], [⟨1, 0, 0, 0, 0, 7, [], [], []⟩, ⟨22, 0, 0, 0, 0, 0, [], [], []⟩]⟩]⟩], 0, 0⟩ : M.Img)) (by kernel_rfl) (by decide +kernel) (by decide +kernel))
  have HE7 : Hid ((if Bm.good (⟨[⟨true, []⟩, ⟨false, [0]⟩, ⟨true, [0]⟩], [⟨3, [], ⟨#[]⟩⟩], [⟨#[120]⟩], [], [⟨[], 0, 1, [⟨[-1], [⟨1, 0, 0, 0, 0, 5, [], [], []⟩, ⟨22, 0, 0, 0, 0, 0, [], [], []⟩]⟩]⟩, ⟨[], 2, 1, [⟨[-1], [⟨1, 0, 0, 0, 0, 7, [], [], []⟩, ⟨22, 0, 0, 0, 0, 0, [], [], []⟩]⟩]⟩], 0, 0⟩ : M.Img) then 0 else 21 : Int) = 0) := by show _ = _; decide +kernel
  refine HF7.out.mono ?_; rintro e w7 ⟨rfl, t7⟩
  rw [HE7.out]
  have RW7 : Hid (Rws w7 [(p.p1, 3, [.int .i64 0]), (p.p3, 42, [.int .i64 3, .slice none 0 0, .string ⟨#[]⟩]), (p.p4, 3, [.int .i64 (-1)]), (p.p5, 36, [.int .i64 1, .int .i64 0, .int .i64 0, .int .i64 0, .int .i64 0, .int .i64 5, .slice none 0 0, .slice none 0 0, .slice none 0 0, .int .i64 22, .int .i64 0, .int .i64 0, .int .i64 0, .int .i64 0, .int .i64 0, .slice none 0 0, .slice none 0 0, .slice none 0 0]), (p.p6, 48, [.slice (some ⟨p.p4, 0, none⟩) 1 1, .slice (some ⟨p.p5, 0, none⟩) 2 2]), (Q, 27, [.slice (some ⟨g, 0, none⟩) 3 cap, .slice (some ⟨p.p3, 0, none⟩) 1 1, .slice (some ⟨Q + 1, 0, none⟩) 1 1, .slice none 0 0, .slice (some ⟨gF, 0, none⟩) 2 capF, .int .i64 0, .int .i64 0]), (Q + 1, 9, [.string ⟨#[120]⟩]), (Q + 1 + 1, 3, [.int .i64 0]), (g, 51, [.bool true, .slice none 0 0, .bool false, .slice (some ⟨p.p1, 0, none⟩) 1 1, .bool true, .slice (some ⟨Q + 1 + 1, 0, none⟩) 1 1]), (I0, 3, [.int .i64 (-1)]), (C0, 36, [.int .i64 1, .int .i64 0, .int .i64 0, .int .i64 0, .int .i64 0, .int .i64 7, .slice none 0 0, .slice none 0 0, .slice none 0 0, .int .i64 22, .int .i64 0, .int .i64 0, .int .i64 0, .int .i64 0, .int .i64 0, .slice none 0 0, .slice none 0 0, .slice none 0 0]), (B0, 48, [.slice (some ⟨I0, 0, none⟩) 1 1, .slice (some ⟨C0, 0, none⟩) 2 2]), (gF, 45, [.slice none 0 0, .int .i64 0, .int .i64 1, .slice (some ⟨p.p6, 0, none⟩) 1 1, .slice none 0 0, .int .i64 2, .int .i64 1, .slice (some ⟨B0, 0, none⟩) 1 1])]) := RW6.out.still t7
  have HS7 : Hid (Still w1 w7) := HS6.out.trans t7
  clear t7 HF7 HE7
  have qR := RW7.out.at 5 (b := Q) (e := 27) rfl
  have q0 := qR.cell (i := 0) rfl
  have q1 := qR.cell (i := 1) rfl
  have q2 := qR.cell (i := 2) rfl
  have q3 := qR.cell (i := 3) rfl
  have q4 := qR.cell (i := 4) rfl
  have q5 := qR.cell (i := 5) rfl
  have q6 := qR.cell (i := 6) rfl
  have ql := qR.lt
  clear qR
  have gfR := RW7.out.at 12 (b := gF) (e := 45) rfl
  have gf0 := gfR.cell (i := 0) rfl
  have gf1 := gfR.cell (i := 1) rfl
  have gf2 := gfR.cell (i := 2) rfl
  have gf3 := gfR.cell (i := 3) rfl
  have gf4 := gfR.cell (i := 4) rfl
  have gf5 := gfR.cell (i := 5) rfl
  have gf6 := gfR.cell (i := 6) rfl
  have gf7 := gfR.cell (i := 7) rfl
  have gfl := gfR.lt
  clear gfR
  have bbR := RW7.out.at 11 (b := B0) (e := 48) rfl
  have bb0 := bbR.cell (i := 0) rfl
  have bb1 := bbR.cell (i := 1) rfl
  have bbl := bbR.lt
  clear bbR
  have ccR := RW7.out.at 10 (b := C0) (e := 36) rfl
  have cc0 := ccR.cell (i := 0) rfl
  have cc1 := ccR.cell (i := 1) rfl
  have cc2 := ccR.cell (i := 2) rfl
  have cc3 := ccR.cell (i := 3) rfl
  have cc4 := ccR.cell (i := 4) rfl
  have cc5 := ccR.cell (i := 5) rfl
  have cc6 := ccR.cell (i := 6) rfl
  have cc7 := ccR.cell (i := 7) rfl
  have cc8 := ccR.cell (i := 8) rfl
  have cc9 := ccR.cell (i := 9) rfl
  have cc10 := ccR.cell (i := 10) rfl
  have cc11 := ccR.cell (i := 11) rfl
  have cc12 := ccR.cell (i := 12) rfl
  have cc13 := ccR.cell (i := 13) rfl
  have cc14 := ccR.cell (i := 14) rfl
  have cc15 := ccR.cell (i := 15) rfl
  have cc16 := ccR.cell (i := 16) rfl
  have cc17 := ccR.cell (i := 17) rfl
  have ccf9 := ccR.frozen 9
  have ccf10 := ccR.frozen 10
  have ccf11 := ccR.frozen 11
  have ccf12 := ccR.frozen 12
  have ccf13 := ccR.frozen 13
  have ccf14 := ccR.frozen 14
  have ccf15 := ccR.frozen 15
  have ccf16 := ccR.frozen 16
  have ccf17 := ccR.frozen 17
  have ccl := ccR.lt
  clear ccR
  go_wp2_with fail
  clear q0 q1 q2 q3 q4 q5 q6 ql gf0 gf1 gf2 gf3 gf4 gf5 gf6 gf7 gfl bb0 bb1 bbl cc0 cc1 cc2 cc3 cc4 cc5 cc6 cc7 cc8 cc9 cc10 cc11 cc12 cc13 cc14 cc15 cc16 cc17 ccf9 ccf10 ccf11 ccf12 ccf13 ccf14 ccf15 ccf16 ccf17 ccl
  generalize hW8 : (((((((((w7.setCell ⟨C0, 9, none⟩ (.int .i64 23)).setCell ⟨C0, 10, none⟩ (.int .i64 0)).setCell ⟨C0, 11, none⟩ (.int .i64 0)).setCell ⟨C0, 12, none⟩ (.int .i64 0)).setCell ⟨C0, 13, none⟩ (.int .i64 0)).setCell ⟨C0, 14, none⟩ (.int .i64 0)).setCell ⟨C0, 15, none⟩ (.slice none 0 0)).setCell ⟨C0, 16, none⟩ (.slice none 0 0)).setCell ⟨C0, 17, none⟩ (.slice none 0 0)) = w8
  have RW8 : Hid (Rws w8 [(p.p1, 3, [.int .i64 0]), (p.p3, 42, [.int .i64 3, .slice none 0 0, .string ⟨#[]⟩]), (p.p4, 3, [.int .i64 (-1)]), (p.p5, 36, [.int .i64 1, .int .i64 0, .int .i64 0, .int .i64 0, .int .i64 0, .int .i64 5, .slice none 0 0, .slice none 0 0, .slice none 0 0, .int .i64 22, .int .i64 0, .int .i64 0, .int .i64 0, .int .i64 0, .int .i64 0, .slice none 0 0, .slice none 0 0, .slice none 0 0]), (p.p6, 48, [.slice (some ⟨p.p4, 0, none⟩) 1 1, .slice (some ⟨p.p5, 0, none⟩) 2 2]), (Q, 27, [.slice (some ⟨g, 0, none⟩) 3 cap, .slice (some ⟨p.p3, 0, none⟩) 1 1, .slice (some ⟨Q + 1, 0, none⟩) 1 1, .slice none 0 0, .slice (some ⟨gF, 0, none⟩) 2 capF, .int .i64 0, .int .i64 0]), (Q + 1, 9, [.string ⟨#[120]⟩]), (Q + 1 + 1, 3, [.int .i64 0]), (g, 51, [.bool true, .slice none 0 0, .bool false, .slice (some ⟨p.p1, 0, none⟩) 1 1, .bool true, .slice (some ⟨Q + 1 + 1, 0, none⟩) 1 1]), (I0, 3, [.int .i64 (-1)]), (C0, 36, [.int .i64 1, .int .i64 0, .int .i64 0, .int .i64 0, .int .i64 0, .int .i64 7, .slice none 0 0, .slice none 0 0, .slice none 0 0, .int .i64 23, .int .i64 0, .int .i64 0, .int .i64 0, .int .i64 0, .int .i64 0, .slice none 0 0, .slice none 0 0, .slice none 0 0]), (B0, 48, [.slice (some ⟨I0, 0, none⟩) 1 1, .slice (some ⟨C0, 0, none⟩) 2 2]), (gF, 45, [.slice none 0 0, .int .i64 0, .int .i64 1, .slice (some ⟨p.p6, 0, none⟩) 1 1, .slice none 0 0, .int .i64 2, .int .i64 1, .slice (some ⟨B0, 0, none⟩) 1 1])]) := by
    rw [← hW8]
    exact (((((((((RW7.out.set 10 rfl 9 (by simp) (.int .i64 23)).set 10 rfl 10 (by simp) (.int .i64 0)).set 10 rfl 11 (by simp) (.int .i64 0)).set 10 rfl 12 (by simp) (.int .i64 0)).set 10 rfl 13 (by simp) (.int .i64 0)).set 10 rfl 14 (by simp) (.int .i64 0)).set 10 rfl 15 (by simp) (.slice none 0 0)).set 10 rfl 16 (by simp) (.slice none 0 0)).set 10 rfl 17 (by simp) (.slice none 0 0))
  have HS8 : Hid (Still w1 w8) := by
    rw [← hW8]
    refine Turn.mono (S := fun j => j = C0) ((((((((((((HS7.out)).turn (S := fun j => j = C0)).setCell (p := ⟨C0, 9, none⟩) (fun _ => rfl) _).setCell (p := ⟨C0, 10, none⟩) (fun _ => rfl) _).setCell (p := ⟨C0, 11, none⟩) (fun _ => rfl) _).setCell (p := ⟨C0, 12, none⟩) (fun _ => rfl) _).setCell (p := ⟨C0, 13, none⟩) (fun _ => rfl) _).setCell (p := ⟨C0, 14, none⟩) (fun _ => rfl) _).setCell (p := ⟨C0, 15, none⟩) (fun _ => rfl) _).setCell (p := ⟨C0, 16, none⟩) (fun _ => rfl) _).setCell (p := ⟨C0, 17, none⟩) (fun _ => rfl) _) fun j hj e => ?_
    have k_C0 := HGE_C0.out
    omega
  clear hW8
  have SW9 : Hid (Still w w8) := H1.out.2.trans HS8.out
  have HF9 := Lib.hid (Bm.verify_built (RW8.out.holds (D := [[.int 0], [.int 3, .sl none 0 0, .str ⟨#[]⟩], [.int (-1)], [.int 1, .int 0, .int 0, .int 0, .int 0, .int 5, .sl none 0 0, .sl none 0 0, .sl none 0 0, .int 22, .int 0, .int 0, .int 0, .int 0, .int 0, .sl none 0 0, .sl none 0 0, .sl none 0 0], [.sl (some (2, 0)) 1 1, .sl (some (3, 0)) 2 2], [.sl (some (8, 0)) 3 cap, .sl (some (1, 0)) 1 1, .sl (some (6, 0)) 1 1, .sl none 0 0, .sl (some (12, 0)) 2 capF, .int 0, .int 0], [.str ⟨#[120]⟩], [.int 0], [.bool true, .sl none 0 0, .bool false, .sl (some (0, 0)) 1 1, .bool true, .sl (some (7, 0)) 1 1], [.int (-1)], [.int 1, .int 0, .int 0, .int 0, .int 0, .int 7, .sl none 0 0, .sl none 0 0, .sl none 0 0, .int 23, .int 0, .int 0, .int 0, .int 0, .int 0, .sl none 0 0, .sl none 0 0, .sl none 0 0], [.sl (some (9, 0)) 1 1, .sl (some (10, 0)) 2 2], [.sl none 0 0, .int 0, .int 1, .sl (some (4, 0)) 1 1, .sl none 0 0, .int 2, .int 1, .sl (some (11, 0)) 1 1]]) rfl) (HT.out _ SW9.out) (c := ⟨some (8, 0), 3, cap, some (1, 0), 1, 1, some (6, 0), 1, 1, none, 0, 0, some (12, 0), 2, capF, 0, 0⟩) (m := (⟨[⟨true, []⟩, ⟨false, [0]⟩, ⟨true, [0]⟩], [⟨3, [], ⟨#[]⟩⟩], [⟨#[120]⟩], [], [⟨[], 0, 1, [⟨[-1], [⟨1, 0, 0, 0, 0, 5, [], [], []⟩, ⟨22, 0, 0, 0, 0, 0, [], [], []⟩]⟩]⟩, ⟨[], 2, 1, [⟨[-1], [⟨1, 0, 0, 0, 0, 7, [], [], []⟩, ⟨23, 0, 0, 0, 0, 0, [], [], []⟩]⟩]⟩], 0, 0⟩ : M.Img)) (by kernel_rfl) (by decide +kernel) (by decide +kernel))
  have HE9 : Hid ((if Bm.good (⟨[⟨true, []⟩, ⟨false, [0]⟩, ⟨true, [0]⟩], [⟨3, [], ⟨#[]⟩⟩], [⟨#[120]⟩], [], [⟨[], 0, 1, [⟨[-1], [⟨1, 0, 0, 0, 0, 5, [], [], []⟩, ⟨22, 0, 0, 0, 0, 0, [], [], []⟩]⟩]⟩, ⟨[], 2, 1, [⟨[-1], [⟨1, 0, 0, 0, 0, 7, [], [], []⟩, ⟨23, 0, 0, 0, 0, 0, [], [], []⟩]⟩]⟩], 0, 0⟩ : M.Img) then 0 else 21 : Int) = 0) := by show _ = _; decide +kernel
  refine HF9.out.mono ?_; rintro e w9 ⟨rfl, t9⟩
  rw [HE9.out]
  have RW9 : Hid (Rws w9 [(p.p1, 3, [.int .i64 0]), (p.p3, 42, [.int .i64 3, .slice none 0 0, .string ⟨#[]⟩]), (p.p4, 3, [.int .i64 (-1)]), (p.p5, 36, [.int .i64 1, .int .i64 0, .int .i64 0, .int .i64 0, .int .i64 0, .int .i64 5, .slice none 0 0, .slice none 0 0, .slice none 0 0, .int .i64 22, .int .i64 0, .int .i64 0, .int .i64 0, .int .i64 0, .int .i64 0, .slice none 0 0, .slice none 0 0, .slice none 0 0]), (p.p6, 48, [.slice (some ⟨p.p4, 0, none⟩) 1 1, .slice (some ⟨p.p5, 0, none⟩) 2 2]), (Q, 27, [.slice (some ⟨g, 0, none⟩) 3 cap, .slice (some ⟨p.p3, 0, none⟩) 1 1, .slice (some ⟨Q + 1, 0, none⟩) 1 1, .slice none 0 0, .slice (some ⟨gF, 0, none⟩) 2 capF, .int .i64 0, .int .i64 0]), (Q + 1, 9, [.string ⟨#[120]⟩]), (Q + 1 + 1, 3, [.int .i64 0]), (g, 51, [.bool true, .slice none 0 0, .bool false, .slice (some ⟨p.p1, 0, none⟩) 1 1, .bool true, .slice (some ⟨Q + 1 + 1, 0, none⟩) 1 1]), (I0, 3, [.int .i64 (-1)]), (C0, 36, [.int .i64 1, .int .i64 0, .int .i64 0, .int .i64 0, .int .i64 0, .int .i64 7, .slice none 0 0, .slice none 0 0, .slice none 0 0, .int .i64 23, .int .i64 0, .int .i64 0, .int .i64 0, .int .i64 0, .int .i64 0, .slice none 0 0, .slice none 0 0, .slice none 0 0]), (B0, 48, [.slice (some ⟨I0, 0, none⟩) 1 1, .slice (some ⟨C0, 0, none⟩) 2 2]), (gF, 45, [.slice none 0 0, .int .i64 0, .int .i64 1, .slice (some ⟨p.p6, 0, none⟩) 1 1, .slice none 0 0, .int .i64 2, .int .i64 1, .slice (some ⟨B0, 0, none⟩) 1 1])]) := RW8.out.still t9
  have HS9 : Hid (Still w1 w9) := HS8.out.trans t9
  clear t9 HF9 HE9
  have qR := RW9.out.at 5 (b := Q) (e := 27) rfl
  have q0 := qR.cell (i := 0) rfl
  have q1 := qR.cell (i := 1) rfl
  have q2 := qR.cell (i := 2) rfl
  have q3 := qR.cell (i := 3) rfl
  have q4 := qR.cell (i := 4) rfl
  have q5 := qR.cell (i := 5) rfl
  have q6 := qR.cell (i := 6) rfl
  have ql := qR.lt
  clear qR
  have gfR := RW9.out.at 12 (b := gF) (e := 45) rfl
  have gf0 := gfR.cell (i := 0) rfl
  have gf1 := gfR.cell (i := 1) rfl
  have gf2 := gfR.cell (i := 2) rfl
  have gf3 := gfR.cell (i := 3) rfl
  have gf4 := gfR.cell (i := 4) rfl
  have gf5 := gfR.cell (i := 5) rfl
  have gf6 := gfR.cell (i := 6) rfl
  have gf7 := gfR.cell (i := 7) rfl
  have gff5 := gfR.frozen 5
  have gfl := gfR.lt
  clear gfR
  have bbR := RW9.out.at 11 (b := B0) (e := 48) rfl
  have bb0 := bbR.cell (i := 0) rfl
  have bb1 := bbR.cell (i := 1) rfl
  have bbl := bbR.lt
  clear bbR
  have ccR := RW9.out.at 10 (b := C0) (e := 36) rfl
  have cc0 := ccR.cell (i := 0) rfl
  have cc1 := ccR.cell (i := 1) rfl
  have cc2 := ccR.cell (i := 2) rfl
  have cc3 := ccR.cell (i := 3) rfl
  have cc4 := ccR.cell (i := 4) rfl
  have cc5 := ccR.cell (i := 5) rfl
  have cc6 := ccR.cell (i := 6) rfl
  have cc7 := ccR.cell (i := 7) rfl
  have cc8 := ccR.cell (i := 8) rfl
  have cc9 := ccR.cell (i := 9) rfl
  have cc10 := ccR.cell (i := 10) rfl
  have cc11 := ccR.cell (i := 11) rfl
  have cc12 := ccR.cell (i := 12) rfl
  have cc13 := ccR.cell (i := 13) rfl
  have cc14 := ccR.cell (i := 14) rfl
  have cc15 := ccR.cell (i := 15) rfl
  have cc16 := ccR.cell (i := 16) rfl
  have cc17 := ccR.cell (i := 17) rfl
  have ccf9 := ccR.frozen 9
  have ccf10 := ccR.frozen 10
  have ccf11 := ccR.frozen 11
  have ccf12 := ccR.frozen 12
  have ccf13 := ccR.frozen 13
  have ccf14 := ccR.frozen 14
  have ccf15 := ccR.frozen 15
  have ccf16 := ccR.frozen 16
  have ccf17 := ccR.frozen 17
  have ccl := ccR.lt
  clear ccR
  have ppR := RW9.out.at 4 (b := p.p6) (e := 48) rfl
  have pp0 := ppR.cell (i := 0) rfl
  have pp1 := ppR.cell (i := 1) rfl
  have ppf1 := ppR.frozen 1
  have ppl := ppR.lt
  clear ppR
  go_wp2_with fail
  clear q0 q1 q2 q3 q4 q5 q6 ql gf0 gf1 gf2 gf3 gf4 gf5 gf6 gf7 gff5 gfl bb0 bb1 bbl cc0 cc1 cc2 cc3 cc4 cc5 cc6 cc7 cc8 cc9 cc10 cc11 cc12 cc13 cc14 cc15 cc16 cc17 ccf9 ccf10 ccf11 ccf12 ccf13 ccf14 ccf15 ccf16 ccf17 ccl pp0 pp1 ppf1 ppl
  generalize hW10 : ((((((((((((w9.setCell ⟨C0, 9, none⟩ (.int .i64 22)).setCell ⟨C0, 10, none⟩ (.int .i64 0)).setCell ⟨C0, 11, none⟩ (.int .i64 0)).setCell ⟨C0, 12, none⟩ (.int .i64 0)).setCell ⟨C0, 13, none⟩ (.int .i64 0)).setCell ⟨C0, 14, none⟩ (.int .i64 0)).setCell ⟨C0, 15, none⟩ (.slice none 0 0)).setCell ⟨C0, 16, none⟩ (.slice none 0 0)).setCell ⟨C0, 17, none⟩ (.slice none 0 0)).setCell ⟨gF, 5, none⟩ (.int .i64 0)).setCell ⟨p.p6, 1, none⟩ (.slice (some ⟨w9.heap.size, 0, none⟩) 3 3)).alloc (.cells #[.int .i64 17, .int .i64 0, .int .i64 1, .int .i64 (-1), .int .i64 0, .int .i64 0, .slice none 0 0, .slice none 0 0, .slice none 0 0, .int .i64 16, .int .i64 0, .int .i64 0, .int .i64 0, .int .i64 0, .int .i64 0, .slice none 0 0, .slice none 0 0, .slice none 0 0, .int .i64 22, .int .i64 0, .int .i64 0, .int .i64 0, .int .i64 0, .int .i64 0, .slice none 0 0, .slice none 0 0, .slice none 0 0] 36)) = w10
  have RW10 : Hid (Rws w10 [(p.p1, 3, [.int .i64 0]), (p.p3, 42, [.int .i64 3, .slice none 0 0, .string ⟨#[]⟩]), (p.p4, 3, [.int .i64 (-1)]), (p.p5, 36, [.int .i64 1, .int .i64 0, .int .i64 0, .int .i64 0, .int .i64 0, .int .i64 5, .slice none 0 0, .slice none 0 0, .slice none 0 0, .int .i64 22, .int .i64 0, .int .i64 0, .int .i64 0, .int .i64 0, .int .i64 0, .slice none 0 0, .slice none 0 0, .slice none 0 0]), (p.p6, 48, [.slice (some ⟨p.p4, 0, none⟩) 1 1, .slice (some ⟨w9.heap.size, 0, none⟩) 3 3]), (Q, 27, [.slice (some ⟨g, 0, none⟩) 3 cap, .slice (some ⟨p.p3, 0, none⟩) 1 1, .slice (some ⟨Q + 1, 0, none⟩) 1 1, .slice none 0 0, .slice (some ⟨gF, 0, none⟩) 2 capF, .int .i64 0, .int .i64 0]), (Q + 1, 9, [.string ⟨#[120]⟩]), (Q + 1 + 1, 3, [.int .i64 0]), (g, 51, [.bool true, .slice none 0 0, .bool false, .slice (some ⟨p.p1, 0, none⟩) 1 1, .bool true, .slice (some ⟨Q + 1 + 1, 0, none⟩) 1 1]), (I0, 3, [.int .i64 (-1)]), (C0, 36, [.int .i64 1, .int .i64 0, .int .i64 0, .int .i64 0, .int .i64 0, .int .i64 7, .slice none 0 0, .slice none 0 0, .slice none 0 0, .int .i64 22, .int .i64 0, .int .i64 0, .int .i64 0, .int .i64 0, .int .i64 0, .slice none 0 0, .slice none 0 0, .slice none 0 0]), (B0, 48, [.slice (some ⟨I0, 0, none⟩) 1 1, .slice (some ⟨C0, 0, none⟩) 2 2]), (gF, 45, [.slice none 0 0, .int .i64 0, .int .i64 1, .slice (some ⟨p.p6, 0, none⟩) 1 1, .slice none 0 0, .int .i64 0, .int .i64 1, .slice (some ⟨B0, 0, none⟩) 1 1]), (w9.heap.size, 36, [.int .i64 17, .int .i64 0, .int .i64 1, .int .i64 (-1), .int .i64 0, .int .i64 0, .slice none 0 0, .slice none 0 0, .slice none 0 0, .int .i64 16, .int .i64 0, .int .i64 0, .int .i64 0, .int .i64 0, .int .i64 0, .slice none 0 0, .slice none 0 0, .slice none 0 0, .int .i64 22, .int .i64 0, .int .i64 0, .int .i64 0, .int .i64 0, .int .i64 0, .slice none 0 0, .slice none 0 0, .slice none 0 0])]) := by
    rw [← hW10]
    exact ((((((((((((RW9.out.set 10 rfl 9 (by simp) (.int .i64 22)).set 10 rfl 10 (by simp) (.int .i64 0)).set 10 rfl 11 (by simp) (.int .i64 0)).set 10 rfl 12 (by simp) (.int .i64 0)).set 10 rfl 13 (by simp) (.int .i64 0)).set 10 rfl 14 (by simp) (.int .i64 0)).set 10 rfl 15 (by simp) (.slice none 0 0)).set 10 rfl 16 (by simp) (.slice none 0 0)).set 10 rfl 17 (by simp) (.slice none 0 0)).set 12 rfl 5 (by simp) (.int .i64 0)).set 4 rfl 1 (by simp) (.slice (some ⟨w9.heap.size, 0, none⟩) 3 3)).made (b := w9.heap.size) (e := 36) (cs := #[.int .i64 17, .int .i64 0, .int .i64 1, .int .i64 (-1), .int .i64 0, .int .i64 0, .slice none 0 0, .slice none 0 0, .slice none 0 0, .int .i64 16, .int .i64 0, .int .i64 0, .int .i64 0, .int .i64 0, .int .i64 0, .slice none 0 0, .slice none 0 0, .slice none 0 0, .int .i64 22, .int .i64 0, .int .i64 0, .int .i64 0, .int .i64 0, .int .i64 0, .slice none 0 0, .slice none 0 0, .slice none 0 0]) (by simp))
  have HS10 : Hid (Still w w10) := by
    rw [← hW10]
    refine Turn.mono (S := fun j => j = C0 ∨ j = gF ∨ j = p.p6) ((((((((((((((H1.out.2.trans (HS9.out)).turn (S := fun j => j = C0 ∨ j = gF ∨ j = p.p6)).setCell (p := ⟨C0, 9, none⟩) (fun _ => .inl rfl) _).setCell (p := ⟨C0, 10, none⟩) (fun _ => .inl rfl) _).setCell (p := ⟨C0, 11, none⟩) (fun _ => .inl rfl) _).setCell (p := ⟨C0, 12, none⟩) (fun _ => .inl rfl) _).setCell (p := ⟨C0, 13, none⟩) (fun _ => .inl rfl) _).setCell (p := ⟨C0, 14, none⟩) (fun _ => .inl rfl) _).setCell (p := ⟨C0, 15, none⟩) (fun _ => .inl rfl) _).setCell (p := ⟨C0, 16, none⟩) (fun _ => .inl rfl) _).setCell (p := ⟨C0, 17, none⟩) (fun _ => .inl rfl) _).setCell (p := ⟨gF, 5, none⟩) (fun _ => .inr (.inl rfl)) _).setCell (p := ⟨p.p6, 1, none⟩) (fun _ => .inr (.inr (rfl))) _).alloc _) fun j hj e => ?_
    have k_C0 := HGE_C0.out
    have k_gF := HGE_gF.out
    have k_pp6 := HGE_p6.out
    have k_w := H1.out.2.size
    omega
  obtain ⟨C1, hC1⟩ : ∃ C1, w9.heap.size = C1 := ⟨_, rfl⟩
  rw [hC1] at RW10
  clear hW10 hC1
  have SW11 : Hid (Still w w10) := HS10.out
  have HF11 := Lib.hid (Bm.verify_built (RW10.out.holds (D := [[.int 0], [.int 3, .sl none 0 0, .str ⟨#[]⟩], [.int (-1)], [.int 1, .int 0, .int 0, .int 0, .int 0, .int 5, .sl none 0 0, .sl none 0 0, .sl none 0 0, .int 22, .int 0, .int 0, .int 0, .int 0, .int 0, .sl none 0 0, .sl none 0 0, .sl none 0 0], [.sl (some (2, 0)) 1 1, .sl (some (13, 0)) 3 3], [.sl (some (8, 0)) 3 cap, .sl (some (1, 0)) 1 1, .sl (some (6, 0)) 1 1, .sl none 0 0, .sl (some (12, 0)) 2 capF, .int 0, .int 0], [.str ⟨#[120]⟩], [.int 0], [.bool true, .sl none 0 0, .bool false, .sl (some (0, 0)) 1 1, .bool true, .sl (some (7, 0)) 1 1], [.int (-1)], [.int 1, .int 0, .int 0, .int 0, .int 0, .int 7, .sl none 0 0, .sl none 0 0, .sl none 0 0, .int 22, .int 0, .int 0, .int 0, .int 0, .int 0, .sl none 0 0, .sl none 0 0, .sl none 0 0], [.sl (some (9, 0)) 1 1, .sl (some (10, 0)) 2 2], [.sl none 0 0, .int 0, .int 1, .sl (some (4, 0)) 1 1, .sl none 0 0, .int 0, .int 1, .sl (some (11, 0)) 1 1], [.int 17, .int 0, .int 1, .int (-1), .int 0, .int 0, .sl none 0 0, .sl none 0 0, .sl none 0 0, .int 16, .int 0, .int 0, .int 0, .int 0, .int 0, .sl none 0 0, .sl none 0 0, .sl none 0 0, .int 22, .int 0, .int 0, .int 0, .int 0, .int 0, .sl none 0 0, .sl none 0 0, .sl none 0 0]]) rfl) (HT.out _ SW11.out) (c := ⟨some (8, 0), 3, cap, some (1, 0), 1, 1, some (6, 0), 1, 1, none, 0, 0, some (12, 0), 2, capF, 0, 0⟩) (m := (⟨[⟨true, []⟩, ⟨false, [0]⟩, ⟨true, [0]⟩], [⟨3, [], ⟨#[]⟩⟩], [⟨#[120]⟩], [], [⟨[], 0, 1, [⟨[-1], [⟨17, 0, 1, (-1), 0, 0, [], [], []⟩, ⟨16, 0, 0, 0, 0, 0, [], [], []⟩, ⟨22, 0, 0, 0, 0, 0, [], [], []⟩]⟩]⟩, ⟨[], 0, 1, [⟨[-1], [⟨1, 0, 0, 0, 0, 7, [], [], []⟩, ⟨22, 0, 0, 0, 0, 0, [], [], []⟩]⟩]⟩], 0, 0⟩ : M.Img)) (by kernel_rfl) (by decide +kernel) (by decide +kernel))
  have HE11 : Hid ((if Bm.good (⟨[⟨true, []⟩, ⟨false, [0]⟩, ⟨true, [0]⟩], [⟨3, [], ⟨#[]⟩⟩], [⟨#[120]⟩], [], [⟨[], 0, 1, [⟨[-1], [⟨17, 0, 1, (-1), 0, 0, [], [], []⟩, ⟨16, 0, 0, 0, 0, 0, [], [], []⟩, ⟨22, 0, 0, 0, 0, 0, [], [], []⟩]⟩]⟩, ⟨[], 0, 1, [⟨[-1], [⟨1, 0, 0, 0, 0, 7, [], [], []⟩, ⟨22, 0, 0, 0, 0, 0, [], [], []⟩]⟩]⟩], 0, 0⟩ : M.Img) then 0 else 21 : Int) = 0) := by show _ = _; decide +kernel
  refine HF11.out.mono ?_; rintro e w11 ⟨rfl, t11⟩
  rw [HE11.out]
  have RW11 : Hid (Rws w11 [(p.p1, 3, [.int .i64 0]), (p.p3, 42, [.int .i64 3, .slice none 0 0, .string ⟨#[]⟩]), (p.p4, 3, [.int .i64 (-1)]), (p.p5, 36, [.int .i64 1, .int .i64 0, .int .i64 0, .int .i64 0, .int .i64 0, .int .i64 5, .slice none 0 0, .slice none 0 0, .slice none 0 0, .int .i64 22, .int .i64 0, .int .i64 0, .int .i64 0, .int .i64 0, .int .i64 0, .slice none 0 0, .slice none 0 0, .slice none 0 0]), (p.p6, 48, [.slice (some ⟨p.p4, 0, none⟩) 1 1, .slice (some ⟨C1, 0, none⟩) 3 3]), (Q, 27, [.slice (some ⟨g, 0, none⟩) 3 cap, .slice (some ⟨p.p3, 0, none⟩) 1 1, .slice (some ⟨Q + 1, 0, none⟩) 1 1, .slice none 0 0, .slice (some ⟨gF, 0, none⟩) 2 capF, .int .i64 0, .int .i64 0]), (Q + 1, 9, [.string ⟨#[120]⟩]), (Q + 1 + 1, 3, [.int .i64 0]), (g, 51, [.bool true, .slice none 0 0, .bool false, .slice (some ⟨p.p1, 0, none⟩) 1 1, .bool true, .slice (some ⟨Q + 1 + 1, 0, none⟩) 1 1]), (I0, 3, [.int .i64 (-1)]), (C0, 36, [.int .i64 1, .int .i64 0, .int .i64 0, .int .i64 0, .int .i64 0, .int .i64 7, .slice none 0 0, .slice none 0 0, .slice none 0 0, .int .i64 22, .int .i64 0, .int .i64 0, .int .i64 0, .int .i64 0, .int .i64 0, .slice none 0 0, .slice none 0 0, .slice none 0 0]), (B0, 48, [.slice (some ⟨I0, 0, none⟩) 1 1, .slice (some ⟨C0, 0, none⟩) 2 2]), (gF, 45, [.slice none 0 0, .int .i64 0, .int .i64 1, .slice (some ⟨p.p6, 0, none⟩) 1 1, .slice none 0 0, .int .i64 0, .int .i64 1, .slice (some ⟨B0, 0, none⟩) 1 1]), (C1, 36, [.int .i64 17, .int .i64 0, .int .i64 1, .int .i64 (-1), .int .i64 0, .int .i64 0, .slice none 0 0, .slice none 0 0, .slice none 0 0, .int .i64 16, .int .i64 0, .int .i64 0, .int .i64 0, .int .i64 0, .int .i64 0, .slice none 0 0, .slice none 0 0, .slice none 0 0, .int .i64 22, .int .i64 0, .int .i64 0, .int .i64 0, .int .i64 0, .int .i64 0, .slice none 0 0, .slice none 0 0, .slice none 0 0])]) := RW10.out.still t11
  have HS11 : Hid (Still w w11) := HS10.out.trans t11
  clear t11 HF11 HE11
  have SL : Hid (Still w w11) := HS11.out
  go_wp2_with fail
  refine (lives_any _ (HT.out _ SL.out)).mono ?_; rintro e wl ⟨rfl, tl⟩
  have SL2 : Hid (Still w wl) := SL.out.trans tl
  clear tl
  go_wp2_with fail
  go_ret
  exact ⟨rfl, SL2.out⟩
end Go.Proofs.YtglalgjffkoneaaGreatDoor
/- VerifyReturns: its walk, one of four ways. -/
namespace Go.Proofs.YtglalgjffkoneaaGreatDoor
set_option linter.unusedVariables false
set_option linter.unusedSimpArgs false
open Go.ChangeShapes Go.WideShapes Go.ChangeAt Go.RowKit
open Vf (K nth nth_nat tyAt atK isK numT oneT le beginK tsub RowK FitsK CalledK resT ObjK keepK KeepsK setK hasK)
set_option maxRecDepth 100000 in
set_option maxHeartbeats 8000000 in
theorem ret_0_t (u : Nat) (w : World) (ht : Tz w) (hr : Int.tmod (u : Int) 2 = 0) : Calls Tryz.prog 7 #[.int .u64 (u : Int), .bool true] w fun e w' => e = .returned (.bool true) ∧ Still w w' := by
  have HT : Hid (∀ W, Still w W → Tz W) := fun W t => ht.keep t (fun e => e)
  have hr2 : (u : Int) % 2 = 0 := by rw [← hr, Int.tmod_eq_emod_of_nonneg (by omega)]
  clear ht
  go_enter Tryz.func7, Tryz.ntmps7
  go_wp2_with fail
  refine (least_any _).mono ?_; rintro e w1 ⟨p, rfl, ha, t1, hp6⟩
  have H1 := Lib.hid (And.intro ha t1)
  have hp6' := Lib.hid hp6
  clear ha t1 hp6
  go_wp2_with (at_builtin; refine wpList_append_new rfl (.tmp 17) (.tmp 20) 22 rfl 51 2 32 _ Tryz.underlying22 infoType rfl (by decide) (some ⟨p.p2, 0, none⟩) 2 [.bool true, .slice none 0 0, .bool false, .slice (some ⟨p.p1, 0, none⟩) 1 1] rfl (fun e => by cases e) rfl (fun b hb => ⟨p.p2, (Option.some.inj hb).symm, Blk.row' (by repeat (first | exact H1.out.1.a2 | refine Blk.alloc ?_ _))⟩) (w1.heap.size + 1 + 1 + 1) 1 1 [.bool true, .slice (some ⟨w1.heap.size + 1 + 1, 0, none⟩) 1 1] rfl rfl (Blk.row' (blk_at' (by simp))) (by simp [Value.oneCell']) (by decide) (by decide) (by decide) ?_; intro g cap w2 hg hc hst hrow; refine Wait.out ?_)
  refine ⟨?_⟩
  have st2 : Still w1 w2 := (((((Still.refl w1).alloc _).alloc _).alloc _).alloc _).trans hst
  obtain ⟨Q, hQ⟩ : ∃ Q, w1.heap.size = Q := ⟨_, rfl⟩
  rw [hQ] at hst hrow hg
  have RW : Hid (Rws w2 [(p.p1, 3, [.int .i64 0]), (p.p3, 42, [.int .i64 3, .slice none 0 0, .string ⟨#[]⟩]), (p.p4, 3, [.int .i64 (-1)]), (p.p5, 36, [.int .i64 1, .int .i64 0, .int .i64 0, .int .i64 0, .int .i64 0, .int .i64 5, .slice none 0 0, .slice none 0 0, .slice none 0 0, .int .i64 22, .int .i64 0, .int .i64 0, .int .i64 0, .int .i64 0, .int .i64 0, .slice none 0 0, .slice none 0 0, .slice none 0 0]), (p.p6, 48, [.slice (some ⟨p.p4, 0, none⟩) 1 1, .slice (some ⟨p.p5, 0, none⟩) 2 2]), (Q, 27, [.slice (some ⟨p.p2, 0, none⟩) 2 2, .slice (some ⟨p.p3, 0, none⟩) 1 1, .slice (some ⟨Q + 1, 0, none⟩) 1 1, .slice none 0 0, .slice (some ⟨p.p7, 0, none⟩) 1 1, .int .i64 0, .int .i64 0]), (Q + 1, 9, [.string ⟨#[120]⟩]), (Q + 1 + 1, 3, [.int .i64 0]), (g, 51, [.bool true, .slice none 0 0, .bool false, .slice (some ⟨p.p1, 0, none⟩) 1 1, .bool true, .slice (some ⟨Q + 1 + 1, 0, none⟩) 1 1])]) := by
    have h5 := (((((least_rws H1.out.1).made (e := 27) (cs := #[.slice (some ⟨p.p2, 0, none⟩) 2 2, .slice (some ⟨p.p3, 0, none⟩) 1 1, .slice (some ⟨Q + 1, 0, none⟩) 1 1, .slice none 0 0, .slice (some ⟨p.p7, 0, none⟩) 1 1, .int .i64 0, .int .i64 0]) hQ).made (b := Q + 1) (e := 9) (cs := #[.string ⟨#[120]⟩]) (by simp [hQ])).made (b := Q + 1 + 1) (e := 3) (cs := #[.int .i64 0]) (by simp [hQ])).alloc (.cells #[.bool true, .slice (some ⟨Q + 1 + 1, 0, none⟩) 1 1] 51)).new (w' := w2) hst hrow hg
    exact h5
  have HQ : Hid (w1.heap.size = Q ∧ Still w1 w2) := ⟨hQ, st2⟩
  have hp7 : Blk w2 p.p7 45 #[.slice none 0 0, .int .i64 0, .int .i64 1, .slice (some ⟨p.p6, 0, none⟩) 1 1] := (H1.out.1.still st2).a7
  have HP7 := Lib.hid hp7
  have hp7Q : p.p7 ≠ Q := by have := H1.out.1.a7.lt; omega
  have HP7Q := Lib.hid hp7Q
  rw [hQ]
  clear hst hg hrow hQ st2 hp7 hp7Q
  have qR := RW.out.at 5 (b := Q) (e := 27) rfl
  have q0 := qR.cell (i := 0) rfl
  have q1 := qR.cell (i := 1) rfl
  have q2 := qR.cell (i := 2) rfl
  have q3 := qR.cell (i := 3) rfl
  have q4 := qR.cell (i := 4) rfl
  have q5 := qR.cell (i := 5) rfl
  have q6 := qR.cell (i := 6) rfl
  have qf0 := qR.frozen 0
  have qf2 := qR.frozen 2
  have qf4 := qR.frozen 4
  have ql := qR.lt
  clear qR
  go_wp2_with (at_builtin; refine wpList_append_new rfl (.tmp 35) (.tmp 44) 25 rfl 45 4 64 _ Tryz.underlying25 infoFunc rfl (by decide) (some ⟨p.p7, 0, none⟩) 1 [.slice none 0 0, .int .i64 0, .int .i64 1, .slice (some ⟨p.p6, 0, none⟩) 1 1] rfl (fun e => by cases e) rfl (fun b hb => ⟨p.p7, (Option.some.inj hb).symm, Blk.row' (by repeat (first | exact HP7.out | refine Blk.alloc ?_ _ | refine Blk.far ?_ HP7Q.out _))⟩) (w2.heap.size + 1 + 1 + 1 + 1) 1 1 [.slice none 0 0, .int .i64 1, .int .i64 1, .slice (some ⟨w2.heap.size + 1 + 1 + 1, 0, none⟩) 1 1] rfl rfl (Blk.row' (blk_at' (by simp))) (by simp [Value.oneCell']) (by decide) (by decide) (by decide) ?_; intro gF capF w3 hg hc hst hrow; refine Wait.out ?_)
  refine ⟨?_⟩
  clear q0 q1 q2 q3 q4 q5 q6 qf0 qf2 qf4 ql
  have RW3 : Hid (Rws w3 [(p.p1, 3, [.int .i64 0]), (p.p3, 42, [.int .i64 3, .slice none 0 0, .string ⟨#[]⟩]), (p.p4, 3, [.int .i64 (-1)]), (p.p5, 36, [.int .i64 1, .int .i64 0, .int .i64 0, .int .i64 0, .int .i64 0, .int .i64 5, .slice none 0 0, .slice none 0 0, .slice none 0 0, .int .i64 22, .int .i64 0, .int .i64 0, .int .i64 0, .int .i64 0, .int .i64 0, .slice none 0 0, .slice none 0 0, .slice none 0 0]), (p.p6, 48, [.slice (some ⟨p.p4, 0, none⟩) 1 1, .slice (some ⟨p.p5, 0, none⟩) 2 2]), (Q, 27, [.slice (some ⟨g, 0, none⟩) 3 cap, .slice (some ⟨p.p3, 0, none⟩) 1 1, .slice (some ⟨Q + 1, 0, none⟩) 1 1, .slice none 0 0, .slice (some ⟨p.p7, 0, none⟩) 1 1, .int .i64 0, .int .i64 0]), (Q + 1, 9, [.string ⟨#[120]⟩]), (Q + 1 + 1, 3, [.int .i64 0]), (g, 51, [.bool true, .slice none 0 0, .bool false, .slice (some ⟨p.p1, 0, none⟩) 1 1, .bool true, .slice (some ⟨Q + 1 + 1, 0, none⟩) 1 1]), (w2.heap.size + 1, 3, [.int .i64 (-1)]), (w2.heap.size + 1 + 1, 36, [.int .i64 1, .int .i64 0, .int .i64 0, .int .i64 0, .int .i64 0, .int .i64 7, .slice none 0 0, .slice none 0 0, .slice none 0 0, .int .i64 22, .int .i64 0, .int .i64 0, .int .i64 0, .int .i64 0, .int .i64 0, .slice none 0 0, .slice none 0 0, .slice none 0 0]), (w2.heap.size + 1 + 1 + 1, 48, [.slice (some ⟨w2.heap.size + 1, 0, none⟩) 1 1, .slice (some ⟨w2.heap.size + 1 + 1, 0, none⟩) 2 2]), (gF, 45, [.slice none 0 0, .int .i64 0, .int .i64 1, .slice (some ⟨p.p6, 0, none⟩) 1 1, .slice none 0 0, .int .i64 1, .int .i64 1, .slice (some ⟨w2.heap.size + 1 + 1 + 1, 0, none⟩) 1 1])]) := by
    have h5 := ((((((RW.out.set 5 rfl 0 (by simp) (.slice (some ⟨g, 0, none⟩) 3 cap)).alloc (.cells #[.int .i64 1, .int .i64 0, .int .i64 0, .int .i64 0, .int .i64 0, .int .i64 7, .slice none 0 0, .slice none 0 0, .slice none 0 0] 36)).made (b := w2.heap.size + 1) (e := 3) (cs := #[.int .i64 (-1)]) (by simp)).made (b := w2.heap.size + 1 + 1) (e := 36) (cs := #[.int .i64 1, .int .i64 0, .int .i64 0, .int .i64 0, .int .i64 0, .int .i64 7, .slice none 0 0, .slice none 0 0, .slice none 0 0, .int .i64 22, .int .i64 0, .int .i64 0, .int .i64 0, .int .i64 0, .int .i64 0, .slice none 0 0, .slice none 0 0, .slice none 0 0]) (by simp)).made (b := w2.heap.size + 1 + 1 + 1) (e := 48) (cs := #[.slice (some ⟨w2.heap.size + 1, 0, none⟩) 1 1, .slice (some ⟨w2.heap.size + 1 + 1, 0, none⟩) 2 2]) (by simp)).alloc (.cells #[.slice none 0 0, .int .i64 1, .int .i64 1, .slice (some ⟨w2.heap.size + 1 + 1 + 1, 0, none⟩) 1 1] 45)).new (w' := w3) hst hrow hg
    exact h5
  have HQ3 : Hid (Still w1 w3) := by
    have t2 : Turn (fun j => j = Q) w1 (w2.setCell ⟨Q, 0, none⟩ (.slice (some ⟨g, 0, none⟩) 3 cap)) := (HQ.out.2.turn (S := fun j => j = Q)).setCell (p := ⟨Q, 0, none⟩) (fun _ => rfl) _
    have t3 : Turn (fun j => j = Q) w1 w3 := ((((((t2.alloc (.cells #[.int .i64 1, .int .i64 0, .int .i64 0, .int .i64 0, .int .i64 0, .int .i64 7, .slice none 0 0, .slice none 0 0, .slice none 0 0] 36)).alloc _).alloc _).alloc _).alloc _)).trans (Turn.mono hst fun _ _ e => e.elim)
    exact t3.mono fun j hj e => by have := HQ.out.1; omega
  have hgQ : w2.heap.size ≤ gF := by simp at hg; omega
  clear hst hg hrow
  obtain ⟨I0, hI0⟩ : ∃ I0, w2.heap.size + 1 = I0 := ⟨_, rfl⟩
  obtain ⟨C0, hC0⟩ : ∃ C0, I0 + 1 = C0 := ⟨_, rfl⟩
  obtain ⟨B0, hB0⟩ : ∃ B0, C0 + 1 = B0 := ⟨_, rfl⟩
  rw [hI0, hC0, hB0] at RW3
  rw [hI0, hC0, hB0]
  have HGE_gF : Hid (w1.heap.size ≤ gF) := by show _ ≤ _; have h1 := hgQ; have h2 := HQ.out.2.size; omega
  have HGE_C0 : Hid (w1.heap.size ≤ C0) := by show _ ≤ _; have h2 := HQ.out.2.size; omega
  have HGE_p6 : Hid (w.heap.size ≤ p.p6) := hp6'.out
  clear hI0 hC0 hB0 hgQ RW HP7 HP7Q
  have qR := RW3.out.at 5 (b := Q) (e := 27) rfl
  have q0 := qR.cell (i := 0) rfl
  have q1 := qR.cell (i := 1) rfl
  have q2 := qR.cell (i := 2) rfl
  have q3 := qR.cell (i := 3) rfl
  have q4 := qR.cell (i := 4) rfl
  have q5 := qR.cell (i := 5) rfl
  have q6 := qR.cell (i := 6) rfl
  have qf4 := qR.frozen 4
  have ql := qR.lt
  clear qR
  go_wp2_with fail
  have ne_Q_gF : Q ≠ gF := RW3.out.ne 5 12 rfl rfl (by decide)
  have ne_Q_B0 : Q ≠ B0 := RW3.out.ne 5 11 rfl rfl (by decide)
  have ne_Q_C0 : Q ≠ C0 := RW3.out.ne 5 10 rfl rfl (by decide)
  have ne_Q_p6 : Q ≠ p.p6 := RW3.out.ne 5 4 rfl rfl (by decide)
  have ne_gF_Q : gF ≠ Q := RW3.out.ne 12 5 rfl rfl (by decide)
  have ne_gF_B0 : gF ≠ B0 := RW3.out.ne 12 11 rfl rfl (by decide)
  have ne_gF_C0 : gF ≠ C0 := RW3.out.ne 12 10 rfl rfl (by decide)
  have ne_gF_p6 : gF ≠ p.p6 := RW3.out.ne 12 4 rfl rfl (by decide)
  have ne_B0_Q : B0 ≠ Q := RW3.out.ne 11 5 rfl rfl (by decide)
  have ne_B0_gF : B0 ≠ gF := RW3.out.ne 11 12 rfl rfl (by decide)
  have ne_B0_C0 : B0 ≠ C0 := RW3.out.ne 11 10 rfl rfl (by decide)
  have ne_B0_p6 : B0 ≠ p.p6 := RW3.out.ne 11 4 rfl rfl (by decide)
  have ne_C0_Q : C0 ≠ Q := RW3.out.ne 10 5 rfl rfl (by decide)
  have ne_C0_gF : C0 ≠ gF := RW3.out.ne 10 12 rfl rfl (by decide)
  have ne_C0_B0 : C0 ≠ B0 := RW3.out.ne 10 11 rfl rfl (by decide)
  have ne_C0_p6 : C0 ≠ p.p6 := RW3.out.ne 10 4 rfl rfl (by decide)
  have ne_p6_Q : p.p6 ≠ Q := RW3.out.ne 4 5 rfl rfl (by decide)
  have ne_p6_gF : p.p6 ≠ gF := RW3.out.ne 4 12 rfl rfl (by decide)
  have ne_p6_B0 : p.p6 ≠ B0 := RW3.out.ne 4 11 rfl rfl (by decide)
  have ne_p6_C0 : p.p6 ≠ C0 := RW3.out.ne 4 10 rfl rfl (by decide)
  clear q0 q1 q2 q3 q4 q5 q6 qf4 ql
  generalize hW4 : (w3.setCell ⟨Q, 4, none⟩ (.slice (some ⟨gF, 0, none⟩) 2 capF)) = w4
  have RW4 : Hid (Rws w4 [(p.p1, 3, [.int .i64 0]), (p.p3, 42, [.int .i64 3, .slice none 0 0, .string ⟨#[]⟩]), (p.p4, 3, [.int .i64 (-1)]), (p.p5, 36, [.int .i64 1, .int .i64 0, .int .i64 0, .int .i64 0, .int .i64 0, .int .i64 5, .slice none 0 0, .slice none 0 0, .slice none 0 0, .int .i64 22, .int .i64 0, .int .i64 0, .int .i64 0, .int .i64 0, .int .i64 0, .slice none 0 0, .slice none 0 0, .slice none 0 0]), (p.p6, 48, [.slice (some ⟨p.p4, 0, none⟩) 1 1, .slice (some ⟨p.p5, 0, none⟩) 2 2]), (Q, 27, [.slice (some ⟨g, 0, none⟩) 3 cap, .slice (some ⟨p.p3, 0, none⟩) 1 1, .slice (some ⟨Q + 1, 0, none⟩) 1 1, .slice none 0 0, .slice (some ⟨gF, 0, none⟩) 2 capF, .int .i64 0, .int .i64 0]), (Q + 1, 9, [.string ⟨#[120]⟩]), (Q + 1 + 1, 3, [.int .i64 0]), (g, 51, [.bool true, .slice none 0 0, .bool false, .slice (some ⟨p.p1, 0, none⟩) 1 1, .bool true, .slice (some ⟨Q + 1 + 1, 0, none⟩) 1 1]), (I0, 3, [.int .i64 (-1)]), (C0, 36, [.int .i64 1, .int .i64 0, .int .i64 0, .int .i64 0, .int .i64 0, .int .i64 7, .slice none 0 0, .slice none 0 0, .slice none 0 0, .int .i64 22, .int .i64 0, .int .i64 0, .int .i64 0, .int .i64 0, .int .i64 0, .slice none 0 0, .slice none 0 0, .slice none 0 0]), (B0, 48, [.slice (some ⟨I0, 0, none⟩) 1 1, .slice (some ⟨C0, 0, none⟩) 2 2]), (gF, 45, [.slice none 0 0, .int .i64 0, .int .i64 1, .slice (some ⟨p.p6, 0, none⟩) 1 1, .slice none 0 0, .int .i64 1, .int .i64 1, .slice (some ⟨B0, 0, none⟩) 1 1])]) := by
    rw [← hW4]
    exact (RW3.out.set 5 rfl 4 (by simp) (.slice (some ⟨gF, 0, none⟩) 2 capF))
  have HS4 : Hid (Still w1 w4) := by
    rw [← hW4]
    refine Turn.mono (S := fun j => j = Q) ((((HQ3.out)).turn (S := fun j => j = Q)).setCell (p := ⟨Q, 4, none⟩) (fun _ => rfl) _) fun j hj e => ?_
    have k_Q := HQ.out.1
    omega
  clear hW4
  have SW5 : Hid (Still w w4) := H1.out.2.trans HS4.out
  have HF5 := Lib.hid (Bm.fault_built (RW4.out.holds (D := [[.int 0], [.int 3, .sl none 0 0, .str ⟨#[]⟩], [.int (-1)], [.int 1, .int 0, .int 0, .int 0, .int 0, .int 5, .sl none 0 0, .sl none 0 0, .sl none 0 0, .int 22, .int 0, .int 0, .int 0, .int 0, .int 0, .sl none 0 0, .sl none 0 0, .sl none 0 0], [.sl (some (2, 0)) 1 1, .sl (some (3, 0)) 2 2], [.sl (some (8, 0)) 3 cap, .sl (some (1, 0)) 1 1, .sl (some (6, 0)) 1 1, .sl none 0 0, .sl (some (12, 0)) 2 capF, .int 0, .int 0], [.str ⟨#[120]⟩], [.int 0], [.bool true, .sl none 0 0, .bool false, .sl (some (0, 0)) 1 1, .bool true, .sl (some (7, 0)) 1 1], [.int (-1)], [.int 1, .int 0, .int 0, .int 0, .int 0, .int 7, .sl none 0 0, .sl none 0 0, .sl none 0 0, .int 22, .int 0, .int 0, .int 0, .int 0, .int 0, .sl none 0 0, .sl none 0 0, .sl none 0 0], [.sl (some (9, 0)) 1 1, .sl (some (10, 0)) 2 2], [.sl none 0 0, .int 0, .int 1, .sl (some (4, 0)) 1 1, .sl none 0 0, .int 1, .int 1, .sl (some (11, 0)) 1 1]]) rfl) (HT.out _ SW5.out) (c := ⟨some (8, 0), 3, cap, some (1, 0), 1, 1, some (6, 0), 1, 1, none, 0, 0, some (12, 0), 2, capF, 0, 0⟩) (m := (⟨[⟨true, []⟩, ⟨false, [0]⟩, ⟨true, [0]⟩], [⟨3, [], ⟨#[]⟩⟩], [⟨#[120]⟩], [], [⟨[], 0, 1, [⟨[-1], [⟨1, 0, 0, 0, 0, 5, [], [], []⟩, ⟨22, 0, 0, 0, 0, 0, [], [], []⟩]⟩]⟩, ⟨[], 1, 1, [⟨[-1], [⟨1, 0, 0, 0, 0, 7, [], [], []⟩, ⟨22, 0, 0, 0, 0, 0, [], [], []⟩]⟩]⟩], 0, 0⟩ : M.Img)) (by kernel_rfl) (by decide +kernel) (by decide +kernel))
  have HE5 : Hid (Bm.faultE (⟨[⟨true, []⟩, ⟨false, [0]⟩, ⟨true, [0]⟩], [⟨3, [], ⟨#[]⟩⟩], [⟨#[120]⟩], [], [⟨[], 0, 1, [⟨[-1], [⟨1, 0, 0, 0, 0, 5, [], [], []⟩, ⟨22, 0, 0, 0, 0, 0, [], [], []⟩]⟩]⟩, ⟨[], 1, 1, [⟨[-1], [⟨1, 0, 0, 0, 0, 7, [], [], []⟩, ⟨22, 0, 0, 0, 0, 0, [], [], []⟩]⟩]⟩], 0, 0⟩ : M.Img) = .tuple #[.int .i64 1, .int .i64 0, .int .i64 1, .bool false]) := by show _ = _; kernel_rfl
  refine HF5.out.mono ?_; rintro e w5 ⟨rfl, t5⟩
  rw [HE5.out]
  have RW5 : Hid (Rws w5 [(p.p1, 3, [.int .i64 0]), (p.p3, 42, [.int .i64 3, .slice none 0 0, .string ⟨#[]⟩]), (p.p4, 3, [.int .i64 (-1)]), (p.p5, 36, [.int .i64 1, .int .i64 0, .int .i64 0, .int .i64 0, .int .i64 0, .int .i64 5, .slice none 0 0, .slice none 0 0, .slice none 0 0, .int .i64 22, .int .i64 0, .int .i64 0, .int .i64 0, .int .i64 0, .int .i64 0, .slice none 0 0, .slice none 0 0, .slice none 0 0]), (p.p6, 48, [.slice (some ⟨p.p4, 0, none⟩) 1 1, .slice (some ⟨p.p5, 0, none⟩) 2 2]), (Q, 27, [.slice (some ⟨g, 0, none⟩) 3 cap, .slice (some ⟨p.p3, 0, none⟩) 1 1, .slice (some ⟨Q + 1, 0, none⟩) 1 1, .slice none 0 0, .slice (some ⟨gF, 0, none⟩) 2 capF, .int .i64 0, .int .i64 0]), (Q + 1, 9, [.string ⟨#[120]⟩]), (Q + 1 + 1, 3, [.int .i64 0]), (g, 51, [.bool true, .slice none 0 0, .bool false, .slice (some ⟨p.p1, 0, none⟩) 1 1, .bool true, .slice (some ⟨Q + 1 + 1, 0, none⟩) 1 1]), (I0, 3, [.int .i64 (-1)]), (C0, 36, [.int .i64 1, .int .i64 0, .int .i64 0, .int .i64 0, .int .i64 0, .int .i64 7, .slice none 0 0, .slice none 0 0, .slice none 0 0, .int .i64 22, .int .i64 0, .int .i64 0, .int .i64 0, .int .i64 0, .int .i64 0, .slice none 0 0, .slice none 0 0, .slice none 0 0]), (B0, 48, [.slice (some ⟨I0, 0, none⟩) 1 1, .slice (some ⟨C0, 0, none⟩) 2 2]), (gF, 45, [.slice none 0 0, .int .i64 0, .int .i64 1, .slice (some ⟨p.p6, 0, none⟩) 1 1, .slice none 0 0, .int .i64 1, .int .i64 1, .slice (some ⟨B0, 0, none⟩) 1 1])]) := RW4.out.still t5
  have HS5 : Hid (Still w1 w5) := HS4.out.trans t5
  clear t5 HF5 HE5
  have qR := RW5.out.at 5 (b := Q) (e := 27) rfl
  have q0 := qR.cell (i := 0) rfl
  have q1 := qR.cell (i := 1) rfl
  have q2 := qR.cell (i := 2) rfl
  have q3 := qR.cell (i := 3) rfl
  have q4 := qR.cell (i := 4) rfl
  have q5 := qR.cell (i := 5) rfl
  have q6 := qR.cell (i := 6) rfl
  have ql := qR.lt
  clear qR
  have gfR := RW5.out.at 12 (b := gF) (e := 45) rfl
  have gf0 := gfR.cell (i := 0) rfl
  have gf1 := gfR.cell (i := 1) rfl
  have gf2 := gfR.cell (i := 2) rfl
  have gf3 := gfR.cell (i := 3) rfl
  have gf4 := gfR.cell (i := 4) rfl
  have gf5 := gfR.cell (i := 5) rfl
  have gf6 := gfR.cell (i := 6) rfl
  have gf7 := gfR.cell (i := 7) rfl
  have gff5 := gfR.frozen 5
  have gfl := gfR.lt
  clear gfR
  go_wp2_with fail
  clear q0 q1 q2 q3 q4 q5 q6 ql gf0 gf1 gf2 gf3 gf4 gf5 gf6 gf7 gff5 gfl
  generalize hW6 : (w5.setCell ⟨gF, 5, none⟩ (.int .i64 2)) = w6
  have RW6 : Hid (Rws w6 [(p.p1, 3, [.int .i64 0]), (p.p3, 42, [.int .i64 3, .slice none 0 0, .string ⟨#[]⟩]), (p.p4, 3, [.int .i64 (-1)]), (p.p5, 36, [.int .i64 1, .int .i64 0, .int .i64 0, .int .i64 0, .int .i64 0, .int .i64 5, .slice none 0 0, .slice none 0 0, .slice none 0 0, .int .i64 22, .int .i64 0, .int .i64 0, .int .i64 0, .int .i64 0, .int .i64 0, .slice none 0 0, .slice none 0 0, .slice none 0 0]), (p.p6, 48, [.slice (some ⟨p.p4, 0, none⟩) 1 1, .slice (some ⟨p.p5, 0, none⟩) 2 2]), (Q, 27, [.slice (some ⟨g, 0, none⟩) 3 cap, .slice (some ⟨p.p3, 0, none⟩) 1 1, .slice (some ⟨Q + 1, 0, none⟩) 1 1, .slice none 0 0, .slice (some ⟨gF, 0, none⟩) 2 capF, .int .i64 0, .int .i64 0]), (Q + 1, 9, [.string ⟨#[120]⟩]), (Q + 1 + 1, 3, [.int .i64 0]), (g, 51, [.bool true, .slice none 0 0, .bool false, .slice (some ⟨p.p1, 0, none⟩) 1 1, .bool true, .slice (some ⟨Q + 1 + 1, 0, none⟩) 1 1]), (I0, 3, [.int .i64 (-1)]), (C0, 36, [.int .i64 1, .int .i64 0, .int .i64 0, .int .i64 0, .int .i64 0, .int .i64 7, .slice none 0 0, .slice none 0 0, .slice none 0 0, .int .i64 22, .int .i64 0, .int .i64 0, .int .i64 0, .int .i64 0, .int .i64 0, .slice none 0 0, .slice none 0 0, .slice none 0 0]), (B0, 48, [.slice (some ⟨I0, 0, none⟩) 1 1, .slice (some ⟨C0, 0, none⟩) 2 2]), (gF, 45, [.slice none 0 0, .int .i64 0, .int .i64 1, .slice (some ⟨p.p6, 0, none⟩) 1 1, .slice none 0 0, .int .i64 2, .int .i64 1, .slice (some ⟨B0, 0, none⟩) 1 1])]) := by
    rw [← hW6]
    exact (RW5.out.set 12 rfl 5 (by simp) (.int .i64 2))
  have HS6 : Hid (Still w1 w6) := by
    rw [← hW6]
    refine Turn.mono (S := fun j => j = gF) ((((HS5.out)).turn (S := fun j => j = gF)).setCell (p := ⟨gF, 5, none⟩) (fun _ => rfl) _) fun j hj e => ?_
    have k_gF := HGE_gF.out
    omega
  clear hW6
  have SW7 : Hid (Still w w6) := H1.out.2.trans HS6.out
  have HF7 := Lib.hid (Bm.verify_built (RW6.out.holds (D := [[.int 0], [.int 3, .sl none 0 0, .str ⟨#[]⟩], [.int (-1)], [.int 1, .int 0, .int 0, .int 0, .int 0, .int 5, .sl none 0 0, .sl none 0 0, .sl none 0 0, .int 22, .int 0, .int 0, .int 0, .int 0, .int 0, .sl none 0 0, .sl none 0 0, .sl none 0 0], [.sl (some (2, 0)) 1 1, .sl (some (3, 0)) 2 2], [.sl (some (8, 0)) 3 cap, .sl (some (1, 0)) 1 1, .sl (some (6, 0)) 1 1, .sl none 0 0, .sl (some (12, 0)) 2 capF, .int 0, .int 0], [.str ⟨#[120]⟩], [.int 0], [.bool true, .sl none 0 0, .bool false, .sl (some (0, 0)) 1 1, .bool true, .sl (some (7, 0)) 1 1], [.int (-1)], [.int 1, .int 0, .int 0, .int 0, .int 0, .int 7, .sl none 0 0, .sl none 0 0, .sl none 0 0, .int 22, .int 0, .int 0, .int 0, .int 0, .int 0, .sl none 0 0, .sl none 0 0, .sl none 0 0], [.sl (some (9, 0)) 1 1, .sl (some (10, 0)) 2 2], [.sl none 0 0, .int 0, .int 1, .sl (some (4, 0)) 1 1, .sl none 0 0, .int 2, .int 1, .sl (some (11, 0)) 1 1]]) rfl) (HT.out _ SW7.out) (c := ⟨some (8, 0), 3, cap, some (1, 0), 1, 1, some (6, 0), 1, 1, none, 0, 0, some (12, 0), 2, capF, 0, 0⟩) (m := (⟨[⟨true, []⟩, ⟨false, [0]⟩, ⟨true, [0]⟩], [⟨3, [], ⟨#[]⟩⟩], [⟨#[120]⟩], [], [⟨[], 0, 1, [⟨[-1], [⟨1, 0, 0, 0, 0, 5, [], [], []⟩, ⟨22, 0, 0, 0, 0, 0, [], [], []⟩]⟩]⟩, ⟨[], 2, 1, [⟨[-1], [⟨1, 0, 0, 0, 0, 7, [], [], []⟩, ⟨22, 0, 0, 0, 0, 0, [], [], []⟩]⟩]⟩], 0, 0⟩ : M.Img)) (by kernel_rfl) (by decide +kernel) (by decide +kernel))
  have HE7 : Hid ((if Bm.good (⟨[⟨true, []⟩, ⟨false, [0]⟩, ⟨true, [0]⟩], [⟨3, [], ⟨#[]⟩⟩], [⟨#[120]⟩], [], [⟨[], 0, 1, [⟨[-1], [⟨1, 0, 0, 0, 0, 5, [], [], []⟩, ⟨22, 0, 0, 0, 0, 0, [], [], []⟩]⟩]⟩, ⟨[], 2, 1, [⟨[-1], [⟨1, 0, 0, 0, 0, 7, [], [], []⟩, ⟨22, 0, 0, 0, 0, 0, [], [], []⟩]⟩]⟩], 0, 0⟩ : M.Img) then 0 else 21 : Int) = 0) := by show _ = _; decide +kernel
  refine HF7.out.mono ?_; rintro e w7 ⟨rfl, t7⟩
  rw [HE7.out]
  have RW7 : Hid (Rws w7 [(p.p1, 3, [.int .i64 0]), (p.p3, 42, [.int .i64 3, .slice none 0 0, .string ⟨#[]⟩]), (p.p4, 3, [.int .i64 (-1)]), (p.p5, 36, [.int .i64 1, .int .i64 0, .int .i64 0, .int .i64 0, .int .i64 0, .int .i64 5, .slice none 0 0, .slice none 0 0, .slice none 0 0, .int .i64 22, .int .i64 0, .int .i64 0, .int .i64 0, .int .i64 0, .int .i64 0, .slice none 0 0, .slice none 0 0, .slice none 0 0]), (p.p6, 48, [.slice (some ⟨p.p4, 0, none⟩) 1 1, .slice (some ⟨p.p5, 0, none⟩) 2 2]), (Q, 27, [.slice (some ⟨g, 0, none⟩) 3 cap, .slice (some ⟨p.p3, 0, none⟩) 1 1, .slice (some ⟨Q + 1, 0, none⟩) 1 1, .slice none 0 0, .slice (some ⟨gF, 0, none⟩) 2 capF, .int .i64 0, .int .i64 0]), (Q + 1, 9, [.string ⟨#[120]⟩]), (Q + 1 + 1, 3, [.int .i64 0]), (g, 51, [.bool true, .slice none 0 0, .bool false, .slice (some ⟨p.p1, 0, none⟩) 1 1, .bool true, .slice (some ⟨Q + 1 + 1, 0, none⟩) 1 1]), (I0, 3, [.int .i64 (-1)]), (C0, 36, [.int .i64 1, .int .i64 0, .int .i64 0, .int .i64 0, .int .i64 0, .int .i64 7, .slice none 0 0, .slice none 0 0, .slice none 0 0, .int .i64 22, .int .i64 0, .int .i64 0, .int .i64 0, .int .i64 0, .int .i64 0, .slice none 0 0, .slice none 0 0, .slice none 0 0]), (B0, 48, [.slice (some ⟨I0, 0, none⟩) 1 1, .slice (some ⟨C0, 0, none⟩) 2 2]), (gF, 45, [.slice none 0 0, .int .i64 0, .int .i64 1, .slice (some ⟨p.p6, 0, none⟩) 1 1, .slice none 0 0, .int .i64 2, .int .i64 1, .slice (some ⟨B0, 0, none⟩) 1 1])]) := RW6.out.still t7
  have HS7 : Hid (Still w1 w7) := HS6.out.trans t7
  clear t7 HF7 HE7
  have qR := RW7.out.at 5 (b := Q) (e := 27) rfl
  have q0 := qR.cell (i := 0) rfl
  have q1 := qR.cell (i := 1) rfl
  have q2 := qR.cell (i := 2) rfl
  have q3 := qR.cell (i := 3) rfl
  have q4 := qR.cell (i := 4) rfl
  have q5 := qR.cell (i := 5) rfl
  have q6 := qR.cell (i := 6) rfl
  have ql := qR.lt
  clear qR
  have gfR := RW7.out.at 12 (b := gF) (e := 45) rfl
  have gf0 := gfR.cell (i := 0) rfl
  have gf1 := gfR.cell (i := 1) rfl
  have gf2 := gfR.cell (i := 2) rfl
  have gf3 := gfR.cell (i := 3) rfl
  have gf4 := gfR.cell (i := 4) rfl
  have gf5 := gfR.cell (i := 5) rfl
  have gf6 := gfR.cell (i := 6) rfl
  have gf7 := gfR.cell (i := 7) rfl
  have gfl := gfR.lt
  clear gfR
  have bbR := RW7.out.at 11 (b := B0) (e := 48) rfl
  have bb0 := bbR.cell (i := 0) rfl
  have bb1 := bbR.cell (i := 1) rfl
  have bbl := bbR.lt
  clear bbR
  have ccR := RW7.out.at 10 (b := C0) (e := 36) rfl
  have cc0 := ccR.cell (i := 0) rfl
  have cc1 := ccR.cell (i := 1) rfl
  have cc2 := ccR.cell (i := 2) rfl
  have cc3 := ccR.cell (i := 3) rfl
  have cc4 := ccR.cell (i := 4) rfl
  have cc5 := ccR.cell (i := 5) rfl
  have cc6 := ccR.cell (i := 6) rfl
  have cc7 := ccR.cell (i := 7) rfl
  have cc8 := ccR.cell (i := 8) rfl
  have cc9 := ccR.cell (i := 9) rfl
  have cc10 := ccR.cell (i := 10) rfl
  have cc11 := ccR.cell (i := 11) rfl
  have cc12 := ccR.cell (i := 12) rfl
  have cc13 := ccR.cell (i := 13) rfl
  have cc14 := ccR.cell (i := 14) rfl
  have cc15 := ccR.cell (i := 15) rfl
  have cc16 := ccR.cell (i := 16) rfl
  have cc17 := ccR.cell (i := 17) rfl
  have ccf9 := ccR.frozen 9
  have ccf10 := ccR.frozen 10
  have ccf11 := ccR.frozen 11
  have ccf12 := ccR.frozen 12
  have ccf13 := ccR.frozen 13
  have ccf14 := ccR.frozen 14
  have ccf15 := ccR.frozen 15
  have ccf16 := ccR.frozen 16
  have ccf17 := ccR.frozen 17
  have ccl := ccR.lt
  clear ccR
  go_wp2_with fail
  clear q0 q1 q2 q3 q4 q5 q6 ql gf0 gf1 gf2 gf3 gf4 gf5 gf6 gf7 gfl bb0 bb1 bbl cc0 cc1 cc2 cc3 cc4 cc5 cc6 cc7 cc8 cc9 cc10 cc11 cc12 cc13 cc14 cc15 cc16 cc17 ccf9 ccf10 ccf11 ccf12 ccf13 ccf14 ccf15 ccf16 ccf17 ccl
  generalize hW8 : (((((((((w7.setCell ⟨C0, 9, none⟩ (.int .i64 23)).setCell ⟨C0, 10, none⟩ (.int .i64 0)).setCell ⟨C0, 11, none⟩ (.int .i64 0)).setCell ⟨C0, 12, none⟩ (.int .i64 0)).setCell ⟨C0, 13, none⟩ (.int .i64 0)).setCell ⟨C0, 14, none⟩ (.int .i64 0)).setCell ⟨C0, 15, none⟩ (.slice none 0 0)).setCell ⟨C0, 16, none⟩ (.slice none 0 0)).setCell ⟨C0, 17, none⟩ (.slice none 0 0)) = w8
  have RW8 : Hid (Rws w8 [(p.p1, 3, [.int .i64 0]), (p.p3, 42, [.int .i64 3, .slice none 0 0, .string ⟨#[]⟩]), (p.p4, 3, [.int .i64 (-1)]), (p.p5, 36, [.int .i64 1, .int .i64 0, .int .i64 0, .int .i64 0, .int .i64 0, .int .i64 5, .slice none 0 0, .slice none 0 0, .slice none 0 0, .int .i64 22, .int .i64 0, .int .i64 0, .int .i64 0, .int .i64 0, .int .i64 0, .slice none 0 0, .slice none 0 0, .slice none 0 0]), (p.p6, 48, [.slice (some ⟨p.p4, 0, none⟩) 1 1, .slice (some ⟨p.p5, 0, none⟩) 2 2]), (Q, 27, [.slice (some ⟨g, 0, none⟩) 3 cap, .slice (some ⟨p.p3, 0, none⟩) 1 1, .slice (some ⟨Q + 1, 0, none⟩) 1 1, .slice none 0 0, .slice (some ⟨gF, 0, none⟩) 2 capF, .int .i64 0, .int .i64 0]), (Q + 1, 9, [.string ⟨#[120]⟩]), (Q + 1 + 1, 3, [.int .i64 0]), (g, 51, [.bool true, .slice none 0 0, .bool false, .slice (some ⟨p.p1, 0, none⟩) 1 1, .bool true, .slice (some ⟨Q + 1 + 1, 0, none⟩) 1 1]), (I0, 3, [.int .i64 (-1)]), (C0, 36, [.int .i64 1, .int .i64 0, .int .i64 0, .int .i64 0, .int .i64 0, .int .i64 7, .slice none 0 0, .slice none 0 0, .slice none 0 0, .int .i64 23, .int .i64 0, .int .i64 0, .int .i64 0, .int .i64 0, .int .i64 0, .slice none 0 0, .slice none 0 0, .slice none 0 0]), (B0, 48, [.slice (some ⟨I0, 0, none⟩) 1 1, .slice (some ⟨C0, 0, none⟩) 2 2]), (gF, 45, [.slice none 0 0, .int .i64 0, .int .i64 1, .slice (some ⟨p.p6, 0, none⟩) 1 1, .slice none 0 0, .int .i64 2, .int .i64 1, .slice (some ⟨B0, 0, none⟩) 1 1])]) := by
    rw [← hW8]
    exact (((((((((RW7.out.set 10 rfl 9 (by simp) (.int .i64 23)).set 10 rfl 10 (by simp) (.int .i64 0)).set 10 rfl 11 (by simp) (.int .i64 0)).set 10 rfl 12 (by simp) (.int .i64 0)).set 10 rfl 13 (by simp) (.int .i64 0)).set 10 rfl 14 (by simp) (.int .i64 0)).set 10 rfl 15 (by simp) (.slice none 0 0)).set 10 rfl 16 (by simp) (.slice none 0 0)).set 10 rfl 17 (by simp) (.slice none 0 0))
  have HS8 : Hid (Still w1 w8) := by
    rw [← hW8]
    refine Turn.mono (S := fun j => j = C0) ((((((((((((HS7.out)).turn (S := fun j => j = C0)).setCell (p := ⟨C0, 9, none⟩) (fun _ => rfl) _).setCell (p := ⟨C0, 10, none⟩) (fun _ => rfl) _).setCell (p := ⟨C0, 11, none⟩) (fun _ => rfl) _).setCell (p := ⟨C0, 12, none⟩) (fun _ => rfl) _).setCell (p := ⟨C0, 13, none⟩) (fun _ => rfl) _).setCell (p := ⟨C0, 14, none⟩) (fun _ => rfl) _).setCell (p := ⟨C0, 15, none⟩) (fun _ => rfl) _).setCell (p := ⟨C0, 16, none⟩) (fun _ => rfl) _).setCell (p := ⟨C0, 17, none⟩) (fun _ => rfl) _) fun j hj e => ?_
    have k_C0 := HGE_C0.out
    omega
  clear hW8
  have SW9 : Hid (Still w w8) := H1.out.2.trans HS8.out
  have HF9 := Lib.hid (Bm.verify_built (RW8.out.holds (D := [[.int 0], [.int 3, .sl none 0 0, .str ⟨#[]⟩], [.int (-1)], [.int 1, .int 0, .int 0, .int 0, .int 0, .int 5, .sl none 0 0, .sl none 0 0, .sl none 0 0, .int 22, .int 0, .int 0, .int 0, .int 0, .int 0, .sl none 0 0, .sl none 0 0, .sl none 0 0], [.sl (some (2, 0)) 1 1, .sl (some (3, 0)) 2 2], [.sl (some (8, 0)) 3 cap, .sl (some (1, 0)) 1 1, .sl (some (6, 0)) 1 1, .sl none 0 0, .sl (some (12, 0)) 2 capF, .int 0, .int 0], [.str ⟨#[120]⟩], [.int 0], [.bool true, .sl none 0 0, .bool false, .sl (some (0, 0)) 1 1, .bool true, .sl (some (7, 0)) 1 1], [.int (-1)], [.int 1, .int 0, .int 0, .int 0, .int 0, .int 7, .sl none 0 0, .sl none 0 0, .sl none 0 0, .int 23, .int 0, .int 0, .int 0, .int 0, .int 0, .sl none 0 0, .sl none 0 0, .sl none 0 0], [.sl (some (9, 0)) 1 1, .sl (some (10, 0)) 2 2], [.sl none 0 0, .int 0, .int 1, .sl (some (4, 0)) 1 1, .sl none 0 0, .int 2, .int 1, .sl (some (11, 0)) 1 1]]) rfl) (HT.out _ SW9.out) (c := ⟨some (8, 0), 3, cap, some (1, 0), 1, 1, some (6, 0), 1, 1, none, 0, 0, some (12, 0), 2, capF, 0, 0⟩) (m := (⟨[⟨true, []⟩, ⟨false, [0]⟩, ⟨true, [0]⟩], [⟨3, [], ⟨#[]⟩⟩], [⟨#[120]⟩], [], [⟨[], 0, 1, [⟨[-1], [⟨1, 0, 0, 0, 0, 5, [], [], []⟩, ⟨22, 0, 0, 0, 0, 0, [], [], []⟩]⟩]⟩, ⟨[], 2, 1, [⟨[-1], [⟨1, 0, 0, 0, 0, 7, [], [], []⟩, ⟨23, 0, 0, 0, 0, 0, [], [], []⟩]⟩]⟩], 0, 0⟩ : M.Img)) (by kernel_rfl) (by decide +kernel) (by decide +kernel))
  have HE9 : Hid ((if Bm.good (⟨[⟨true, []⟩, ⟨false, [0]⟩, ⟨true, [0]⟩], [⟨3, [], ⟨#[]⟩⟩], [⟨#[120]⟩], [], [⟨[], 0, 1, [⟨[-1], [⟨1, 0, 0, 0, 0, 5, [], [], []⟩, ⟨22, 0, 0, 0, 0, 0, [], [], []⟩]⟩]⟩, ⟨[], 2, 1, [⟨[-1], [⟨1, 0, 0, 0, 0, 7, [], [], []⟩, ⟨23, 0, 0, 0, 0, 0, [], [], []⟩]⟩]⟩], 0, 0⟩ : M.Img) then 0 else 21 : Int) = 0) := by show _ = _; decide +kernel
  refine HF9.out.mono ?_; rintro e w9 ⟨rfl, t9⟩
  rw [HE9.out]
  have RW9 : Hid (Rws w9 [(p.p1, 3, [.int .i64 0]), (p.p3, 42, [.int .i64 3, .slice none 0 0, .string ⟨#[]⟩]), (p.p4, 3, [.int .i64 (-1)]), (p.p5, 36, [.int .i64 1, .int .i64 0, .int .i64 0, .int .i64 0, .int .i64 0, .int .i64 5, .slice none 0 0, .slice none 0 0, .slice none 0 0, .int .i64 22, .int .i64 0, .int .i64 0, .int .i64 0, .int .i64 0, .int .i64 0, .slice none 0 0, .slice none 0 0, .slice none 0 0]), (p.p6, 48, [.slice (some ⟨p.p4, 0, none⟩) 1 1, .slice (some ⟨p.p5, 0, none⟩) 2 2]), (Q, 27, [.slice (some ⟨g, 0, none⟩) 3 cap, .slice (some ⟨p.p3, 0, none⟩) 1 1, .slice (some ⟨Q + 1, 0, none⟩) 1 1, .slice none 0 0, .slice (some ⟨gF, 0, none⟩) 2 capF, .int .i64 0, .int .i64 0]), (Q + 1, 9, [.string ⟨#[120]⟩]), (Q + 1 + 1, 3, [.int .i64 0]), (g, 51, [.bool true, .slice none 0 0, .bool false, .slice (some ⟨p.p1, 0, none⟩) 1 1, .bool true, .slice (some ⟨Q + 1 + 1, 0, none⟩) 1 1]), (I0, 3, [.int .i64 (-1)]), (C0, 36, [.int .i64 1, .int .i64 0, .int .i64 0, .int .i64 0, .int .i64 0, .int .i64 7, .slice none 0 0, .slice none 0 0, .slice none 0 0, .int .i64 23, .int .i64 0, .int .i64 0, .int .i64 0, .int .i64 0, .int .i64 0, .slice none 0 0, .slice none 0 0, .slice none 0 0]), (B0, 48, [.slice (some ⟨I0, 0, none⟩) 1 1, .slice (some ⟨C0, 0, none⟩) 2 2]), (gF, 45, [.slice none 0 0, .int .i64 0, .int .i64 1, .slice (some ⟨p.p6, 0, none⟩) 1 1, .slice none 0 0, .int .i64 2, .int .i64 1, .slice (some ⟨B0, 0, none⟩) 1 1])]) := RW8.out.still t9
  have HS9 : Hid (Still w1 w9) := HS8.out.trans t9
  clear t9 HF9 HE9
  have qR := RW9.out.at 5 (b := Q) (e := 27) rfl
  have q0 := qR.cell (i := 0) rfl
  have q1 := qR.cell (i := 1) rfl
  have q2 := qR.cell (i := 2) rfl
  have q3 := qR.cell (i := 3) rfl
  have q4 := qR.cell (i := 4) rfl
  have q5 := qR.cell (i := 5) rfl
  have q6 := qR.cell (i := 6) rfl
  have ql := qR.lt
  clear qR
  have gfR := RW9.out.at 12 (b := gF) (e := 45) rfl
  have gf0 := gfR.cell (i := 0) rfl
  have gf1 := gfR.cell (i := 1) rfl
  have gf2 := gfR.cell (i := 2) rfl
  have gf3 := gfR.cell (i := 3) rfl
  have gf4 := gfR.cell (i := 4) rfl
  have gf5 := gfR.cell (i := 5) rfl
  have gf6 := gfR.cell (i := 6) rfl
  have gf7 := gfR.cell (i := 7) rfl
  have gff5 := gfR.frozen 5
  have gfl := gfR.lt
  clear gfR
  have bbR := RW9.out.at 11 (b := B0) (e := 48) rfl
  have bb0 := bbR.cell (i := 0) rfl
  have bb1 := bbR.cell (i := 1) rfl
  have bbl := bbR.lt
  clear bbR
  have ccR := RW9.out.at 10 (b := C0) (e := 36) rfl
  have cc0 := ccR.cell (i := 0) rfl
  have cc1 := ccR.cell (i := 1) rfl
  have cc2 := ccR.cell (i := 2) rfl
  have cc3 := ccR.cell (i := 3) rfl
  have cc4 := ccR.cell (i := 4) rfl
  have cc5 := ccR.cell (i := 5) rfl
  have cc6 := ccR.cell (i := 6) rfl
  have cc7 := ccR.cell (i := 7) rfl
  have cc8 := ccR.cell (i := 8) rfl
  have cc9 := ccR.cell (i := 9) rfl
  have cc10 := ccR.cell (i := 10) rfl
  have cc11 := ccR.cell (i := 11) rfl
  have cc12 := ccR.cell (i := 12) rfl
  have cc13 := ccR.cell (i := 13) rfl
  have cc14 := ccR.cell (i := 14) rfl
  have cc15 := ccR.cell (i := 15) rfl
  have cc16 := ccR.cell (i := 16) rfl
  have cc17 := ccR.cell (i := 17) rfl
  have ccf9 := ccR.frozen 9
  have ccf10 := ccR.frozen 10
  have ccf11 := ccR.frozen 11
  have ccf12 := ccR.frozen 12
  have ccf13 := ccR.frozen 13
  have ccf14 := ccR.frozen 14
  have ccf15 := ccR.frozen 15
  have ccf16 := ccR.frozen 16
  have ccf17 := ccR.frozen 17
  have ccl := ccR.lt
  clear ccR
  have ppR := RW9.out.at 4 (b := p.p6) (e := 48) rfl
  have pp0 := ppR.cell (i := 0) rfl
  have pp1 := ppR.cell (i := 1) rfl
  have ppf1 := ppR.frozen 1
  have ppl := ppR.lt
  clear ppR
  go_wp2_with fail
  clear q0 q1 q2 q3 q4 q5 q6 ql gf0 gf1 gf2 gf3 gf4 gf5 gf6 gf7 gff5 gfl bb0 bb1 bbl cc0 cc1 cc2 cc3 cc4 cc5 cc6 cc7 cc8 cc9 cc10 cc11 cc12 cc13 cc14 cc15 cc16 cc17 ccf9 ccf10 ccf11 ccf12 ccf13 ccf14 ccf15 ccf16 ccf17 ccl pp0 pp1 ppf1 ppl
  generalize hW10 : ((((((((((((w9.setCell ⟨C0, 9, none⟩ (.int .i64 22)).setCell ⟨C0, 10, none⟩ (.int .i64 0)).setCell ⟨C0, 11, none⟩ (.int .i64 0)).setCell ⟨C0, 12, none⟩ (.int .i64 0)).setCell ⟨C0, 13, none⟩ (.int .i64 0)).setCell ⟨C0, 14, none⟩ (.int .i64 0)).setCell ⟨C0, 15, none⟩ (.slice none 0 0)).setCell ⟨C0, 16, none⟩ (.slice none 0 0)).setCell ⟨C0, 17, none⟩ (.slice none 0 0)).setCell ⟨gF, 5, none⟩ (.int .i64 1)).setCell ⟨p.p6, 1, none⟩ (.slice (some ⟨w9.heap.size, 0, none⟩) 3 3)).alloc (.cells #[.int .i64 17, .int .i64 0, .int .i64 1, .int .i64 (-1), .int .i64 0, .int .i64 0, .slice none 0 0, .slice none 0 0, .slice none 0 0, .int .i64 16, .int .i64 0, .int .i64 0, .int .i64 0, .int .i64 0, .int .i64 0, .slice none 0 0, .slice none 0 0, .slice none 0 0, .int .i64 22, .int .i64 0, .int .i64 0, .int .i64 0, .int .i64 0, .int .i64 0, .slice none 0 0, .slice none 0 0, .slice none 0 0] 36)) = w10
  have RW10 : Hid (Rws w10 [(p.p1, 3, [.int .i64 0]), (p.p3, 42, [.int .i64 3, .slice none 0 0, .string ⟨#[]⟩]), (p.p4, 3, [.int .i64 (-1)]), (p.p5, 36, [.int .i64 1, .int .i64 0, .int .i64 0, .int .i64 0, .int .i64 0, .int .i64 5, .slice none 0 0, .slice none 0 0, .slice none 0 0, .int .i64 22, .int .i64 0, .int .i64 0, .int .i64 0, .int .i64 0, .int .i64 0, .slice none 0 0, .slice none 0 0, .slice none 0 0]), (p.p6, 48, [.slice (some ⟨p.p4, 0, none⟩) 1 1, .slice (some ⟨w9.heap.size, 0, none⟩) 3 3]), (Q, 27, [.slice (some ⟨g, 0, none⟩) 3 cap, .slice (some ⟨p.p3, 0, none⟩) 1 1, .slice (some ⟨Q + 1, 0, none⟩) 1 1, .slice none 0 0, .slice (some ⟨gF, 0, none⟩) 2 capF, .int .i64 0, .int .i64 0]), (Q + 1, 9, [.string ⟨#[120]⟩]), (Q + 1 + 1, 3, [.int .i64 0]), (g, 51, [.bool true, .slice none 0 0, .bool false, .slice (some ⟨p.p1, 0, none⟩) 1 1, .bool true, .slice (some ⟨Q + 1 + 1, 0, none⟩) 1 1]), (I0, 3, [.int .i64 (-1)]), (C0, 36, [.int .i64 1, .int .i64 0, .int .i64 0, .int .i64 0, .int .i64 0, .int .i64 7, .slice none 0 0, .slice none 0 0, .slice none 0 0, .int .i64 22, .int .i64 0, .int .i64 0, .int .i64 0, .int .i64 0, .int .i64 0, .slice none 0 0, .slice none 0 0, .slice none 0 0]), (B0, 48, [.slice (some ⟨I0, 0, none⟩) 1 1, .slice (some ⟨C0, 0, none⟩) 2 2]), (gF, 45, [.slice none 0 0, .int .i64 0, .int .i64 1, .slice (some ⟨p.p6, 0, none⟩) 1 1, .slice none 0 0, .int .i64 1, .int .i64 1, .slice (some ⟨B0, 0, none⟩) 1 1]), (w9.heap.size, 36, [.int .i64 17, .int .i64 0, .int .i64 1, .int .i64 (-1), .int .i64 0, .int .i64 0, .slice none 0 0, .slice none 0 0, .slice none 0 0, .int .i64 16, .int .i64 0, .int .i64 0, .int .i64 0, .int .i64 0, .int .i64 0, .slice none 0 0, .slice none 0 0, .slice none 0 0, .int .i64 22, .int .i64 0, .int .i64 0, .int .i64 0, .int .i64 0, .int .i64 0, .slice none 0 0, .slice none 0 0, .slice none 0 0])]) := by
    rw [← hW10]
    exact ((((((((((((RW9.out.set 10 rfl 9 (by simp) (.int .i64 22)).set 10 rfl 10 (by simp) (.int .i64 0)).set 10 rfl 11 (by simp) (.int .i64 0)).set 10 rfl 12 (by simp) (.int .i64 0)).set 10 rfl 13 (by simp) (.int .i64 0)).set 10 rfl 14 (by simp) (.int .i64 0)).set 10 rfl 15 (by simp) (.slice none 0 0)).set 10 rfl 16 (by simp) (.slice none 0 0)).set 10 rfl 17 (by simp) (.slice none 0 0)).set 12 rfl 5 (by simp) (.int .i64 1)).set 4 rfl 1 (by simp) (.slice (some ⟨w9.heap.size, 0, none⟩) 3 3)).made (b := w9.heap.size) (e := 36) (cs := #[.int .i64 17, .int .i64 0, .int .i64 1, .int .i64 (-1), .int .i64 0, .int .i64 0, .slice none 0 0, .slice none 0 0, .slice none 0 0, .int .i64 16, .int .i64 0, .int .i64 0, .int .i64 0, .int .i64 0, .int .i64 0, .slice none 0 0, .slice none 0 0, .slice none 0 0, .int .i64 22, .int .i64 0, .int .i64 0, .int .i64 0, .int .i64 0, .int .i64 0, .slice none 0 0, .slice none 0 0, .slice none 0 0]) (by simp))
  have HS10 : Hid (Still w w10) := by
    rw [← hW10]
    refine Turn.mono (S := fun j => j = C0 ∨ j = gF ∨ j = p.p6) ((((((((((((((H1.out.2.trans (HS9.out)).turn (S := fun j => j = C0 ∨ j = gF ∨ j = p.p6)).setCell (p := ⟨C0, 9, none⟩) (fun _ => .inl rfl) _).setCell (p := ⟨C0, 10, none⟩) (fun _ => .inl rfl) _).setCell (p := ⟨C0, 11, none⟩) (fun _ => .inl rfl) _).setCell (p := ⟨C0, 12, none⟩) (fun _ => .inl rfl) _).setCell (p := ⟨C0, 13, none⟩) (fun _ => .inl rfl) _).setCell (p := ⟨C0, 14, none⟩) (fun _ => .inl rfl) _).setCell (p := ⟨C0, 15, none⟩) (fun _ => .inl rfl) _).setCell (p := ⟨C0, 16, none⟩) (fun _ => .inl rfl) _).setCell (p := ⟨C0, 17, none⟩) (fun _ => .inl rfl) _).setCell (p := ⟨gF, 5, none⟩) (fun _ => .inr (.inl rfl)) _).setCell (p := ⟨p.p6, 1, none⟩) (fun _ => .inr (.inr (rfl))) _).alloc _) fun j hj e => ?_
    have k_C0 := HGE_C0.out
    have k_gF := HGE_gF.out
    have k_pp6 := HGE_p6.out
    have k_w := H1.out.2.size
    omega
  obtain ⟨C1, hC1⟩ : ∃ C1, w9.heap.size = C1 := ⟨_, rfl⟩
  rw [hC1] at RW10
  clear hW10 hC1
  have SW11 : Hid (Still w w10) := HS10.out
  have HF11 := Lib.hid (Bm.verify_built (RW10.out.holds (D := [[.int 0], [.int 3, .sl none 0 0, .str ⟨#[]⟩], [.int (-1)], [.int 1, .int 0, .int 0, .int 0, .int 0, .int 5, .sl none 0 0, .sl none 0 0, .sl none 0 0, .int 22, .int 0, .int 0, .int 0, .int 0, .int 0, .sl none 0 0, .sl none 0 0, .sl none 0 0], [.sl (some (2, 0)) 1 1, .sl (some (13, 0)) 3 3], [.sl (some (8, 0)) 3 cap, .sl (some (1, 0)) 1 1, .sl (some (6, 0)) 1 1, .sl none 0 0, .sl (some (12, 0)) 2 capF, .int 0, .int 0], [.str ⟨#[120]⟩], [.int 0], [.bool true, .sl none 0 0, .bool false, .sl (some (0, 0)) 1 1, .bool true, .sl (some (7, 0)) 1 1], [.int (-1)], [.int 1, .int 0, .int 0, .int 0, .int 0, .int 7, .sl none 0 0, .sl none 0 0, .sl none 0 0, .int 22, .int 0, .int 0, .int 0, .int 0, .int 0, .sl none 0 0, .sl none 0 0, .sl none 0 0], [.sl (some (9, 0)) 1 1, .sl (some (10, 0)) 2 2], [.sl none 0 0, .int 0, .int 1, .sl (some (4, 0)) 1 1, .sl none 0 0, .int 1, .int 1, .sl (some (11, 0)) 1 1], [.int 17, .int 0, .int 1, .int (-1), .int 0, .int 0, .sl none 0 0, .sl none 0 0, .sl none 0 0, .int 16, .int 0, .int 0, .int 0, .int 0, .int 0, .sl none 0 0, .sl none 0 0, .sl none 0 0, .int 22, .int 0, .int 0, .int 0, .int 0, .int 0, .sl none 0 0, .sl none 0 0, .sl none 0 0]]) rfl) (HT.out _ SW11.out) (c := ⟨some (8, 0), 3, cap, some (1, 0), 1, 1, some (6, 0), 1, 1, none, 0, 0, some (12, 0), 2, capF, 0, 0⟩) (m := (⟨[⟨true, []⟩, ⟨false, [0]⟩, ⟨true, [0]⟩], [⟨3, [], ⟨#[]⟩⟩], [⟨#[120]⟩], [], [⟨[], 0, 1, [⟨[-1], [⟨17, 0, 1, (-1), 0, 0, [], [], []⟩, ⟨16, 0, 0, 0, 0, 0, [], [], []⟩, ⟨22, 0, 0, 0, 0, 0, [], [], []⟩]⟩]⟩, ⟨[], 1, 1, [⟨[-1], [⟨1, 0, 0, 0, 0, 7, [], [], []⟩, ⟨22, 0, 0, 0, 0, 0, [], [], []⟩]⟩]⟩], 0, 0⟩ : M.Img)) (by kernel_rfl) (by decide +kernel) (by decide +kernel))
  have HE11 : Hid ((if Bm.good (⟨[⟨true, []⟩, ⟨false, [0]⟩, ⟨true, [0]⟩], [⟨3, [], ⟨#[]⟩⟩], [⟨#[120]⟩], [], [⟨[], 0, 1, [⟨[-1], [⟨17, 0, 1, (-1), 0, 0, [], [], []⟩, ⟨16, 0, 0, 0, 0, 0, [], [], []⟩, ⟨22, 0, 0, 0, 0, 0, [], [], []⟩]⟩]⟩, ⟨[], 1, 1, [⟨[-1], [⟨1, 0, 0, 0, 0, 7, [], [], []⟩, ⟨22, 0, 0, 0, 0, 0, [], [], []⟩]⟩]⟩], 0, 0⟩ : M.Img) then 0 else 21 : Int) = 21) := by show _ = _; decide +kernel
  refine HF11.out.mono ?_; rintro e w11 ⟨rfl, t11⟩
  rw [HE11.out]
  have RW11 : Hid (Rws w11 [(p.p1, 3, [.int .i64 0]), (p.p3, 42, [.int .i64 3, .slice none 0 0, .string ⟨#[]⟩]), (p.p4, 3, [.int .i64 (-1)]), (p.p5, 36, [.int .i64 1, .int .i64 0, .int .i64 0, .int .i64 0, .int .i64 0, .int .i64 5, .slice none 0 0, .slice none 0 0, .slice none 0 0, .int .i64 22, .int .i64 0, .int .i64 0, .int .i64 0, .int .i64 0, .int .i64 0, .slice none 0 0, .slice none 0 0, .slice none 0 0]), (p.p6, 48, [.slice (some ⟨p.p4, 0, none⟩) 1 1, .slice (some ⟨C1, 0, none⟩) 3 3]), (Q, 27, [.slice (some ⟨g, 0, none⟩) 3 cap, .slice (some ⟨p.p3, 0, none⟩) 1 1, .slice (some ⟨Q + 1, 0, none⟩) 1 1, .slice none 0 0, .slice (some ⟨gF, 0, none⟩) 2 capF, .int .i64 0, .int .i64 0]), (Q + 1, 9, [.string ⟨#[120]⟩]), (Q + 1 + 1, 3, [.int .i64 0]), (g, 51, [.bool true, .slice none 0 0, .bool false, .slice (some ⟨p.p1, 0, none⟩) 1 1, .bool true, .slice (some ⟨Q + 1 + 1, 0, none⟩) 1 1]), (I0, 3, [.int .i64 (-1)]), (C0, 36, [.int .i64 1, .int .i64 0, .int .i64 0, .int .i64 0, .int .i64 0, .int .i64 7, .slice none 0 0, .slice none 0 0, .slice none 0 0, .int .i64 22, .int .i64 0, .int .i64 0, .int .i64 0, .int .i64 0, .int .i64 0, .slice none 0 0, .slice none 0 0, .slice none 0 0]), (B0, 48, [.slice (some ⟨I0, 0, none⟩) 1 1, .slice (some ⟨C0, 0, none⟩) 2 2]), (gF, 45, [.slice none 0 0, .int .i64 0, .int .i64 1, .slice (some ⟨p.p6, 0, none⟩) 1 1, .slice none 0 0, .int .i64 1, .int .i64 1, .slice (some ⟨B0, 0, none⟩) 1 1]), (C1, 36, [.int .i64 17, .int .i64 0, .int .i64 1, .int .i64 (-1), .int .i64 0, .int .i64 0, .slice none 0 0, .slice none 0 0, .slice none 0 0, .int .i64 16, .int .i64 0, .int .i64 0, .int .i64 0, .int .i64 0, .int .i64 0, .slice none 0 0, .slice none 0 0, .slice none 0 0, .int .i64 22, .int .i64 0, .int .i64 0, .int .i64 0, .int .i64 0, .int .i64 0, .slice none 0 0, .slice none 0 0, .slice none 0 0])]) := RW10.out.still t11
  have HS11 : Hid (Still w w11) := HS10.out.trans t11
  clear t11 HF11 HE11
  have SL : Hid (Still w w11) := HS11.out
  go_wp2_with fail
  refine (lives_any _ (HT.out _ SL.out)).mono ?_; rintro e wl ⟨rfl, tl⟩
  have SL2 : Hid (Still w wl) := SL.out.trans tl
  clear tl
  go_wp2_with fail
  go_ret
  exact ⟨rfl, SL2.out⟩
end Go.Proofs.YtglalgjffkoneaaGreatDoor
