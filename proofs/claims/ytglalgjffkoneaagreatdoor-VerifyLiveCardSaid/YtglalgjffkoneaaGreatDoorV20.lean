/- Lemmas, put together: Vla0 Vla1 Vla2 Vla3. -/
import Derived.Test.YtglalgjffkoneaaGreatDoorV19
/- VerifyLive: its walk, one of eight ways. -/
namespace Go.Proofs.YtglalgjffkoneaaGreatDoor
set_option linter.unusedVariables false
set_option linter.unusedSimpArgs false
open Go.ChangeShapes Go.WideShapes Go.ChangeAt Go.RowKit
open Vf (K nth nth_nat tyAt atK isK numT oneT le beginK tsub RowK FitsK CalledK resT ObjK keepK KeepsK setK hasK)
set_option maxRecDepth 100000 in
set_option maxHeartbeats 8000000 in
theorem live_0_n (a1 : Int) (u : Nat) (w : World) (ht : Tz w) (hu : IntKind.u64.wrap a1 = (u : Int)) (hr : Int.tmod (u : Int) 4 = 0) : Calls Tryz.prog 5 #[.bool false, .int .i64 a1] w fun e w' => e = .returned (.bool true) ∧ Still w w' := by
  have HT : Hid (∀ W, Still w W → Tz W) := fun W t => ht.keep t (fun e => e)
  clear ht
  go_enter Tryz.func5, Tryz.ntmps5
  go_wp2_with fail
  refine (least_any _).mono ?_; rintro e w1 ⟨p, rfl, ha, t1, hp6⟩
  have H1 := Lib.hid (And.intro ha t1)
  clear ha t1 hp6
  go_wp2_with (at_builtin; refine wpList_append_new rfl (.tmp 13) (.tmp 18) 23 rfl 42 3 48 _ Tryz.underlying23 infoShape rfl (by decide) (some ⟨p.p3, 0, none⟩) 1 [.int .i64 3, .slice none 0 0, .string ⟨#[]⟩] rfl (fun e => by cases e) rfl (fun b hb => ⟨p.p3, (Option.some.inj hb).symm, Blk.row' (by repeat (first | exact H1.out.1.a3 | refine Blk.alloc ?_ _))⟩) (w1.heap.size + 1 + 1 + 1) 2 2 [.int .i64 1, .slice (some ⟨w1.heap.size + 1, 0, none⟩) 1 1, .string ⟨#[]⟩, .int .i64 2, .slice (some ⟨w1.heap.size + 1 + 1, 0, none⟩) 1 1, .string ⟨#[]⟩] rfl rfl (Blk.row' (blk_at' (by simp))) (by simp [Value.oneCell']) (by decide) (by decide) (by decide) ?_; intro g cap w2 hg hc hst hrow; refine Wait.out ?_)
  refine ⟨?_⟩
  have st2 : Still w1 w2 := ((((Still.refl w1).alloc _).alloc _).alloc _ |>.alloc _).trans hst
  have BQ : Blk w2 w1.heap.size 27 #[.slice (some ⟨p.p2, 0, none⟩) 2 2, .slice (some ⟨p.p3, 0, none⟩) 1 1, .slice none 0 0, .slice none 0 0, .slice (some ⟨p.p7, 0, none⟩) 1 1, .int .i64 0, .int .i64 0] := hst.blk ((((blk_at' rfl).alloc _).alloc _).alloc _)
  have B1 : Blk w2 (w1.heap.size + 1) 3 #[.int .i64 0] := hst.blk (((blk_at' (by simp)).alloc _).alloc _)
  have B2 : Blk w2 (w1.heap.size + 1 + 1) 3 #[.int .i64 0] := hst.blk ((blk_at' (by simp)).alloc _)
  have hg2 : w1.heap.size + 1 + 1 < g := by simp at hg; omega
  clear hst hg
  obtain ⟨Q, hQ⟩ : ∃ Q, w1.heap.size = Q := ⟨_, rfl⟩
  rw [hQ] at BQ B1 B2 hrow hg2
  rw [hQ]
  have HQ := Lib.hid hQ
  have H2 : Hid (Still w1 w2 ∧ Row w2 g 42 ([.int .i64 3, .slice none 0 0, .string ⟨#[]⟩] ++ [.int .i64 1, .slice (some ⟨Q + 1, 0, none⟩) 1 1, .string ⟨#[]⟩, .int .i64 2, .slice (some ⟨Q + 1 + 1, 0, none⟩) 1 1, .string ⟨#[]⟩]) ∧ Row w2 (Q + 1) 3 [.int .i64 0] ∧ Row w2 (Q + 1 + 1) 3 [.int .i64 0] ∧ Blk w2 Q 27 #[.slice (some ⟨p.p2, 0, none⟩) 2 2, .slice (some ⟨p.p3, 0, none⟩) 1 1, .slice none 0 0, .slice none 0 0, .slice (some ⟨p.p7, 0, none⟩) 1 1, .int .i64 0, .int .i64 0] ∧ Q + 1 + 1 < g) := ⟨st2, hrow, B1.row', B2.row', BQ, hg2⟩
  have q0 := BQ.cell 0
  have q1 := BQ.cell 1
  have q2 := BQ.cell 2
  have q3 := BQ.cell 3
  have q4 := BQ.cell 4
  have q5 := BQ.cell 5
  have q6 := BQ.cell 6
  have f1 := BQ.frozen 1
  have f2 := BQ.frozen 2
  have f4 := BQ.frozen 4
  have lQ := BQ.lt
  clear hQ hrow B1 B2 BQ hg2 st2
  go_wp2_with fail
  generalize hW4 : ((((w2.setCell ⟨Q, 1, none⟩ (.slice (some ⟨g, 0, none⟩) 3 cap)).setCell ⟨Q, 2, none⟩ (.slice (some ⟨w2.heap.size, 0, none⟩) 1 1)).alloc (.cells #[.string ⟨#[120]⟩] 9)).alloc (.cells #[.int .i64 2, .int .i64 1, .int .i64 0, .int .i64 0, .int .i64 0, .int .i64 0, .slice none 0 0, .slice none 0 0, .slice none 0 0] 36)) = w4
  have st4 : Still w1 w4 := by
    rw [← hW4]
    refine (Turn.mono (S := fun j => j = Q) ?_ fun j hj e => by have := HQ.out; omega)
    exact (((H2.out.1.turn (S := fun j => j = Q) |>.setCell (p := ⟨Q, 1, none⟩) (fun _ => rfl) _).setCell (p := ⟨Q, 2, none⟩) (fun _ => rfl) _).alloc _).alloc _
  obtain ⟨S0, hS0⟩ : ∃ S0, w2.heap.size = S0 := ⟨_, rfl⟩
  obtain ⟨K, hK⟩ : ∃ K, w2.heap.size + 1 = K := ⟨_, rfl⟩
  have H4 : Hid (Still w1 w4 ∧ Row w4 g 42 ([.int .i64 3, .slice none 0 0, .string ⟨#[]⟩] ++ [.int .i64 1, .slice (some ⟨Q + 1, 0, none⟩) 1 1, .string ⟨#[]⟩, .int .i64 2, .slice (some ⟨Q + 1 + 1, 0, none⟩) 1 1, .string ⟨#[]⟩]) ∧ Row w4 (Q + 1) 3 [.int .i64 0] ∧ Row w4 (Q + 1 + 1) 3 [.int .i64 0] ∧ Blk w4 Q 27 #[.slice (some ⟨p.p2, 0, none⟩) 2 2, .slice (some ⟨g, 0, none⟩) 3 cap, .slice (some ⟨S0, 0, none⟩) 1 1, .slice none 0 0, .slice (some ⟨p.p7, 0, none⟩) 1 1, .int .i64 0, .int .i64 0] ∧ Row w4 S0 9 [.string ⟨#[120]⟩] ∧ Blk w4 K 36 #[.int .i64 2, .int .i64 1, .int .i64 0, .int .i64 0, .int .i64 0, .int .i64 0, .slice none 0 0, .slice none 0 0, .slice none 0 0] ∧ Q < g) := by
    have hgQ : g ≠ Q := by have := H2.out.2.2.2.2.2; omega
    have h1Q : Q + 1 ≠ Q := by omega
    have h2Q : Q + 1 + 1 ≠ Q := by omega
    have z : ((w2.setCell ⟨Q, 1, none⟩ (.slice (some ⟨g, 0, none⟩) 3 cap)).setCell ⟨Q, 2, none⟩ (.slice (some ⟨w2.heap.size, 0, none⟩) 1 1)).heap.size = S0 := by simpa using hS0
    have hQ2 : Blk ((w2.setCell ⟨Q, 1, none⟩ (.slice (some ⟨g, 0, none⟩) 3 cap)).setCell ⟨Q, 2, none⟩ (.slice (some ⟨w2.heap.size, 0, none⟩) 1 1)) Q 27 #[.slice (some ⟨p.p2, 0, none⟩) 2 2, .slice (some ⟨g, 0, none⟩) 3 cap, .slice (some ⟨S0, 0, none⟩) 1 1, .slice none 0 0, .slice (some ⟨p.p7, 0, none⟩) 1 1, .int .i64 0, .int .i64 0] := by
      have := (H2.out.2.2.2.2.1.set 1 (.slice (some ⟨g, 0, none⟩) 3 cap)).set 2 (.slice (some ⟨w2.heap.size, 0, none⟩) 1 1)
      rw [hS0] at this ⊢
      exact this
    rw [← hK]
    rw [← hW4]
    have z1 : (((w2.setCell ⟨Q, 1, none⟩ (.slice (some ⟨g, 0, none⟩) 3 cap)).setCell ⟨Q, 2, none⟩ (.slice (some ⟨w2.heap.size, 0, none⟩) 1 1)).alloc (.cells #[.string ⟨#[120]⟩] 9)).heap.size = w2.heap.size + 1 := by simp
    refine ⟨?_, ((((H2.out.2.1.far hgQ _).far hgQ _).alloc _).alloc _), ((((H2.out.2.2.1.far h1Q _).far h1Q _).alloc _).alloc _), ((((H2.out.2.2.2.1.far h2Q _).far h2Q _).alloc _).alloc _), ((hQ2.alloc _).alloc _), (((blk_at' z).row').alloc _), (blk_at' z1), by have := H2.out.2.2.2.2.2; omega⟩
    rw [hW4]
    exact st4
  rw [hK]
  have HSK : Hid (S0 + 1 = K) := by show _ = _; omega
  clear st4 hW4 hS0 hK q0 q1 q2 q3 q4 q5 q6 f1 f2 f4 lQ
  have L4 := H1.out.1.still H4.out.1
  have y0 : w4.drew.cell? ⟨p.p7, 0, none⟩ = some (.slice none 0 0) := L4.a7.cell 0
  have y1 : w4.drew.cell? ⟨p.p7, 1, none⟩ = some (.int .i64 0) := L4.a7.cell 1
  have y2 : w4.drew.cell? ⟨p.p7, 2, none⟩ = some (.int .i64 1) := L4.a7.cell 2
  have y3 : w4.drew.cell? ⟨p.p7, 3, none⟩ = some (.slice (some ⟨p.p6, 0, none⟩) 1 1) := L4.a7.cell 3
  have z4 : w4.drew.cell? ⟨Q, 4, none⟩ = some (.slice (some ⟨p.p7, 0, none⟩) 1 1) := H4.out.2.2.2.2.1.cell 4
  have lyg : p.p7 < w4.drew.heap.size := L4.a7.lt
  have v0 : w4.cell? ⟨p.p7, 0, none⟩ = some (.slice none 0 0) := L4.a7.cell 0
  have v1 : w4.cell? ⟨p.p7, 1, none⟩ = some (.int .i64 0) := L4.a7.cell 1
  have v2 : w4.cell? ⟨p.p7, 2, none⟩ = some (.int .i64 1) := L4.a7.cell 2
  have v3 : w4.cell? ⟨p.p7, 3, none⟩ = some (.slice (some ⟨p.p6, 0, none⟩) 1 1) := L4.a7.cell 3
  have v4 : w4.cell? ⟨Q, 4, none⟩ = some (.slice (some ⟨p.p7, 0, none⟩) 1 1) := H4.out.2.2.2.2.1.cell 4
  have lvg : p.p7 < w4.heap.size := L4.a7.lt
  have lvQ : Q < w4.heap.size := H4.out.2.2.2.2.1.lt
  have lyQ : Q < w4.drew.heap.size := H4.out.2.2.2.2.1.lt
  have SD : Hid (Still w4 (w4.alloc (.cells #[.slice none 0 0, .int .i64 0, .int .i64 1, .slice (some ⟨p.p6, 0, none⟩) 1 1] 45)).drew) := (((Still.refl w4).alloc _)).drew
  clear L4
  go_cut [] from 41 (fun wc => ∃ g5 cap5, Row wc g5 45 ([.slice none 0 0, .int .i64 0, .int .i64 1, .slice (some ⟨p.p6, 0, none⟩) 1 1] ++ [.slice none 0 0, .int .i64 0, .int .i64 1, .slice (some ⟨p.p6, 0, none⟩) 1 1]) ∧ Blk wc Q 27 #[.slice (some ⟨p.p2, 0, none⟩) 2 2, .slice (some ⟨g, 0, none⟩) 3 cap, .slice (some ⟨S0, 0, none⟩) 1 1, .slice none 0 0, .slice (some ⟨g5, 0, none⟩) 2 cap5, .int .i64 0, .int .i64 0] ∧ Turn (fun j => j = Q) w4 wc ∧ w4.heap.size ≤ g5)
  case first =>
    go_region_law (refine step_append_new rfl (.tmp 42) (.tmp 47) 25 rfl 45 4 64 _ Tryz.underlying25 infoFunc rfl (by decide) (some ⟨p.p7, 0, none⟩) 1 [.slice none 0 0, .int .i64 0, .int .i64 1, .slice (some ⟨p.p6, 0, none⟩) 1 1] (by simp [Act.eval]) (fun e => by cases e) rfl (fun b hb => ⟨p.p7, (Option.some.inj hb).symm, (SD.out.blk (H1.out.1.still H4.out.1).a7).row'⟩) w4.heap.size 1 1 [.slice none 0 0, .int .i64 0, .int .i64 1, .slice (some ⟨p.p6, 0, none⟩) 1 1] (by simp [Act.eval]) rfl (Row.drew (Blk.row' (blk_at' rfl))) (by simp [Value.oneCell']) (by decide) (by decide) (by decide) ?_
                   intro g5 cap5 w5 hg5 hc5 st5 row5
                   have S5 : Hid (Still w4 w5) := SD.out.trans st5
                   have hQ5 := S5.out.blk H4.out.2.2.2.2.1
                   have z5 : w5.cell? ⟨Q, 4, none⟩ = some (.slice (some ⟨p.p7, 0, none⟩) 1 1) := hQ5.cell 4
                   have f5 : w5.frozen? ⟨Q, 4, none⟩ = false := hQ5.frozen 4
                   have lQ5 := hQ5.lt
                   have R5 : Hid (Row w5 g5 45 ([.slice none 0 0, .int .i64 0, .int .i64 1, .slice (some ⟨p.p6, 0, none⟩) 1 1] ++ [.slice none 0 0, .int .i64 0, .int .i64 1, .slice (some ⟨p.p6, 0, none⟩) 1 1]) ∧ w4.heap.size ≤ g5 ∧ Blk w5 Q 27 #[.slice (some ⟨p.p2, 0, none⟩) 2 2, .slice (some ⟨g, 0, none⟩) 3 cap, .slice (some ⟨S0, 0, none⟩) 1 1, .slice none 0 0, .slice (some ⟨p.p7, 0, none⟩) 1 1, .int .i64 0, .int .i64 0]) := ⟨row5, by simp at hg5; omega, hQ5⟩
                   clear hQ5 row5 st5 hg5)
    all_goals
      go_wp2_with fail
      go_meet
      have hgQ : g5 ≠ Q := by have h1 := R5.out.2.1; have h2 := H4.out.2.2.2.2.1.lt; omega
      exact ⟨g5, cap5, R5.out.1.far hgQ _, by have := R5.out.2.2.set 4 (.slice (some ⟨g5, 0, none⟩) 2 cap5); simpa using this, (S5.out.turn (S := fun j => j = Q)).setCell (p := ⟨Q, 4, none⟩) (fun _ => rfl) _, R5.out.2.1⟩
  case rest =>
    obtain ⟨g5, cap5, hrow5, hQ5, t5, hg5⟩ := hcut
    have hQn : ∀ {j : Nat}, (j < Q ∨ Q < j) → ¬ (fun j => j = Q) j := fun {j} h e => by have e2 : j = Q := e; omega
    have hQg := H4.out.2.2.2.2.2.2.2
    have lt4 := H4.out.2.2.2.2.1.lt
    have hSQ : S0 ≠ Q := fun e => by have h1 := H4.out.2.2.2.2.2.1; rw [e] at h1; exact h1.ne (Blk.row' H4.out.2.2.2.2.1) (by decide) rfl
    have hKQ : K ≠ Q := fun e => by have h1 := H4.out.2.2.2.2.2.2.1; rw [e] at h1; exact h1.ne H4.out.2.2.2.2.1 (by decide) rfl
    have H5 : Hid (Still w1 wc ∧ Row wc g 42 ([.int .i64 3, .slice none 0 0, .string ⟨#[]⟩] ++ [.int .i64 1, .slice (some ⟨Q + 1, 0, none⟩) 1 1, .string ⟨#[]⟩, .int .i64 2, .slice (some ⟨Q + 1 + 1, 0, none⟩) 1 1, .string ⟨#[]⟩]) ∧ Row wc (Q + 1) 3 [.int .i64 0] ∧ Row wc (Q + 1 + 1) 3 [.int .i64 0] ∧ Blk wc Q 27 #[.slice (some ⟨p.p2, 0, none⟩) 2 2, .slice (some ⟨g, 0, none⟩) 3 cap, .slice (some ⟨S0, 0, none⟩) 1 1, .slice none 0 0, .slice (some ⟨g5, 0, none⟩) 2 cap5, .int .i64 0, .int .i64 0] ∧ Row wc S0 9 [.string ⟨#[120]⟩] ∧ Blk wc K 36 #[.int .i64 2, .int .i64 1, .int .i64 0, .int .i64 0, .int .i64 0, .int .i64 0, .slice none 0 0, .slice none 0 0, .slice none 0 0] ∧ Row wc g5 45 ([.slice none 0 0, .int .i64 0, .int .i64 1, .slice (some ⟨p.p6, 0, none⟩) 1 1] ++ [.slice none 0 0, .int .i64 0, .int .i64 1, .slice (some ⟨p.p6, 0, none⟩) 1 1]) ∧ Q < g5) := by
      refine ⟨((H4.out.1.turn (S := fun j => j = Q)).trans t5).mono fun j hj e => by have e2 : j = Q := e; have := HQ.out; omega, H4.out.2.1.keep t5 (hQn (by omega)), H4.out.2.2.1.keep t5 (hQn (by omega)), H4.out.2.2.2.1.keep t5 (hQn (by omega)), hQ5, H4.out.2.2.2.2.2.1.keep t5 (fun e => hSQ e), H4.out.2.2.2.2.2.2.1.keep t5 (fun e => hKQ e), hrow5, by omega⟩
    have q0 := hQ5.cell 0
    have q1 := hQ5.cell 1
    have q2 := hQ5.cell 2
    have q3 := hQ5.cell 3
    have q4 := hQ5.cell 4
    have q5 := hQ5.cell 5
    have q6 := hQ5.cell 6
    have lQ := hQ5.lt
    have hK5 := H5.out.2.2.2.2.2.2.1
    have k0 := hK5.cell 0
    have k1 := hK5.cell 1
    have k2 := hK5.cell 2
    have k3 := hK5.cell 3
    have k4 := hK5.cell 4
    have k5 := hK5.cell 5
    have k6 := hK5.cell 6
    have k7 := hK5.cell 7
    have k8 := hK5.cell 8
    have lK := hK5.lt
    have r0 := hrow5.cell (i := 0) rfl
    have r1 := hrow5.cell (i := 1) rfl
    have r2 := hrow5.cell (i := 2) rfl
    have r3 := hrow5.cell (i := 3) rfl
    have fr0 := hrow5.frozen 0
    have fr1 := hrow5.frozen 1
    have fr2 := hrow5.frozen 2
    have fr3 := hrow5.frozen 3
    have lr := hrow5.lt
    have lr1 : g5 < wc.heap.size + 1 := by omega
    have lr2 : g5 < wc.heap.size + 1 + 1 := by omega
    have lQ1 : Q < wc.heap.size + 1 := by omega
    have lQ2 : Q < wc.heap.size + 1 + 1 := by omega
    have hQ5' : Q ≠ g5 := by omega
    have hQ6' : g5 ≠ Q := by omega
    have hK5' : K ≠ g5 := fun e => by have h1 := hK5; rw [e] at h1; exact (Blk.row' h1).ne hrow5 (by decide) rfl
    have hcap : 2 ≤ cap5 ∨ True := .inr trivial
    have HNE : Hid (Q ≠ g5 ∧ K ≠ g5) := ⟨hQ5', hK5'⟩
    clear hrow5 hQ5 t5 hg5 hQn hQg lt4 hSQ hKQ hK5 hcap
    clear y0 y1 y2 y3 z4 lyg lyQ v0 v1 v2 v3 v4 lvg lvQ
    go_wp2_with fail
    have b6 := wc.heap.size
    generalize hW6 : (((((((wc.setCell ⟨g5, 0, none⟩ (.slice none 0 0)).setCell ⟨g5, 1, none⟩ (.int .i64 0)).setCell ⟨g5, 2, none⟩ (.int .i64 2)).setCell ⟨g5, 3, none⟩ (.slice (some ⟨wc.heap.size + 1 + 1, 0, none⟩) 1 1)).alloc (.cells #[.int .i64 (-1), .int .i64 (-1)] 3)).alloc (.cells #[.int .i64 1, .int .i64 0, .int .i64 0, .int .i64 0, .int .i64 0, .int .i64 1, .slice none 0 0, .slice none 0 0, .slice none 0 0, .int .i64 2, .int .i64 1, .int .i64 0, .int .i64 0, .int .i64 0, .int .i64 0, .slice none 0 0, .slice none 0 0, .slice none 0 0, .int .i64 22, .int .i64 0, .int .i64 0, .int .i64 0, .int .i64 0, .int .i64 0, .slice none 0 0, .slice none 0 0, .slice none 0 0] 36)).alloc (.cells #[.slice (some ⟨wc.heap.size, 0, none⟩) 2 2, .slice (some ⟨wc.heap.size + 1, 0, none⟩) 3 3] 48)) = w6
    obtain ⟨I0, hI0⟩ : ∃ I0, wc.heap.size = I0 := ⟨_, rfl⟩
    obtain ⟨C0, hC0⟩ : ∃ C0, wc.heap.size + 1 = C0 := ⟨_, rfl⟩
    obtain ⟨B0, hB0⟩ : ∃ B0, wc.heap.size + 1 + 1 = B0 := ⟨_, rfl⟩
    have st6 : Still w1 w6 := by
      rw [← hW6]
      refine (Turn.mono (S := fun j => j = g5) ?_ fun j hj e => by have h1 := HQ.out; have h2 := H5.out.2.2.2.2.2.2.2.2; omega)
      exact (((((((H5.out.1.turn (S := fun j => j = g5)).setCell (p := ⟨g5, 0, none⟩) (fun _ => rfl) _).setCell (p := ⟨g5, 1, none⟩) (fun _ => rfl) _).setCell (p := ⟨g5, 2, none⟩) (fun _ => rfl) _).setCell (p := ⟨g5, 3, none⟩) (fun _ => rfl) _).alloc _).alloc _).alloc _
    have HH6 : Hid (Still w1 w6 ∧ Bm.Holds w6 (fun i => [p.p1, p.p2, Q + 1, Q + 1 + 1, g, S0, I0, C0, B0, p.p4, p.p5, p.p6, g5].getD i 0) [[.int 0], [.bool true, .sl none 0 0, .bool false, .sl (some (0, 0)) 1 1], [.int 0], [.int 0], [.int 3, .sl none 0 0, .str ⟨#[]⟩, .int 1, .sl (some (2, 0)) 1 1, .str ⟨#[]⟩, .int 2, .sl (some (3, 0)) 1 1, .str ⟨#[]⟩], [.str ⟨#[120]⟩], [.int (-1), .int (-1)], [.int 1, .int 0, .int 0, .int 0, .int 0, .int 1, .sl none 0 0, .sl none 0 0, .sl none 0 0, .int 2, .int 1, .int 0, .int 0, .int 0, .int 0, .sl none 0 0, .sl none 0 0, .sl none 0 0, .int 22, .int 0, .int 0, .int 0, .int 0, .int 0, .sl none 0 0, .sl none 0 0, .sl none 0 0], [.sl (some (6, 0)) 2 2, .sl (some (7, 0)) 3 3], [.int (-1)], [.int 1, .int 0, .int 0, .int 0, .int 0, .int 5, .sl none 0 0, .sl none 0 0, .sl none 0 0, .int 22, .int 0, .int 0, .int 0, .int 0, .int 0, .sl none 0 0, .sl none 0 0, .sl none 0 0], [.sl (some (9, 0)) 1 1, .sl (some (10, 0)) 2 2], [.sl none 0 0, .int 0, .int 2, .sl (some (8, 0)) 1 1, .sl none 0 0, .int 0, .int 1, .sl (some (11, 0)) 1 1]]) := by
      refine ⟨st6, ?_⟩
      have L6 := H1.out.1.still st6
      have f4 : ∀ {b : Nat} {e : TypeId} {xs : List Value}, Row wc b e xs → b ≠ g5 → Row w6 b e xs := fun {b e xs} h hn => by
        rw [← hW6]
        exact (((((((h.far hn _).far hn _).far hn _).far hn _).alloc _).alloc _).alloc _)
      have hg5r := H5.out.2.2.2.2.2.2.2.1
      have hg5s : Row w6 g5 45 [.slice none 0 0, .int .i64 0, .int .i64 2, .slice (some ⟨wc.heap.size + 1 + 1, 0, none⟩) 1 1, .slice none 0 0, .int .i64 0, .int .i64 1, .slice (some ⟨p.p6, 0, none⟩) 1 1] := by
        rw [← hW6]
        exact (((((((hg5r.set (i := 0) (by simp) (.slice none 0 0)).set (i := 1) (by simp) (.int .i64 0)).set (i := 2) (by simp) (.int .i64 2)).set (i := 3) (by simp) (.slice (some ⟨wc.heap.size + 1 + 1, 0, none⟩) 1 1)).alloc _).alloc _).alloc _)
      have ne1 : g ≠ g5 := H5.out.2.1.ne hg5r (by decide)
      have ne2 : Q + 1 ≠ g5 := H5.out.2.2.1.ne hg5r (by decide)
      have ne3 : Q + 1 + 1 ≠ g5 := H5.out.2.2.2.1.ne hg5r (by decide)
      have ne4 : S0 ≠ g5 := H5.out.2.2.2.2.2.1.ne hg5r (by decide)
      have rI : Row w6 I0 3 [.int .i64 (-1), .int .i64 (-1)] := by
        rw [← hW6, ← hI0]
        exact (((blk_at' (by simp)).row').alloc _).alloc _
      have rC : Row w6 C0 36 [.int .i64 1, .int .i64 0, .int .i64 0, .int .i64 0, .int .i64 0, .int .i64 1, .slice none 0 0, .slice none 0 0, .slice none 0 0, .int .i64 2, .int .i64 1, .int .i64 0, .int .i64 0, .int .i64 0, .int .i64 0, .slice none 0 0, .slice none 0 0, .slice none 0 0, .int .i64 22, .int .i64 0, .int .i64 0, .int .i64 0, .int .i64 0, .int .i64 0, .slice none 0 0, .slice none 0 0, .slice none 0 0] := by
        rw [← hW6, ← hC0]
        exact ((blk_at' (by simp)).row').alloc _
      have rB : Row w6 B0 48 [.slice (some ⟨I0, 0, none⟩) 2 2, .slice (some ⟨C0, 0, none⟩) 3 3] := by
        rw [← hW6, ← hB0, ← hI0, ← hC0]
        exact (blk_at' (by simp)).row'
      rw [hB0] at hg5s
      refine (((((((((((((Bm.holds_nil w6 _).row L6.a1.row' rfl rfl).row L6.a2.row' rfl rfl).row (f4 H5.out.2.2.1 ne2) rfl rfl).row (f4 H5.out.2.2.2.1 ne3) rfl rfl).row (f4 H5.out.2.1 ne1) rfl rfl).row (f4 H5.out.2.2.2.2.2.1 ne4) rfl rfl).row rI rfl rfl).row rC rfl rfl).row rB rfl rfl).row L6.a4.row' rfl rfl).row L6.a5.row' rfl rfl).row L6.a6.row' rfl rfl).row hg5s rfl rfl
    clear hW6 hI0 hC0 hB0 st6 q0 q1 q2 q3 q4 q5 q6 lQ lQ1 lQ2 k0 k1 k2 k3 k4 k5 k6 k7 k8 lK r0 r1 r2 r3 fr0 fr1 fr2 fr3 lr lr1 lr2 hQ5' hQ6' hK5' b6
    have st6w : Hid (Still w w6) := H1.out.2.trans HH6.out.1
    have HF := Lib.hid (Bm.fault_built HH6.out.2 (HT.out _ st6w.out) (c := ⟨some (1, 0), 2, 2, some (4, 0), 3, cap, some (5, 0), 1, 1, none, 0, 0, some (12, 0), 2, cap5, 0, 0⟩) (m := (⟨[⟨true, []⟩, ⟨false, [0]⟩], [⟨3, [], ⟨#[]⟩⟩, ⟨1, [0], ⟨#[]⟩⟩, ⟨2, [0], ⟨#[]⟩⟩], [⟨#[120]⟩], [], [⟨[], 0, 2, [⟨[-1, -1], [⟨1, 0, 0, 0, 0, 1, [], [], []⟩, ⟨2, 1, 0, 0, 0, 0, [], [], []⟩, ⟨22, 0, 0, 0, 0, 0, [], [], []⟩]⟩]⟩, ⟨[], 0, 1, [⟨[-1], [⟨1, 0, 0, 0, 0, 5, [], [], []⟩, ⟨22, 0, 0, 0, 0, 0, [], [], []⟩]⟩]⟩], 0, 0⟩ : M.Img)) (by kernel_rfl) (by decide +kernel) (by decide +kernel))
    have hfe : Bm.faultE (⟨[⟨true, []⟩, ⟨false, [0]⟩], [⟨3, [], ⟨#[]⟩⟩, ⟨1, [0], ⟨#[]⟩⟩, ⟨2, [0], ⟨#[]⟩⟩], [⟨#[120]⟩], [], [⟨[], 0, 2, [⟨[-1, -1], [⟨1, 0, 0, 0, 0, 1, [], [], []⟩, ⟨2, 1, 0, 0, 0, 0, [], [], []⟩, ⟨22, 0, 0, 0, 0, 0, [], [], []⟩]⟩]⟩, ⟨[], 0, 1, [⟨[-1], [⟨1, 0, 0, 0, 0, 5, [], [], []⟩, ⟨22, 0, 0, 0, 0, 0, [], [], []⟩]⟩]⟩], 0, 0⟩ : M.Img) = .tuple #[.int .i64 0, .int .i64 0, .int .i64 2, .bool false] := by kernel_rfl
    have HFE := Lib.hid hfe
    clear hfe
    refine HF.out.mono ?_; rintro e w7 ⟨rfl, t7⟩
    rw [HFE.out]
    have ST7 : Hid (Still w w7) := st6w.out.trans t7
    clear t7
    go_wp2_with fail
    refine (lives_any _ (HT.out _ ST7.out)).mono ?_; rintro e w8 ⟨rfl, t8⟩
    have ST8 : Hid (Still w w8) := ST7.out.trans t8
    clear t8
    go_wp2_with fail
    go_ret
    exact ⟨rfl, ST8.out⟩
end Go.Proofs.YtglalgjffkoneaaGreatDoor
/- VerifyLive: its walk, one of eight ways. -/
namespace Go.Proofs.YtglalgjffkoneaaGreatDoor
set_option linter.unusedVariables false
set_option linter.unusedSimpArgs false
open Go.ChangeShapes Go.WideShapes Go.ChangeAt Go.RowKit
open Vf (K nth nth_nat tyAt atK isK numT oneT le beginK tsub RowK FitsK CalledK resT ObjK keepK KeepsK setK hasK)
set_option maxRecDepth 100000 in
set_option maxHeartbeats 8000000 in
theorem live_1_n (a1 : Int) (u : Nat) (w : World) (ht : Tz w) (hu : IntKind.u64.wrap a1 = (u : Int)) (hr : Int.tmod (u : Int) 4 = 1) : Calls Tryz.prog 5 #[.bool false, .int .i64 a1] w fun e w' => e = .returned (.bool true) ∧ Still w w' := by
  have HT : Hid (∀ W, Still w W → Tz W) := fun W t => ht.keep t (fun e => e)
  clear ht
  go_enter Tryz.func5, Tryz.ntmps5
  go_wp2_with fail
  refine (least_any _).mono ?_; rintro e w1 ⟨p, rfl, ha, t1, hp6⟩
  have H1 := Lib.hid (And.intro ha t1)
  clear ha t1 hp6
  go_wp2_with (at_builtin; refine wpList_append_new rfl (.tmp 13) (.tmp 18) 23 rfl 42 3 48 _ Tryz.underlying23 infoShape rfl (by decide) (some ⟨p.p3, 0, none⟩) 1 [.int .i64 3, .slice none 0 0, .string ⟨#[]⟩] rfl (fun e => by cases e) rfl (fun b hb => ⟨p.p3, (Option.some.inj hb).symm, Blk.row' (by repeat (first | exact H1.out.1.a3 | refine Blk.alloc ?_ _))⟩) (w1.heap.size + 1 + 1 + 1) 2 2 [.int .i64 1, .slice (some ⟨w1.heap.size + 1, 0, none⟩) 1 1, .string ⟨#[]⟩, .int .i64 2, .slice (some ⟨w1.heap.size + 1 + 1, 0, none⟩) 1 1, .string ⟨#[]⟩] rfl rfl (Blk.row' (blk_at' (by simp))) (by simp [Value.oneCell']) (by decide) (by decide) (by decide) ?_; intro g cap w2 hg hc hst hrow; refine Wait.out ?_)
  refine ⟨?_⟩
  have st2 : Still w1 w2 := ((((Still.refl w1).alloc _).alloc _).alloc _ |>.alloc _).trans hst
  have BQ : Blk w2 w1.heap.size 27 #[.slice (some ⟨p.p2, 0, none⟩) 2 2, .slice (some ⟨p.p3, 0, none⟩) 1 1, .slice none 0 0, .slice none 0 0, .slice (some ⟨p.p7, 0, none⟩) 1 1, .int .i64 0, .int .i64 0] := hst.blk ((((blk_at' rfl).alloc _).alloc _).alloc _)
  have B1 : Blk w2 (w1.heap.size + 1) 3 #[.int .i64 0] := hst.blk (((blk_at' (by simp)).alloc _).alloc _)
  have B2 : Blk w2 (w1.heap.size + 1 + 1) 3 #[.int .i64 0] := hst.blk ((blk_at' (by simp)).alloc _)
  have hg2 : w1.heap.size + 1 + 1 < g := by simp at hg; omega
  clear hst hg
  obtain ⟨Q, hQ⟩ : ∃ Q, w1.heap.size = Q := ⟨_, rfl⟩
  rw [hQ] at BQ B1 B2 hrow hg2
  rw [hQ]
  have HQ := Lib.hid hQ
  have H2 : Hid (Still w1 w2 ∧ Row w2 g 42 ([.int .i64 3, .slice none 0 0, .string ⟨#[]⟩] ++ [.int .i64 1, .slice (some ⟨Q + 1, 0, none⟩) 1 1, .string ⟨#[]⟩, .int .i64 2, .slice (some ⟨Q + 1 + 1, 0, none⟩) 1 1, .string ⟨#[]⟩]) ∧ Row w2 (Q + 1) 3 [.int .i64 0] ∧ Row w2 (Q + 1 + 1) 3 [.int .i64 0] ∧ Blk w2 Q 27 #[.slice (some ⟨p.p2, 0, none⟩) 2 2, .slice (some ⟨p.p3, 0, none⟩) 1 1, .slice none 0 0, .slice none 0 0, .slice (some ⟨p.p7, 0, none⟩) 1 1, .int .i64 0, .int .i64 0] ∧ Q + 1 + 1 < g) := ⟨st2, hrow, B1.row', B2.row', BQ, hg2⟩
  have q0 := BQ.cell 0
  have q1 := BQ.cell 1
  have q2 := BQ.cell 2
  have q3 := BQ.cell 3
  have q4 := BQ.cell 4
  have q5 := BQ.cell 5
  have q6 := BQ.cell 6
  have f1 := BQ.frozen 1
  have f2 := BQ.frozen 2
  have f4 := BQ.frozen 4
  have lQ := BQ.lt
  clear hQ hrow B1 B2 BQ hg2 st2
  go_wp2_with fail
  generalize hW4 : (((((w2.setCell ⟨Q, 1, none⟩ (.slice (some ⟨g, 0, none⟩) 3 cap)).setCell ⟨Q, 2, none⟩ (.slice (some ⟨w2.heap.size, 0, none⟩) 1 1)).alloc (.cells #[.string ⟨#[120]⟩] 9)).alloc (.cells #[.int .i64 5, .int .i64 1, .int .i64 1, .int .i64 0, .int .i64 0, .int .i64 0, .slice (some ⟨w2.heap.size + 1 + 1, 0, none⟩) 1 1, .slice none 0 0, .slice none 0 0] 36)).alloc (.cells #[.int .i64 0] 3)) = w4
  have st4 : Still w1 w4 := by
    rw [← hW4]
    refine (Turn.mono (S := fun j => j = Q) ?_ fun j hj e => by have := HQ.out; omega)
    exact ((((H2.out.1.turn (S := fun j => j = Q) |>.setCell (p := ⟨Q, 1, none⟩) (fun _ => rfl) _).setCell (p := ⟨Q, 2, none⟩) (fun _ => rfl) _).alloc _).alloc _).alloc _
  obtain ⟨S0, hS0⟩ : ∃ S0, w2.heap.size = S0 := ⟨_, rfl⟩
  obtain ⟨K, hK⟩ : ∃ K, w2.heap.size + 1 = K := ⟨_, rfl⟩
  have H4 : Hid (Still w1 w4 ∧ Row w4 g 42 ([.int .i64 3, .slice none 0 0, .string ⟨#[]⟩] ++ [.int .i64 1, .slice (some ⟨Q + 1, 0, none⟩) 1 1, .string ⟨#[]⟩, .int .i64 2, .slice (some ⟨Q + 1 + 1, 0, none⟩) 1 1, .string ⟨#[]⟩]) ∧ Row w4 (Q + 1) 3 [.int .i64 0] ∧ Row w4 (Q + 1 + 1) 3 [.int .i64 0] ∧ Blk w4 Q 27 #[.slice (some ⟨p.p2, 0, none⟩) 2 2, .slice (some ⟨g, 0, none⟩) 3 cap, .slice (some ⟨S0, 0, none⟩) 1 1, .slice none 0 0, .slice (some ⟨p.p7, 0, none⟩) 1 1, .int .i64 0, .int .i64 0] ∧ Row w4 S0 9 [.string ⟨#[120]⟩] ∧ Blk w4 K 36 #[.int .i64 5, .int .i64 1, .int .i64 1, .int .i64 0, .int .i64 0, .int .i64 0, .slice (some ⟨K + 1, 0, none⟩) 1 1, .slice none 0 0, .slice none 0 0] ∧ Row w4 (K + 1) 3 [.int .i64 0] ∧ Q < g) := by
    have hgQ : g ≠ Q := by have := H2.out.2.2.2.2.2; omega
    have h1Q : Q + 1 ≠ Q := by omega
    have h2Q : Q + 1 + 1 ≠ Q := by omega
    have z : ((w2.setCell ⟨Q, 1, none⟩ (.slice (some ⟨g, 0, none⟩) 3 cap)).setCell ⟨Q, 2, none⟩ (.slice (some ⟨w2.heap.size, 0, none⟩) 1 1)).heap.size = S0 := by simpa using hS0
    have hQ2 : Blk ((w2.setCell ⟨Q, 1, none⟩ (.slice (some ⟨g, 0, none⟩) 3 cap)).setCell ⟨Q, 2, none⟩ (.slice (some ⟨w2.heap.size, 0, none⟩) 1 1)) Q 27 #[.slice (some ⟨p.p2, 0, none⟩) 2 2, .slice (some ⟨g, 0, none⟩) 3 cap, .slice (some ⟨S0, 0, none⟩) 1 1, .slice none 0 0, .slice (some ⟨p.p7, 0, none⟩) 1 1, .int .i64 0, .int .i64 0] := by
      have := (H2.out.2.2.2.2.1.set 1 (.slice (some ⟨g, 0, none⟩) 3 cap)).set 2 (.slice (some ⟨w2.heap.size, 0, none⟩) 1 1)
      rw [hS0] at this ⊢
      exact this
    rw [← hK]
    rw [← hW4]
    have z1 : (((w2.setCell ⟨Q, 1, none⟩ (.slice (some ⟨g, 0, none⟩) 3 cap)).setCell ⟨Q, 2, none⟩ (.slice (some ⟨w2.heap.size, 0, none⟩) 1 1)).alloc (.cells #[.string ⟨#[120]⟩] 9)).heap.size = w2.heap.size + 1 := by simp
    refine ⟨?_, (((((H2.out.2.1.far hgQ _).far hgQ _).alloc _).alloc _)).alloc _, (((((H2.out.2.2.1.far h1Q _).far h1Q _).alloc _).alloc _)).alloc _, (((((H2.out.2.2.2.1.far h2Q _).far h2Q _).alloc _).alloc _)).alloc _, (((hQ2.alloc _).alloc _)).alloc _, ((((blk_at' z).row').alloc _)).alloc _, ((blk_at' z1)).alloc _, ((blk_at' (by simp)).row'), by have := H2.out.2.2.2.2.2; omega⟩
    rw [hW4]
    exact st4
  rw [hK]
  have HSK : Hid (S0 + 1 = K) := by show _ = _; omega
  clear st4 hW4 hS0 hK q0 q1 q2 q3 q4 q5 q6 f1 f2 f4 lQ
  have L4 := H1.out.1.still H4.out.1
  have y0 : w4.drew.cell? ⟨p.p7, 0, none⟩ = some (.slice none 0 0) := L4.a7.cell 0
  have y1 : w4.drew.cell? ⟨p.p7, 1, none⟩ = some (.int .i64 0) := L4.a7.cell 1
  have y2 : w4.drew.cell? ⟨p.p7, 2, none⟩ = some (.int .i64 1) := L4.a7.cell 2
  have y3 : w4.drew.cell? ⟨p.p7, 3, none⟩ = some (.slice (some ⟨p.p6, 0, none⟩) 1 1) := L4.a7.cell 3
  have z4 : w4.drew.cell? ⟨Q, 4, none⟩ = some (.slice (some ⟨p.p7, 0, none⟩) 1 1) := H4.out.2.2.2.2.1.cell 4
  have lyg : p.p7 < w4.drew.heap.size := L4.a7.lt
  have v0 : w4.cell? ⟨p.p7, 0, none⟩ = some (.slice none 0 0) := L4.a7.cell 0
  have v1 : w4.cell? ⟨p.p7, 1, none⟩ = some (.int .i64 0) := L4.a7.cell 1
  have v2 : w4.cell? ⟨p.p7, 2, none⟩ = some (.int .i64 1) := L4.a7.cell 2
  have v3 : w4.cell? ⟨p.p7, 3, none⟩ = some (.slice (some ⟨p.p6, 0, none⟩) 1 1) := L4.a7.cell 3
  have v4 : w4.cell? ⟨Q, 4, none⟩ = some (.slice (some ⟨p.p7, 0, none⟩) 1 1) := H4.out.2.2.2.2.1.cell 4
  have lvg : p.p7 < w4.heap.size := L4.a7.lt
  have lvQ : Q < w4.heap.size := H4.out.2.2.2.2.1.lt
  have lyQ : Q < w4.drew.heap.size := H4.out.2.2.2.2.1.lt
  have SD : Hid (Still w4 (w4.alloc (.cells #[.slice none 0 0, .int .i64 0, .int .i64 1, .slice (some ⟨p.p6, 0, none⟩) 1 1] 45)).drew) := (((Still.refl w4).alloc _)).drew
  clear L4
  go_cut [] from 41 (fun wc => ∃ g5 cap5, Row wc g5 45 ([.slice none 0 0, .int .i64 0, .int .i64 1, .slice (some ⟨p.p6, 0, none⟩) 1 1] ++ [.slice none 0 0, .int .i64 0, .int .i64 1, .slice (some ⟨p.p6, 0, none⟩) 1 1]) ∧ Blk wc Q 27 #[.slice (some ⟨p.p2, 0, none⟩) 2 2, .slice (some ⟨g, 0, none⟩) 3 cap, .slice (some ⟨S0, 0, none⟩) 1 1, .slice none 0 0, .slice (some ⟨g5, 0, none⟩) 2 cap5, .int .i64 0, .int .i64 0] ∧ Turn (fun j => j = Q) w4 wc ∧ w4.heap.size ≤ g5)
  case first =>
    go_region_law (refine step_append_new rfl (.tmp 42) (.tmp 47) 25 rfl 45 4 64 _ Tryz.underlying25 infoFunc rfl (by decide) (some ⟨p.p7, 0, none⟩) 1 [.slice none 0 0, .int .i64 0, .int .i64 1, .slice (some ⟨p.p6, 0, none⟩) 1 1] (by simp [Act.eval]) (fun e => by cases e) rfl (fun b hb => ⟨p.p7, (Option.some.inj hb).symm, (SD.out.blk (H1.out.1.still H4.out.1).a7).row'⟩) w4.heap.size 1 1 [.slice none 0 0, .int .i64 0, .int .i64 1, .slice (some ⟨p.p6, 0, none⟩) 1 1] (by simp [Act.eval]) rfl (Row.drew (Blk.row' (blk_at' rfl))) (by simp [Value.oneCell']) (by decide) (by decide) (by decide) ?_
                   intro g5 cap5 w5 hg5 hc5 st5 row5
                   have S5 : Hid (Still w4 w5) := SD.out.trans st5
                   have hQ5 := S5.out.blk H4.out.2.2.2.2.1
                   have z5 : w5.cell? ⟨Q, 4, none⟩ = some (.slice (some ⟨p.p7, 0, none⟩) 1 1) := hQ5.cell 4
                   have f5 : w5.frozen? ⟨Q, 4, none⟩ = false := hQ5.frozen 4
                   have lQ5 := hQ5.lt
                   have R5 : Hid (Row w5 g5 45 ([.slice none 0 0, .int .i64 0, .int .i64 1, .slice (some ⟨p.p6, 0, none⟩) 1 1] ++ [.slice none 0 0, .int .i64 0, .int .i64 1, .slice (some ⟨p.p6, 0, none⟩) 1 1]) ∧ w4.heap.size ≤ g5 ∧ Blk w5 Q 27 #[.slice (some ⟨p.p2, 0, none⟩) 2 2, .slice (some ⟨g, 0, none⟩) 3 cap, .slice (some ⟨S0, 0, none⟩) 1 1, .slice none 0 0, .slice (some ⟨p.p7, 0, none⟩) 1 1, .int .i64 0, .int .i64 0]) := ⟨row5, by simp at hg5; omega, hQ5⟩
                   clear hQ5 row5 st5 hg5)
    all_goals
      go_wp2_with fail
      go_meet
      have hgQ : g5 ≠ Q := by have h1 := R5.out.2.1; have h2 := H4.out.2.2.2.2.1.lt; omega
      exact ⟨g5, cap5, R5.out.1.far hgQ _, by have := R5.out.2.2.set 4 (.slice (some ⟨g5, 0, none⟩) 2 cap5); simpa using this, (S5.out.turn (S := fun j => j = Q)).setCell (p := ⟨Q, 4, none⟩) (fun _ => rfl) _, R5.out.2.1⟩
  case rest =>
    obtain ⟨g5, cap5, hrow5, hQ5, t5, hg5⟩ := hcut
    have hQn : ∀ {j : Nat}, (j < Q ∨ Q < j) → ¬ (fun j => j = Q) j := fun {j} h e => by have e2 : j = Q := e; omega
    have hQg := H4.out.2.2.2.2.2.2.2.2
    have lt4 := H4.out.2.2.2.2.1.lt
    have hSQ : S0 ≠ Q := fun e => by have h1 := H4.out.2.2.2.2.2.1; rw [e] at h1; exact h1.ne (Blk.row' H4.out.2.2.2.2.1) (by decide) rfl
    have hKQ : K ≠ Q := fun e => by have h1 := H4.out.2.2.2.2.2.2.1; rw [e] at h1; exact h1.ne H4.out.2.2.2.2.1 (by decide) rfl
    have H5 : Hid (Still w1 wc ∧ Row wc g 42 ([.int .i64 3, .slice none 0 0, .string ⟨#[]⟩] ++ [.int .i64 1, .slice (some ⟨Q + 1, 0, none⟩) 1 1, .string ⟨#[]⟩, .int .i64 2, .slice (some ⟨Q + 1 + 1, 0, none⟩) 1 1, .string ⟨#[]⟩]) ∧ Row wc (Q + 1) 3 [.int .i64 0] ∧ Row wc (Q + 1 + 1) 3 [.int .i64 0] ∧ Blk wc Q 27 #[.slice (some ⟨p.p2, 0, none⟩) 2 2, .slice (some ⟨g, 0, none⟩) 3 cap, .slice (some ⟨S0, 0, none⟩) 1 1, .slice none 0 0, .slice (some ⟨g5, 0, none⟩) 2 cap5, .int .i64 0, .int .i64 0] ∧ Row wc S0 9 [.string ⟨#[120]⟩] ∧ Blk wc K 36 #[.int .i64 5, .int .i64 1, .int .i64 1, .int .i64 0, .int .i64 0, .int .i64 0, .slice (some ⟨K + 1, 0, none⟩) 1 1, .slice none 0 0, .slice none 0 0] ∧ Row wc (K + 1) 3 [.int .i64 0] ∧ Row wc g5 45 ([.slice none 0 0, .int .i64 0, .int .i64 1, .slice (some ⟨p.p6, 0, none⟩) 1 1] ++ [.slice none 0 0, .int .i64 0, .int .i64 1, .slice (some ⟨p.p6, 0, none⟩) 1 1]) ∧ Q < g5) := by
      refine ⟨((H4.out.1.turn (S := fun j => j = Q)).trans t5).mono fun j hj e => by have e2 : j = Q := e; have := HQ.out; omega, H4.out.2.1.keep t5 (hQn (by omega)), H4.out.2.2.1.keep t5 (hQn (by omega)), H4.out.2.2.2.1.keep t5 (hQn (by omega)), hQ5, H4.out.2.2.2.2.2.1.keep t5 (fun e => hSQ e), H4.out.2.2.2.2.2.2.1.keep t5 (fun e => hKQ e), H4.out.2.2.2.2.2.2.2.1.keep t5 (fun e => by have h1 := H4.out.2.2.2.2.2.2.2.1; have e2 : K + 1 = Q := e; rw [e2] at h1; exact h1.ne (Blk.row' H4.out.2.2.2.2.1) (by decide) rfl), hrow5, by omega⟩
    have q0 := hQ5.cell 0
    have q1 := hQ5.cell 1
    have q2 := hQ5.cell 2
    have q3 := hQ5.cell 3
    have q4 := hQ5.cell 4
    have q5 := hQ5.cell 5
    have q6 := hQ5.cell 6
    have lQ := hQ5.lt
    have hK5 := H5.out.2.2.2.2.2.2.1
    have k0 := hK5.cell 0
    have k1 := hK5.cell 1
    have k2 := hK5.cell 2
    have k3 := hK5.cell 3
    have k4 := hK5.cell 4
    have k5 := hK5.cell 5
    have k6 := hK5.cell 6
    have k7 := hK5.cell 7
    have k8 := hK5.cell 8
    have lK := hK5.lt
    have r0 := hrow5.cell (i := 0) rfl
    have r1 := hrow5.cell (i := 1) rfl
    have r2 := hrow5.cell (i := 2) rfl
    have r3 := hrow5.cell (i := 3) rfl
    have fr0 := hrow5.frozen 0
    have fr1 := hrow5.frozen 1
    have fr2 := hrow5.frozen 2
    have fr3 := hrow5.frozen 3
    have lr := hrow5.lt
    have lr1 : g5 < wc.heap.size + 1 := by omega
    have lr2 : g5 < wc.heap.size + 1 + 1 := by omega
    have lQ1 : Q < wc.heap.size + 1 := by omega
    have lQ2 : Q < wc.heap.size + 1 + 1 := by omega
    have hQ5' : Q ≠ g5 := by omega
    have hQ6' : g5 ≠ Q := by omega
    have hK5' : K ≠ g5 := fun e => by have h1 := hK5; rw [e] at h1; exact (Blk.row' h1).ne hrow5 (by decide) rfl
    have hcap : 2 ≤ cap5 ∨ True := .inr trivial
    have HNE : Hid (Q ≠ g5 ∧ K ≠ g5) := ⟨hQ5', hK5'⟩
    clear hrow5 hQ5 t5 hg5 hQn hQg lt4 hSQ hKQ hK5 hcap
    clear y0 y1 y2 y3 z4 lyg lyQ v0 v1 v2 v3 v4 lvg lvQ
    go_wp2_with fail
    have b6 := wc.heap.size
    generalize hW6 : (((((((wc.setCell ⟨g5, 0, none⟩ (.slice none 0 0)).setCell ⟨g5, 1, none⟩ (.int .i64 0)).setCell ⟨g5, 2, none⟩ (.int .i64 2)).setCell ⟨g5, 3, none⟩ (.slice (some ⟨wc.heap.size + 1 + 1, 0, none⟩) 1 1)).alloc (.cells #[.int .i64 (-1), .int .i64 (-1)] 3)).alloc (.cells #[.int .i64 1, .int .i64 0, .int .i64 0, .int .i64 0, .int .i64 0, .int .i64 1, .slice none 0 0, .slice none 0 0, .slice none 0 0, .int .i64 5, .int .i64 1, .int .i64 1, .int .i64 0, .int .i64 0, .int .i64 0, .slice (some ⟨K + 1, 0, none⟩) 1 1, .slice none 0 0, .slice none 0 0, .int .i64 22, .int .i64 0, .int .i64 0, .int .i64 0, .int .i64 0, .int .i64 0, .slice none 0 0, .slice none 0 0, .slice none 0 0] 36)).alloc (.cells #[.slice (some ⟨wc.heap.size, 0, none⟩) 2 2, .slice (some ⟨wc.heap.size + 1, 0, none⟩) 3 3] 48)) = w6
    obtain ⟨I0, hI0⟩ : ∃ I0, wc.heap.size = I0 := ⟨_, rfl⟩
    obtain ⟨C0, hC0⟩ : ∃ C0, wc.heap.size + 1 = C0 := ⟨_, rfl⟩
    obtain ⟨B0, hB0⟩ : ∃ B0, wc.heap.size + 1 + 1 = B0 := ⟨_, rfl⟩
    have st6 : Still w1 w6 := by
      rw [← hW6]
      refine (Turn.mono (S := fun j => j = g5) ?_ fun j hj e => by have h1 := HQ.out; have h2 := H5.out.2.2.2.2.2.2.2.2.2; omega)
      exact (((((((H5.out.1.turn (S := fun j => j = g5)).setCell (p := ⟨g5, 0, none⟩) (fun _ => rfl) _).setCell (p := ⟨g5, 1, none⟩) (fun _ => rfl) _).setCell (p := ⟨g5, 2, none⟩) (fun _ => rfl) _).setCell (p := ⟨g5, 3, none⟩) (fun _ => rfl) _).alloc _).alloc _).alloc _
    have HH6 : Hid (Still w1 w6 ∧ Bm.Holds w6 (fun i => [p.p1, p.p2, Q + 1, Q + 1 + 1, g, S0, I0, C0, B0, p.p4, p.p5, p.p6, g5, K + 1].getD i 0) [[.int 0], [.bool true, .sl none 0 0, .bool false, .sl (some (0, 0)) 1 1], [.int 0], [.int 0], [.int 3, .sl none 0 0, .str ⟨#[]⟩, .int 1, .sl (some (2, 0)) 1 1, .str ⟨#[]⟩, .int 2, .sl (some (3, 0)) 1 1, .str ⟨#[]⟩], [.str ⟨#[120]⟩], [.int (-1), .int (-1)], [.int 1, .int 0, .int 0, .int 0, .int 0, .int 1, .sl none 0 0, .sl none 0 0, .sl none 0 0, .int 5, .int 1, .int 1, .int 0, .int 0, .int 0, .sl (some (13, 0)) 1 1, .sl none 0 0, .sl none 0 0, .int 22, .int 0, .int 0, .int 0, .int 0, .int 0, .sl none 0 0, .sl none 0 0, .sl none 0 0], [.sl (some (6, 0)) 2 2, .sl (some (7, 0)) 3 3], [.int (-1)], [.int 1, .int 0, .int 0, .int 0, .int 0, .int 5, .sl none 0 0, .sl none 0 0, .sl none 0 0, .int 22, .int 0, .int 0, .int 0, .int 0, .int 0, .sl none 0 0, .sl none 0 0, .sl none 0 0], [.sl (some (9, 0)) 1 1, .sl (some (10, 0)) 2 2], [.sl none 0 0, .int 0, .int 2, .sl (some (8, 0)) 1 1, .sl none 0 0, .int 0, .int 1, .sl (some (11, 0)) 1 1], [.int 0]]) := by
      refine ⟨st6, ?_⟩
      have L6 := H1.out.1.still st6
      have f4 : ∀ {b : Nat} {e : TypeId} {xs : List Value}, Row wc b e xs → b ≠ g5 → Row w6 b e xs := fun {b e xs} h hn => by
        rw [← hW6]
        exact (((((((h.far hn _).far hn _).far hn _).far hn _).alloc _).alloc _).alloc _)
      have hg5r := H5.out.2.2.2.2.2.2.2.2.1
      have hg5s : Row w6 g5 45 [.slice none 0 0, .int .i64 0, .int .i64 2, .slice (some ⟨wc.heap.size + 1 + 1, 0, none⟩) 1 1, .slice none 0 0, .int .i64 0, .int .i64 1, .slice (some ⟨p.p6, 0, none⟩) 1 1] := by
        rw [← hW6]
        exact (((((((hg5r.set (i := 0) (by simp) (.slice none 0 0)).set (i := 1) (by simp) (.int .i64 0)).set (i := 2) (by simp) (.int .i64 2)).set (i := 3) (by simp) (.slice (some ⟨wc.heap.size + 1 + 1, 0, none⟩) 1 1)).alloc _).alloc _).alloc _)
      have ne1 : g ≠ g5 := H5.out.2.1.ne hg5r (by decide)
      have ne2 : Q + 1 ≠ g5 := H5.out.2.2.1.ne hg5r (by decide)
      have ne3 : Q + 1 + 1 ≠ g5 := H5.out.2.2.2.1.ne hg5r (by decide)
      have ne4 : S0 ≠ g5 := H5.out.2.2.2.2.2.1.ne hg5r (by decide)
      have rI : Row w6 I0 3 [.int .i64 (-1), .int .i64 (-1)] := by
        rw [← hW6, ← hI0]
        exact (((blk_at' (by simp)).row').alloc _).alloc _
      have rC : Row w6 C0 36 [.int .i64 1, .int .i64 0, .int .i64 0, .int .i64 0, .int .i64 0, .int .i64 1, .slice none 0 0, .slice none 0 0, .slice none 0 0, .int .i64 5, .int .i64 1, .int .i64 1, .int .i64 0, .int .i64 0, .int .i64 0, .slice (some ⟨K + 1, 0, none⟩) 1 1, .slice none 0 0, .slice none 0 0, .int .i64 22, .int .i64 0, .int .i64 0, .int .i64 0, .int .i64 0, .int .i64 0, .slice none 0 0, .slice none 0 0, .slice none 0 0] := by
        rw [← hW6, ← hC0]
        exact ((blk_at' (by simp)).row').alloc _
      have rB : Row w6 B0 48 [.slice (some ⟨I0, 0, none⟩) 2 2, .slice (some ⟨C0, 0, none⟩) 3 3] := by
        rw [← hW6, ← hB0, ← hI0, ← hC0]
        exact (blk_at' (by simp)).row'
      rw [hB0] at hg5s
      refine ((((((((((((((Bm.holds_nil w6 _).row L6.a1.row' rfl rfl).row L6.a2.row' rfl rfl).row (f4 H5.out.2.2.1 ne2) rfl rfl).row (f4 H5.out.2.2.2.1 ne3) rfl rfl).row (f4 H5.out.2.1 ne1) rfl rfl).row (f4 H5.out.2.2.2.2.2.1 ne4) rfl rfl).row rI rfl rfl).row rC rfl rfl).row rB rfl rfl).row L6.a4.row' rfl rfl).row L6.a5.row' rfl rfl).row L6.a6.row' rfl rfl).row hg5s rfl rfl).row (f4 H5.out.2.2.2.2.2.2.2.1 ((H5.out.2.2.2.2.2.2.2.1).ne hg5r (by decide))) rfl rfl
    clear hW6 hI0 hC0 hB0 st6 q0 q1 q2 q3 q4 q5 q6 lQ lQ1 lQ2 k0 k1 k2 k3 k4 k5 k6 k7 k8 lK r0 r1 r2 r3 fr0 fr1 fr2 fr3 lr lr1 lr2 hQ5' hQ6' hK5' b6
    have st6w : Hid (Still w w6) := H1.out.2.trans HH6.out.1
    have HF := Lib.hid (Bm.fault_built HH6.out.2 (HT.out _ st6w.out) (c := ⟨some (1, 0), 2, 2, some (4, 0), 3, cap, some (5, 0), 1, 1, none, 0, 0, some (12, 0), 2, cap5, 0, 0⟩) (m := (⟨[⟨true, []⟩, ⟨false, [0]⟩], [⟨3, [], ⟨#[]⟩⟩, ⟨1, [0], ⟨#[]⟩⟩, ⟨2, [0], ⟨#[]⟩⟩], [⟨#[120]⟩], [], [⟨[], 0, 2, [⟨[-1, -1], [⟨1, 0, 0, 0, 0, 1, [], [], []⟩, ⟨5, 1, 1, 0, 0, 0, [0], [], []⟩, ⟨22, 0, 0, 0, 0, 0, [], [], []⟩]⟩]⟩, ⟨[], 0, 1, [⟨[-1], [⟨1, 0, 0, 0, 0, 5, [], [], []⟩, ⟨22, 0, 0, 0, 0, 0, [], [], []⟩]⟩]⟩], 0, 0⟩ : M.Img)) (by kernel_rfl) (by decide +kernel) (by decide +kernel))
    have hfe : Bm.faultE (⟨[⟨true, []⟩, ⟨false, [0]⟩], [⟨3, [], ⟨#[]⟩⟩, ⟨1, [0], ⟨#[]⟩⟩, ⟨2, [0], ⟨#[]⟩⟩], [⟨#[120]⟩], [], [⟨[], 0, 2, [⟨[-1, -1], [⟨1, 0, 0, 0, 0, 1, [], [], []⟩, ⟨5, 1, 1, 0, 0, 0, [0], [], []⟩, ⟨22, 0, 0, 0, 0, 0, [], [], []⟩]⟩]⟩, ⟨[], 0, 1, [⟨[-1], [⟨1, 0, 0, 0, 0, 5, [], [], []⟩, ⟨22, 0, 0, 0, 0, 0, [], [], []⟩]⟩]⟩], 0, 0⟩ : M.Img) = .tuple #[.int .i64 0, .int .i64 0, .int .i64 2, .bool false] := by kernel_rfl
    have HFE := Lib.hid hfe
    clear hfe
    refine HF.out.mono ?_; rintro e w7 ⟨rfl, t7⟩
    rw [HFE.out]
    have ST7 : Hid (Still w w7) := st6w.out.trans t7
    clear t7
    go_wp2_with fail
    refine (lives_any _ (HT.out _ ST7.out)).mono ?_; rintro e w8 ⟨rfl, t8⟩
    have ST8 : Hid (Still w w8) := ST7.out.trans t8
    clear t8
    go_wp2_with fail
    go_ret
    exact ⟨rfl, ST8.out⟩
end Go.Proofs.YtglalgjffkoneaaGreatDoor
/- VerifyLive: its walk, one of eight ways. -/
namespace Go.Proofs.YtglalgjffkoneaaGreatDoor
set_option linter.unusedVariables false
set_option linter.unusedSimpArgs false
open Go.ChangeShapes Go.WideShapes Go.ChangeAt Go.RowKit
open Vf (K nth nth_nat tyAt atK isK numT oneT le beginK tsub RowK FitsK CalledK resT ObjK keepK KeepsK setK hasK)
set_option maxRecDepth 100000 in
set_option maxHeartbeats 8000000 in
theorem live_2_n (a1 : Int) (u : Nat) (w : World) (ht : Tz w) (hu : IntKind.u64.wrap a1 = (u : Int)) (hr : Int.tmod (u : Int) 4 = 2) : Calls Tryz.prog 5 #[.bool false, .int .i64 a1] w fun e w' => e = .returned (.bool true) ∧ Still w w' := by
  have HT : Hid (∀ W, Still w W → Tz W) := fun W t => ht.keep t (fun e => e)
  clear ht
  go_enter Tryz.func5, Tryz.ntmps5
  go_wp2_with fail
  refine (least_any _).mono ?_; rintro e w1 ⟨p, rfl, ha, t1, hp6⟩
  have H1 := Lib.hid (And.intro ha t1)
  clear ha t1 hp6
  go_wp2_with (at_builtin; refine wpList_append_new rfl (.tmp 13) (.tmp 18) 23 rfl 42 3 48 _ Tryz.underlying23 infoShape rfl (by decide) (some ⟨p.p3, 0, none⟩) 1 [.int .i64 3, .slice none 0 0, .string ⟨#[]⟩] rfl (fun e => by cases e) rfl (fun b hb => ⟨p.p3, (Option.some.inj hb).symm, Blk.row' (by repeat (first | exact H1.out.1.a3 | refine Blk.alloc ?_ _))⟩) (w1.heap.size + 1 + 1 + 1) 2 2 [.int .i64 1, .slice (some ⟨w1.heap.size + 1, 0, none⟩) 1 1, .string ⟨#[]⟩, .int .i64 2, .slice (some ⟨w1.heap.size + 1 + 1, 0, none⟩) 1 1, .string ⟨#[]⟩] rfl rfl (Blk.row' (blk_at' (by simp))) (by simp [Value.oneCell']) (by decide) (by decide) (by decide) ?_; intro g cap w2 hg hc hst hrow; refine Wait.out ?_)
  refine ⟨?_⟩
  have st2 : Still w1 w2 := ((((Still.refl w1).alloc _).alloc _).alloc _ |>.alloc _).trans hst
  have BQ : Blk w2 w1.heap.size 27 #[.slice (some ⟨p.p2, 0, none⟩) 2 2, .slice (some ⟨p.p3, 0, none⟩) 1 1, .slice none 0 0, .slice none 0 0, .slice (some ⟨p.p7, 0, none⟩) 1 1, .int .i64 0, .int .i64 0] := hst.blk ((((blk_at' rfl).alloc _).alloc _).alloc _)
  have B1 : Blk w2 (w1.heap.size + 1) 3 #[.int .i64 0] := hst.blk (((blk_at' (by simp)).alloc _).alloc _)
  have B2 : Blk w2 (w1.heap.size + 1 + 1) 3 #[.int .i64 0] := hst.blk ((blk_at' (by simp)).alloc _)
  have hg2 : w1.heap.size + 1 + 1 < g := by simp at hg; omega
  clear hst hg
  obtain ⟨Q, hQ⟩ : ∃ Q, w1.heap.size = Q := ⟨_, rfl⟩
  rw [hQ] at BQ B1 B2 hrow hg2
  rw [hQ]
  have HQ := Lib.hid hQ
  have H2 : Hid (Still w1 w2 ∧ Row w2 g 42 ([.int .i64 3, .slice none 0 0, .string ⟨#[]⟩] ++ [.int .i64 1, .slice (some ⟨Q + 1, 0, none⟩) 1 1, .string ⟨#[]⟩, .int .i64 2, .slice (some ⟨Q + 1 + 1, 0, none⟩) 1 1, .string ⟨#[]⟩]) ∧ Row w2 (Q + 1) 3 [.int .i64 0] ∧ Row w2 (Q + 1 + 1) 3 [.int .i64 0] ∧ Blk w2 Q 27 #[.slice (some ⟨p.p2, 0, none⟩) 2 2, .slice (some ⟨p.p3, 0, none⟩) 1 1, .slice none 0 0, .slice none 0 0, .slice (some ⟨p.p7, 0, none⟩) 1 1, .int .i64 0, .int .i64 0] ∧ Q + 1 + 1 < g) := ⟨st2, hrow, B1.row', B2.row', BQ, hg2⟩
  have q0 := BQ.cell 0
  have q1 := BQ.cell 1
  have q2 := BQ.cell 2
  have q3 := BQ.cell 3
  have q4 := BQ.cell 4
  have q5 := BQ.cell 5
  have q6 := BQ.cell 6
  have f1 := BQ.frozen 1
  have f2 := BQ.frozen 2
  have f4 := BQ.frozen 4
  have lQ := BQ.lt
  clear hQ hrow B1 B2 BQ hg2 st2
  go_wp2_with fail
  generalize hW4 : ((((w2.setCell ⟨Q, 1, none⟩ (.slice (some ⟨g, 0, none⟩) 3 cap)).setCell ⟨Q, 2, none⟩ (.slice (some ⟨w2.heap.size, 0, none⟩) 1 1)).alloc (.cells #[.string ⟨#[120]⟩] 9)).alloc (.cells #[.int .i64 8, .int .i64 1, .int .i64 2, .int .i64 0, .int .i64 0, .int .i64 0, .slice none 0 0, .slice none 0 0, .slice none 0 0] 36)) = w4
  have st4 : Still w1 w4 := by
    rw [← hW4]
    refine (Turn.mono (S := fun j => j = Q) ?_ fun j hj e => by have := HQ.out; omega)
    exact (((H2.out.1.turn (S := fun j => j = Q) |>.setCell (p := ⟨Q, 1, none⟩) (fun _ => rfl) _).setCell (p := ⟨Q, 2, none⟩) (fun _ => rfl) _).alloc _).alloc _
  obtain ⟨S0, hS0⟩ : ∃ S0, w2.heap.size = S0 := ⟨_, rfl⟩
  obtain ⟨K, hK⟩ : ∃ K, w2.heap.size + 1 = K := ⟨_, rfl⟩
  have H4 : Hid (Still w1 w4 ∧ Row w4 g 42 ([.int .i64 3, .slice none 0 0, .string ⟨#[]⟩] ++ [.int .i64 1, .slice (some ⟨Q + 1, 0, none⟩) 1 1, .string ⟨#[]⟩, .int .i64 2, .slice (some ⟨Q + 1 + 1, 0, none⟩) 1 1, .string ⟨#[]⟩]) ∧ Row w4 (Q + 1) 3 [.int .i64 0] ∧ Row w4 (Q + 1 + 1) 3 [.int .i64 0] ∧ Blk w4 Q 27 #[.slice (some ⟨p.p2, 0, none⟩) 2 2, .slice (some ⟨g, 0, none⟩) 3 cap, .slice (some ⟨S0, 0, none⟩) 1 1, .slice none 0 0, .slice (some ⟨p.p7, 0, none⟩) 1 1, .int .i64 0, .int .i64 0] ∧ Row w4 S0 9 [.string ⟨#[120]⟩] ∧ Blk w4 K 36 #[.int .i64 8, .int .i64 1, .int .i64 2, .int .i64 0, .int .i64 0, .int .i64 0, .slice none 0 0, .slice none 0 0, .slice none 0 0] ∧ Q < g) := by
    have hgQ : g ≠ Q := by have := H2.out.2.2.2.2.2; omega
    have h1Q : Q + 1 ≠ Q := by omega
    have h2Q : Q + 1 + 1 ≠ Q := by omega
    have z : ((w2.setCell ⟨Q, 1, none⟩ (.slice (some ⟨g, 0, none⟩) 3 cap)).setCell ⟨Q, 2, none⟩ (.slice (some ⟨w2.heap.size, 0, none⟩) 1 1)).heap.size = S0 := by simpa using hS0
    have hQ2 : Blk ((w2.setCell ⟨Q, 1, none⟩ (.slice (some ⟨g, 0, none⟩) 3 cap)).setCell ⟨Q, 2, none⟩ (.slice (some ⟨w2.heap.size, 0, none⟩) 1 1)) Q 27 #[.slice (some ⟨p.p2, 0, none⟩) 2 2, .slice (some ⟨g, 0, none⟩) 3 cap, .slice (some ⟨S0, 0, none⟩) 1 1, .slice none 0 0, .slice (some ⟨p.p7, 0, none⟩) 1 1, .int .i64 0, .int .i64 0] := by
      have := (H2.out.2.2.2.2.1.set 1 (.slice (some ⟨g, 0, none⟩) 3 cap)).set 2 (.slice (some ⟨w2.heap.size, 0, none⟩) 1 1)
      rw [hS0] at this ⊢
      exact this
    rw [← hK]
    rw [← hW4]
    have z1 : (((w2.setCell ⟨Q, 1, none⟩ (.slice (some ⟨g, 0, none⟩) 3 cap)).setCell ⟨Q, 2, none⟩ (.slice (some ⟨w2.heap.size, 0, none⟩) 1 1)).alloc (.cells #[.string ⟨#[120]⟩] 9)).heap.size = w2.heap.size + 1 := by simp
    refine ⟨?_, ((((H2.out.2.1.far hgQ _).far hgQ _).alloc _).alloc _), ((((H2.out.2.2.1.far h1Q _).far h1Q _).alloc _).alloc _), ((((H2.out.2.2.2.1.far h2Q _).far h2Q _).alloc _).alloc _), ((hQ2.alloc _).alloc _), (((blk_at' z).row').alloc _), (blk_at' z1), by have := H2.out.2.2.2.2.2; omega⟩
    rw [hW4]
    exact st4
  rw [hK]
  have HSK : Hid (S0 + 1 = K) := by show _ = _; omega
  clear st4 hW4 hS0 hK q0 q1 q2 q3 q4 q5 q6 f1 f2 f4 lQ
  have L4 := H1.out.1.still H4.out.1
  have y0 : w4.drew.cell? ⟨p.p7, 0, none⟩ = some (.slice none 0 0) := L4.a7.cell 0
  have y1 : w4.drew.cell? ⟨p.p7, 1, none⟩ = some (.int .i64 0) := L4.a7.cell 1
  have y2 : w4.drew.cell? ⟨p.p7, 2, none⟩ = some (.int .i64 1) := L4.a7.cell 2
  have y3 : w4.drew.cell? ⟨p.p7, 3, none⟩ = some (.slice (some ⟨p.p6, 0, none⟩) 1 1) := L4.a7.cell 3
  have z4 : w4.drew.cell? ⟨Q, 4, none⟩ = some (.slice (some ⟨p.p7, 0, none⟩) 1 1) := H4.out.2.2.2.2.1.cell 4
  have lyg : p.p7 < w4.drew.heap.size := L4.a7.lt
  have v0 : w4.cell? ⟨p.p7, 0, none⟩ = some (.slice none 0 0) := L4.a7.cell 0
  have v1 : w4.cell? ⟨p.p7, 1, none⟩ = some (.int .i64 0) := L4.a7.cell 1
  have v2 : w4.cell? ⟨p.p7, 2, none⟩ = some (.int .i64 1) := L4.a7.cell 2
  have v3 : w4.cell? ⟨p.p7, 3, none⟩ = some (.slice (some ⟨p.p6, 0, none⟩) 1 1) := L4.a7.cell 3
  have v4 : w4.cell? ⟨Q, 4, none⟩ = some (.slice (some ⟨p.p7, 0, none⟩) 1 1) := H4.out.2.2.2.2.1.cell 4
  have lvg : p.p7 < w4.heap.size := L4.a7.lt
  have lvQ : Q < w4.heap.size := H4.out.2.2.2.2.1.lt
  have lyQ : Q < w4.drew.heap.size := H4.out.2.2.2.2.1.lt
  have SD : Hid (Still w4 (w4.alloc (.cells #[.slice none 0 0, .int .i64 0, .int .i64 1, .slice (some ⟨p.p6, 0, none⟩) 1 1] 45)).drew) := (((Still.refl w4).alloc _)).drew
  clear L4
  go_cut [] from 41 (fun wc => ∃ g5 cap5, Row wc g5 45 ([.slice none 0 0, .int .i64 0, .int .i64 1, .slice (some ⟨p.p6, 0, none⟩) 1 1] ++ [.slice none 0 0, .int .i64 0, .int .i64 1, .slice (some ⟨p.p6, 0, none⟩) 1 1]) ∧ Blk wc Q 27 #[.slice (some ⟨p.p2, 0, none⟩) 2 2, .slice (some ⟨g, 0, none⟩) 3 cap, .slice (some ⟨S0, 0, none⟩) 1 1, .slice none 0 0, .slice (some ⟨g5, 0, none⟩) 2 cap5, .int .i64 0, .int .i64 0] ∧ Turn (fun j => j = Q) w4 wc ∧ w4.heap.size ≤ g5)
  case first =>
    go_region_law (refine step_append_new rfl (.tmp 42) (.tmp 47) 25 rfl 45 4 64 _ Tryz.underlying25 infoFunc rfl (by decide) (some ⟨p.p7, 0, none⟩) 1 [.slice none 0 0, .int .i64 0, .int .i64 1, .slice (some ⟨p.p6, 0, none⟩) 1 1] (by simp [Act.eval]) (fun e => by cases e) rfl (fun b hb => ⟨p.p7, (Option.some.inj hb).symm, (SD.out.blk (H1.out.1.still H4.out.1).a7).row'⟩) w4.heap.size 1 1 [.slice none 0 0, .int .i64 0, .int .i64 1, .slice (some ⟨p.p6, 0, none⟩) 1 1] (by simp [Act.eval]) rfl (Row.drew (Blk.row' (blk_at' rfl))) (by simp [Value.oneCell']) (by decide) (by decide) (by decide) ?_
                   intro g5 cap5 w5 hg5 hc5 st5 row5
                   have S5 : Hid (Still w4 w5) := SD.out.trans st5
                   have hQ5 := S5.out.blk H4.out.2.2.2.2.1
                   have z5 : w5.cell? ⟨Q, 4, none⟩ = some (.slice (some ⟨p.p7, 0, none⟩) 1 1) := hQ5.cell 4
                   have f5 : w5.frozen? ⟨Q, 4, none⟩ = false := hQ5.frozen 4
                   have lQ5 := hQ5.lt
                   have R5 : Hid (Row w5 g5 45 ([.slice none 0 0, .int .i64 0, .int .i64 1, .slice (some ⟨p.p6, 0, none⟩) 1 1] ++ [.slice none 0 0, .int .i64 0, .int .i64 1, .slice (some ⟨p.p6, 0, none⟩) 1 1]) ∧ w4.heap.size ≤ g5 ∧ Blk w5 Q 27 #[.slice (some ⟨p.p2, 0, none⟩) 2 2, .slice (some ⟨g, 0, none⟩) 3 cap, .slice (some ⟨S0, 0, none⟩) 1 1, .slice none 0 0, .slice (some ⟨p.p7, 0, none⟩) 1 1, .int .i64 0, .int .i64 0]) := ⟨row5, by simp at hg5; omega, hQ5⟩
                   clear hQ5 row5 st5 hg5)
    all_goals
      go_wp2_with fail
      go_meet
      have hgQ : g5 ≠ Q := by have h1 := R5.out.2.1; have h2 := H4.out.2.2.2.2.1.lt; omega
      exact ⟨g5, cap5, R5.out.1.far hgQ _, by have := R5.out.2.2.set 4 (.slice (some ⟨g5, 0, none⟩) 2 cap5); simpa using this, (S5.out.turn (S := fun j => j = Q)).setCell (p := ⟨Q, 4, none⟩) (fun _ => rfl) _, R5.out.2.1⟩
  case rest =>
    obtain ⟨g5, cap5, hrow5, hQ5, t5, hg5⟩ := hcut
    have hQn : ∀ {j : Nat}, (j < Q ∨ Q < j) → ¬ (fun j => j = Q) j := fun {j} h e => by have e2 : j = Q := e; omega
    have hQg := H4.out.2.2.2.2.2.2.2
    have lt4 := H4.out.2.2.2.2.1.lt
    have hSQ : S0 ≠ Q := fun e => by have h1 := H4.out.2.2.2.2.2.1; rw [e] at h1; exact h1.ne (Blk.row' H4.out.2.2.2.2.1) (by decide) rfl
    have hKQ : K ≠ Q := fun e => by have h1 := H4.out.2.2.2.2.2.2.1; rw [e] at h1; exact h1.ne H4.out.2.2.2.2.1 (by decide) rfl
    have H5 : Hid (Still w1 wc ∧ Row wc g 42 ([.int .i64 3, .slice none 0 0, .string ⟨#[]⟩] ++ [.int .i64 1, .slice (some ⟨Q + 1, 0, none⟩) 1 1, .string ⟨#[]⟩, .int .i64 2, .slice (some ⟨Q + 1 + 1, 0, none⟩) 1 1, .string ⟨#[]⟩]) ∧ Row wc (Q + 1) 3 [.int .i64 0] ∧ Row wc (Q + 1 + 1) 3 [.int .i64 0] ∧ Blk wc Q 27 #[.slice (some ⟨p.p2, 0, none⟩) 2 2, .slice (some ⟨g, 0, none⟩) 3 cap, .slice (some ⟨S0, 0, none⟩) 1 1, .slice none 0 0, .slice (some ⟨g5, 0, none⟩) 2 cap5, .int .i64 0, .int .i64 0] ∧ Row wc S0 9 [.string ⟨#[120]⟩] ∧ Blk wc K 36 #[.int .i64 8, .int .i64 1, .int .i64 2, .int .i64 0, .int .i64 0, .int .i64 0, .slice none 0 0, .slice none 0 0, .slice none 0 0] ∧ Row wc g5 45 ([.slice none 0 0, .int .i64 0, .int .i64 1, .slice (some ⟨p.p6, 0, none⟩) 1 1] ++ [.slice none 0 0, .int .i64 0, .int .i64 1, .slice (some ⟨p.p6, 0, none⟩) 1 1]) ∧ Q < g5) := by
      refine ⟨((H4.out.1.turn (S := fun j => j = Q)).trans t5).mono fun j hj e => by have e2 : j = Q := e; have := HQ.out; omega, H4.out.2.1.keep t5 (hQn (by omega)), H4.out.2.2.1.keep t5 (hQn (by omega)), H4.out.2.2.2.1.keep t5 (hQn (by omega)), hQ5, H4.out.2.2.2.2.2.1.keep t5 (fun e => hSQ e), H4.out.2.2.2.2.2.2.1.keep t5 (fun e => hKQ e), hrow5, by omega⟩
    have q0 := hQ5.cell 0
    have q1 := hQ5.cell 1
    have q2 := hQ5.cell 2
    have q3 := hQ5.cell 3
    have q4 := hQ5.cell 4
    have q5 := hQ5.cell 5
    have q6 := hQ5.cell 6
    have lQ := hQ5.lt
    have hK5 := H5.out.2.2.2.2.2.2.1
    have k0 := hK5.cell 0
    have k1 := hK5.cell 1
    have k2 := hK5.cell 2
    have k3 := hK5.cell 3
    have k4 := hK5.cell 4
    have k5 := hK5.cell 5
    have k6 := hK5.cell 6
    have k7 := hK5.cell 7
    have k8 := hK5.cell 8
    have lK := hK5.lt
    have r0 := hrow5.cell (i := 0) rfl
    have r1 := hrow5.cell (i := 1) rfl
    have r2 := hrow5.cell (i := 2) rfl
    have r3 := hrow5.cell (i := 3) rfl
    have fr0 := hrow5.frozen 0
    have fr1 := hrow5.frozen 1
    have fr2 := hrow5.frozen 2
    have fr3 := hrow5.frozen 3
    have lr := hrow5.lt
    have lr1 : g5 < wc.heap.size + 1 := by omega
    have lr2 : g5 < wc.heap.size + 1 + 1 := by omega
    have lQ1 : Q < wc.heap.size + 1 := by omega
    have lQ2 : Q < wc.heap.size + 1 + 1 := by omega
    have hQ5' : Q ≠ g5 := by omega
    have hQ6' : g5 ≠ Q := by omega
    have hK5' : K ≠ g5 := fun e => by have h1 := hK5; rw [e] at h1; exact (Blk.row' h1).ne hrow5 (by decide) rfl
    have hcap : 2 ≤ cap5 ∨ True := .inr trivial
    have HNE : Hid (Q ≠ g5 ∧ K ≠ g5) := ⟨hQ5', hK5'⟩
    clear hrow5 hQ5 t5 hg5 hQn hQg lt4 hSQ hKQ hK5 hcap
    clear y0 y1 y2 y3 z4 lyg lyQ v0 v1 v2 v3 v4 lvg lvQ
    go_wp2_with fail
    have b6 := wc.heap.size
    generalize hW6 : (((((((wc.setCell ⟨g5, 0, none⟩ (.slice none 0 0)).setCell ⟨g5, 1, none⟩ (.int .i64 0)).setCell ⟨g5, 2, none⟩ (.int .i64 2)).setCell ⟨g5, 3, none⟩ (.slice (some ⟨wc.heap.size + 1 + 1, 0, none⟩) 1 1)).alloc (.cells #[.int .i64 (-1), .int .i64 (-1)] 3)).alloc (.cells #[.int .i64 1, .int .i64 0, .int .i64 0, .int .i64 0, .int .i64 0, .int .i64 1, .slice none 0 0, .slice none 0 0, .slice none 0 0, .int .i64 8, .int .i64 1, .int .i64 2, .int .i64 0, .int .i64 0, .int .i64 0, .slice none 0 0, .slice none 0 0, .slice none 0 0, .int .i64 22, .int .i64 0, .int .i64 0, .int .i64 0, .int .i64 0, .int .i64 0, .slice none 0 0, .slice none 0 0, .slice none 0 0] 36)).alloc (.cells #[.slice (some ⟨wc.heap.size, 0, none⟩) 2 2, .slice (some ⟨wc.heap.size + 1, 0, none⟩) 3 3] 48)) = w6
    obtain ⟨I0, hI0⟩ : ∃ I0, wc.heap.size = I0 := ⟨_, rfl⟩
    obtain ⟨C0, hC0⟩ : ∃ C0, wc.heap.size + 1 = C0 := ⟨_, rfl⟩
    obtain ⟨B0, hB0⟩ : ∃ B0, wc.heap.size + 1 + 1 = B0 := ⟨_, rfl⟩
    have st6 : Still w1 w6 := by
      rw [← hW6]
      refine (Turn.mono (S := fun j => j = g5) ?_ fun j hj e => by have h1 := HQ.out; have h2 := H5.out.2.2.2.2.2.2.2.2; omega)
      exact (((((((H5.out.1.turn (S := fun j => j = g5)).setCell (p := ⟨g5, 0, none⟩) (fun _ => rfl) _).setCell (p := ⟨g5, 1, none⟩) (fun _ => rfl) _).setCell (p := ⟨g5, 2, none⟩) (fun _ => rfl) _).setCell (p := ⟨g5, 3, none⟩) (fun _ => rfl) _).alloc _).alloc _).alloc _
    have HH6 : Hid (Still w1 w6 ∧ Bm.Holds w6 (fun i => [p.p1, p.p2, Q + 1, Q + 1 + 1, g, S0, I0, C0, B0, p.p4, p.p5, p.p6, g5].getD i 0) [[.int 0], [.bool true, .sl none 0 0, .bool false, .sl (some (0, 0)) 1 1], [.int 0], [.int 0], [.int 3, .sl none 0 0, .str ⟨#[]⟩, .int 1, .sl (some (2, 0)) 1 1, .str ⟨#[]⟩, .int 2, .sl (some (3, 0)) 1 1, .str ⟨#[]⟩], [.str ⟨#[120]⟩], [.int (-1), .int (-1)], [.int 1, .int 0, .int 0, .int 0, .int 0, .int 1, .sl none 0 0, .sl none 0 0, .sl none 0 0, .int 8, .int 1, .int 2, .int 0, .int 0, .int 0, .sl none 0 0, .sl none 0 0, .sl none 0 0, .int 22, .int 0, .int 0, .int 0, .int 0, .int 0, .sl none 0 0, .sl none 0 0, .sl none 0 0], [.sl (some (6, 0)) 2 2, .sl (some (7, 0)) 3 3], [.int (-1)], [.int 1, .int 0, .int 0, .int 0, .int 0, .int 5, .sl none 0 0, .sl none 0 0, .sl none 0 0, .int 22, .int 0, .int 0, .int 0, .int 0, .int 0, .sl none 0 0, .sl none 0 0, .sl none 0 0], [.sl (some (9, 0)) 1 1, .sl (some (10, 0)) 2 2], [.sl none 0 0, .int 0, .int 2, .sl (some (8, 0)) 1 1, .sl none 0 0, .int 0, .int 1, .sl (some (11, 0)) 1 1]]) := by
      refine ⟨st6, ?_⟩
      have L6 := H1.out.1.still st6
      have f4 : ∀ {b : Nat} {e : TypeId} {xs : List Value}, Row wc b e xs → b ≠ g5 → Row w6 b e xs := fun {b e xs} h hn => by
        rw [← hW6]
        exact (((((((h.far hn _).far hn _).far hn _).far hn _).alloc _).alloc _).alloc _)
      have hg5r := H5.out.2.2.2.2.2.2.2.1
      have hg5s : Row w6 g5 45 [.slice none 0 0, .int .i64 0, .int .i64 2, .slice (some ⟨wc.heap.size + 1 + 1, 0, none⟩) 1 1, .slice none 0 0, .int .i64 0, .int .i64 1, .slice (some ⟨p.p6, 0, none⟩) 1 1] := by
        rw [← hW6]
        exact (((((((hg5r.set (i := 0) (by simp) (.slice none 0 0)).set (i := 1) (by simp) (.int .i64 0)).set (i := 2) (by simp) (.int .i64 2)).set (i := 3) (by simp) (.slice (some ⟨wc.heap.size + 1 + 1, 0, none⟩) 1 1)).alloc _).alloc _).alloc _)
      have ne1 : g ≠ g5 := H5.out.2.1.ne hg5r (by decide)
      have ne2 : Q + 1 ≠ g5 := H5.out.2.2.1.ne hg5r (by decide)
      have ne3 : Q + 1 + 1 ≠ g5 := H5.out.2.2.2.1.ne hg5r (by decide)
      have ne4 : S0 ≠ g5 := H5.out.2.2.2.2.2.1.ne hg5r (by decide)
      have rI : Row w6 I0 3 [.int .i64 (-1), .int .i64 (-1)] := by
        rw [← hW6, ← hI0]
        exact (((blk_at' (by simp)).row').alloc _).alloc _
      have rC : Row w6 C0 36 [.int .i64 1, .int .i64 0, .int .i64 0, .int .i64 0, .int .i64 0, .int .i64 1, .slice none 0 0, .slice none 0 0, .slice none 0 0, .int .i64 8, .int .i64 1, .int .i64 2, .int .i64 0, .int .i64 0, .int .i64 0, .slice none 0 0, .slice none 0 0, .slice none 0 0, .int .i64 22, .int .i64 0, .int .i64 0, .int .i64 0, .int .i64 0, .int .i64 0, .slice none 0 0, .slice none 0 0, .slice none 0 0] := by
        rw [← hW6, ← hC0]
        exact ((blk_at' (by simp)).row').alloc _
      have rB : Row w6 B0 48 [.slice (some ⟨I0, 0, none⟩) 2 2, .slice (some ⟨C0, 0, none⟩) 3 3] := by
        rw [← hW6, ← hB0, ← hI0, ← hC0]
        exact (blk_at' (by simp)).row'
      rw [hB0] at hg5s
      refine (((((((((((((Bm.holds_nil w6 _).row L6.a1.row' rfl rfl).row L6.a2.row' rfl rfl).row (f4 H5.out.2.2.1 ne2) rfl rfl).row (f4 H5.out.2.2.2.1 ne3) rfl rfl).row (f4 H5.out.2.1 ne1) rfl rfl).row (f4 H5.out.2.2.2.2.2.1 ne4) rfl rfl).row rI rfl rfl).row rC rfl rfl).row rB rfl rfl).row L6.a4.row' rfl rfl).row L6.a5.row' rfl rfl).row L6.a6.row' rfl rfl).row hg5s rfl rfl
    clear hW6 hI0 hC0 hB0 st6 q0 q1 q2 q3 q4 q5 q6 lQ lQ1 lQ2 k0 k1 k2 k3 k4 k5 k6 k7 k8 lK r0 r1 r2 r3 fr0 fr1 fr2 fr3 lr lr1 lr2 hQ5' hQ6' hK5' b6
    have st6w : Hid (Still w w6) := H1.out.2.trans HH6.out.1
    have HF := Lib.hid (Bm.fault_built HH6.out.2 (HT.out _ st6w.out) (c := ⟨some (1, 0), 2, 2, some (4, 0), 3, cap, some (5, 0), 1, 1, none, 0, 0, some (12, 0), 2, cap5, 0, 0⟩) (m := (⟨[⟨true, []⟩, ⟨false, [0]⟩], [⟨3, [], ⟨#[]⟩⟩, ⟨1, [0], ⟨#[]⟩⟩, ⟨2, [0], ⟨#[]⟩⟩], [⟨#[120]⟩], [], [⟨[], 0, 2, [⟨[-1, -1], [⟨1, 0, 0, 0, 0, 1, [], [], []⟩, ⟨8, 1, 2, 0, 0, 0, [], [], []⟩, ⟨22, 0, 0, 0, 0, 0, [], [], []⟩]⟩]⟩, ⟨[], 0, 1, [⟨[-1], [⟨1, 0, 0, 0, 0, 5, [], [], []⟩, ⟨22, 0, 0, 0, 0, 0, [], [], []⟩]⟩]⟩], 0, 0⟩ : M.Img)) (by kernel_rfl) (by decide +kernel) (by decide +kernel))
    have hfe : Bm.faultE (⟨[⟨true, []⟩, ⟨false, [0]⟩], [⟨3, [], ⟨#[]⟩⟩, ⟨1, [0], ⟨#[]⟩⟩, ⟨2, [0], ⟨#[]⟩⟩], [⟨#[120]⟩], [], [⟨[], 0, 2, [⟨[-1, -1], [⟨1, 0, 0, 0, 0, 1, [], [], []⟩, ⟨8, 1, 2, 0, 0, 0, [], [], []⟩, ⟨22, 0, 0, 0, 0, 0, [], [], []⟩]⟩]⟩, ⟨[], 0, 1, [⟨[-1], [⟨1, 0, 0, 0, 0, 5, [], [], []⟩, ⟨22, 0, 0, 0, 0, 0, [], [], []⟩]⟩]⟩], 0, 0⟩ : M.Img) = .tuple #[.int .i64 0, .int .i64 0, .int .i64 2, .bool false] := by kernel_rfl
    have HFE := Lib.hid hfe
    clear hfe
    refine HF.out.mono ?_; rintro e w7 ⟨rfl, t7⟩
    rw [HFE.out]
    have ST7 : Hid (Still w w7) := st6w.out.trans t7
    clear t7
    go_wp2_with fail
    refine (lives_any _ (HT.out _ ST7.out)).mono ?_; rintro e w8 ⟨rfl, t8⟩
    have ST8 : Hid (Still w w8) := ST7.out.trans t8
    clear t8
    go_wp2_with fail
    go_ret
    exact ⟨rfl, ST8.out⟩
end Go.Proofs.YtglalgjffkoneaaGreatDoor
/- VerifyLive: its walk, one of eight ways. -/
namespace Go.Proofs.YtglalgjffkoneaaGreatDoor
set_option linter.unusedVariables false
set_option linter.unusedSimpArgs false
open Go.ChangeShapes Go.WideShapes Go.ChangeAt Go.RowKit
open Vf (K nth nth_nat tyAt atK isK numT oneT le beginK tsub RowK FitsK CalledK resT ObjK keepK KeepsK setK hasK)
set_option maxRecDepth 100000 in
set_option maxHeartbeats 8000000 in
theorem live_3_n (a1 : Int) (u : Nat) (w : World) (ht : Tz w) (hu : IntKind.u64.wrap a1 = (u : Int)) (hr : Int.tmod (u : Int) 4 = 3) : Calls Tryz.prog 5 #[.bool false, .int .i64 a1] w fun e w' => e = .returned (.bool true) ∧ Still w w' := by
  have HT : Hid (∀ W, Still w W → Tz W) := fun W t => ht.keep t (fun e => e)
  clear ht
  go_enter Tryz.func5, Tryz.ntmps5
  go_wp2_with fail
  refine (least_any _).mono ?_; rintro e w1 ⟨p, rfl, ha, t1, hp6⟩
  have H1 := Lib.hid (And.intro ha t1)
  clear ha t1 hp6
  go_wp2_with (at_builtin; refine wpList_append_new rfl (.tmp 13) (.tmp 18) 23 rfl 42 3 48 _ Tryz.underlying23 infoShape rfl (by decide) (some ⟨p.p3, 0, none⟩) 1 [.int .i64 3, .slice none 0 0, .string ⟨#[]⟩] rfl (fun e => by cases e) rfl (fun b hb => ⟨p.p3, (Option.some.inj hb).symm, Blk.row' (by repeat (first | exact H1.out.1.a3 | refine Blk.alloc ?_ _))⟩) (w1.heap.size + 1 + 1 + 1) 2 2 [.int .i64 1, .slice (some ⟨w1.heap.size + 1, 0, none⟩) 1 1, .string ⟨#[]⟩, .int .i64 2, .slice (some ⟨w1.heap.size + 1 + 1, 0, none⟩) 1 1, .string ⟨#[]⟩] rfl rfl (Blk.row' (blk_at' (by simp))) (by simp [Value.oneCell']) (by decide) (by decide) (by decide) ?_; intro g cap w2 hg hc hst hrow; refine Wait.out ?_)
  refine ⟨?_⟩
  have st2 : Still w1 w2 := ((((Still.refl w1).alloc _).alloc _).alloc _ |>.alloc _).trans hst
  have BQ : Blk w2 w1.heap.size 27 #[.slice (some ⟨p.p2, 0, none⟩) 2 2, .slice (some ⟨p.p3, 0, none⟩) 1 1, .slice none 0 0, .slice none 0 0, .slice (some ⟨p.p7, 0, none⟩) 1 1, .int .i64 0, .int .i64 0] := hst.blk ((((blk_at' rfl).alloc _).alloc _).alloc _)
  have B1 : Blk w2 (w1.heap.size + 1) 3 #[.int .i64 0] := hst.blk (((blk_at' (by simp)).alloc _).alloc _)
  have B2 : Blk w2 (w1.heap.size + 1 + 1) 3 #[.int .i64 0] := hst.blk ((blk_at' (by simp)).alloc _)
  have hg2 : w1.heap.size + 1 + 1 < g := by simp at hg; omega
  clear hst hg
  obtain ⟨Q, hQ⟩ : ∃ Q, w1.heap.size = Q := ⟨_, rfl⟩
  rw [hQ] at BQ B1 B2 hrow hg2
  rw [hQ]
  have HQ := Lib.hid hQ
  have H2 : Hid (Still w1 w2 ∧ Row w2 g 42 ([.int .i64 3, .slice none 0 0, .string ⟨#[]⟩] ++ [.int .i64 1, .slice (some ⟨Q + 1, 0, none⟩) 1 1, .string ⟨#[]⟩, .int .i64 2, .slice (some ⟨Q + 1 + 1, 0, none⟩) 1 1, .string ⟨#[]⟩]) ∧ Row w2 (Q + 1) 3 [.int .i64 0] ∧ Row w2 (Q + 1 + 1) 3 [.int .i64 0] ∧ Blk w2 Q 27 #[.slice (some ⟨p.p2, 0, none⟩) 2 2, .slice (some ⟨p.p3, 0, none⟩) 1 1, .slice none 0 0, .slice none 0 0, .slice (some ⟨p.p7, 0, none⟩) 1 1, .int .i64 0, .int .i64 0] ∧ Q + 1 + 1 < g) := ⟨st2, hrow, B1.row', B2.row', BQ, hg2⟩
  have q0 := BQ.cell 0
  have q1 := BQ.cell 1
  have q2 := BQ.cell 2
  have q3 := BQ.cell 3
  have q4 := BQ.cell 4
  have q5 := BQ.cell 5
  have q6 := BQ.cell 6
  have f1 := BQ.frozen 1
  have f2 := BQ.frozen 2
  have f4 := BQ.frozen 4
  have lQ := BQ.lt
  clear hQ hrow B1 B2 BQ hg2 st2
  go_wp2_with fail
  generalize hW4 : ((((w2.setCell ⟨Q, 1, none⟩ (.slice (some ⟨g, 0, none⟩) 3 cap)).setCell ⟨Q, 2, none⟩ (.slice (some ⟨w2.heap.size, 0, none⟩) 1 1)).alloc (.cells #[.string ⟨#[120]⟩] 9)).alloc (.cells #[.int .i64 17, .int .i64 1, .int .i64 1, .int .i64 (-1), .int .i64 0, .int .i64 0, .slice none 0 0, .slice none 0 0, .slice none 0 0] 36)) = w4
  have st4 : Still w1 w4 := by
    rw [← hW4]
    refine (Turn.mono (S := fun j => j = Q) ?_ fun j hj e => by have := HQ.out; omega)
    exact (((H2.out.1.turn (S := fun j => j = Q) |>.setCell (p := ⟨Q, 1, none⟩) (fun _ => rfl) _).setCell (p := ⟨Q, 2, none⟩) (fun _ => rfl) _).alloc _).alloc _
  obtain ⟨S0, hS0⟩ : ∃ S0, w2.heap.size = S0 := ⟨_, rfl⟩
  obtain ⟨K, hK⟩ : ∃ K, w2.heap.size + 1 = K := ⟨_, rfl⟩
  have H4 : Hid (Still w1 w4 ∧ Row w4 g 42 ([.int .i64 3, .slice none 0 0, .string ⟨#[]⟩] ++ [.int .i64 1, .slice (some ⟨Q + 1, 0, none⟩) 1 1, .string ⟨#[]⟩, .int .i64 2, .slice (some ⟨Q + 1 + 1, 0, none⟩) 1 1, .string ⟨#[]⟩]) ∧ Row w4 (Q + 1) 3 [.int .i64 0] ∧ Row w4 (Q + 1 + 1) 3 [.int .i64 0] ∧ Blk w4 Q 27 #[.slice (some ⟨p.p2, 0, none⟩) 2 2, .slice (some ⟨g, 0, none⟩) 3 cap, .slice (some ⟨S0, 0, none⟩) 1 1, .slice none 0 0, .slice (some ⟨p.p7, 0, none⟩) 1 1, .int .i64 0, .int .i64 0] ∧ Row w4 S0 9 [.string ⟨#[120]⟩] ∧ Blk w4 K 36 #[.int .i64 17, .int .i64 1, .int .i64 1, .int .i64 (-1), .int .i64 0, .int .i64 0, .slice none 0 0, .slice none 0 0, .slice none 0 0] ∧ Q < g) := by
    have hgQ : g ≠ Q := by have := H2.out.2.2.2.2.2; omega
    have h1Q : Q + 1 ≠ Q := by omega
    have h2Q : Q + 1 + 1 ≠ Q := by omega
    have z : ((w2.setCell ⟨Q, 1, none⟩ (.slice (some ⟨g, 0, none⟩) 3 cap)).setCell ⟨Q, 2, none⟩ (.slice (some ⟨w2.heap.size, 0, none⟩) 1 1)).heap.size = S0 := by simpa using hS0
    have hQ2 : Blk ((w2.setCell ⟨Q, 1, none⟩ (.slice (some ⟨g, 0, none⟩) 3 cap)).setCell ⟨Q, 2, none⟩ (.slice (some ⟨w2.heap.size, 0, none⟩) 1 1)) Q 27 #[.slice (some ⟨p.p2, 0, none⟩) 2 2, .slice (some ⟨g, 0, none⟩) 3 cap, .slice (some ⟨S0, 0, none⟩) 1 1, .slice none 0 0, .slice (some ⟨p.p7, 0, none⟩) 1 1, .int .i64 0, .int .i64 0] := by
      have := (H2.out.2.2.2.2.1.set 1 (.slice (some ⟨g, 0, none⟩) 3 cap)).set 2 (.slice (some ⟨w2.heap.size, 0, none⟩) 1 1)
      rw [hS0] at this ⊢
      exact this
    rw [← hK]
    rw [← hW4]
    have z1 : (((w2.setCell ⟨Q, 1, none⟩ (.slice (some ⟨g, 0, none⟩) 3 cap)).setCell ⟨Q, 2, none⟩ (.slice (some ⟨w2.heap.size, 0, none⟩) 1 1)).alloc (.cells #[.string ⟨#[120]⟩] 9)).heap.size = w2.heap.size + 1 := by simp
    refine ⟨?_, ((((H2.out.2.1.far hgQ _).far hgQ _).alloc _).alloc _), ((((H2.out.2.2.1.far h1Q _).far h1Q _).alloc _).alloc _), ((((H2.out.2.2.2.1.far h2Q _).far h2Q _).alloc _).alloc _), ((hQ2.alloc _).alloc _), (((blk_at' z).row').alloc _), (blk_at' z1), by have := H2.out.2.2.2.2.2; omega⟩
    rw [hW4]
    exact st4
  rw [hK]
  have HSK : Hid (S0 + 1 = K) := by show _ = _; omega
  clear st4 hW4 hS0 hK q0 q1 q2 q3 q4 q5 q6 f1 f2 f4 lQ
  have L4 := H1.out.1.still H4.out.1
  have y0 : w4.drew.cell? ⟨p.p7, 0, none⟩ = some (.slice none 0 0) := L4.a7.cell 0
  have y1 : w4.drew.cell? ⟨p.p7, 1, none⟩ = some (.int .i64 0) := L4.a7.cell 1
  have y2 : w4.drew.cell? ⟨p.p7, 2, none⟩ = some (.int .i64 1) := L4.a7.cell 2
  have y3 : w4.drew.cell? ⟨p.p7, 3, none⟩ = some (.slice (some ⟨p.p6, 0, none⟩) 1 1) := L4.a7.cell 3
  have z4 : w4.drew.cell? ⟨Q, 4, none⟩ = some (.slice (some ⟨p.p7, 0, none⟩) 1 1) := H4.out.2.2.2.2.1.cell 4
  have lyg : p.p7 < w4.drew.heap.size := L4.a7.lt
  have v0 : w4.cell? ⟨p.p7, 0, none⟩ = some (.slice none 0 0) := L4.a7.cell 0
  have v1 : w4.cell? ⟨p.p7, 1, none⟩ = some (.int .i64 0) := L4.a7.cell 1
  have v2 : w4.cell? ⟨p.p7, 2, none⟩ = some (.int .i64 1) := L4.a7.cell 2
  have v3 : w4.cell? ⟨p.p7, 3, none⟩ = some (.slice (some ⟨p.p6, 0, none⟩) 1 1) := L4.a7.cell 3
  have v4 : w4.cell? ⟨Q, 4, none⟩ = some (.slice (some ⟨p.p7, 0, none⟩) 1 1) := H4.out.2.2.2.2.1.cell 4
  have lvg : p.p7 < w4.heap.size := L4.a7.lt
  have lvQ : Q < w4.heap.size := H4.out.2.2.2.2.1.lt
  have lyQ : Q < w4.drew.heap.size := H4.out.2.2.2.2.1.lt
  have SD : Hid (Still w4 (w4.alloc (.cells #[.slice none 0 0, .int .i64 0, .int .i64 1, .slice (some ⟨p.p6, 0, none⟩) 1 1] 45)).drew) := (((Still.refl w4).alloc _)).drew
  clear L4
  go_cut [] from 41 (fun wc => ∃ g5 cap5, Row wc g5 45 ([.slice none 0 0, .int .i64 0, .int .i64 1, .slice (some ⟨p.p6, 0, none⟩) 1 1] ++ [.slice none 0 0, .int .i64 0, .int .i64 1, .slice (some ⟨p.p6, 0, none⟩) 1 1]) ∧ Blk wc Q 27 #[.slice (some ⟨p.p2, 0, none⟩) 2 2, .slice (some ⟨g, 0, none⟩) 3 cap, .slice (some ⟨S0, 0, none⟩) 1 1, .slice none 0 0, .slice (some ⟨g5, 0, none⟩) 2 cap5, .int .i64 0, .int .i64 0] ∧ Turn (fun j => j = Q) w4 wc ∧ w4.heap.size ≤ g5)
  case first =>
    go_region_law (refine step_append_new rfl (.tmp 42) (.tmp 47) 25 rfl 45 4 64 _ Tryz.underlying25 infoFunc rfl (by decide) (some ⟨p.p7, 0, none⟩) 1 [.slice none 0 0, .int .i64 0, .int .i64 1, .slice (some ⟨p.p6, 0, none⟩) 1 1] (by simp [Act.eval]) (fun e => by cases e) rfl (fun b hb => ⟨p.p7, (Option.some.inj hb).symm, (SD.out.blk (H1.out.1.still H4.out.1).a7).row'⟩) w4.heap.size 1 1 [.slice none 0 0, .int .i64 0, .int .i64 1, .slice (some ⟨p.p6, 0, none⟩) 1 1] (by simp [Act.eval]) rfl (Row.drew (Blk.row' (blk_at' rfl))) (by simp [Value.oneCell']) (by decide) (by decide) (by decide) ?_
                   intro g5 cap5 w5 hg5 hc5 st5 row5
                   have S5 : Hid (Still w4 w5) := SD.out.trans st5
                   have hQ5 := S5.out.blk H4.out.2.2.2.2.1
                   have z5 : w5.cell? ⟨Q, 4, none⟩ = some (.slice (some ⟨p.p7, 0, none⟩) 1 1) := hQ5.cell 4
                   have f5 : w5.frozen? ⟨Q, 4, none⟩ = false := hQ5.frozen 4
                   have lQ5 := hQ5.lt
                   have R5 : Hid (Row w5 g5 45 ([.slice none 0 0, .int .i64 0, .int .i64 1, .slice (some ⟨p.p6, 0, none⟩) 1 1] ++ [.slice none 0 0, .int .i64 0, .int .i64 1, .slice (some ⟨p.p6, 0, none⟩) 1 1]) ∧ w4.heap.size ≤ g5 ∧ Blk w5 Q 27 #[.slice (some ⟨p.p2, 0, none⟩) 2 2, .slice (some ⟨g, 0, none⟩) 3 cap, .slice (some ⟨S0, 0, none⟩) 1 1, .slice none 0 0, .slice (some ⟨p.p7, 0, none⟩) 1 1, .int .i64 0, .int .i64 0]) := ⟨row5, by simp at hg5; omega, hQ5⟩
                   clear hQ5 row5 st5 hg5)
    all_goals
      go_wp2_with fail
      go_meet
      have hgQ : g5 ≠ Q := by have h1 := R5.out.2.1; have h2 := H4.out.2.2.2.2.1.lt; omega
      exact ⟨g5, cap5, R5.out.1.far hgQ _, by have := R5.out.2.2.set 4 (.slice (some ⟨g5, 0, none⟩) 2 cap5); simpa using this, (S5.out.turn (S := fun j => j = Q)).setCell (p := ⟨Q, 4, none⟩) (fun _ => rfl) _, R5.out.2.1⟩
  case rest =>
    obtain ⟨g5, cap5, hrow5, hQ5, t5, hg5⟩ := hcut
    have hQn : ∀ {j : Nat}, (j < Q ∨ Q < j) → ¬ (fun j => j = Q) j := fun {j} h e => by have e2 : j = Q := e; omega
    have hQg := H4.out.2.2.2.2.2.2.2
    have lt4 := H4.out.2.2.2.2.1.lt
    have hSQ : S0 ≠ Q := fun e => by have h1 := H4.out.2.2.2.2.2.1; rw [e] at h1; exact h1.ne (Blk.row' H4.out.2.2.2.2.1) (by decide) rfl
    have hKQ : K ≠ Q := fun e => by have h1 := H4.out.2.2.2.2.2.2.1; rw [e] at h1; exact h1.ne H4.out.2.2.2.2.1 (by decide) rfl
    have H5 : Hid (Still w1 wc ∧ Row wc g 42 ([.int .i64 3, .slice none 0 0, .string ⟨#[]⟩] ++ [.int .i64 1, .slice (some ⟨Q + 1, 0, none⟩) 1 1, .string ⟨#[]⟩, .int .i64 2, .slice (some ⟨Q + 1 + 1, 0, none⟩) 1 1, .string ⟨#[]⟩]) ∧ Row wc (Q + 1) 3 [.int .i64 0] ∧ Row wc (Q + 1 + 1) 3 [.int .i64 0] ∧ Blk wc Q 27 #[.slice (some ⟨p.p2, 0, none⟩) 2 2, .slice (some ⟨g, 0, none⟩) 3 cap, .slice (some ⟨S0, 0, none⟩) 1 1, .slice none 0 0, .slice (some ⟨g5, 0, none⟩) 2 cap5, .int .i64 0, .int .i64 0] ∧ Row wc S0 9 [.string ⟨#[120]⟩] ∧ Blk wc K 36 #[.int .i64 17, .int .i64 1, .int .i64 1, .int .i64 (-1), .int .i64 0, .int .i64 0, .slice none 0 0, .slice none 0 0, .slice none 0 0] ∧ Row wc g5 45 ([.slice none 0 0, .int .i64 0, .int .i64 1, .slice (some ⟨p.p6, 0, none⟩) 1 1] ++ [.slice none 0 0, .int .i64 0, .int .i64 1, .slice (some ⟨p.p6, 0, none⟩) 1 1]) ∧ Q < g5) := by
      refine ⟨((H4.out.1.turn (S := fun j => j = Q)).trans t5).mono fun j hj e => by have e2 : j = Q := e; have := HQ.out; omega, H4.out.2.1.keep t5 (hQn (by omega)), H4.out.2.2.1.keep t5 (hQn (by omega)), H4.out.2.2.2.1.keep t5 (hQn (by omega)), hQ5, H4.out.2.2.2.2.2.1.keep t5 (fun e => hSQ e), H4.out.2.2.2.2.2.2.1.keep t5 (fun e => hKQ e), hrow5, by omega⟩
    have q0 := hQ5.cell 0
    have q1 := hQ5.cell 1
    have q2 := hQ5.cell 2
    have q3 := hQ5.cell 3
    have q4 := hQ5.cell 4
    have q5 := hQ5.cell 5
    have q6 := hQ5.cell 6
    have lQ := hQ5.lt
    have hK5 := H5.out.2.2.2.2.2.2.1
    have k0 := hK5.cell 0
    have k1 := hK5.cell 1
    have k2 := hK5.cell 2
    have k3 := hK5.cell 3
    have k4 := hK5.cell 4
    have k5 := hK5.cell 5
    have k6 := hK5.cell 6
    have k7 := hK5.cell 7
    have k8 := hK5.cell 8
    have lK := hK5.lt
    have r0 := hrow5.cell (i := 0) rfl
    have r1 := hrow5.cell (i := 1) rfl
    have r2 := hrow5.cell (i := 2) rfl
    have r3 := hrow5.cell (i := 3) rfl
    have fr0 := hrow5.frozen 0
    have fr1 := hrow5.frozen 1
    have fr2 := hrow5.frozen 2
    have fr3 := hrow5.frozen 3
    have lr := hrow5.lt
    have lr1 : g5 < wc.heap.size + 1 := by omega
    have lr2 : g5 < wc.heap.size + 1 + 1 := by omega
    have lQ1 : Q < wc.heap.size + 1 := by omega
    have lQ2 : Q < wc.heap.size + 1 + 1 := by omega
    have hQ5' : Q ≠ g5 := by omega
    have hQ6' : g5 ≠ Q := by omega
    have hK5' : K ≠ g5 := fun e => by have h1 := hK5; rw [e] at h1; exact (Blk.row' h1).ne hrow5 (by decide) rfl
    have hcap : 2 ≤ cap5 ∨ True := .inr trivial
    have HNE : Hid (Q ≠ g5 ∧ K ≠ g5) := ⟨hQ5', hK5'⟩
    clear hrow5 hQ5 t5 hg5 hQn hQg lt4 hSQ hKQ hK5 hcap
    clear y0 y1 y2 y3 z4 lyg lyQ v0 v1 v2 v3 v4 lvg lvQ
    go_wp2_with fail
    have b6 := wc.heap.size
    generalize hW6 : (((((((wc.setCell ⟨g5, 0, none⟩ (.slice none 0 0)).setCell ⟨g5, 1, none⟩ (.int .i64 0)).setCell ⟨g5, 2, none⟩ (.int .i64 2)).setCell ⟨g5, 3, none⟩ (.slice (some ⟨wc.heap.size + 1 + 1, 0, none⟩) 1 1)).alloc (.cells #[.int .i64 (-1), .int .i64 (-1)] 3)).alloc (.cells #[.int .i64 1, .int .i64 0, .int .i64 0, .int .i64 0, .int .i64 0, .int .i64 1, .slice none 0 0, .slice none 0 0, .slice none 0 0, .int .i64 17, .int .i64 1, .int .i64 1, .int .i64 (-1), .int .i64 0, .int .i64 0, .slice none 0 0, .slice none 0 0, .slice none 0 0, .int .i64 22, .int .i64 0, .int .i64 0, .int .i64 0, .int .i64 0, .int .i64 0, .slice none 0 0, .slice none 0 0, .slice none 0 0] 36)).alloc (.cells #[.slice (some ⟨wc.heap.size, 0, none⟩) 2 2, .slice (some ⟨wc.heap.size + 1, 0, none⟩) 3 3] 48)) = w6
    obtain ⟨I0, hI0⟩ : ∃ I0, wc.heap.size = I0 := ⟨_, rfl⟩
    obtain ⟨C0, hC0⟩ : ∃ C0, wc.heap.size + 1 = C0 := ⟨_, rfl⟩
    obtain ⟨B0, hB0⟩ : ∃ B0, wc.heap.size + 1 + 1 = B0 := ⟨_, rfl⟩
    have st6 : Still w1 w6 := by
      rw [← hW6]
      refine (Turn.mono (S := fun j => j = g5) ?_ fun j hj e => by have h1 := HQ.out; have h2 := H5.out.2.2.2.2.2.2.2.2; omega)
      exact (((((((H5.out.1.turn (S := fun j => j = g5)).setCell (p := ⟨g5, 0, none⟩) (fun _ => rfl) _).setCell (p := ⟨g5, 1, none⟩) (fun _ => rfl) _).setCell (p := ⟨g5, 2, none⟩) (fun _ => rfl) _).setCell (p := ⟨g5, 3, none⟩) (fun _ => rfl) _).alloc _).alloc _).alloc _
    have HH6 : Hid (Still w1 w6 ∧ Bm.Holds w6 (fun i => [p.p1, p.p2, Q + 1, Q + 1 + 1, g, S0, I0, C0, B0, p.p4, p.p5, p.p6, g5].getD i 0) [[.int 0], [.bool true, .sl none 0 0, .bool false, .sl (some (0, 0)) 1 1], [.int 0], [.int 0], [.int 3, .sl none 0 0, .str ⟨#[]⟩, .int 1, .sl (some (2, 0)) 1 1, .str ⟨#[]⟩, .int 2, .sl (some (3, 0)) 1 1, .str ⟨#[]⟩], [.str ⟨#[120]⟩], [.int (-1), .int (-1)], [.int 1, .int 0, .int 0, .int 0, .int 0, .int 1, .sl none 0 0, .sl none 0 0, .sl none 0 0, .int 17, .int 1, .int 1, .int (-1), .int 0, .int 0, .sl none 0 0, .sl none 0 0, .sl none 0 0, .int 22, .int 0, .int 0, .int 0, .int 0, .int 0, .sl none 0 0, .sl none 0 0, .sl none 0 0], [.sl (some (6, 0)) 2 2, .sl (some (7, 0)) 3 3], [.int (-1)], [.int 1, .int 0, .int 0, .int 0, .int 0, .int 5, .sl none 0 0, .sl none 0 0, .sl none 0 0, .int 22, .int 0, .int 0, .int 0, .int 0, .int 0, .sl none 0 0, .sl none 0 0, .sl none 0 0], [.sl (some (9, 0)) 1 1, .sl (some (10, 0)) 2 2], [.sl none 0 0, .int 0, .int 2, .sl (some (8, 0)) 1 1, .sl none 0 0, .int 0, .int 1, .sl (some (11, 0)) 1 1]]) := by
      refine ⟨st6, ?_⟩
      have L6 := H1.out.1.still st6
      have f4 : ∀ {b : Nat} {e : TypeId} {xs : List Value}, Row wc b e xs → b ≠ g5 → Row w6 b e xs := fun {b e xs} h hn => by
        rw [← hW6]
        exact (((((((h.far hn _).far hn _).far hn _).far hn _).alloc _).alloc _).alloc _)
      have hg5r := H5.out.2.2.2.2.2.2.2.1
      have hg5s : Row w6 g5 45 [.slice none 0 0, .int .i64 0, .int .i64 2, .slice (some ⟨wc.heap.size + 1 + 1, 0, none⟩) 1 1, .slice none 0 0, .int .i64 0, .int .i64 1, .slice (some ⟨p.p6, 0, none⟩) 1 1] := by
        rw [← hW6]
        exact (((((((hg5r.set (i := 0) (by simp) (.slice none 0 0)).set (i := 1) (by simp) (.int .i64 0)).set (i := 2) (by simp) (.int .i64 2)).set (i := 3) (by simp) (.slice (some ⟨wc.heap.size + 1 + 1, 0, none⟩) 1 1)).alloc _).alloc _).alloc _)
      have ne1 : g ≠ g5 := H5.out.2.1.ne hg5r (by decide)
      have ne2 : Q + 1 ≠ g5 := H5.out.2.2.1.ne hg5r (by decide)
      have ne3 : Q + 1 + 1 ≠ g5 := H5.out.2.2.2.1.ne hg5r (by decide)
      have ne4 : S0 ≠ g5 := H5.out.2.2.2.2.2.1.ne hg5r (by decide)
      have rI : Row w6 I0 3 [.int .i64 (-1), .int .i64 (-1)] := by
        rw [← hW6, ← hI0]
        exact (((blk_at' (by simp)).row').alloc _).alloc _
      have rC : Row w6 C0 36 [.int .i64 1, .int .i64 0, .int .i64 0, .int .i64 0, .int .i64 0, .int .i64 1, .slice none 0 0, .slice none 0 0, .slice none 0 0, .int .i64 17, .int .i64 1, .int .i64 1, .int .i64 (-1), .int .i64 0, .int .i64 0, .slice none 0 0, .slice none 0 0, .slice none 0 0, .int .i64 22, .int .i64 0, .int .i64 0, .int .i64 0, .int .i64 0, .int .i64 0, .slice none 0 0, .slice none 0 0, .slice none 0 0] := by
        rw [← hW6, ← hC0]
        exact ((blk_at' (by simp)).row').alloc _
      have rB : Row w6 B0 48 [.slice (some ⟨I0, 0, none⟩) 2 2, .slice (some ⟨C0, 0, none⟩) 3 3] := by
        rw [← hW6, ← hB0, ← hI0, ← hC0]
        exact (blk_at' (by simp)).row'
      rw [hB0] at hg5s
      refine (((((((((((((Bm.holds_nil w6 _).row L6.a1.row' rfl rfl).row L6.a2.row' rfl rfl).row (f4 H5.out.2.2.1 ne2) rfl rfl).row (f4 H5.out.2.2.2.1 ne3) rfl rfl).row (f4 H5.out.2.1 ne1) rfl rfl).row (f4 H5.out.2.2.2.2.2.1 ne4) rfl rfl).row rI rfl rfl).row rC rfl rfl).row rB rfl rfl).row L6.a4.row' rfl rfl).row L6.a5.row' rfl rfl).row L6.a6.row' rfl rfl).row hg5s rfl rfl
    clear hW6 hI0 hC0 hB0 st6 q0 q1 q2 q3 q4 q5 q6 lQ lQ1 lQ2 k0 k1 k2 k3 k4 k5 k6 k7 k8 lK r0 r1 r2 r3 fr0 fr1 fr2 fr3 lr lr1 lr2 hQ5' hQ6' hK5' b6
    have st6w : Hid (Still w w6) := H1.out.2.trans HH6.out.1
    have HF := Lib.hid (Bm.fault_built HH6.out.2 (HT.out _ st6w.out) (c := ⟨some (1, 0), 2, 2, some (4, 0), 3, cap, some (5, 0), 1, 1, none, 0, 0, some (12, 0), 2, cap5, 0, 0⟩) (m := (⟨[⟨true, []⟩, ⟨false, [0]⟩], [⟨3, [], ⟨#[]⟩⟩, ⟨1, [0], ⟨#[]⟩⟩, ⟨2, [0], ⟨#[]⟩⟩], [⟨#[120]⟩], [], [⟨[], 0, 2, [⟨[-1, -1], [⟨1, 0, 0, 0, 0, 1, [], [], []⟩, ⟨17, 1, 1, (-1), 0, 0, [], [], []⟩, ⟨22, 0, 0, 0, 0, 0, [], [], []⟩]⟩]⟩, ⟨[], 0, 1, [⟨[-1], [⟨1, 0, 0, 0, 0, 5, [], [], []⟩, ⟨22, 0, 0, 0, 0, 0, [], [], []⟩]⟩]⟩], 0, 0⟩ : M.Img)) (by kernel_rfl) (by decide +kernel) (by decide +kernel))
    have hfe : Bm.faultE (⟨[⟨true, []⟩, ⟨false, [0]⟩], [⟨3, [], ⟨#[]⟩⟩, ⟨1, [0], ⟨#[]⟩⟩, ⟨2, [0], ⟨#[]⟩⟩], [⟨#[120]⟩], [], [⟨[], 0, 2, [⟨[-1, -1], [⟨1, 0, 0, 0, 0, 1, [], [], []⟩, ⟨17, 1, 1, (-1), 0, 0, [], [], []⟩, ⟨22, 0, 0, 0, 0, 0, [], [], []⟩]⟩]⟩, ⟨[], 0, 1, [⟨[-1], [⟨1, 0, 0, 0, 0, 5, [], [], []⟩, ⟨22, 0, 0, 0, 0, 0, [], [], []⟩]⟩]⟩], 0, 0⟩ : M.Img) = .tuple #[.int .i64 0, .int .i64 0, .int .i64 2, .bool false] := by kernel_rfl
    have HFE := Lib.hid hfe
    clear hfe
    refine HF.out.mono ?_; rintro e w7 ⟨rfl, t7⟩
    rw [HFE.out]
    have ST7 : Hid (Still w w7) := st6w.out.trans t7
    clear t7
    go_wp2_with fail
    refine (lives_any _ (HT.out _ ST7.out)).mono ?_; rintro e w8 ⟨rfl, t8⟩
    have ST8 : Hid (Still w w8) := ST7.out.trans t8
    clear t8
    go_wp2_with fail
    go_ret
    exact ⟨rfl, ST8.out⟩
end Go.Proofs.YtglalgjffkoneaaGreatDoor
