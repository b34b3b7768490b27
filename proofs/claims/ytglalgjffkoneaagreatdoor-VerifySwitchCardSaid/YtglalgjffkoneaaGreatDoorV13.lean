/- Lemmas, put together: Vli. -/
import Derived.Test.YtglalgjffkoneaaGreatDoorV10
import Derived.Test.YtglalgjffkoneaaGreatDoorV12
/- The document's examples of layer 5. -/
namespace Go.Proofs.YtglalgjffkoneaaGreatDoor
set_option linter.unusedVariables false
set_option linter.unusedSimpArgs false
open Go.ChangeShapes Go.WideShapes Go.ChangeAt Go.RowKit
open Vf (K nth nth_nat tyAt atK isK numT oneT le beginK tsub WrongAt WrongBk WrongFn WrongImg Last Needs)
def LeastR (w : World) (e : Ending) (w' : World) : Prop := ∃ p : LeastP, e = .returned (.agg (ImgV.cells p.v)) ∧ LeastAt w' p 0 2 ∧ Still w w' ∧ w.heap.size ≤ p.p6
theorem blk_at {w : World} {t : TypeId} {cs : Array Value} {k : Nat} (h : w.heap.size = k) : Blk (w.alloc (.cells cs t)) k t cs := h ▸ Blk.new w t cs
set_option maxRecDepth 100000 in
set_option maxHeartbeats 4000000 in
theorem least_any (w : World) : Calls Tryz.prog 16 #[] w (LeastR w) := by
  go_enter Tryz.func16, Tryz.ntmps16
  go_wp2_with fail
  obtain ⟨p, hp⟩ : ∃ p : LeastP, p = ⟨w.heap.size + 1, w.heap.size + 1 + 1, w.heap.size + 1 + 1 + 1, w.heap.size + 1 + 1 + 1 + 1, w.heap.size + 1 + 1 + 1 + 1 + 1, w.heap.size + 1 + 1 + 1 + 1 + 1 + 1, w.heap.size + 1 + 1 + 1 + 1 + 1 + 1 + 1⟩ := ⟨_, rfl⟩
  refine bodyPost_ret (results_cell_row rfl _ _ w.heap.size 27 (ImgV.cells p.v) (0, 0) _ rfl (by rw [hp]; exact (((((((blk_at rfl).alloc _).alloc _).alloc _).alloc _).alloc _).alloc _).alloc _) Tryz.underlying27 rfl (by kernel_rfl)) rfl ?_
  refine ⟨p, rfl, ⟨?_, ?_, ?_, ?_, ?_, ?_, ?_⟩, (((((((Still.refl w).alloc _).alloc _).alloc _).alloc _).alloc _).alloc _).alloc _ |>.alloc _, by rw [hp]; show w.heap.size ≤ w.heap.size + 1 + 1 + 1 + 1 + 1 + 1; omega⟩
  · rw [hp]; exact ((((((blk_at (by simp)).alloc _).alloc _).alloc _).alloc _).alloc _).alloc _
  · rw [hp]; exact (((((blk_at (by simp)).alloc _).alloc _).alloc _).alloc _).alloc _
  · rw [hp]; exact ((((blk_at (by simp)).alloc _).alloc _).alloc _).alloc _
  · rw [hp]; exact (((blk_at (by simp)).alloc _).alloc _).alloc _
  · rw [hp]; exact ((blk_at (by simp)).alloc _).alloc _
  · rw [hp]; exact (blk_at (by simp)).alloc _
  · rw [hp]; exact blk_at (by simp)
theorem size_two : M.size (leastC [insC, insR]) ≤ 1000000000 := by decide +kernel
theorem size_one : M.size (leastC [insR]) ≤ 1000000000 := by decide +kernel
theorem fault_two {w : World} {p : LeastP} (h : LeastAt w p 0 2) (ht : Tz w) : Calls Tryz.prog 10 #[.agg #[.slice (some ⟨p.p2, 0, none⟩) 2 2, .slice (some ⟨p.p3, 0, none⟩) 1 1, .slice none 0 0, .slice none 0 0, .slice (some ⟨p.p7, 0, none⟩) 1 1, .int .i64 0, .int .i64 0]] w fun e w' => e = .returned (.tuple #[.int .i64 0, .int .i64 0, .int .i64 0, .bool true]) ∧ Still w w' :=
  (fault_any (v := p.v) (least_img h (.inl ⟨rfl, rfl⟩)) (Nat.le_refl _) size_two (least_room h) ht ht.lt (fun _ c _ => steps_least (fun x hx => by rcases List.mem_cons.1 hx with e | e; exact .inl e; exact .inr (List.mem_singleton.1 e)) c)).mono fun e w' hr => by
    obtain ⟨t, ⟨h1, _⟩ | ⟨_, res, h2, ⟨rfl, h3⟩ | ⟨i, j, k, rfl, _⟩⟩⟩ := hr
    · exact absurd (h1.symm.trans whole_two) (by decide)
    · exact ⟨h3, t⟩
    · exact absurd (wimg_one _ _ _ _ h2 wrong_two) (by simp)
theorem fault_one {w : World} {p : LeastP} (h : LeastAt w p 9 1) (ht : Tz w) : Calls Tryz.prog 10 #[.agg #[.slice (some ⟨p.p2, 0, none⟩) 2 2, .slice (some ⟨p.p3, 0, none⟩) 1 1, .slice none 0 0, .slice none 0 0, .slice (some ⟨p.p7, 0, none⟩) 1 1, .int .i64 0, .int .i64 0]] w fun e w' => e = .returned (.tuple #[.int .i64 0, .int .i64 0, .int .i64 0, .bool false]) ∧ Still w w' :=
  (fault_any (v := p.v) (least_img h (.inr ⟨rfl, rfl⟩)) (Nat.le_refl _) size_one (least_room h) ht ht.lt (fun _ c _ => steps_least (fun x hx => .inr (List.mem_singleton.1 hx)) c)).mono fun e w' hr => by
    obtain ⟨t, ⟨h1, _⟩ | ⟨_, res, h2, ⟨rfl, h3⟩ | ⟨i, j, k, rfl, h3⟩⟩⟩ := hr
    · exact absurd (h1.symm.trans whole_one) (by decide)
    · exact absurd (wimg_one _ _ _ _ h2 wrong_one) (by simp)
    · have := wimg_one _ _ _ _ h2 wrong_one
      simp only [Option.some.injEq, Prod.mk.injEq] at this
      obtain ⟨rfl, rfl, rfl⟩ := this
      exact ⟨h3, t⟩
theorem verify_two {w : World} {p : LeastP} (h : LeastAt w p 0 2) (ht : Tz w) : Calls Tryz.prog 12 #[.agg #[.slice (some ⟨p.p2, 0, none⟩) 2 2, .slice (some ⟨p.p3, 0, none⟩) 1 1, .slice none 0 0, .slice none 0 0, .slice (some ⟨p.p7, 0, none⟩) 1 1, .int .i64 0, .int .i64 0]] w fun e w' => e = .returned (.int .i64 0) ∧ Still w w' :=
  (verify_any (v := p.v) (least_img h (.inl ⟨rfl, rfl⟩)) (Nat.le_refl _) size_two (least_room h) ht ht.lt (fun _ c _ => steps_least (fun x hx => by rcases List.mem_cons.1 hx with e | e; exact .inl e; exact .inr (List.mem_singleton.1 e)) c)).mono fun e w' hr => by
    obtain ⟨t, ⟨h1, _⟩ | ⟨_, h2⟩⟩ := hr
    · exact ⟨h1, t⟩
    · exact absurd ⟨whole_two, wrong_two⟩ h2
theorem verify_one {w : World} {p : LeastP} (h : LeastAt w p 9 1) (ht : Tz w) : Calls Tryz.prog 12 #[.agg #[.slice (some ⟨p.p2, 0, none⟩) 2 2, .slice (some ⟨p.p3, 0, none⟩) 1 1, .slice none 0 0, .slice none 0 0, .slice (some ⟨p.p7, 0, none⟩) 1 1, .int .i64 0, .int .i64 0]] w fun e w' => e = .returned (.int .i64 21) ∧ Still w w' :=
  (verify_any (v := p.v) (least_img h (.inr ⟨rfl, rfl⟩)) (Nat.le_refl _) size_one (least_room h) ht ht.lt (fun _ c _ => steps_least (fun x hx => .inr (List.mem_singleton.1 hx)) c)).mono fun e w' hr => by
    obtain ⟨t, ⟨_, _, h2⟩ | ⟨h1, _⟩⟩ := hr
    · exact absurd (wimg_one _ _ _ _ h2 wrong_one) (by simp)
    · exact ⟨h1, t⟩
theorem LeastAt.cut {w : World} {p : LeastP} (h : LeastAt w p 0 2) : LeastAt (w.setCell ⟨p.p6, 1, none⟩ (.slice (some ⟨p.p5, 9, none⟩) 1 1)) p 9 1 ∧ Turn (fun j => j = p.p6) w (w.setCell ⟨p.p6, 1, none⟩ (.slice (some ⟨p.p5, 9, none⟩) 1 1)) := by
  have t : Turn (fun j => j = p.p6) w (w.setCell ⟨p.p6, 1, none⟩ (.slice (some ⟨p.p5, 9, none⟩) 1 1)) := (Turn.refl (fun j => j = p.p6) w).setCell (p := ⟨p.p6, 1, none⟩) (fun _ => rfl) _
  have ne : ∀ {g : Nat} {ty : TypeId} {cs : Array Value}, Blk w g ty cs → ty ≠ 48 → ¬ g = p.p6 := fun hb ht e => by
    subst e
    exact ht (hb.inj h.a6).1
  refine ⟨⟨h.a1.keep t (ne h.a1 (by decide)), h.a2.keep t (ne h.a2 (by decide)), h.a3.keep t (ne h.a3 (by decide)), h.a4.keep t (ne h.a4 (by decide)), h.a5.keep t (ne h.a5 (by decide)), ?_, h.a7.keep t (ne h.a7 (by decide))⟩, t⟩
  have := h.a6.set 1 (.slice (some ⟨p.p5, 9, none⟩) 1 1)
  simpa using this
set_option maxRecDepth 100000 in
set_option maxHeartbeats 8000000 in
theorem lives_any (w : World) (ht : Tz w) : Calls Tryz.prog 9 #[] w fun e w' => e = .returned (.bool true) ∧ Still w w' := by
  have HT : Hid (∀ W, Still w W → Tz W) := fun W t => ht.keep t (fun e => e)
  clear ht
  go_enter Tryz.func9, Tryz.ntmps9
  go_wp2_with fail
  refine (least_any _).mono ?_; rintro e w1 ⟨p, rfl, ha, t1, hp6⟩
  have H1 := Lib.hid (And.intro ha (And.intro t1 hp6))
  clear ha t1 hp6
  go_wp2_with fail
  have H2 : Hid (LeastAt (w1.alloc (.cells #[.slice (some ⟨p.p2, 0, none⟩) 2 2, .slice (some ⟨p.p3, 0, none⟩) 1 1, .slice none 0 0, .slice none 0 0, .slice (some ⟨p.p7, 0, none⟩) 1 1, .int .i64 0, .int .i64 0] 27)) p 0 2 ∧ Blk (w1.alloc (.cells #[.slice (some ⟨p.p2, 0, none⟩) 2 2, .slice (some ⟨p.p3, 0, none⟩) 1 1, .slice none 0 0, .slice none 0 0, .slice (some ⟨p.p7, 0, none⟩) 1 1, .int .i64 0, .int .i64 0] 27)) w1.heap.size 27 #[.slice (some ⟨p.p2, 0, none⟩) 2 2, .slice (some ⟨p.p3, 0, none⟩) 1 1, .slice none 0 0, .slice none 0 0, .slice (some ⟨p.p7, 0, none⟩) 1 1, .int .i64 0, .int .i64 0] ∧ Still w (w1.alloc (.cells #[.slice (some ⟨p.p2, 0, none⟩) 2 2, .slice (some ⟨p.p3, 0, none⟩) 1 1, .slice none 0 0, .slice none 0 0, .slice (some ⟨p.p7, 0, none⟩) 1 1, .int .i64 0, .int .i64 0] 27))) := ⟨H1.out.1.still ((Still.refl w1).alloc _), Blk.new w1 _ _, H1.out.2.1.alloc _⟩
  generalize w1.alloc (.cells #[.slice (some ⟨p.p2, 0, none⟩) 2 2, .slice (some ⟨p.p3, 0, none⟩) 1 1, .slice none 0 0, .slice none 0 0, .slice (some ⟨p.p7, 0, none⟩) 1 1, .int .i64 0, .int .i64 0] 27) = w2 at H2 ⊢
  obtain ⟨Q, hQ⟩ : ∃ Q, w1.heap.size = Q := ⟨_, rfl⟩
  rw [hQ] at H2
  rw [hQ]
  clear hQ
  refine (fault_two H2.out.1 (HT.out _ H2.out.2.2)).mono ?_; rintro e w3 ⟨rfl, t3⟩
  have H3 : Hid (LeastAt w3 p 0 2 ∧ Blk w3 Q 27 #[.slice (some ⟨p.p2, 0, none⟩) 2 2, .slice (some ⟨p.p3, 0, none⟩) 1 1, .slice none 0 0, .slice none 0 0, .slice (some ⟨p.p7, 0, none⟩) 1 1, .int .i64 0, .int .i64 0] ∧ Still w w3) := ⟨H2.out.1.still t3, t3.blk H2.out.2.1, H2.out.2.2.trans t3⟩
  clear t3
  have q4 : w3.cell? ⟨Q, 4, none⟩ = some (.slice (some ⟨p.p7, 0, none⟩) 1 1) := H3.out.2.1.cell 4
  have q73 : w3.cell? ⟨p.p7, 3, none⟩ = some (.slice (some ⟨p.p6, 0, none⟩) 1 1) := H3.out.1.a7.cell 3
  have q61 : w3.cell? ⟨p.p6, 1, none⟩ = some (.slice (some ⟨p.p5, 0, none⟩) 2 2) := H3.out.1.a6.cell 1
  have y4 : w3.drew.cell? ⟨Q, 4, none⟩ = some (.slice (some ⟨p.p7, 0, none⟩) 1 1) := q4
  have y73 : w3.drew.cell? ⟨p.p7, 3, none⟩ = some (.slice (some ⟨p.p6, 0, none⟩) 1 1) := q73
  have y61 : w3.drew.cell? ⟨p.p6, 1, none⟩ = some (.slice (some ⟨p.p5, 0, none⟩) 2 2) := q61
  have f61 := H3.out.1.a6.frozen 1
  have lQ := H3.out.2.1.lt
  have l7 := H3.out.1.a7.lt
  have l6 := H3.out.1.a6.lt
  have l5 := H3.out.1.a5.lt
  go_wp2_with fail
  go_region
  all_goals
    clear q4 q73 q61 y4 y73 y61 f61 lQ l7 l6 l5
    have H4 : Hid (LeastAt (w3.setCell ⟨p.p6, 1, none⟩ (.slice (some ⟨p.p5, 9, none⟩) 1 1)).drew p 9 1 ∧ Blk (w3.setCell ⟨p.p6, 1, none⟩ (.slice (some ⟨p.p5, 9, none⟩) 1 1)).drew Q 27 #[.slice (some ⟨p.p2, 0, none⟩) 2 2, .slice (some ⟨p.p3, 0, none⟩) 1 1, .slice none 0 0, .slice none 0 0, .slice (some ⟨p.p7, 0, none⟩) 1 1, .int .i64 0, .int .i64 0] ∧ Still w (w3.setCell ⟨p.p6, 1, none⟩ (.slice (some ⟨p.p5, 9, none⟩) 1 1)).drew) := by
      obtain ⟨g1, g2⟩ := H3.out.1.cut
      have hQ : ¬ Q = p.p6 := fun e => by
        subst e
        exact absurd (H3.out.2.1.inj H3.out.1.a6).1 (by decide)
      exact ⟨g1.still ((Still.refl _).drew), Still.blk (show Still _ _ from (Still.refl _).drew) (H3.out.2.1.keep g2 hQ), (H3.out.2.2.turn.trans (g2.drew)).mono fun j hj e => by have h1 := H1.out.2.2; have h2 : j = p.p6 := e; omega⟩
    generalize (w3.setCell ⟨p.p6, 1, none⟩ (.slice (some ⟨p.p5, 9, none⟩) 1 1)).drew = w4 at H4 ⊢
    have q0 : w4.cell? ⟨Q, 0, none⟩ = some (.slice (some ⟨p.p2, 0, none⟩) 2 2) := H4.out.2.1.cell 0
    have q1 : w4.cell? ⟨Q, 1, none⟩ = some (.slice (some ⟨p.p3, 0, none⟩) 1 1) := H4.out.2.1.cell 1
    have q2 : w4.cell? ⟨Q, 2, none⟩ = some (.slice none 0 0) := H4.out.2.1.cell 2
    have q3 : w4.cell? ⟨Q, 3, none⟩ = some (.slice none 0 0) := H4.out.2.1.cell 3
    have q4 : w4.cell? ⟨Q, 4, none⟩ = some (.slice (some ⟨p.p7, 0, none⟩) 1 1) := H4.out.2.1.cell 4
    have q5 : w4.cell? ⟨Q, 5, none⟩ = some (.int .i64 0) := H4.out.2.1.cell 5
    have q6 : w4.cell? ⟨Q, 6, none⟩ = some (.int .i64 0) := H4.out.2.1.cell 6
    have ql := H4.out.2.1.lt
    go_wp2_with fail
    clear q0 q1 q2 q3 q4 q5 q6 ql
    refine (fault_one H4.out.1 (HT.out _ H4.out.2.2)).mono ?_; rintro e w5 ⟨rfl, t5⟩
    have H5 : Hid (LeastAt w5 p 9 1 ∧ Blk w5 Q 27 #[.slice (some ⟨p.p2, 0, none⟩) 2 2, .slice (some ⟨p.p3, 0, none⟩) 1 1, .slice none 0 0, .slice none 0 0, .slice (some ⟨p.p7, 0, none⟩) 1 1, .int .i64 0, .int .i64 0] ∧ Still w w5) := ⟨H4.out.1.still t5, t5.blk H4.out.2.1, H4.out.2.2.trans t5⟩
    clear t5
    have q0 : w5.cell? ⟨Q, 0, none⟩ = some (.slice (some ⟨p.p2, 0, none⟩) 2 2) := H5.out.2.1.cell 0
    have q1 : w5.cell? ⟨Q, 1, none⟩ = some (.slice (some ⟨p.p3, 0, none⟩) 1 1) := H5.out.2.1.cell 1
    have q2 : w5.cell? ⟨Q, 2, none⟩ = some (.slice none 0 0) := H5.out.2.1.cell 2
    have q3 : w5.cell? ⟨Q, 3, none⟩ = some (.slice none 0 0) := H5.out.2.1.cell 3
    have q4 : w5.cell? ⟨Q, 4, none⟩ = some (.slice (some ⟨p.p7, 0, none⟩) 1 1) := H5.out.2.1.cell 4
    have q5 : w5.cell? ⟨Q, 5, none⟩ = some (.int .i64 0) := H5.out.2.1.cell 5
    have q6 : w5.cell? ⟨Q, 6, none⟩ = some (.int .i64 0) := H5.out.2.1.cell 6
    have ql := H5.out.2.1.lt
    go_wp2_with fail
    clear q0 q1 q2 q3 q4 q5 q6 ql
    refine (verify_one H5.out.1 (HT.out _ H5.out.2.2)).mono ?_; rintro e w6 ⟨rfl, t6⟩
    have T6 : Hid (Still w w6) := H5.out.2.2.trans t6
    clear t6
    go_wp2_with fail
    refine (least_any _).mono ?_; rintro e w7 ⟨p', rfl, ha7, t7, _⟩
    have H7 : Hid (LeastAt w7 p' 0 2 ∧ Still w w7) := ⟨ha7, T6.out.trans t7⟩
    clear ha7 t7
    go_wp2_with fail
    refine (verify_two H7.out.1 (HT.out _ H7.out.2)).mono ?_; rintro e w8 ⟨rfl, t8⟩
    have T8 : Hid (Still w w8) := H7.out.2.trans t8
    clear t8
    go_wp2_with fail
    refine (sub_any (B := 0) (xs := []) (ys := []) (nil_lies) (nil_lies) (Nat.zero_le _) (by decide) (by decide)).mono ?_; rintro e w9 ⟨rfl, t9⟩
    have T9 : Hid (Still w w9) := T8.out.trans t9
    clear t9
    have x9 : Vf.tsub false [] true [] = true := rfl
    have y9 : Vf.tsub true [] false [] = false := rfl
    go_wp2_with fail
    refine (sub_any (B := 0) (xs := []) (ys := []) (nil_lies) (nil_lies) (Nat.zero_le _) (by decide) (by decide)).mono ?_; rintro e wa ⟨rfl, ta⟩
    have TA : Hid (Still w wa) := T9.out.trans ta
    clear ta
    go_wp2_with fail
    go_ret
    exact ⟨rfl, TA.out⟩
end Go.Proofs.YtglalgjffkoneaaGreatDoor
