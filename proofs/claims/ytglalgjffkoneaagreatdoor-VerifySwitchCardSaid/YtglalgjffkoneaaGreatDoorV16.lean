/- Lemmas, put together: Vin Vif Vou Vpr Vmv Vlj Vfd Vcl Vlt Vlr. -/
import Derived.Test.YtglalgjffkoneaaGreatDoorV9
/- What an instruction needs, and does: one that reads in. -/
namespace Go.Proofs.YtglalgjffkoneaaGreatDoor
set_option linter.unusedVariables false
set_option linter.unusedSimpArgs false
open Go.ChangeShapes Go.WideShapes Go.ChangeAt Go.RowKit
open Vf (K nth nth_nat tyAt atK isK numT oneT le beginK tsub)
set_option maxRecDepth 100000 in
set_option maxHeartbeats 8000000 in
theorem step_in (c : WkC) (x : M.Ins) (hop : x.op = 15) : StepOk c x := by
  intro w f g fi bi ii N r T Y l k la ln lc ma mn mc va vn vc h hx
  have HH := Lib.hid h
  have HOP := Lib.hid hop
  have HNE : Hid (Vf.Needs c.m f k x = Vf.hasK k x.d) := by show _ = _; unfold Vf.Needs; rw [hop]; rfl
  have HNX : Hid (Vf.next c.m k x = Vf.setK k x.d numT) := by show _ = _; unfold Vf.next; rw [hop]; rfl
  have S1 : Hid (Still w (w.alloc (.cells #[.int .i64 x.op, .int .i64 x.d, .int .i64 x.a, .int .i64 x.b, .int .i64 x.c, .int .i64 x.n, .slice la ln lc, .slice ma mn mc, .slice va vn vc] 36)) ∧ Blk (w.alloc (.cells #[.int .i64 x.op, .int .i64 x.d, .int .i64 x.a, .int .i64 x.b, .int .i64 x.c, .int .i64 x.n, .slice la ln lc, .slice ma mn mc, .slice va vn vc] 36)) w.heap.size 36 #[.int .i64 x.op, .int .i64 x.d, .int .i64 x.a, .int .i64 x.b, .int .i64 x.c, .int .i64 x.n, .slice la ln lc, .slice ma mn mc, .slice va vn vc]) := ⟨(Still.refl w).alloc _, Blk.new w _ _⟩
  obtain ⟨X, hX⟩ : ∃ X, c.X = X := ⟨_, rfl⟩
  have HX := Lib.hid hX
  have c1 := S1.out.2.cell 1
  rw [hop] at S1 c1 ⊢
  rw [hX]
  clear hx
  generalize x.d = d at *
  generalize x.n = xn at *
  clear h hop hX
  go_enter Tryz.func59, Tryz.ntmps59
  go_wp2_with fail
  generalize w.alloc (.cells #[.int .i64 15, .int .i64 d, .int .i64 x.a, .int .i64 x.b, .int .i64 x.c, .int .i64 xn, .slice la ln lc, .slice ma mn mc, .slice va vn vc] 36) = w1 at S1 c1 ⊢
  obtain ⟨K0, hK0⟩ : ∃ K0, w.heap.size = K0 := ⟨_, rfl⟩
  rw [hK0] at S1 c1
  rw [hK0]
  have HK0 := Lib.hid hK0
  clear hK0
  have H1 := Lib.hid (HH.out.still S1.out.1)
  obtain ⟨wD, hwD⟩ : ∃ wD, w1.drew = wD := ⟨_, rfl⟩
  have SD : Hid (Still w1 wD) := by rw [← hwD]; exact (Still.refl w1).drew
  have H2 := Lib.hid (H1.out.still SD.out)
  obtain ⟨b0, hb0⟩ : ∃ b0, c.b0 = b0 := ⟨_, rfl⟩
  have HB0 := Lib.hid hb0
  have x19 : wD.cell? ⟨X, 19, none⟩ = some (.func (.func 86) #[] #[.pointer (some ⟨N, 0, none⟩)]) := by rw [← HX.out]; exact H2.out.box.cell 19
  have x9 : wD.cell? ⟨X, 9, none⟩ = some (.pointer (some ⟨b0, 0, none⟩)) := by rw [← HX.out, ← hb0]; exact H2.out.box.cell 9
  have k1 : wD.cell? ⟨K0, 1, none⟩ = some (.int .i64 d) := (SD.out.blk S1.out.2).cell 1
  have lX : X < wD.heap.size := by have := H2.out.box.lt; rwa [HX.out] at this
  have lK : K0 < wD.heap.size := (SD.out.blk S1.out.2).lt
  have henter : ∀ (args : Array Value) (W : World), (callFunc 86 args).run Tryz.prog W = .ok (.enter 86 args) W := enters_of Tryz.func86 (by kernel_rfl) rfl
  have HGV := Lib.hid (give_any H2.out.now H2.out.ne.2.1 d (some b0))
  clear c1 hb0
  try go_wp2_with fail
  refine wp_region_held_drew (S := fun W => W.cell? ⟨X, 19, none⟩ = some (.func (.func 86) #[] #[.pointer (some ⟨N, 0, none⟩)]) ∧ W.cell? ⟨X, 9, none⟩ = some (.pointer (some ⟨b0, 0, none⟩)) ∧ W.cell? ⟨K0, 1, none⟩ = some (.int .i64 d)) (by kernel_rfl) (by rw [hwD]; exact ⟨x19, x9, k1⟩) (fun hHeld => ?_)
  try simp only [Act.put, List.getElem_toArray, List.getElem_cons_succ, List.getElem_cons_zero, List.setIfInBounds_toArray, List.set_cons_zero, List.set_cons_succ]
  rw [hwD] at hHeld ⊢
  clear hwD
  refine wpAnyH_take (i := 0) (v := ?_) rfl (by kernel_rfl) (by kernel_rfl) (by kernel_rfl) (fun _ _ _ h => h) (Or.inl ⟨by rfl, ?_⟩) (by assumption) ?_
  rotate_left
  · intro w hSw; (try dsimp only at hSw); go_simp; try with_reducible rfl
  try simp only [Act.put, List.getElem_toArray, List.getElem_cons_succ, List.getElem_cons_zero, List.setIfInBounds_toArray, List.set_cons_zero, List.set_cons_succ]
  refine wpAnyH_take (i := 1) (v := ?_) rfl (by kernel_rfl) (by kernel_rfl) (by kernel_rfl) (fun _ _ _ h => h) (Or.inl ⟨by rfl, ?_⟩) (by assumption) ?_
  rotate_left
  · intro w hSw; (try dsimp only at hSw); go_simp; try with_reducible rfl
  try simp only [Act.put, List.getElem_toArray, List.getElem_cons_succ, List.getElem_cons_zero, List.setIfInBounds_toArray, List.set_cons_zero, List.set_cons_succ]
  refine wpAnyH_take (i := 2) (v := ?_) rfl (by kernel_rfl) (by kernel_rfl) (by kernel_rfl) (fun _ _ _ h => h) (Or.inl ⟨by rfl, ?_⟩) (by assumption) ?_
  rotate_left
  · intro w hSw; (try dsimp only at hSw); go_simp; try with_reducible rfl
  try simp only [Act.put, List.getElem_toArray, List.getElem_cons_succ, List.getElem_cons_zero, List.setIfInBounds_toArray, List.set_cons_zero, List.set_cons_succ]
  refine wpAnyH_take (i := 3) (v := ?_) rfl (by kernel_rfl) (by kernel_rfl) (by kernel_rfl) (fun _ _ _ h => h) (Or.inl ⟨by rfl, ?_⟩) (by assumption) ?_
  rotate_left
  · intro w hSw; (try dsimp only at hSw); go_simp; try with_reducible rfl
  try simp only [Act.put, List.getElem_toArray, List.getElem_cons_succ, List.getElem_cons_zero, List.setIfInBounds_toArray, List.set_cons_zero, List.set_cons_succ]
  refine wpAnyH_take (i := 4) (v := ?_) rfl (by kernel_rfl) (by kernel_rfl) (by kernel_rfl) (fun _ _ _ h => h) (Or.inl ⟨by rfl, ?_⟩) (by assumption) ?_
  rotate_left
  · intro w hSw; (try dsimp only at hSw); go_simp; try with_reducible rfl
  try simp only [Act.put, List.getElem_toArray, List.getElem_cons_succ, List.getElem_cons_zero, List.setIfInBounds_toArray, List.set_cons_zero, List.set_cons_succ]
  refine wpAnyH_take (i := 5) (v := ?_) rfl (by kernel_rfl) (by kernel_rfl) (by kernel_rfl) (fun _ _ _ h => h) (Or.inl ⟨by rfl, ?_⟩) (by assumption) ?_
  rotate_left
  · intro w hSw; (try dsimp only at hSw); go_simp; try with_reducible rfl
  try simp only [Act.put, List.getElem_toArray, List.getElem_cons_succ, List.getElem_cons_zero, List.setIfInBounds_toArray, List.set_cons_zero, List.set_cons_succ]
  refine wpAnyH_take (i := 6) (v := ?_) rfl (by kernel_rfl) (by kernel_rfl) (by kernel_rfl) (fun _ _ _ h => h) (Or.inl ⟨by rfl, ?_⟩) (by assumption) ?_
  rotate_left
  · intro w hSw; (try dsimp only at hSw); go_simp; try with_reducible rfl
  try simp only [Act.put, List.getElem_toArray, List.getElem_cons_succ, List.getElem_cons_zero, List.setIfInBounds_toArray, List.set_cons_zero, List.set_cons_succ]
  refine wpAnyH_take (i := 7) (v := ?_) rfl (by kernel_rfl) (by kernel_rfl) (by kernel_rfl) (fun _ _ _ h => h) (Or.inl ⟨by rfl, ?_⟩) (by assumption) ?_
  rotate_left
  · intro w hSw; (try dsimp only at hSw); go_simp; try with_reducible rfl
  try simp only [Act.put, List.getElem_toArray, List.getElem_cons_succ, List.getElem_cons_zero, List.setIfInBounds_toArray, List.set_cons_zero, List.set_cons_succ]
  refine wpAnyH_take (i := 8) (v := ?_) rfl (by kernel_rfl) (by kernel_rfl) (by kernel_rfl) (fun _ _ _ h => h) (Or.inl ⟨by rfl, ?_⟩) (by assumption) ?_
  rotate_left
  · intro w hSw; (try dsimp only at hSw); go_simp; try with_reducible rfl
  try simp only [Act.put, List.getElem_toArray, List.getElem_cons_succ, List.getElem_cons_zero, List.setIfInBounds_toArray, List.set_cons_zero, List.set_cons_succ]
  refine wpAnyH_take (i := 9) (v := ?_) rfl (by kernel_rfl) (by kernel_rfl) (by kernel_rfl) (fun _ _ _ h => h) (Or.inl ⟨by rfl, ?_⟩) (by assumption) ?_
  rotate_left
  · intro w hSw; (try dsimp only at hSw); go_simp; try with_reducible rfl
  try simp only [Act.put, List.getElem_toArray, List.getElem_cons_succ, List.getElem_cons_zero, List.setIfInBounds_toArray, List.set_cons_zero, List.set_cons_succ]
  refine wpAnyH_take (i := 10) (v := ?_) rfl (by kernel_rfl) (by kernel_rfl) (by kernel_rfl) (fun _ _ _ h => h) (Or.inl ⟨by rfl, ?_⟩) (by assumption) ?_
  rotate_left
  · intro w hSw; (try dsimp only at hSw); go_simp; try with_reducible rfl
  try simp only [Act.put, List.getElem_toArray, List.getElem_cons_succ, List.getElem_cons_zero, List.setIfInBounds_toArray, List.set_cons_zero, List.set_cons_succ]
  refine wpAnyH_ready (rs := [11]) (by kernel_rfl) (by simp) ?_
  refine AllReadyH.cons rfl (fun K hK => ?_) AllReadyH.nil
  go_simp
  refine HGV.out.mono ?_; rintro e w5 (⟨hb, rfl, hn5, t5⟩ | ⟨hb, rfl, rfl⟩)
  · have H5 := Lib.hid (And.intro hb (And.intro hn5 t5))
    have hKr : K0 ≠ r := fun e => by have h1 := HH.out.now.row.lt; have h2 := HK0.out; omega
    have hXr : X ≠ r := fun e => by have h1 := HH.out.far.2.1; have h2 := HH.out.rows.le.2.1; rw [HX.out] at h2; omega
    have hH5 : w5.cell? ⟨X, 19, none⟩ = some (.func (.func 86) #[] #[.pointer (some ⟨N, 0, none⟩)]) ∧ w5.cell? ⟨X, 9, none⟩ = some (.pointer (some ⟨b0, 0, none⟩)) ∧ w5.cell? ⟨K0, 1, none⟩ = some (.int .i64 d) := ⟨(t5.cell (p := ⟨X, 19, none⟩) lX hXr).trans hHeld.1, (t5.cell (p := ⟨X, 9, none⟩) lX hXr).trans hHeld.2.1, (t5.cell (p := ⟨K0, 1, none⟩) lK hKr).trans hHeld.2.2⟩
    clear hb hn5 t5 hHeld
    refine hK.out _ _ hH5 (fun hHeld => ?_)
    clear hK K
    refine wpAnyH_done (by kernel_rfl) ?_ _
    clear hHeld hH5 x19 x9 k1 lX lK
    go_wp2_with fail
    go_end0
    refine .inl ⟨?_, rfl, ⟨r, _, H5.out.2.1, ?_, .inl rfl⟩, (S1.out.1.turn.trans SD.out.turn).trans (H5.out.2.2.mono fun _ _ e => .inr e)⟩
    · rw [HNE.out]
      exact (hasK_iff HH.out.kn d).1 H5.out.1
    · rw [HNX.out]
      have hk5 := H2.out.kn.keep H5.out.2.2 (fun b im R hb e => H2.out.now.words b im R hb (.inr e))
      have hr := H2.out.rows
      have hz : TyK wD b0 numT := ⟨hr.wt 0 b0 numT (by rw [← HB0.out]; exact hr.z1) hr.zero, fun s hs => by simp [numT] at hs⟩
      exact hk5.set (hz.keep H5.out.2.2 (fun e => H2.out.now.words _ _ _ hz.1 (.inr e)))
  · refine ⟨rfl, .inr ⟨fun e => ?_, rfl, (S1.out.1.trans SD.out).turn⟩⟩
    rw [HNE.out] at e
    rw [(hasK_iff HH.out.kn d).2 e] at hb
    cases hb
end Go.Proofs.YtglalgjffkoneaaGreatDoor
/- What an instruction needs, and does: an answer's. -/
namespace Go.Proofs.YtglalgjffkoneaaGreatDoor
set_option linter.unusedVariables false
set_option linter.unusedSimpArgs false
open Go.ChangeShapes Go.WideShapes Go.ChangeAt Go.RowKit
open Vf (K nth nth_nat tyAt atK isK numT oneT le beginK tsub)
set_option maxRecDepth 100000 in
set_option maxHeartbeats 8000000 in
theorem leave_if (c : WkC) (x : M.Ins) (hop : x.op = 19) (h64 : In64 x.a) (w : World) (f : M.Fn) (g : FV) (fi bi ii : Int) (N r T Y : Nat) (l : List (Option Nat)) (k : K) (la : Option Addr) (ln lc : Nat) (ma : Option Addr) (mn mc : Nat) (va : Option Addr) (vn vc : Nat) (h : WkAt c w f g fi bi ii N r T Y l k) :
    Calls Tryz.prog 95 #[.pointer (some ⟨c.X, 0, none⟩), .agg #[.int .i64 19, .int .i64 x.d, .int .i64 x.a, .int .i64 x.b, .int .i64 x.c, .int .i64 x.n, .slice la ln lc, .slice ma mn mc, .slice va vn vc]] w (StepR c f N r k x w) := by
  have HH := Lib.hid h
  have H64 := Lib.hid h64
  have HNE : Hid (Vf.Needs c.m f k x = (isK k x.a numT ∧ Vf.FitsK c.m f k x.b ∧ Vf.FitsK c.m f k x.c)) := by show _ = _; unfold Vf.Needs; rw [hop]; rfl
  have HNX : Hid (Vf.next c.m k x = k) := by show _ = _; unfold Vf.next; rw [hop]; rfl
  have S1 : Hid (Still w (w.alloc (.cells #[.int .i64 19, .int .i64 x.d, .int .i64 x.a, .int .i64 x.b, .int .i64 x.c, .int .i64 x.n, .slice la ln lc, .slice ma mn mc, .slice va vn vc] 36)) ∧ Blk (w.alloc (.cells #[.int .i64 19, .int .i64 x.d, .int .i64 x.a, .int .i64 x.b, .int .i64 x.c, .int .i64 x.n, .slice la ln lc, .slice ma mn mc, .slice va vn vc] 36)) w.heap.size 36 #[.int .i64 19, .int .i64 x.d, .int .i64 x.a, .int .i64 x.b, .int .i64 x.c, .int .i64 x.n, .slice la ln lc, .slice ma mn mc, .slice va vn vc]) := ⟨(Still.refl w).alloc _, Blk.new w _ _⟩
  obtain ⟨X, hX⟩ : ∃ X, c.X = X := ⟨_, rfl⟩
  have HX := Lib.hid hX
  rw [hX]
  generalize x.a = a at *
  obtain ⟨kf, hkf, hkl⟩ : ∃ kf : Nat, f.result = kf ∧ kf < c.m.types.length := by
    have h1 := h.ok
    unfold fnB at h1
    simp only [Bool.and_eq_true] at h1
    obtain ⟨e1, e2⟩ := (hasB_iff _ _).1 h1.1.2
    obtain ⟨kf, hkf⟩ := Int.eq_ofNat_of_zero_le e1
    exact ⟨kf, hkf, by omega⟩
  obtain ⟨tb, htb⟩ : ∃ tb, c.bs[kf]? = some tb := ⟨_, List.getElem?_eq_getElem (by rw [h.rows.lb]; exact hkl)⟩
  obtain ⟨tt, htt⟩ : ∃ tt, c.m.types[kf]? = some tt := ⟨_, List.getElem?_eq_getElem hkl⟩
  have HTB : Hid (c.bs[kf]? = some tb ∧ c.m.types[kf]? = some tt ∧ tyAt c.m f.result = tt) := ⟨htb, htt, by unfold tyAt; rw [hkf, nth_nat, htt]; rfl⟩
  obtain ⟨r1, hr1⟩ : ∃ r1, c.r1 = r1 := ⟨_, rfl⟩
  have HR1 := Lib.hid hr1
  obtain ⟨tn, htn⟩ : ∃ tn, c.v.tn = tn := ⟨_, rfl⟩
  have HTN := Lib.hid htn
  have hktn : kf < tn := by have := h.rows.img.types.len; omega
  have HKF := Lib.hid hkf
  clear h hop hX h64 hkf htb htt hr1 htn hkl
  go_enter Tryz.func95, Tryz.ntmps95
  go_wp2_with fail
  generalize w.alloc (.cells #[.int .i64 19, .int .i64 x.d, .int .i64 a, .int .i64 x.b, .int .i64 x.c, .int .i64 x.n, .slice la ln lc, .slice ma mn mc, .slice va vn vc] 36) = w1 at S1 ⊢
  obtain ⟨K0, hK0⟩ : ∃ K0, w.heap.size = K0 := ⟨_, rfl⟩
  rw [hK0] at S1
  rw [hK0]
  have HK0 := Lib.hid hK0
  clear hK0
  have H1 := Lib.hid (HH.out.still S1.out.1)
  have x7 : w1.cell? ⟨X, 7, none⟩ = some (.slice (some ⟨r1, 0, none⟩) tn c.rc) := by rw [← HX.out, ← HR1.out, ← HTN.out]; exact H1.out.box.cell 7
  have x12 : w1.cell? ⟨X, 12, none⟩ = some (.int .i64 kf) := by rw [← HX.out, ← HKF.out, ← HH.out.fn.1]; exact H1.out.box.cell 12
  have xr : w1.cell? ⟨r1, kf, none⟩ = some (.pointer (some ⟨tb, 0, none⟩)) := by rw [← HR1.out]; exact H1.out.rows.rt kf tb HTB.out.1
  have y7 : w1.drew.cell? ⟨X, 7, none⟩ = some (.slice (some ⟨r1, 0, none⟩) tn c.rc) := x7
  have y12 : w1.drew.cell? ⟨X, 12, none⟩ = some (.int .i64 kf) := x12
  have yr : w1.drew.cell? ⟨r1, kf, none⟩ = some (.pointer (some ⟨tb, 0, none⟩)) := xr
  have lX : X < w1.heap.size := by rw [← HX.out]; exact H1.out.box.lt
  have lr : r1 < w1.heap.size := World.block_lt_of_cell? _ _ xr
  have hki : (kf : Int) < tn := by omega
  go_region
  have c0 : w1.drew.cell? ⟨K0, 0, none⟩ = some (.int .i64 19) := S1.out.2.cell 0
  have c0' : w1.cell? ⟨K0, 0, none⟩ = some (.int .i64 19) := S1.out.2.cell 0
  clear x7 x12 xr y7 y12 yr
  have SD1 : Hid (Still w1 w1.drew) := (Still.refl w1).drew
  have c2 : w1.drew.cell? ⟨K0, 2, none⟩ = some (.int .i64 a) := S1.out.2.cell 2
  have c3 : w1.drew.cell? ⟨K0, 3, none⟩ = some (.int .i64 x.b) := S1.out.2.cell 3
  have c4 : w1.drew.cell? ⟨K0, 4, none⟩ = some (.int .i64 x.c) := S1.out.2.cell 4
  have c2' : w1.cell? ⟨K0, 2, none⟩ = some (.int .i64 a) := S1.out.2.cell 2
  go_wp2_with fail
  have BW : Blk (w1.alloc (.cells #[.int .i64 a] 3)).drew w1.heap.size 3 #[.int .i64 a] := Blk.new w1 _ _
  have TW : Hid (Still w (w1.alloc (.cells #[.int .i64 a] 3)).drew) := (S1.out.1.alloc _).drew
  have KW : Hid (Blk (w1.alloc (.cells #[.int .i64 a] 3)).drew K0 36 #[.int .i64 19, .int .i64 x.d, .int .i64 a, .int .i64 x.b, .int .i64 x.c, .int .i64 x.n, .slice la ln lc, .slice ma mn mc, .slice va vn vc]) := Still.blk (((Still.refl w1).alloc _).drew) S1.out.2
  generalize (w1.alloc (.cells #[.int .i64 a] 3)).drew = w3 at BW TW KW ⊢
  obtain ⟨J, hJ⟩ : ∃ J, w1.heap.size = J := ⟨_, rfl⟩
  rw [hJ] at BW
  rw [hJ]
  have HN1 : Ints w3.heap.size w3 (some ⟨J, 0, none⟩) 1 [a] := ⟨rfl, fun _ => ⟨J, 0, rfl, BW.lt, fun i y hi => by
    obtain ⟨rfl, rfl⟩ : i = 0 ∧ y = a := by
      cases i with
      | zero => exact ⟨rfl, by simpa using hi.symm⟩
      | succ i => simp at hi
    exact ⟨[.int .i64 y], rfl, ⟨rfl, H64.out⟩, fun j hj => by
      obtain rfl : j = 0 := by omega
      exact BW.cell 0⟩⟩⟩
  have HNU := Lib.hid (numbers_any c (HH.out.still TW.out) (cc := 1) HN1 (Nat.le_refl _) (by decide))
  rw [HX.out] at HNU
  clear c0 c0' c2 c2' c3 c4 BW HN1 hJ
  refine HNU.out.mono ?_; rintro e w5 ⟨t5, ⟨hp, rfl⟩ | ⟨hp, rfl⟩⟩
  rotate_left
  · exact ⟨rfl, .inr ⟨fun e => hp (by rw [HNE.out] at e; intro s hs; rw [List.mem_singleton.1 hs]; exact e.1), rfl, (TW.out.trans t5).turn⟩⟩
  have HP := Lib.hid (hp a (List.mem_singleton.2 rfl))
  have T5 : Hid (Still w w5) := TW.out.trans t5
  have K5 : Hid (Blk w5 K0 36 #[.int .i64 19, .int .i64 x.d, .int .i64 a, .int .i64 x.b, .int .i64 x.c, .int .i64 x.n, .slice la ln lc, .slice ma mn mc, .slice va vn vc]) := t5.blk KW.out
  clear hp t5
  have d3 : w5.cell? ⟨K0, 3, none⟩ = some (.int .i64 x.b) := K5.out.cell 3
  have d4 : w5.cell? ⟨K0, 4, none⟩ = some (.int .i64 x.c) := K5.out.cell 4
  go_wp2_with fail
  clear d3 d4
  have HTB1 := Lib.hid (to_any c (HH.out.still T5.out) x.b)
  rw [HX.out] at HTB1
  refine HTB1.out.mono ?_; rintro e w6 ⟨t6, ⟨hp, rfl⟩ | ⟨hp, rfl⟩⟩
  rotate_left
  · exact ⟨rfl, .inr ⟨fun e => hp (by rw [HNE.out] at e; exact e.2.1), rfl, (T5.out.trans t6).turn⟩⟩
  have HP2 := Lib.hid hp
  have T6 : Hid (Still w w6) := T5.out.trans t6
  have K6 : Hid (Blk w6 K0 36 #[.int .i64 19, .int .i64 x.d, .int .i64 a, .int .i64 x.b, .int .i64 x.c, .int .i64 x.n, .slice la ln lc, .slice ma mn mc, .slice va vn vc]) := t6.blk K5.out
  clear hp t6
  have d4 : w6.cell? ⟨K0, 4, none⟩ = some (.int .i64 x.c) := K6.out.cell 4
  go_wp2_with fail
  clear d4
  have HTC := Lib.hid (to_any c (HH.out.still T6.out) x.c)
  rw [HX.out] at HTC
  refine HTC.out.mono ?_; rintro e w7 ⟨t7, ⟨hp, rfl⟩ | ⟨hp, rfl⟩⟩
  rotate_left
  · exact ⟨rfl, .inr ⟨fun e => hp (by rw [HNE.out] at e; exact e.2.2), rfl, (T6.out.trans t7).turn⟩⟩
  have HP3 := Lib.hid hp
  have T7 : Hid (Still w w7) := T6.out.trans t7
  clear hp t7
  go_wp2_with fail
  go_end0
  have H7 := HH.out.still T7.out
  refine .inl ⟨?_, rfl, ⟨r, l, H7.now, by rw [HNX.out]; exact H7.kn, .inl rfl⟩, T7.out.turn⟩
  rw [HNE.out]
  exact ⟨HP.out, HP2.out, HP3.out⟩
set_option maxRecDepth 100000 in
set_option maxHeartbeats 8000000 in
theorem step_if (c : WkC) (x : M.Ins) (hop : x.op = 19) : StepOk c x := by
  intro w f g fi bi ii N r T Y l k la ln lc ma mn mc va vn vc h hx
  have h64 : In64 x.a := by
    obtain ⟨_, _, _, _, _, _, _, _, _, _, _, _, _, q, _⟩ := hx
    exact q.2.2.1
  have S1 : Hid (Still w (w.alloc (.cells #[.int .i64 19, .int .i64 x.d, .int .i64 x.a, .int .i64 x.b, .int .i64 x.c, .int .i64 x.n, .slice la ln lc, .slice ma mn mc, .slice va vn vc] 36)) ∧ Blk (w.alloc (.cells #[.int .i64 19, .int .i64 x.d, .int .i64 x.a, .int .i64 x.b, .int .i64 x.c, .int .i64 x.n, .slice la ln lc, .slice ma mn mc, .slice va vn vc] 36)) w.heap.size 36 #[.int .i64 19, .int .i64 x.d, .int .i64 x.a, .int .i64 x.b, .int .i64 x.c, .int .i64 x.n, .slice la ln lc, .slice ma mn mc, .slice va vn vc]) := ⟨(Still.refl w).alloc _, Blk.new w _ _⟩
  have HL := Lib.hid (leave_if c x hop h64 _ f g fi bi ii N r T Y l k la ln lc ma mn mc va vn vc (h.still S1.out.1))
  rw [hop]
  have c0 := S1.out.2.cell 0
  have c1 := S1.out.2.cell 1
  have c2 := S1.out.2.cell 2
  have c3 := S1.out.2.cell 3
  have c4 := S1.out.2.cell 4
  have c5 := S1.out.2.cell 5
  have c6 := S1.out.2.cell 6
  have c7 := S1.out.2.cell 7
  have c8 := S1.out.2.cell 8
  have HSR : Hid (∀ e W, StepR c f N r k x (w.alloc (.cells #[.int .i64 19, .int .i64 x.d, .int .i64 x.a, .int .i64 x.b, .int .i64 x.c, .int .i64 x.n, .slice la ln lc, .slice ma mn mc, .slice va vn vc] 36)) e W → StepR c f N r k x w e W) := fun e W hs => by
    rcases hs with ⟨h1, h2, ⟨r', l', h3, h4, h5⟩, h6⟩ | ⟨h1, h2, h3⟩
    · exact .inl ⟨h1, h2, ⟨r', l', h3, h4, h5.elim .inl fun e => .inr (Nat.le_trans S1.out.1.size e)⟩, S1.out.1.turn.trans h6⟩
    · exact .inr ⟨h1, h2, S1.out.1.turn.trans h3⟩
  clear h hx hop
  go_enter Tryz.func59, Tryz.ntmps59
  go_wp2_with fail
  clear c0 c1 c2 c3 c4 c5 c6 c7 c8
  refine HL.out.mono ?_; rintro e w5 hs
  have hs2 := HSR.out _ _ hs
  clear hs
  rcases hs2 with ⟨h1, rfl, h3, h4⟩ | ⟨h1, rfl, h3⟩
  · have HS := Lib.hid (And.intro h1 (And.intro h3 h4))
    clear h1 h3 h4
    go_wp2_with fail
    go_end0
    exact .inl ⟨HS.out.1, rfl, HS.out.2.1, HS.out.2.2⟩
  · exact ⟨rfl, .inr ⟨h1, rfl, h3⟩⟩
end Go.Proofs.YtglalgjffkoneaaGreatDoor
/- What an instruction needs, and does: one that writes out. -/
namespace Go.Proofs.YtglalgjffkoneaaGreatDoor
set_option linter.unusedVariables false
set_option linter.unusedSimpArgs false
open Go.ChangeShapes Go.WideShapes Go.ChangeAt Go.RowKit
open Vf (K nth nth_nat tyAt atK isK numT oneT le beginK tsub)
theorem InsIs.a64 {B : Nat} {w : World} {cs : List Value} {x : M.Ins} (hx : InsIs B w cs x) : In64 x.a ∧ In64 x.b ∧ In64 x.c := by
  obtain ⟨_, _, _, _, _, _, _, _, _, _, _, _, _, q, _⟩ := hx
  exact ⟨q.2.2.1, q.2.2.2.1, q.2.2.2.2.1⟩
/-- A row of one number just made. -/
theorem ints_one {w : World} {J : Nat} {a : Int} (h : Blk w J 3 #[.int .i64 a]) (h64 : In64 a) : Ints w.heap.size w (some ⟨J, 0, none⟩) 1 [a] := ⟨rfl, fun _ => ⟨J, 0, rfl, h.lt, fun i y hi => by
  obtain ⟨rfl, rfl⟩ : i = 0 ∧ y = a := by
    cases i with
    | zero => exact ⟨rfl, by simpa using hi.symm⟩
    | succ i => simp at hi
  exact ⟨[.int .i64 y], rfl, ⟨rfl, h64⟩, fun j hj => by
    obtain rfl : j = 0 := by omega
    exact h.cell 0⟩⟩⟩
set_option maxRecDepth 100000 in
set_option maxHeartbeats 8000000 in
theorem step_out (c : WkC) (x : M.Ins) (hop : x.op = 16) : StepOk c x := by
  intro w f g fi bi ii N r T Y l k la ln lc ma mn mc va vn vc h hx
  have HH := Lib.hid h
  have H64 := Lib.hid hx.a64.1
  have HNE : Hid (Vf.Needs c.m f k x = isK k x.a numT) := by show _ = _; unfold Vf.Needs; rw [hop]; rfl
  have HNX : Hid (Vf.next c.m k x = k) := by show _ = _; unfold Vf.next; rw [hop]; rfl
  have S1 : Hid (Still w (w.alloc (.cells #[.int .i64 x.op, .int .i64 x.d, .int .i64 x.a, .int .i64 x.b, .int .i64 x.c, .int .i64 x.n, .slice la ln lc, .slice ma mn mc, .slice va vn vc] 36)) ∧ Blk (w.alloc (.cells #[.int .i64 x.op, .int .i64 x.d, .int .i64 x.a, .int .i64 x.b, .int .i64 x.c, .int .i64 x.n, .slice la ln lc, .slice ma mn mc, .slice va vn vc] 36)) w.heap.size 36 #[.int .i64 x.op, .int .i64 x.d, .int .i64 x.a, .int .i64 x.b, .int .i64 x.c, .int .i64 x.n, .slice la ln lc, .slice ma mn mc, .slice va vn vc]) := ⟨(Still.refl w).alloc _, Blk.new w _ _⟩
  obtain ⟨X, hX⟩ : ∃ X, c.X = X := ⟨_, rfl⟩
  have HX := Lib.hid hX
  rw [hop] at S1 ⊢
  rw [hX]
  clear hx
  generalize x.a = a at *
  have c0 := S1.out.2.cell 0
  have c2 := S1.out.2.cell 2
  clear h hop hX
  go_enter Tryz.func59, Tryz.ntmps59
  go_wp2_with fail
  clear c0 c2
  have BW : Blk ((w.alloc (.cells #[.int .i64 16, .int .i64 x.d, .int .i64 a, .int .i64 x.b, .int .i64 x.c, .int .i64 x.n, .slice la ln lc, .slice ma mn mc, .slice va vn vc] 36)).alloc (.cells #[.int .i64 a] 3)) (w.heap.size + 1) 3 #[.int .i64 a] := by
    have h1 := Blk.new (w.alloc (.cells #[.int .i64 16, .int .i64 x.d, .int .i64 a, .int .i64 x.b, .int .i64 x.c, .int .i64 x.n, .slice la ln lc, .slice ma mn mc, .slice va vn vc] 36)) 3 #[.int .i64 a]
    rwa [show (w.alloc (.cells #[.int .i64 16, .int .i64 x.d, .int .i64 a, .int .i64 x.b, .int .i64 x.c, .int .i64 x.n, .slice la ln lc, .slice ma mn mc, .slice va vn vc] 36)).heap.size = w.heap.size + 1 by simp] at h1
  have TW : Hid (Still w ((w.alloc (.cells #[.int .i64 16, .int .i64 x.d, .int .i64 a, .int .i64 x.b, .int .i64 x.c, .int .i64 x.n, .slice la ln lc, .slice ma mn mc, .slice va vn vc] 36)).alloc (.cells #[.int .i64 a] 3))) := S1.out.1.alloc _
  generalize (w.alloc (.cells #[.int .i64 16, .int .i64 x.d, .int .i64 a, .int .i64 x.b, .int .i64 x.c, .int .i64 x.n, .slice la ln lc, .slice ma mn mc, .slice va vn vc] 36)).alloc (.cells #[.int .i64 a] 3) = w3 at BW TW ⊢
  obtain ⟨J, hJ⟩ : ∃ J, w.heap.size + 1 = J := ⟨_, rfl⟩
  rw [hJ] at BW
  rw [hJ]
  have HN1 := ints_one BW H64.out
  have HNU := Lib.hid (numbers_any c (HH.out.still TW.out) (cc := 1) HN1 (Nat.le_refl _) (by decide))
  rw [HX.out] at HNU
  clear BW HN1 hJ
  refine HNU.out.mono ?_; rintro e w5 ⟨t5, ⟨hp, rfl⟩ | ⟨hp, rfl⟩⟩
  rotate_left
  · exact ⟨rfl, .inr ⟨fun e => hp (by rw [HNE.out] at e; intro s hs; rw [List.mem_singleton.1 hs]; exact e), rfl, (TW.out.trans t5).turn⟩⟩
  have HP := Lib.hid (hp a (List.mem_singleton.2 rfl))
  have T5 : Hid (Still w w5) := TW.out.trans t5
  clear hp t5
  go_wp2_with fail
  go_end0
  have H7 := HH.out.still T5.out
  refine .inl ⟨?_, rfl, ⟨r, l, H7.now, by rw [HNX.out]; exact H7.kn, .inl rfl⟩, T5.out.turn⟩
  rw [HNE.out]
  exact HP.out
end Go.Proofs.YtglalgjffkoneaaGreatDoor
/- What an instruction needs, and does: a number out of two. -/
namespace Go.Proofs.YtglalgjffkoneaaGreatDoor
set_option linter.unusedVariables false
set_option linter.unusedSimpArgs false
open Go.ChangeShapes Go.WideShapes Go.ChangeAt Go.RowKit
open Vf (K nth nth_nat tyAt atK isK numT oneT le beginK tsub)
/-- A row of two numbers just made. -/
theorem ints_two {w : World} {J : Nat} {a b : Int} (h : Blk w J 3 #[.int .i64 a, .int .i64 b]) (ha : In64 a) (hb : In64 b) : Ints w.heap.size w (some ⟨J, 0, none⟩) 2 [a, b] := ⟨rfl, fun _ => ⟨J, 0, rfl, h.lt, fun i y hi => by
  match i, hi with
  | 0, hi =>
    obtain rfl : y = a := by simpa using hi.symm
    exact ⟨[.int .i64 y], rfl, ⟨rfl, ha⟩, fun j hj => by
      obtain rfl : j = 0 := by omega
      exact h.cell 0⟩
  | 1, hi =>
    obtain rfl : y = b := by simpa using hi.symm
    exact ⟨[.int .i64 y], rfl, ⟨rfl, hb⟩, fun j hj => by
      obtain rfl : j = 0 := by omega
      exact h.cell 1⟩
  | i + 2, hi => simp at hi⟩⟩
set_option maxRecDepth 100000 in
set_option maxHeartbeats 8000000 in
theorem step_prim (c : WkC) (x : M.Ins) (hop : x.op = 4) : StepOk c x := by
  intro w f g fi bi ii N r T Y l k la ln lc ma mn mc va vn vc h hx
  have HH := Lib.hid h
  have HOP := Lib.hid hop
  have H64 := Lib.hid hx.a64
  have HNE : Hid (Vf.Needs c.m f k x = ((1 ≤ x.n ∧ x.n ≤ 8) ∧ isK k x.a numT ∧ isK k x.b numT ∧ Vf.hasK k x.d)) := by show _ = _; unfold Vf.Needs; rw [hop]; rfl
  have HNX : Hid (Vf.next c.m k x = Vf.setK k x.d numT) := by show _ = _; unfold Vf.next; rw [hop]; rfl
  have S1 : Hid (Still w (w.alloc (.cells #[.int .i64 x.op, .int .i64 x.d, .int .i64 x.a, .int .i64 x.b, .int .i64 x.c, .int .i64 x.n, .slice la ln lc, .slice ma mn mc, .slice va vn vc] 36)) ∧ Blk (w.alloc (.cells #[.int .i64 x.op, .int .i64 x.d, .int .i64 x.a, .int .i64 x.b, .int .i64 x.c, .int .i64 x.n, .slice la ln lc, .slice ma mn mc, .slice va vn vc] 36)) w.heap.size 36 #[.int .i64 x.op, .int .i64 x.d, .int .i64 x.a, .int .i64 x.b, .int .i64 x.c, .int .i64 x.n, .slice la ln lc, .slice ma mn mc, .slice va vn vc]) := ⟨(Still.refl w).alloc _, Blk.new w _ _⟩
  obtain ⟨X, hX⟩ : ∃ X, c.X = X := ⟨_, rfl⟩
  have HX := Lib.hid hX
  have c1 := S1.out.2.cell 1
  rw [hop] at S1 c1 ⊢
  rw [hX]
  clear hx
  generalize x.d = d at *
  generalize x.n = xn at *
  clear h hop hX
  go_enter Tryz.func59, Tryz.ntmps59
  have c2 := S1.out.2.cell 2
  have c3 := S1.out.2.cell 3
  have c5 := S1.out.2.cell 5
  obtain ⟨q, hq⟩ : ∃ q, decide (1 ≤ xn ∧ xn ≤ 8) = q := ⟨_, rfl⟩
  cases q with
  | false =>
    have hn : ¬ (1 ≤ xn ∧ xn ≤ 8) := of_decide_eq_false hq
    have HN := Lib.hid hn
    have T1 := Lib.hid S1.out.1
    by_cases h1 : 1 ≤ xn
    · have y1 : decide (1 ≤ xn) = true := decide_eq_true h1
      have y2 : decide (xn ≤ 8) = false := decide_eq_false (by omega)
      clear hq hn h1
      go_wp2_with fail
      refine (need_no _).mono ?_; rintro e w3 ⟨rfl, hw3⟩; subst w3
      exact ⟨rfl, .inr ⟨fun e => HN.out (by rw [HNE.out] at e; exact e.1), rfl, T1.out.turn⟩⟩
    · have y1 : decide (1 ≤ xn) = false := decide_eq_false h1
      clear hq hn h1
      go_wp2_with fail
      refine (need_no _).mono ?_; rintro e w3 ⟨rfl, hw3⟩; subst w3
      exact ⟨rfl, .inr ⟨fun e => HN.out (by rw [HNE.out] at e; exact e.1), rfl, T1.out.turn⟩⟩
  | true =>
    obtain ⟨h1, h2⟩ := of_decide_eq_true hq
    have HPN : Hid (1 ≤ xn ∧ xn ≤ 8) := ⟨h1, h2⟩
    have y1 : decide (1 ≤ xn) = true := decide_eq_true h1
    have y2 : decide (xn ≤ 8) = true := decide_eq_true h2
    clear hq h1 h2
    go_wp2_with fail
    refine (need_yes _).mono ?_; rintro e w2 ⟨rfl, hw2⟩; subst w2
    go_wp2_with fail
    clear c1 c2 c3 c5 y1 y2
    have BW : Blk ((w.alloc (.cells #[.int .i64 4, .int .i64 d, .int .i64 x.a, .int .i64 x.b, .int .i64 x.c, .int .i64 xn, .slice la ln lc, .slice ma mn mc, .slice va vn vc] 36)).alloc (.cells #[.int .i64 x.a, .int .i64 x.b] 3)) (w.heap.size + 1) 3 #[.int .i64 x.a, .int .i64 x.b] := by
      have h1 := Blk.new (w.alloc (.cells #[.int .i64 4, .int .i64 d, .int .i64 x.a, .int .i64 x.b, .int .i64 x.c, .int .i64 xn, .slice la ln lc, .slice ma mn mc, .slice va vn vc] 36)) 3 #[.int .i64 x.a, .int .i64 x.b]
      rwa [show (w.alloc (.cells #[.int .i64 4, .int .i64 d, .int .i64 x.a, .int .i64 x.b, .int .i64 x.c, .int .i64 xn, .slice la ln lc, .slice ma mn mc, .slice va vn vc] 36)).heap.size = w.heap.size + 1 by simp] at h1
    have S2 : Hid (Still w ((w.alloc (.cells #[.int .i64 4, .int .i64 d, .int .i64 x.a, .int .i64 x.b, .int .i64 x.c, .int .i64 xn, .slice la ln lc, .slice ma mn mc, .slice va vn vc] 36)).alloc (.cells #[.int .i64 x.a, .int .i64 x.b] 3)) ∧ Blk ((w.alloc (.cells #[.int .i64 4, .int .i64 d, .int .i64 x.a, .int .i64 x.b, .int .i64 x.c, .int .i64 xn, .slice la ln lc, .slice ma mn mc, .slice va vn vc] 36)).alloc (.cells #[.int .i64 x.a, .int .i64 x.b] 3)) w.heap.size 36 #[.int .i64 4, .int .i64 d, .int .i64 x.a, .int .i64 x.b, .int .i64 x.c, .int .i64 xn, .slice la ln lc, .slice ma mn mc, .slice va vn vc]) := ⟨S1.out.1.alloc _, S1.out.2.alloc _⟩
    generalize (w.alloc (.cells #[.int .i64 4, .int .i64 d, .int .i64 x.a, .int .i64 x.b, .int .i64 x.c, .int .i64 xn, .slice la ln lc, .slice ma mn mc, .slice va vn vc] 36)).alloc (.cells #[.int .i64 x.a, .int .i64 x.b] 3) = w1 at BW S2 ⊢
    clear S1
    obtain ⟨J, hJ⟩ : ∃ J, w.heap.size + 1 = J := ⟨_, rfl⟩
    rw [hJ] at BW
    rw [hJ]
    obtain ⟨K0, hK0⟩ : ∃ K0, w.heap.size = K0 := ⟨_, rfl⟩
    rw [hK0] at S2
    rw [hK0]
    have HK0 := Lib.hid hK0
    clear hK0 hJ
    have HNU := Lib.hid (numbers_any c (HH.out.still S2.out.1) (cc := 2) (ints_two BW H64.out.1 H64.out.2.1) (Nat.le_refl _) (by decide))
    rw [HX.out] at HNU
    clear BW
    refine HNU.out.mono ?_; rintro e w3 ⟨t3, ⟨hp, rfl⟩ | ⟨hp, rfl⟩⟩
    rotate_left
    · exact ⟨rfl, .inr ⟨fun e => hp (by
        rw [HNE.out] at e
        intro s hs
        rcases List.mem_cons.1 hs with rfl | hs
        · exact e.2.1
        · rw [List.mem_singleton.1 hs]; exact e.2.2.1), rfl, (S2.out.1.trans t3).turn⟩⟩
    have HP : Hid (isK k x.a numT ∧ isK k x.b numT) := ⟨hp _ (by simp), hp _ (by simp)⟩
    have S1 : Hid (Still w w3 ∧ Blk w3 K0 36 #[.int .i64 4, .int .i64 d, .int .i64 x.a, .int .i64 x.b, .int .i64 x.c, .int .i64 xn, .slice la ln lc, .slice ma mn mc, .slice va vn vc]) := ⟨S2.out.1.trans t3, t3.blk S2.out.2⟩
    have H1 := Lib.hid (HH.out.still S1.out.1)
    clear hp t3
    obtain ⟨wD, hwD⟩ : ∃ wD, w3.drew = wD := ⟨_, rfl⟩
    have SD : Hid (Still w3 wD) := by rw [← hwD]; exact (Still.refl w3).drew
    have H2 := Lib.hid (H1.out.still SD.out)
    obtain ⟨b0, hb0⟩ : ∃ b0, c.b0 = b0 := ⟨_, rfl⟩
    have HB0 := Lib.hid hb0
    have x19 : wD.cell? ⟨X, 19, none⟩ = some (.func (.func 86) #[] #[.pointer (some ⟨N, 0, none⟩)]) := by rw [← HX.out]; exact H2.out.box.cell 19
    have x9 : wD.cell? ⟨X, 9, none⟩ = some (.pointer (some ⟨b0, 0, none⟩)) := by rw [← HX.out, ← hb0]; exact H2.out.box.cell 9
    have k1 : wD.cell? ⟨K0, 1, none⟩ = some (.int .i64 d) := (SD.out.blk S1.out.2).cell 1
    have lX : X < wD.heap.size := by have := H2.out.box.lt; rwa [HX.out] at this
    have lK : K0 < wD.heap.size := (SD.out.blk S1.out.2).lt
    have henter : ∀ (args : Array Value) (W : World), (callFunc 86 args).run Tryz.prog W = .ok (.enter 86 args) W := enters_of Tryz.func86 (by kernel_rfl) rfl
    have HGV := Lib.hid (give_any H2.out.now H2.out.ne.2.1 d (some b0))
    clear hb0
    go_wp2_with fail
    refine wp_region_held_drew (S := fun W => W.cell? ⟨X, 19, none⟩ = some (.func (.func 86) #[] #[.pointer (some ⟨N, 0, none⟩)]) ∧ W.cell? ⟨X, 9, none⟩ = some (.pointer (some ⟨b0, 0, none⟩)) ∧ W.cell? ⟨K0, 1, none⟩ = some (.int .i64 d)) (by kernel_rfl) (by rw [hwD]; exact ⟨x19, x9, k1⟩) (fun hHeld => ?_)
    try simp only [Act.put, List.getElem_toArray, List.getElem_cons_succ, List.getElem_cons_zero, List.setIfInBounds_toArray, List.set_cons_zero, List.set_cons_succ]
    rw [hwD] at hHeld ⊢
    clear hwD
    refine wpAnyH_take (i := 0) (v := ?_) rfl (by kernel_rfl) (by kernel_rfl) (by kernel_rfl) (fun _ _ _ h => h) (Or.inl ⟨by rfl, ?_⟩) (by assumption) ?_
    rotate_left
    · intro w hSw; (try dsimp only at hSw); go_simp; try with_reducible rfl
    try simp only [Act.put, List.getElem_toArray, List.getElem_cons_succ, List.getElem_cons_zero, List.setIfInBounds_toArray, List.set_cons_zero, List.set_cons_succ]
    refine wpAnyH_take (i := 1) (v := ?_) rfl (by kernel_rfl) (by kernel_rfl) (by kernel_rfl) (fun _ _ _ h => h) (Or.inl ⟨by rfl, ?_⟩) (by assumption) ?_
    rotate_left
    · intro w hSw; (try dsimp only at hSw); go_simp; try with_reducible rfl
    try simp only [Act.put, List.getElem_toArray, List.getElem_cons_succ, List.getElem_cons_zero, List.setIfInBounds_toArray, List.set_cons_zero, List.set_cons_succ]
    refine wpAnyH_take (i := 2) (v := ?_) rfl (by kernel_rfl) (by kernel_rfl) (by kernel_rfl) (fun _ _ _ h => h) (Or.inl ⟨by rfl, ?_⟩) (by assumption) ?_
    rotate_left
    · intro w hSw; (try dsimp only at hSw); go_simp; try with_reducible rfl
    try simp only [Act.put, List.getElem_toArray, List.getElem_cons_succ, List.getElem_cons_zero, List.setIfInBounds_toArray, List.set_cons_zero, List.set_cons_succ]
    refine wpAnyH_take (i := 3) (v := ?_) rfl (by kernel_rfl) (by kernel_rfl) (by kernel_rfl) (fun _ _ _ h => h) (Or.inl ⟨by rfl, ?_⟩) (by assumption) ?_
    rotate_left
    · intro w hSw; (try dsimp only at hSw); go_simp; try with_reducible rfl
    try simp only [Act.put, List.getElem_toArray, List.getElem_cons_succ, List.getElem_cons_zero, List.setIfInBounds_toArray, List.set_cons_zero, List.set_cons_succ]
    refine wpAnyH_take (i := 4) (v := ?_) rfl (by kernel_rfl) (by kernel_rfl) (by kernel_rfl) (fun _ _ _ h => h) (Or.inl ⟨by rfl, ?_⟩) (by assumption) ?_
    rotate_left
    · intro w hSw; (try dsimp only at hSw); go_simp; try with_reducible rfl
    try simp only [Act.put, List.getElem_toArray, List.getElem_cons_succ, List.getElem_cons_zero, List.setIfInBounds_toArray, List.set_cons_zero, List.set_cons_succ]
    refine wpAnyH_take (i := 5) (v := ?_) rfl (by kernel_rfl) (by kernel_rfl) (by kernel_rfl) (fun _ _ _ h => h) (Or.inl ⟨by rfl, ?_⟩) (by assumption) ?_
    rotate_left
    · intro w hSw; (try dsimp only at hSw); go_simp; try with_reducible rfl
    try simp only [Act.put, List.getElem_toArray, List.getElem_cons_succ, List.getElem_cons_zero, List.setIfInBounds_toArray, List.set_cons_zero, List.set_cons_succ]
    refine wpAnyH_take (i := 6) (v := ?_) rfl (by kernel_rfl) (by kernel_rfl) (by kernel_rfl) (fun _ _ _ h => h) (Or.inl ⟨by rfl, ?_⟩) (by assumption) ?_
    rotate_left
    · intro w hSw; (try dsimp only at hSw); go_simp; try with_reducible rfl
    try simp only [Act.put, List.getElem_toArray, List.getElem_cons_succ, List.getElem_cons_zero, List.setIfInBounds_toArray, List.set_cons_zero, List.set_cons_succ]
    refine wpAnyH_take (i := 7) (v := ?_) rfl (by kernel_rfl) (by kernel_rfl) (by kernel_rfl) (fun _ _ _ h => h) (Or.inl ⟨by rfl, ?_⟩) (by assumption) ?_
    rotate_left
    · intro w hSw; (try dsimp only at hSw); go_simp; try with_reducible rfl
    try simp only [Act.put, List.getElem_toArray, List.getElem_cons_succ, List.getElem_cons_zero, List.setIfInBounds_toArray, List.set_cons_zero, List.set_cons_succ]
    refine wpAnyH_take (i := 8) (v := ?_) rfl (by kernel_rfl) (by kernel_rfl) (by kernel_rfl) (fun _ _ _ h => h) (Or.inl ⟨by rfl, ?_⟩) (by assumption) ?_
    rotate_left
    · intro w hSw; (try dsimp only at hSw); go_simp; try with_reducible rfl
    try simp only [Act.put, List.getElem_toArray, List.getElem_cons_succ, List.getElem_cons_zero, List.setIfInBounds_toArray, List.set_cons_zero, List.set_cons_succ]
    refine wpAnyH_take (i := 9) (v := ?_) rfl (by kernel_rfl) (by kernel_rfl) (by kernel_rfl) (fun _ _ _ h => h) (Or.inl ⟨by rfl, ?_⟩) (by assumption) ?_
    rotate_left
    · intro w hSw; (try dsimp only at hSw); go_simp; try with_reducible rfl
    try simp only [Act.put, List.getElem_toArray, List.getElem_cons_succ, List.getElem_cons_zero, List.setIfInBounds_toArray, List.set_cons_zero, List.set_cons_succ]
    refine wpAnyH_take (i := 10) (v := ?_) rfl (by kernel_rfl) (by kernel_rfl) (by kernel_rfl) (fun _ _ _ h => h) (Or.inl ⟨by rfl, ?_⟩) (by assumption) ?_
    rotate_left
    · intro w hSw; (try dsimp only at hSw); go_simp; try with_reducible rfl
    try simp only [Act.put, List.getElem_toArray, List.getElem_cons_succ, List.getElem_cons_zero, List.setIfInBounds_toArray, List.set_cons_zero, List.set_cons_succ]
    refine wpAnyH_ready (rs := [11]) (by kernel_rfl) (by simp) ?_
    refine AllReadyH.cons rfl (fun K hK => ?_) AllReadyH.nil
    go_simp
    refine HGV.out.mono ?_; rintro e w5 (⟨hb, rfl, hn5, t5⟩ | ⟨hb, rfl, rfl⟩)
    · have H5 := Lib.hid (And.intro hb (And.intro hn5 t5))
      have hKr : K0 ≠ r := fun e => by have h1 := HH.out.now.row.lt; have h2 := HK0.out; omega
      have hXr : X ≠ r := fun e => by have h1 := HH.out.far.2.1; have h2 := HH.out.rows.le.2.1; rw [HX.out] at h2; omega
      have hH5 : w5.cell? ⟨X, 19, none⟩ = some (.func (.func 86) #[] #[.pointer (some ⟨N, 0, none⟩)]) ∧ w5.cell? ⟨X, 9, none⟩ = some (.pointer (some ⟨b0, 0, none⟩)) ∧ w5.cell? ⟨K0, 1, none⟩ = some (.int .i64 d) := ⟨(t5.cell (p := ⟨X, 19, none⟩) lX hXr).trans hHeld.1, (t5.cell (p := ⟨X, 9, none⟩) lX hXr).trans hHeld.2.1, (t5.cell (p := ⟨K0, 1, none⟩) lK hKr).trans hHeld.2.2⟩
      clear hb hn5 t5 hHeld
      refine hK.out _ _ hH5 (fun hHeld => ?_)
      clear hK K
      refine wpAnyH_done (by kernel_rfl) ?_ _
      clear hHeld hH5 x19 x9 k1 lX lK
      go_wp2_with fail
      go_end0
      refine .inl ⟨?_, rfl, ⟨r, _, H5.out.2.1, ?_, .inl rfl⟩, (S1.out.1.turn.trans SD.out.turn).trans (H5.out.2.2.mono fun _ _ e => .inr e)⟩
      · rw [HNE.out]
        exact ⟨HPN.out, HP.out.1, HP.out.2, (hasK_iff HH.out.kn d).1 H5.out.1⟩
      · rw [HNX.out]
        have hk5 := H2.out.kn.keep H5.out.2.2 (fun b im R hb e => H2.out.now.words b im R hb (.inr e))
        have hr := H2.out.rows
        have hz : TyK wD b0 numT := ⟨hr.wt 0 b0 numT (by rw [← HB0.out]; exact hr.z1) hr.zero, fun s hs => by simp [numT] at hs⟩
        exact hk5.set (hz.keep H5.out.2.2 (fun e => H2.out.now.words _ _ _ hz.1 (.inr e)))
    · refine ⟨rfl, .inr ⟨fun e => ?_, rfl, (S1.out.1.trans SD.out).turn⟩⟩
      rw [HNE.out] at e
      rw [(hasK_iff HH.out.kn d).2 e.2.2.2] at hb
      cases hb
end Go.Proofs.YtglalgjffkoneaaGreatDoor
/- What an instruction needs, and does: a move. -/
namespace Go.Proofs.YtglalgjffkoneaaGreatDoor
set_option linter.unusedVariables false
set_option linter.unusedSimpArgs false
open Go.ChangeShapes Go.WideShapes Go.ChangeAt Go.RowKit
open Vf (K nth nth_nat tyAt atK isK numT oneT le beginK tsub)
set_option maxRecDepth 100000 in
set_option maxHeartbeats 8000000 in
theorem step_move (c : WkC) (x : M.Ins) (hop : x.op = 3) : StepOk c x := by
  intro w f g fi bi ii N r T Y l k la ln lc ma mn mc va vn vc h hx
  have HH := Lib.hid h
  have HOP := Lib.hid hop
  have HNE : Hid (Vf.Needs c.m f k x = ((∃ t, atK k x.a = some t) ∧ Vf.hasK k x.d)) := by show _ = _; unfold Vf.Needs; rw [hop]; rfl
  have HNX : Hid (Vf.next c.m k x = Vf.setK k x.d ((atK k x.a).getD numT)) := by show _ = _; unfold Vf.next; rw [hop]; rfl
  have S1 : Hid (Still w (w.alloc (.cells #[.int .i64 x.op, .int .i64 x.d, .int .i64 x.a, .int .i64 x.b, .int .i64 x.c, .int .i64 x.n, .slice la ln lc, .slice ma mn mc, .slice va vn vc] 36)) ∧ Blk (w.alloc (.cells #[.int .i64 x.op, .int .i64 x.d, .int .i64 x.a, .int .i64 x.b, .int .i64 x.c, .int .i64 x.n, .slice la ln lc, .slice ma mn mc, .slice va vn vc] 36)) w.heap.size 36 #[.int .i64 x.op, .int .i64 x.d, .int .i64 x.a, .int .i64 x.b, .int .i64 x.c, .int .i64 x.n, .slice la ln lc, .slice ma mn mc, .slice va vn vc]) := ⟨(Still.refl w).alloc _, Blk.new w _ _⟩
  obtain ⟨X, hX⟩ : ∃ X, c.X = X := ⟨_, rfl⟩
  have HX := Lib.hid hX
  have c1 := S1.out.2.cell 1
  rw [hop] at S1 c1 ⊢
  rw [hX]
  clear hx
  generalize x.d = d at *
  generalize x.a = a at *
  clear h hop hX
  go_enter Tryz.func59, Tryz.ntmps59
  go_wp2_with fail
  generalize w.alloc (.cells #[.int .i64 3, .int .i64 d, .int .i64 a, .int .i64 x.b, .int .i64 x.c, .int .i64 x.n, .slice la ln lc, .slice ma mn mc, .slice va vn vc] 36) = w1 at S1 c1 ⊢
  obtain ⟨K0, hK0⟩ : ∃ K0, w.heap.size = K0 := ⟨_, rfl⟩
  rw [hK0] at S1 c1
  rw [hK0]
  have HK0 := Lib.hid hK0
  clear hK0
  have H1 := Lib.hid (HH.out.still S1.out.1)
  obtain ⟨wD, hwD⟩ : ∃ wD, w1.drew = wD := ⟨_, rfl⟩
  have SD : Hid (Still w1 wD) := by rw [← hwD]; exact (Still.refl w1).drew
  have H2 := Lib.hid (H1.out.still SD.out)
  have henter : ∀ (args : Array Value) (W : World), (callFunc 86 args).run Tryz.prog W = .ok (.enter 86 args) W := enters_of Tryz.func86 (by kernel_rfl) rfl
  have henter1 : ∀ (args : Array Value) (W : World), (callFunc 84 args).run Tryz.prog W = .ok (.enter 84 args) W := enters_of Tryz.func84 (by kernel_rfl) rfl
  have x19 : wD.cell? ⟨X, 19, none⟩ = some (.func (.func 86) #[] #[.pointer (some ⟨N, 0, none⟩)]) := by rw [← HX.out]; exact H2.out.box.cell 19
  have x18 : wD.cell? ⟨X, 18, none⟩ = some (.func (.func 84) #[] #[.pointer (some ⟨N, 0, none⟩)]) := by rw [← HX.out]; exact H2.out.box.cell 18
  have k1 : wD.cell? ⟨K0, 1, none⟩ = some (.int .i64 d) := (SD.out.blk S1.out.2).cell 1
  have k2 : wD.cell? ⟨K0, 2, none⟩ = some (.int .i64 a) := (SD.out.blk S1.out.2).cell 2
  have lX : X < wD.heap.size := by have := H2.out.box.lt; rwa [HX.out] at this
  have lK : K0 < wD.heap.size := (SD.out.blk S1.out.2).lt
  have HTY := Lib.hid (typed_any H2.out.now a)
  clear c1
  try go_wp2_with fail
  refine wp_region_held_drew (S := fun W => W.cell? ⟨X, 19, none⟩ = some (.func (.func 86) #[] #[.pointer (some ⟨N, 0, none⟩)]) ∧ W.cell? ⟨X, 18, none⟩ = some (.func (.func 84) #[] #[.pointer (some ⟨N, 0, none⟩)]) ∧ W.cell? ⟨K0, 1, none⟩ = some (.int .i64 d) ∧ W.cell? ⟨K0, 2, none⟩ = some (.int .i64 a)) (by kernel_rfl) (by rw [hwD]; exact ⟨x19, x18, k1, k2⟩) (fun hHeld => ?_)
  try simp only [Act.put, List.getElem_toArray, List.getElem_cons_succ, List.getElem_cons_zero, List.setIfInBounds_toArray, List.set_cons_zero, List.set_cons_succ]
  rw [hwD] at hHeld ⊢
  clear hwD
  refine wpAnyH_take (i := 0) (v := ?_) rfl (by kernel_rfl) (by kernel_rfl) (by kernel_rfl) (fun _ _ _ h => h) (Or.inl ⟨by rfl, ?_⟩) (by assumption) ?_
  rotate_left
  · intro w hSw; (try dsimp only at hSw); go_simp; try with_reducible rfl
  try simp only [Act.put, List.getElem_toArray, List.getElem_cons_succ, List.getElem_cons_zero, List.setIfInBounds_toArray, List.set_cons_zero, List.set_cons_succ]
  refine wpAnyH_take (i := 1) (v := ?_) rfl (by kernel_rfl) (by kernel_rfl) (by kernel_rfl) (fun _ _ _ h => h) (Or.inl ⟨by rfl, ?_⟩) (by assumption) ?_
  rotate_left
  · intro w hSw; (try dsimp only at hSw); go_simp; try with_reducible rfl
  try simp only [Act.put, List.getElem_toArray, List.getElem_cons_succ, List.getElem_cons_zero, List.setIfInBounds_toArray, List.set_cons_zero, List.set_cons_succ]
  refine wpAnyH_take (i := 2) (v := ?_) rfl (by kernel_rfl) (by kernel_rfl) (by kernel_rfl) (fun _ _ _ h => h) (Or.inl ⟨by rfl, ?_⟩) (by assumption) ?_
  rotate_left
  · intro w hSw; (try dsimp only at hSw); go_simp; try with_reducible rfl
  try simp only [Act.put, List.getElem_toArray, List.getElem_cons_succ, List.getElem_cons_zero, List.setIfInBounds_toArray, List.set_cons_zero, List.set_cons_succ]
  refine wpAnyH_take (i := 3) (v := ?_) rfl (by kernel_rfl) (by kernel_rfl) (by kernel_rfl) (fun _ _ _ h => h) (Or.inl ⟨by rfl, ?_⟩) (by assumption) ?_
  rotate_left
  · intro w hSw; (try dsimp only at hSw); go_simp; try with_reducible rfl
  try simp only [Act.put, List.getElem_toArray, List.getElem_cons_succ, List.getElem_cons_zero, List.setIfInBounds_toArray, List.set_cons_zero, List.set_cons_succ]
  refine wpAnyH_take (i := 4) (v := ?_) rfl (by kernel_rfl) (by kernel_rfl) (by kernel_rfl) (fun _ _ _ h => h) (Or.inl ⟨by rfl, ?_⟩) (by assumption) ?_
  rotate_left
  · intro w hSw; (try dsimp only at hSw); go_simp; try with_reducible rfl
  try simp only [Act.put, List.getElem_toArray, List.getElem_cons_succ, List.getElem_cons_zero, List.setIfInBounds_toArray, List.set_cons_zero, List.set_cons_succ]
  refine wpAnyH_take (i := 5) (v := ?_) rfl (by kernel_rfl) (by kernel_rfl) (by kernel_rfl) (fun _ _ _ h => h) (Or.inl ⟨by rfl, ?_⟩) (by assumption) ?_
  rotate_left
  · intro w hSw; (try dsimp only at hSw); go_simp; try with_reducible rfl
  try simp only [Act.put, List.getElem_toArray, List.getElem_cons_succ, List.getElem_cons_zero, List.setIfInBounds_toArray, List.set_cons_zero, List.set_cons_succ]
  refine wpAnyH_take (i := 6) (v := ?_) rfl (by kernel_rfl) (by kernel_rfl) (by kernel_rfl) (fun _ _ _ h => h) (Or.inl ⟨by rfl, ?_⟩) (by assumption) ?_
  rotate_left
  · intro w hSw; (try dsimp only at hSw); go_simp; try with_reducible rfl
  try simp only [Act.put, List.getElem_toArray, List.getElem_cons_succ, List.getElem_cons_zero, List.setIfInBounds_toArray, List.set_cons_zero, List.set_cons_succ]
  refine wpAnyH_take (i := 7) (v := ?_) rfl (by kernel_rfl) (by kernel_rfl) (by kernel_rfl) (fun _ _ _ h => h) (Or.inl ⟨by rfl, ?_⟩) (by assumption) ?_
  rotate_left
  · intro w hSw; (try dsimp only at hSw); go_simp; try with_reducible rfl
  try simp only [Act.put, List.getElem_toArray, List.getElem_cons_succ, List.getElem_cons_zero, List.setIfInBounds_toArray, List.set_cons_zero, List.set_cons_succ]
  refine wpAnyH_take (i := 8) (v := ?_) rfl (by kernel_rfl) (by kernel_rfl) (by kernel_rfl) (fun _ _ _ h => h) (Or.inl ⟨by rfl, ?_⟩) (by assumption) ?_
  rotate_left
  · intro w hSw; (try dsimp only at hSw); go_simp; try with_reducible rfl
  try simp only [Act.put, List.getElem_toArray, List.getElem_cons_succ, List.getElem_cons_zero, List.setIfInBounds_toArray, List.set_cons_zero, List.set_cons_succ]
  refine wpAnyH_take (i := 9) (v := ?_) rfl (by kernel_rfl) (by kernel_rfl) (by kernel_rfl) (fun _ _ _ h => h) (Or.inl ⟨by rfl, ?_⟩) (by assumption) ?_
  rotate_left
  · intro w hSw; (try dsimp only at hSw); go_simp; try with_reducible rfl
  try simp only [Act.put, List.getElem_toArray, List.getElem_cons_succ, List.getElem_cons_zero, List.setIfInBounds_toArray, List.set_cons_zero, List.set_cons_succ]
  refine wpAnyH_take (i := 10) (v := ?_) rfl (by kernel_rfl) (by kernel_rfl) (by kernel_rfl) (fun _ _ _ h => h) (Or.inl ⟨by rfl, ?_⟩) (by assumption) ?_
  rotate_left
  · intro w hSw; (try dsimp only at hSw); go_simp; try with_reducible rfl
  try simp only [Act.put, List.getElem_toArray, List.getElem_cons_succ, List.getElem_cons_zero, List.setIfInBounds_toArray, List.set_cons_zero, List.set_cons_succ]
  refine wpAnyH_take (i := 11) (v := ?_) rfl (by kernel_rfl) (by kernel_rfl) (by kernel_rfl) (fun _ _ _ h => h) (Or.inl ⟨by rfl, ?_⟩) (by assumption) ?_
  rotate_left
  · intro w hSw; (try dsimp only at hSw); go_simp; try with_reducible rfl
  try simp only [Act.put, List.getElem_toArray, List.getElem_cons_succ, List.getElem_cons_zero, List.setIfInBounds_toArray, List.set_cons_zero, List.set_cons_succ]
  refine wpAnyH_take (i := 12) (v := ?_) rfl (by kernel_rfl) (by kernel_rfl) (by kernel_rfl) (fun _ _ _ h => h) (Or.inl ⟨by rfl, ?_⟩) (by assumption) ?_
  rotate_left
  · intro w hSw; (try dsimp only at hSw); go_simp; try with_reducible rfl
  try simp only [Act.put, List.getElem_toArray, List.getElem_cons_succ, List.getElem_cons_zero, List.setIfInBounds_toArray, List.set_cons_zero, List.set_cons_succ]
  refine wpAnyH_take (i := 13) (v := ?_) rfl (by kernel_rfl) (by kernel_rfl) (by kernel_rfl) (fun _ _ _ h => h) (Or.inl ⟨by rfl, ?_⟩) (by assumption) ?_
  rotate_left
  · intro w hSw; (try dsimp only at hSw); go_simp; try with_reducible rfl
  try simp only [Act.put, List.getElem_toArray, List.getElem_cons_succ, List.getElem_cons_zero, List.setIfInBounds_toArray, List.set_cons_zero, List.set_cons_succ]
  refine wpAnyH_ready (rs := [14]) (by kernel_rfl) (by simp) ?_
  refine AllReadyH.cons rfl (fun K hK => ?_) AllReadyH.nil
  go_simp
  refine HTY.out.mono ?_; rintro e w4 ⟨⟨b, hb5, rfl⟩ | ⟨h5, rfl⟩, hw4⟩ <;> subst w4
  rotate_left
  · refine ⟨rfl, .inr ⟨fun e => ?_, rfl, (S1.out.1.trans SD.out).turn⟩⟩
    rw [HNE.out] at e
    obtain ⟨⟨y, e1⟩, _⟩ := e
    rcases HH.out.kn.slot a with ⟨_, e2⟩ | ⟨b, t, e2, _, _⟩
    · rw [e1] at e2; cases e2
    · rw [h5] at e2; cases e2
  obtain ⟨ty, hty, htk⟩ : ∃ ty, atK k a = some ty ∧ TyK wD b ty := by
    rcases H2.out.kn.slot a with ⟨e1, _⟩ | ⟨b', t, e1, e2, e3⟩
    · rw [hb5] at e1; cases e1
    · rw [hb5] at e1
      obtain rfl := Option.some.inj e1
      exact ⟨t, e2, e3⟩
  have HTYK := Lib.hid (And.intro hty htk)
  have HGV := Lib.hid (give_any H2.out.now H2.out.ne.2.1 d (some b))
  clear hb5 hty htk
  refine hK.out _ _ hHeld (fun hHeld => ?_)
  clear hK K
  refine wpAnyH_ready (rs := [15]) (by kernel_rfl) (by simp) ?_
  refine AllReadyH.cons rfl (fun K hK => ?_) AllReadyH.nil
  go_simp
  refine HGV.out.mono ?_; rintro e w5 (⟨hb, rfl, hn5, t5⟩ | ⟨hb, rfl, hw5⟩)
  · have H5 := Lib.hid (And.intro hb (And.intro hn5 t5))
    have hKr : K0 ≠ r := fun e => by have h1 := HH.out.now.row.lt; have h2 := HK0.out; omega
    have hXr : X ≠ r := fun e => by have h1 := HH.out.far.2.1; have h2 := HH.out.rows.le.2.1; rw [HX.out] at h2; omega
    have hH5 : w5.cell? ⟨X, 19, none⟩ = some (.func (.func 86) #[] #[.pointer (some ⟨N, 0, none⟩)]) ∧ w5.cell? ⟨X, 18, none⟩ = some (.func (.func 84) #[] #[.pointer (some ⟨N, 0, none⟩)]) ∧ w5.cell? ⟨K0, 1, none⟩ = some (.int .i64 d) ∧ w5.cell? ⟨K0, 2, none⟩ = some (.int .i64 a) := ⟨(t5.cell (p := ⟨X, 19, none⟩) lX hXr).trans hHeld.1, (t5.cell (p := ⟨X, 18, none⟩) lX hXr).trans hHeld.2.1, (t5.cell (p := ⟨K0, 1, none⟩) lK hKr).trans hHeld.2.2.1, (t5.cell (p := ⟨K0, 2, none⟩) lK hKr).trans hHeld.2.2.2⟩
    clear hb hn5 t5 hHeld
    refine hK.out _ _ hH5 (fun hHeld => ?_)
    clear hK K
    refine wpAnyH_done (by kernel_rfl) ?_ _
    clear hHeld hH5 x19 x18 k1 k2 lX lK
    go_wp2_with fail
    go_end0
    refine .inl ⟨?_, rfl, ⟨r, _, H5.out.2.1, ?_, .inl rfl⟩, (S1.out.1.turn.trans SD.out.turn).trans (H5.out.2.2.mono fun _ _ e => .inr e)⟩
    · rw [HNE.out]
      exact ⟨⟨ty, HTYK.out.1⟩, (hasK_iff HH.out.kn d).1 H5.out.1⟩
    · rw [HNX.out, HTYK.out.1]
      have hk5 := H2.out.kn.keep H5.out.2.2 (fun b im R hb e => H2.out.now.words b im R hb (.inr e))
      exact hk5.set (HTYK.out.2.keep H5.out.2.2 (fun e => H2.out.now.words _ _ _ HTYK.out.2.1 (.inr e)))
  · subst w5
    refine ⟨rfl, .inr ⟨fun e => ?_, rfl, (S1.out.1.trans SD.out).turn⟩⟩
    rw [HNE.out] at e
    rw [(hasK_iff HH.out.kn d).2 e.2] at hb
    cases hb
end Go.Proofs.YtglalgjffkoneaaGreatDoor
/- What an instruction needs, and does: an answer's. -/
namespace Go.Proofs.YtglalgjffkoneaaGreatDoor
set_option linter.unusedVariables false
set_option linter.unusedSimpArgs false
open Go.ChangeShapes Go.WideShapes Go.ChangeAt Go.RowKit
open Vf (K nth nth_nat tyAt atK isK numT oneT le beginK tsub)
set_option maxRecDepth 100000 in
set_option maxHeartbeats 8000000 in
theorem leave_jump (c : WkC) (x : M.Ins) (hop : x.op = 18) (w : World) (f : M.Fn) (g : FV) (fi bi ii : Int) (N r T Y : Nat) (l : List (Option Nat)) (k : K) (la : Option Addr) (ln lc : Nat) (ma : Option Addr) (mn mc : Nat) (va : Option Addr) (vn vc : Nat) (h : WkAt c w f g fi bi ii N r T Y l k) :
    Calls Tryz.prog 95 #[.pointer (some ⟨c.X, 0, none⟩), .agg #[.int .i64 18, .int .i64 x.d, .int .i64 x.a, .int .i64 x.b, .int .i64 x.c, .int .i64 x.n, .slice la ln lc, .slice ma mn mc, .slice va vn vc]] w (StepR c f N r k x w) := by
  have HH := Lib.hid h
  have HNE : Hid (Vf.Needs c.m f k x = Vf.FitsK c.m f k x.a) := by show _ = _; unfold Vf.Needs; rw [hop]; rfl
  have HNX : Hid (Vf.next c.m k x = k) := by show _ = _; unfold Vf.next; rw [hop]; rfl
  have S1 : Hid (Still w (w.alloc (.cells #[.int .i64 18, .int .i64 x.d, .int .i64 x.a, .int .i64 x.b, .int .i64 x.c, .int .i64 x.n, .slice la ln lc, .slice ma mn mc, .slice va vn vc] 36)) ∧ Blk (w.alloc (.cells #[.int .i64 18, .int .i64 x.d, .int .i64 x.a, .int .i64 x.b, .int .i64 x.c, .int .i64 x.n, .slice la ln lc, .slice ma mn mc, .slice va vn vc] 36)) w.heap.size 36 #[.int .i64 18, .int .i64 x.d, .int .i64 x.a, .int .i64 x.b, .int .i64 x.c, .int .i64 x.n, .slice la ln lc, .slice ma mn mc, .slice va vn vc]) := ⟨(Still.refl w).alloc _, Blk.new w _ _⟩
  obtain ⟨X, hX⟩ : ∃ X, c.X = X := ⟨_, rfl⟩
  have HX := Lib.hid hX
  rw [hX]
  generalize x.a = a at *
  obtain ⟨kf, hkf, hkl⟩ : ∃ kf : Nat, f.result = kf ∧ kf < c.m.types.length := by
    have h1 := h.ok
    unfold fnB at h1
    simp only [Bool.and_eq_true] at h1
    obtain ⟨e1, e2⟩ := (hasB_iff _ _).1 h1.1.2
    obtain ⟨kf, hkf⟩ := Int.eq_ofNat_of_zero_le e1
    exact ⟨kf, hkf, by omega⟩
  obtain ⟨tb, htb⟩ : ∃ tb, c.bs[kf]? = some tb := ⟨_, List.getElem?_eq_getElem (by rw [h.rows.lb]; exact hkl)⟩
  obtain ⟨tt, htt⟩ : ∃ tt, c.m.types[kf]? = some tt := ⟨_, List.getElem?_eq_getElem hkl⟩
  have HTB : Hid (c.bs[kf]? = some tb ∧ c.m.types[kf]? = some tt ∧ tyAt c.m f.result = tt) := ⟨htb, htt, by unfold tyAt; rw [hkf, nth_nat, htt]; rfl⟩
  obtain ⟨r1, hr1⟩ : ∃ r1, c.r1 = r1 := ⟨_, rfl⟩
  have HR1 := Lib.hid hr1
  obtain ⟨tn, htn⟩ : ∃ tn, c.v.tn = tn := ⟨_, rfl⟩
  have HTN := Lib.hid htn
  have hktn : kf < tn := by have := h.rows.img.types.len; omega
  have HKF := Lib.hid hkf
  clear h hop hX hkf htb htt hr1 htn hkl
  go_enter Tryz.func95, Tryz.ntmps95
  go_wp2_with fail
  generalize w.alloc (.cells #[.int .i64 18, .int .i64 x.d, .int .i64 a, .int .i64 x.b, .int .i64 x.c, .int .i64 x.n, .slice la ln lc, .slice ma mn mc, .slice va vn vc] 36) = w1 at S1 ⊢
  obtain ⟨K0, hK0⟩ : ∃ K0, w.heap.size = K0 := ⟨_, rfl⟩
  rw [hK0] at S1
  rw [hK0]
  have HK0 := Lib.hid hK0
  clear hK0
  have H1 := Lib.hid (HH.out.still S1.out.1)
  have x7 : w1.cell? ⟨X, 7, none⟩ = some (.slice (some ⟨r1, 0, none⟩) tn c.rc) := by rw [← HX.out, ← HR1.out, ← HTN.out]; exact H1.out.box.cell 7
  have x12 : w1.cell? ⟨X, 12, none⟩ = some (.int .i64 kf) := by rw [← HX.out, ← HKF.out, ← HH.out.fn.1]; exact H1.out.box.cell 12
  have xr : w1.cell? ⟨r1, kf, none⟩ = some (.pointer (some ⟨tb, 0, none⟩)) := by rw [← HR1.out]; exact H1.out.rows.rt kf tb HTB.out.1
  have y7 : w1.drew.cell? ⟨X, 7, none⟩ = some (.slice (some ⟨r1, 0, none⟩) tn c.rc) := x7
  have y12 : w1.drew.cell? ⟨X, 12, none⟩ = some (.int .i64 kf) := x12
  have yr : w1.drew.cell? ⟨r1, kf, none⟩ = some (.pointer (some ⟨tb, 0, none⟩)) := xr
  have lX : X < w1.heap.size := by rw [← HX.out]; exact H1.out.box.lt
  have lr : r1 < w1.heap.size := World.block_lt_of_cell? _ _ xr
  have hki : (kf : Int) < tn := by omega
  go_region
  have c0 : w1.drew.cell? ⟨K0, 0, none⟩ = some (.int .i64 18) := S1.out.2.cell 0
  have c0' : w1.cell? ⟨K0, 0, none⟩ = some (.int .i64 18) := S1.out.2.cell 0
  clear x7 x12 xr y7 y12 yr
  have SD1 : Hid (Still w1 w1.drew) := (Still.refl w1).drew
  have c2 : w1.drew.cell? ⟨K0, 2, none⟩ = some (.int .i64 a) := S1.out.2.cell 2
  have c2' : w1.cell? ⟨K0, 2, none⟩ = some (.int .i64 a) := S1.out.2.cell 2
  go_wp2_with fail
  have TT : Hid (Still w w1.drew) := S1.out.1.trans SD1.out
  have HTO := Lib.hid (to_any c (HH.out.still TT.out) a)
  rw [HX.out] at HTO
  refine HTO.out.mono ?_; rintro e w5 ⟨t5, ⟨hp, rfl⟩ | ⟨hp, rfl⟩⟩
  · have T5 : Hid (Still w w5) := TT.out.trans t5
    have HP := Lib.hid hp
    clear hp t5
    go_wp2_with fail
    go_end0
    have H7 := HH.out.still T5.out
    refine .inl ⟨?_, rfl, ⟨r, l, H7.now, by rw [HNX.out]; exact H7.kn, .inl rfl⟩, T5.out.turn⟩
    rw [HNE.out]
    exact HP.out
  · exact ⟨rfl, .inr ⟨fun e => hp (by rw [HNE.out] at e; exact e), rfl, (TT.out.trans t5).turn⟩⟩
set_option maxRecDepth 100000 in
set_option maxHeartbeats 8000000 in
theorem step_jump (c : WkC) (x : M.Ins) (hop : x.op = 18) : StepOk c x := by
  intro w f g fi bi ii N r T Y l k la ln lc ma mn mc va vn vc h hx
  have S1 : Hid (Still w (w.alloc (.cells #[.int .i64 18, .int .i64 x.d, .int .i64 x.a, .int .i64 x.b, .int .i64 x.c, .int .i64 x.n, .slice la ln lc, .slice ma mn mc, .slice va vn vc] 36)) ∧ Blk (w.alloc (.cells #[.int .i64 18, .int .i64 x.d, .int .i64 x.a, .int .i64 x.b, .int .i64 x.c, .int .i64 x.n, .slice la ln lc, .slice ma mn mc, .slice va vn vc] 36)) w.heap.size 36 #[.int .i64 18, .int .i64 x.d, .int .i64 x.a, .int .i64 x.b, .int .i64 x.c, .int .i64 x.n, .slice la ln lc, .slice ma mn mc, .slice va vn vc]) := ⟨(Still.refl w).alloc _, Blk.new w _ _⟩
  have HL := Lib.hid (leave_jump c x hop _ f g fi bi ii N r T Y l k la ln lc ma mn mc va vn vc (h.still S1.out.1))
  rw [hop]
  have c0 := S1.out.2.cell 0
  have c1 := S1.out.2.cell 1
  have c2 := S1.out.2.cell 2
  have c3 := S1.out.2.cell 3
  have c4 := S1.out.2.cell 4
  have c5 := S1.out.2.cell 5
  have c6 := S1.out.2.cell 6
  have c7 := S1.out.2.cell 7
  have c8 := S1.out.2.cell 8
  have HSR : Hid (∀ e W, StepR c f N r k x (w.alloc (.cells #[.int .i64 18, .int .i64 x.d, .int .i64 x.a, .int .i64 x.b, .int .i64 x.c, .int .i64 x.n, .slice la ln lc, .slice ma mn mc, .slice va vn vc] 36)) e W → StepR c f N r k x w e W) := fun e W hs => by
    rcases hs with ⟨h1, h2, ⟨r', l', h3, h4, h5⟩, h6⟩ | ⟨h1, h2, h3⟩
    · exact .inl ⟨h1, h2, ⟨r', l', h3, h4, h5.elim .inl fun e => .inr (Nat.le_trans S1.out.1.size e)⟩, S1.out.1.turn.trans h6⟩
    · exact .inr ⟨h1, h2, S1.out.1.turn.trans h3⟩
  clear h hx hop
  go_enter Tryz.func59, Tryz.ntmps59
  go_wp2_with fail
  clear c0 c1 c2 c3 c4 c5 c6 c7 c8
  refine HL.out.mono ?_; rintro e w5 hs
  have hs2 := HSR.out _ _ hs
  clear hs
  rcases hs2 with ⟨h1, rfl, h3, h4⟩ | ⟨h1, rfl, h3⟩
  · have HS := Lib.hid (And.intro h1 (And.intro h3 h4))
    clear h1 h3 h4
    go_wp2_with fail
    go_end0
    exact .inl ⟨HS.out.1, rfl, HS.out.2.1, HS.out.2.2⟩
  · exact ⟨rfl, .inr ⟨h1, rfl, h3⟩⟩
end Go.Proofs.YtglalgjffkoneaaGreatDoor
/- fields: those of a shape of that kind. -/
namespace Go.Proofs.YtglalgjffkoneaaGreatDoor
set_option linter.unusedVariables false
set_option linter.unusedSimpArgs false
open Go.ChangeShapes Go.WideShapes Go.ChangeAt Go.RowKit
open Vf (K nth nth_nat tyAt atK isK numT oneT le beginK tsub RowK FitsK)
def FieldsR (c : WkC) (P : M.Sh → Prop) (n : Int) (w : World) (e : Ending) (w' : World) : Prop := w' = w ∧
  ((∃ s a k cc, nth c.m.shapes n = some s ∧ P s ∧ e = .returned (.slice a k cc) ∧ Ints c.B w a k s.fields ∧ k ≤ maxLen) ∨ ((∀ s, nth c.m.shapes n = some s → ¬ P s) ∧ e = .panicked [{ v := wrongV, recovered := false }]))
set_option maxRecDepth 100000 in
set_option maxHeartbeats 8000000 in
theorem fields_any (c : WkC) {w : World} {f : M.Fn} {g : FV} {fi bi ii : Int} {N r T Y : Nat} {l : List (Option Nat)} {k : K} (h : WkAt c w f g fi bi ii N r T Y l k) (shape kind : Int) :
    Calls Tryz.prog 131 #[.pointer (some ⟨c.X, 0, none⟩), .int .i64 shape, .int .i64 kind] w (FieldsR c (fun s => s.kind = kind) shape w) := by
  have HIM := Lib.hid h.rows.img
  have HBL := Lib.hid h.rows.le
  obtain ⟨X, hX⟩ : ∃ X, c.X = X := ⟨_, rfl⟩
  obtain ⟨sa, hsa⟩ : ∃ sa, c.v.sa = sa := ⟨_, rfl⟩
  obtain ⟨sn, hsn⟩ : ∃ sn, c.v.sn = sn := ⟨_, rfl⟩
  obtain ⟨sc, hsc⟩ : ∃ sc, c.v.sc = sc := ⟨_, rfl⟩
  have HG : Hid (c.v.sa = sa ∧ c.v.sn = sn) := ⟨hsa, hsn⟩
  have HL : Hid (c.m.shapes.length = sn) := by show _ = _; rw [← hsn]; exact h.rows.img.shapes.len
  have x1 : w.cell? ⟨X, 1, none⟩ = some (.slice sa sn sc) := by rw [← hX, ← hsa, ← hsn, ← hsc]; exact h.box.cell 1
  have lX : X < w.heap.size := by rw [← hX]; exact h.box.lt
  rw [hX]
  clear h hX hsa hsn hsc
  go_enter Tryz.func131, Tryz.ntmps131
  go_wp2_with fail
  refine (hasSh_any _ _ _ _ _).mono ?_; rintro e w2 ⟨rfl, hw2⟩; subst w2
  cases hb : hasB shape sn with
  | false =>
    have HN : Hid (nth c.m.shapes shape = none) := nth_has HL.out hb
    go_wp2_with fail
    refine (need_no _).mono ?_; rintro e w2 ⟨rfl, hw2⟩; subst w2
    exact ⟨rfl, rfl, .inr ⟨fun s e => absurd (HN.out.symm.trans e) (by simp), rfl⟩⟩
  | true =>
    obtain ⟨h0, h1⟩ := (hasB_iff _ _).1 hb
    obtain ⟨m, rfl⟩ := Int.eq_ofNat_of_zero_le h0
    have hmn : m < sn := by omega
    obtain ⟨s, hs⟩ : ∃ s, c.m.shapes[m]? = some s := ⟨_, List.getElem?_eq_getElem (by have := HL.out; omega)⟩
    obtain ⟨bb, ob, hba, hbB, hbx⟩ := HIM.out.shapes.at_ (by have := HG.out.2; omega)
    obtain rfl : sa = some ⟨bb, ob, none⟩ := HG.out.1.symm.trans hba
    obtain ⟨cs, q1, q2, q3⟩ := hbx m s hs
    obtain ⟨fa, fn, fc, rfl, hfn, hk64, hnm, hfi⟩ := q2
    have k0 : w.cell? ⟨bb, ob + m * 3, none⟩ = some (.int .i64 s.kind) := q3 0 (by decide)
    have k1 : w.cell? ⟨bb, ob + m * 3 + 1, none⟩ = some (.slice fa fn fc) := q3 1 (by decide)
    have HIN : Hid (Ints c.B w fa fn s.fields ∧ fn ≤ maxLen) := ⟨hfi, hfn⟩
    have HXM : Hid (nth c.m.shapes (m : Int) = some s) := (nth_nat c.m.shapes m).trans hs
    have lb : bb < w.heap.size := Nat.lt_of_lt_of_le hbB (by have := HBL.out; omega)
    obtain ⟨sk, hsk⟩ : ∃ sk, s.kind = sk := ⟨_, rfl⟩
    have HSK := Lib.hid hsk
    rw [hsk] at k0
    clear hba hbB hbx q1 q3 hfi hfn hnm hk64 hs hb h0 hsk
    by_cases hkk : sk = kind
    · subst hkk
      have xk : (sk == sk) = true := by simp
      go_wp2_with fail
      refine (need_yes _).mono ?_; rintro e w2 ⟨rfl, hw2⟩; subst w2
      go_wp2_with fail
      go_ret
      exact ⟨rfl, .inl ⟨s, fa, fn, fc, HXM.out, HSK.out, rfl, HIN.out.1, HIN.out.2⟩⟩
    · have xk : (sk == kind) = false := by rw [beq_eq_false_iff_ne]; exact hkk
      go_wp2_with fail
      refine (need_no _).mono ?_; rintro e w2 ⟨rfl, hw2⟩; subst w2
      exact ⟨rfl, rfl, .inr ⟨fun s' e => by
        obtain rfl := Option.some.inj (HXM.out.symm.trans e)
        exact fun e => hkk (HSK.out.symm.trans e), rfl⟩⟩
end Go.Proofs.YtglalgjffkoneaaGreatDoor
/- called: a function that may be called with these slots. -/
namespace Go.Proofs.YtglalgjffkoneaaGreatDoor
set_option linter.unusedVariables false
set_option linter.unusedSimpArgs false
open Go.ChangeShapes Go.WideShapes Go.ChangeAt Go.RowKit
open Vf (K nth nth_nat tyAt atK isK numT oneT le beginK tsub RowK FitsK CalledK resT)
def CalledR (c : WkC) (k : K) (n : Int) (slots : List Int) (w : World) (e : Ending) (w' : World) : Prop := Still w w' ∧
  ((∃ b, CalledK c.m k n slots ∧ e = .returned (.pointer (some ⟨b, 0, none⟩)) ∧ TyK w' b (resT c.m n)) ∨ (¬ CalledK c.m k n slots ∧ e = .panicked [{ v := wrongV, recovered := false }]))
theorem blk_at' {w : World} {t : TypeId} {cs : Array Value} {k : Nat} (h : w.heap.size = k) : Blk (w.alloc (.cells cs t)) k t cs := h ▸ Blk.new w t cs
theorem fnB_par {nT : Nat} {f : M.Fn} (h : fnB nT f = true) : (∀ x ∈ f.params, 0 ≤ x ∧ x < nT) ∧ 0 ≤ f.result ∧ f.result < nT := by
  unfold fnB at h
  simp only [Bool.and_eq_true] at h
  refine ⟨fun x hx => ?_, (hasB_iff _ _).1 h.1.2⟩
  have h1 := h.1.1
  unfold inAll at h1
  cases hb : hasB x nT with
  | true => exact (hasB_iff _ _).1 hb
  | false =>
    have h2 : f.params.any (fun x => !hasB x nT) = true := List.any_eq_true.2 ⟨x, hx, by rw [hb]; rfl⟩
    rw [h2] at h1
    cases h1
set_option maxRecDepth 100000 in
set_option maxHeartbeats 8000000 in
theorem called_any (c : WkC) {w : World} {f : M.Fn} {g : FV} {fi bi ii : Int} {N r T Y : Nat} {l : List (Option Nat)} {k : K} (h : WkAt c w f g fi bi ii N r T Y l k) (hF : ∀ f ∈ c.m.funcs, fnB c.m.types.length f = true) (nf : Int) {B : Nat} {a : Option Addr} {n cc : Nat} {slots : List Int} (hs : Ints B w a n slots) (hB : B ≤ w.heap.size) (hn : n ≤ maxLen) :
    Calls Tryz.prog 133 #[.pointer (some ⟨c.X, 0, none⟩), .int .i64 nf, .slice a n cc] w (CalledR c k nf slots w) := by
  have HH := Lib.hid h
  have HS := Lib.hid (And.intro hs (And.intro hB hn))
  have HFF := Lib.hid hF
  obtain ⟨X, hX⟩ : ∃ X, c.X = X := ⟨_, rfl⟩
  have HX := Lib.hid hX
  obtain ⟨fa, hfa⟩ : ∃ fa, c.v.fa = fa := ⟨_, rfl⟩
  obtain ⟨fn, hfn⟩ : ∃ fn, c.v.fn = fn := ⟨_, rfl⟩
  obtain ⟨fc, hfc⟩ : ∃ fc, c.v.fc = fc := ⟨_, rfl⟩
  have HG : Hid (c.v.fa = fa ∧ c.v.fn = fn) := ⟨hfa, hfn⟩
  have HL : Hid (c.m.funcs.length = fn) := by show _ = _; rw [← hfn]; exact h.rows.img.funcs.len
  have x4 : w.cell? ⟨X, 4, none⟩ = some (.slice fa fn fc) := by rw [← hX, ← hfa, ← hfn, ← hfc]; exact h.box.cell 4
  have lX : X < w.heap.size := by rw [← hX]; exact h.box.lt
  obtain ⟨r1, hr1⟩ : ∃ r1, c.r1 = r1 := ⟨_, rfl⟩
  obtain ⟨rc, hrc⟩ : ∃ rc, c.rc = rc := ⟨_, rfl⟩
  obtain ⟨tn, htn⟩ : ∃ tn, c.v.tn = tn := ⟨_, rfl⟩
  have HR1 : Hid (c.r1 = r1 ∧ c.rc = rc ∧ c.v.tn = tn) := ⟨hr1, hrc, htn⟩
  rw [hX]
  clear h hX hfa hfn hfc hs hB hn hF hr1 hrc htn
  go_enter Tryz.func133, Tryz.ntmps133
  go_wp2_with fail
  refine (hasFn_any _ _ _ _ _).mono ?_; rintro e w2 ⟨rfl, hw2⟩; subst w2
  cases hb : hasB nf fn with
  | false =>
    have HN : Hid (nth c.m.funcs nf = none) := nth_has HL.out hb
    go_wp2_with fail
    refine (need_no _).mono ?_; rintro e w2 ⟨rfl, hw2⟩; subst w2
    refine ⟨rfl, Still.refl _, .inr ⟨fun e => ?_, rfl⟩⟩
    obtain ⟨y, e1, _⟩ := e
    exact absurd (HN.out.symm.trans e1) (by simp)
  | true =>
    obtain ⟨h0, h1⟩ := (hasB_iff _ _).1 hb
    obtain ⟨m, rfl⟩ := Int.eq_ofNat_of_zero_le h0
    have hmn : m < fn := by omega
    obtain ⟨y, hy⟩ : ∃ y, c.m.funcs[m]? = some y := ⟨_, List.getElem?_eq_getElem (by have := HL.out; omega)⟩
    obtain ⟨bb, ob, hba, hbB, hbx⟩ := HH.out.rows.img.funcs.at_ (by have := HG.out.2; omega)
    obtain rfl : fa = some ⟨bb, ob, none⟩ := HG.out.1.symm.trans hba
    obtain ⟨cs, q1, q2, q3⟩ := hbx m y hy
    obtain ⟨pa, pn, pc, qa, qn, qc, rfl, hpn, hqn, hr64, hs64, hpi, hbk⟩ := q2
    obtain ⟨fr, hfr⟩ : ∃ fr, y.result = fr := ⟨_, rfl⟩
    obtain ⟨fs, hfs⟩ : ∃ fs, y.slots = fs := ⟨_, rfl⟩
    rw [hfr, hfs] at q3
    have k0 : w.cell? ⟨bb, ob + m * 4, none⟩ = some (.slice pa pn pc) := q3 0 (by decide)
    have k1 : w.cell? ⟨bb, ob + m * 4 + 1, none⟩ = some (.int .i64 fr) := q3 1 (by decide)
    have k2 : w.cell? ⟨bb, ob + m * 4 + 2, none⟩ = some (.int .i64 fs) := q3 2 (by decide)
    have k3 : w.cell? ⟨bb, ob + m * 4 + 3, none⟩ = some (.slice qa qn qc) := q3 3 (by decide)
    have HY : Hid (Ints c.B w pa pn y.params ∧ fnB c.m.types.length y = true ∧ y.result = fr) := ⟨hpi, HFF.out y (List.mem_of_getElem? hy), hfr⟩
    have HXM : Hid (nth c.m.funcs (m : Int) = some y) := (nth_nat c.m.funcs m).trans hy
    have lb : bb < w.heap.size := Nat.lt_of_lt_of_le hbB (by have := HH.out.rows.le; omega)
    clear hba hbB hbx q1 q3 hpi hpn hqn hr64 hs64 hbk hy hb h0 hfr hfs
    go_wp2_with fail
    refine (need_yes _).mono ?_; rintro e w2 ⟨rfl, hw2⟩; subst w2
    go_wp2_with fail
    obtain ⟨J, hJ⟩ : ∃ J, w.heap.size = J := ⟨_, rfl⟩
    have BN := blk_at' (t := 45) (cs := #[.slice pa pn pc, .int .i64 fr, .int .i64 fs, .slice qa qn qc]) hJ
    have t1 : Still w (w.alloc (.cells #[.slice pa pn pc, .int .i64 fr, .int .i64 fs, .slice qa qn qc] 45)) := (Still.refl w).alloc _
    obtain ⟨w1, hw1⟩ : ∃ w1, w.alloc (.cells #[.slice pa pn pc, .int .i64 fr, .int .i64 fs, .slice qa qn qc] 45) = w1 := ⟨_, rfl⟩
    rw [hw1] at BN t1
    rw [hJ, hw1]
    have T1 : Hid (Still w w1) := t1
    have BJ := Lib.hid BN
    have HW1 := Lib.hid (HH.out.still t1)
    have HPB := fnB_par HY.out.2.1
    have HR := Lib.hid (row_any c HW1.out (cc := cc) (cc2 := pc) ((HS.out.1.up HS.out.2.1).keep (Still.below t1) (Nat.le_refl _)) ((HY.out.1.up (by have := HH.out.rows.le; omega)).keep (Still.below t1) (Nat.le_refl _)) t1.size HS.out.2.2 HPB.1)
    rw [HX.out] at HR
    obtain ⟨q, hq⟩ : ∃ q : Nat, fr = q := ⟨fr.toNat, by have := HPB.2.1; rw [HY.out.2.2] at this; omega⟩
    subst hq
    have hqt : q < c.m.types.length := by have := HPB.2.2; rw [HY.out.2.2] at this; omega
    have hqi : (q : Int) < (tn : Int) := by have h1 := HR1.out.2.2; have h2 := HH.out.rows.img.types.len; omega
    obtain ⟨bq, hbq⟩ : ∃ b, c.bs[q]? = some b := ⟨_, List.getElem?_eq_getElem (by have := HH.out.rows.lb; omega)⟩
    obtain ⟨tq, htq⟩ : ∃ t, c.m.types[q]? = some t := ⟨_, List.getElem?_eq_getElem hqt⟩
    have HQ : Hid (c.bs[q]? = some bq ∧ c.m.types[q]? = some tq) := ⟨hbq, htq⟩
    have HRT : Hid (resT c.m (m : Int) = tq) := by
      show resT _ _ = _
      unfold resT
      rw [HXM.out]
      show tyAt c.m y.result = _
      rw [HY.out.2.2]
      unfold tyAt
      rw [nth_nat, htq]
      rfl
    clear hw1 hJ BN t1 HPB k0 k1 k2 k3 lb x4 hqt hbq htq
    refine HR.out.mono ?_; rintro e w2 ⟨t2, ⟨hp, rfl⟩ | ⟨hp, rfl⟩⟩
    rotate_left
    · refine ⟨rfl, T1.out.trans t2, .inr ⟨fun e => hp ?_, rfl⟩⟩
      obtain ⟨z, e1, e2⟩ := e
      obtain rfl := Option.some.inj (HXM.out.symm.trans e1)
      exact e2
    have HP : Hid (CalledK c.m k (m : Int) slots) := ⟨y, HXM.out, hp⟩
    have T2 : Hid (Still w w2 ∧ Still w1 w2) := ⟨T1.out.trans t2, t2⟩
    obtain ⟨wD, hwD⟩ : ∃ wD, w2.drew = wD := ⟨_, rfl⟩
    have SD : Hid (Still w wD) := by rw [← hwD]; exact T2.out.1.drew
    have S1 : Hid (Still w1 wD) := by rw [← hwD]; exact T2.out.2.drew
    have H2 := Lib.hid (HH.out.still SD.out)
    have hS0 : wD.cell? ⟨X, 7, none⟩ = some (.slice (some ⟨r1, 0, none⟩) tn rc) ∧ wD.cell? ⟨J, 1, none⟩ = some (.int .i64 (q : Int)) ∧ wD.cell? ⟨r1, q, none⟩ = some (.pointer (some ⟨bq, 0, none⟩)) := ⟨by rw [← HX.out, ← HR1.out.1, ← HR1.out.2.1, ← HR1.out.2.2]; exact H2.out.box.cell 7, (S1.out.blk BJ.out).cell 1, by rw [← HR1.out.1]; exact H2.out.rows.rt q bq HQ.out.1⟩
    clear hp t2
    go_wp2_with fail
    refine wp_region_held_drew (S := fun W => W.cell? ⟨X, 7, none⟩ = some (.slice (some ⟨r1, 0, none⟩) tn rc) ∧ W.cell? ⟨J, 1, none⟩ = some (.int .i64 (q : Int)) ∧ W.cell? ⟨r1, q, none⟩ = some (.pointer (some ⟨bq, 0, none⟩))) (by kernel_rfl) (by rw [hwD]; exact hS0) (fun hHeld => ?_)
    try simp only [Act.put, List.getElem_toArray, List.getElem_cons_succ, List.getElem_cons_zero, List.setIfInBounds_toArray, List.set_cons_zero, List.set_cons_succ]
    rw [hwD] at hHeld ⊢
    clear hwD hS0
    refine wpAnyH_take (i := 0) (v := ?_) rfl (by kernel_rfl) (by kernel_rfl) (by kernel_rfl) (fun _ _ _ h => h) (Or.inl ⟨by rfl, ?_⟩) (by assumption) ?_
    rotate_left
    · intro w hSw; (try dsimp only at hSw); go_simp; try with_reducible rfl
    try simp only [Act.put, List.getElem_toArray, List.getElem_cons_succ, List.getElem_cons_zero, List.setIfInBounds_toArray, List.set_cons_zero, List.set_cons_succ]
    refine wpAnyH_take (i := 1) (v := ?_) rfl (by kernel_rfl) (by kernel_rfl) (by kernel_rfl) (fun _ _ _ h => h) (Or.inl ⟨by rfl, ?_⟩) (by assumption) ?_
    rotate_left
    · intro w hSw; (try dsimp only at hSw); go_simp; try with_reducible rfl
    try simp only [Act.put, List.getElem_toArray, List.getElem_cons_succ, List.getElem_cons_zero, List.setIfInBounds_toArray, List.set_cons_zero, List.set_cons_succ]
    refine wpAnyH_take (i := 2) (v := ?_) rfl (by kernel_rfl) (by kernel_rfl) (by kernel_rfl) (fun _ _ _ h => h) (Or.inl ⟨by rfl, ?_⟩) (by assumption) ?_
    rotate_left
    · intro w hSw; (try dsimp only at hSw); go_simp; try with_reducible rfl
    try simp only [Act.put, List.getElem_toArray, List.getElem_cons_succ, List.getElem_cons_zero, List.setIfInBounds_toArray, List.set_cons_zero, List.set_cons_succ]
    refine wpAnyH_take (i := 3) (v := ?_) rfl (by kernel_rfl) (by kernel_rfl) (by kernel_rfl) (fun _ _ _ h => h) (Or.inl ⟨by rfl, ?_⟩) (by assumption) ?_
    rotate_left
    · intro w hSw; (try dsimp only at hSw); go_simp; try with_reducible rfl
    try simp only [Act.put, List.getElem_toArray, List.getElem_cons_succ, List.getElem_cons_zero, List.setIfInBounds_toArray, List.set_cons_zero, List.set_cons_succ]
    refine wpAnyH_take (i := 4) (v := ?_) rfl (by kernel_rfl) (by kernel_rfl) (by kernel_rfl) (fun _ _ _ h => h) (Or.inl ⟨by rfl, ?_⟩) (by assumption) ?_
    rotate_left
    · intro w hSw; (try dsimp only at hSw); go_simp; try with_reducible rfl
    try simp only [Act.put, List.getElem_toArray, List.getElem_cons_succ, List.getElem_cons_zero, List.setIfInBounds_toArray, List.set_cons_zero, List.set_cons_succ]
    refine wpAnyH_take (i := 5) (v := ?_) rfl (by kernel_rfl) (by kernel_rfl) (by kernel_rfl) (fun _ _ _ h => h) (Or.inl ⟨by rfl, ?_⟩) (by assumption) ?_
    rotate_left
    · intro w hSw; (try dsimp only at hSw); go_simp; try with_reducible rfl
    try simp only [Act.put, List.getElem_toArray, List.getElem_cons_succ, List.getElem_cons_zero, List.setIfInBounds_toArray, List.set_cons_zero, List.set_cons_succ]
    refine wpAnyH_take (i := 6) (v := ?_) rfl (by kernel_rfl) (by kernel_rfl) (by kernel_rfl) (fun _ _ _ h => h) (Or.inl ⟨by rfl, ?_⟩) (by assumption) ?_
    rotate_left
    · intro w hSw; (try dsimp only at hSw); go_simp; try with_reducible rfl
    try simp only [Act.put, List.getElem_toArray, List.getElem_cons_succ, List.getElem_cons_zero, List.setIfInBounds_toArray, List.set_cons_zero, List.set_cons_succ]
    refine wpAnyH_take (i := 7) (v := ?_) rfl (by kernel_rfl) (by kernel_rfl) (by kernel_rfl) (fun _ _ _ h => h) (Or.inl ⟨by rfl, ?_⟩) (by assumption) ?_
    rotate_left
    · intro w hSw; (try dsimp only at hSw); go_simp; try with_reducible rfl
    try simp only [Act.put, List.getElem_toArray, List.getElem_cons_succ, List.getElem_cons_zero, List.setIfInBounds_toArray, List.set_cons_zero, List.set_cons_succ]
    refine wpAnyH_ready (rs := [8]) (by kernel_rfl) (by simp) ?_
    refine AllReadyH.cons rfl (fun K hK => ?_) AllReadyH.nil
    go_simp
    refine hK.out _ _ hHeld (fun hHeld => ?_)
    clear hK K
    refine wpAnyH_done (by kernel_rfl) ?_ _
    go_wp2_with fail
    go_ret
    have HNT : TyK wD bq tq := ⟨H2.out.rows.wt q bq tq HQ.out.1 HQ.out.2, H2.out.rows.ok tq (List.mem_of_getElem? HQ.out.2)⟩
    exact ⟨SD.out, .inl ⟨bq, HP.out, rfl, by rw [HRT.out]; exact HNT⟩⟩
end Go.Proofs.YtglalgjffkoneaaGreatDoor
/- What an instruction needs, and does: an answer's. -/
namespace Go.Proofs.YtglalgjffkoneaaGreatDoor
set_option linter.unusedVariables false
set_option linter.unusedSimpArgs false
open Go.ChangeShapes Go.WideShapes Go.ChangeAt Go.RowKit
open Vf (K nth nth_nat tyAt atK isK numT oneT le beginK tsub)
theorem InsIs.lrow {B : Nat} {w : World} {o d a b c n : Int} {la : Option Addr} {ln lc : Nat} {ma : Option Addr} {mn mc : Nat} {va : Option Addr} {vn vc : Nat} {x : M.Ins} (h : InsIs B w [.int .i64 o, .int .i64 d, .int .i64 a, .int .i64 b, .int .i64 c, .int .i64 n, .slice la ln lc, .slice ma mn mc, .slice va vn vc] x) : Ints B w la ln x.l ∧ ln ≤ maxLen := by
  obtain ⟨la', ln', lc', _, _, _, _, _, _, he, h1, _, _, _, hl, _⟩ := h
  simp only [List.cons.injEq, Value.slice.injEq] at he
  obtain ⟨rfl, rfl, _⟩ := he.2.2.2.2.2.2.1
  exact ⟨hl, h1⟩
set_option maxRecDepth 100000 in
set_option maxHeartbeats 8000000 in
theorem leave_tail (c : WkC) (x : M.Ins) (hop : x.op = 21) (hF : ∀ f ∈ c.m.funcs, fnB c.m.types.length f = true) (w : World) (f : M.Fn) (g : FV) (fi bi ii : Int) (N r T Y : Nat) (l : List (Option Nat)) (k : K) (la : Option Addr) (ln lc : Nat) (ma : Option Addr) (mn mc : Nat) (va : Option Addr) (vn vc : Nat) (h : WkAt c w f g fi bi ii N r T Y l k) (hrow : Ints c.B w la ln x.l ∧ ln ≤ maxLen) :
    Calls Tryz.prog 95 #[.pointer (some ⟨c.X, 0, none⟩), .agg #[.int .i64 21, .int .i64 x.d, .int .i64 x.a, .int .i64 x.b, .int .i64 x.c, .int .i64 x.n, .slice la ln lc, .slice ma mn mc, .slice va vn vc]] w (StepR c f N r k x w) := by
  have HH := Lib.hid h
  have HROW := Lib.hid hrow
  have HFF := Lib.hid hF
  have HNE : Hid (Vf.Needs c.m f k x = (Vf.CalledK c.m k x.a x.l ∧ le (Vf.resT c.m x.a) (tyAt c.m f.result) = true)) := by show _ = _; unfold Vf.Needs; rw [hop]; rfl
  have HNX : Hid (Vf.next c.m k x = k) := by show _ = _; unfold Vf.next; rw [hop]; rfl
  have S1 : Hid (Still w (w.alloc (.cells #[.int .i64 21, .int .i64 x.d, .int .i64 x.a, .int .i64 x.b, .int .i64 x.c, .int .i64 x.n, .slice la ln lc, .slice ma mn mc, .slice va vn vc] 36)) ∧ Blk (w.alloc (.cells #[.int .i64 21, .int .i64 x.d, .int .i64 x.a, .int .i64 x.b, .int .i64 x.c, .int .i64 x.n, .slice la ln lc, .slice ma mn mc, .slice va vn vc] 36)) w.heap.size 36 #[.int .i64 21, .int .i64 x.d, .int .i64 x.a, .int .i64 x.b, .int .i64 x.c, .int .i64 x.n, .slice la ln lc, .slice ma mn mc, .slice va vn vc]) := ⟨(Still.refl w).alloc _, Blk.new w _ _⟩
  obtain ⟨X, hX⟩ : ∃ X, c.X = X := ⟨_, rfl⟩
  have HX := Lib.hid hX
  rw [hX]
  generalize x.a = a at *
  obtain ⟨kf, hkf, hkl⟩ : ∃ kf : Nat, f.result = kf ∧ kf < c.m.types.length := by
    have h1 := h.ok
    unfold fnB at h1
    simp only [Bool.and_eq_true] at h1
    obtain ⟨e1, e2⟩ := (hasB_iff _ _).1 h1.1.2
    obtain ⟨kf, hkf⟩ := Int.eq_ofNat_of_zero_le e1
    exact ⟨kf, hkf, by omega⟩
  obtain ⟨tb, htb⟩ : ∃ tb, c.bs[kf]? = some tb := ⟨_, List.getElem?_eq_getElem (by rw [h.rows.lb]; exact hkl)⟩
  obtain ⟨tt, htt⟩ : ∃ tt, c.m.types[kf]? = some tt := ⟨_, List.getElem?_eq_getElem hkl⟩
  have HTB : Hid (c.bs[kf]? = some tb ∧ c.m.types[kf]? = some tt ∧ tyAt c.m f.result = tt) := ⟨htb, htt, by unfold tyAt; rw [hkf, nth_nat, htt]; rfl⟩
  obtain ⟨r1, hr1⟩ : ∃ r1, c.r1 = r1 := ⟨_, rfl⟩
  have HR1 := Lib.hid hr1
  obtain ⟨tn, htn⟩ : ∃ tn, c.v.tn = tn := ⟨_, rfl⟩
  have HTN := Lib.hid htn
  have hktn : kf < tn := by have := h.rows.img.types.len; omega
  have HKF := Lib.hid hkf
  clear h hop hX hrow hF hkf htb htt hr1 htn hkl
  go_enter Tryz.func95, Tryz.ntmps95
  go_wp2_with fail
  generalize w.alloc (.cells #[.int .i64 21, .int .i64 x.d, .int .i64 a, .int .i64 x.b, .int .i64 x.c, .int .i64 x.n, .slice la ln lc, .slice ma mn mc, .slice va vn vc] 36) = w1 at S1 ⊢
  obtain ⟨K0, hK0⟩ : ∃ K0, w.heap.size = K0 := ⟨_, rfl⟩
  rw [hK0] at S1
  rw [hK0]
  have HK0 := Lib.hid hK0
  clear hK0
  have H1 := Lib.hid (HH.out.still S1.out.1)
  have x7 : w1.cell? ⟨X, 7, none⟩ = some (.slice (some ⟨r1, 0, none⟩) tn c.rc) := by rw [← HX.out, ← HR1.out, ← HTN.out]; exact H1.out.box.cell 7
  have x12 : w1.cell? ⟨X, 12, none⟩ = some (.int .i64 kf) := by rw [← HX.out, ← HKF.out, ← HH.out.fn.1]; exact H1.out.box.cell 12
  have xr : w1.cell? ⟨r1, kf, none⟩ = some (.pointer (some ⟨tb, 0, none⟩)) := by rw [← HR1.out]; exact H1.out.rows.rt kf tb HTB.out.1
  have y7 : w1.drew.cell? ⟨X, 7, none⟩ = some (.slice (some ⟨r1, 0, none⟩) tn c.rc) := x7
  have y12 : w1.drew.cell? ⟨X, 12, none⟩ = some (.int .i64 kf) := x12
  have yr : w1.drew.cell? ⟨r1, kf, none⟩ = some (.pointer (some ⟨tb, 0, none⟩)) := xr
  have lX : X < w1.heap.size := by rw [← HX.out]; exact H1.out.box.lt
  have lr : r1 < w1.heap.size := World.block_lt_of_cell? _ _ xr
  have hki : (kf : Int) < tn := by omega
  go_region
  have c0 : w1.drew.cell? ⟨K0, 0, none⟩ = some (.int .i64 21) := S1.out.2.cell 0
  have c0' : w1.cell? ⟨K0, 0, none⟩ = some (.int .i64 21) := S1.out.2.cell 0
  clear x7 x12 xr y7 y12 yr
  have SD1 : Hid (Still w1 w1.drew) := (Still.refl w1).drew
  have c2 : w1.drew.cell? ⟨K0, 2, none⟩ = some (.int .i64 a) := S1.out.2.cell 2
  have c6 : w1.drew.cell? ⟨K0, 6, none⟩ = some (.slice la ln lc) := S1.out.2.cell 6
  have c2' : w1.cell? ⟨K0, 2, none⟩ = some (.int .i64 a) := S1.out.2.cell 2
  go_wp2_with fail
  have TT : Hid (Still w w1.drew) := S1.out.1.trans SD1.out
  have HCA := Lib.hid (called_any c (HH.out.still TT.out) HFF.out a (cc := lc) (HROW.out.1.keep ((Still.below TT.out).mono (by have := HH.out.rows.le; omega)) (by have := HH.out.rows.le; omega)) (by have h1 := HH.out.rows.le; have h2 := TT.out.size; omega) HROW.out.2)
  rw [HX.out] at HCA
  clear c0 c0' c2 c2' c6
  refine HCA.out.mono ?_; rintro e w5 ⟨t5, ⟨b, hp, rfl, htk⟩ | ⟨hp, rfl⟩⟩
  rotate_left
  · exact ⟨rfl, .inr ⟨fun e => hp (by rw [HNE.out] at e; exact e.1), rfl, (TT.out.trans t5).turn⟩⟩
  have T5 : Hid (Still w w5) := TT.out.trans t5
  have HP := Lib.hid hp
  have H5 := HH.out.still T5.out
  have HW := Lib.hid (within_any htk.1 (H5.rows.wt kf tb tt HTB.out.1 HTB.out.2.1))
  have HLE : Hid (WSub (Vf.resT c.m a).imm (ofL (Vf.resT c.m a).shapes) tt.imm (ofL tt.shapes) ↔ le (Vf.resT c.m a) tt = true) := wsub_iff htk.2 (H5.rows.ok tt (List.mem_of_getElem? HTB.out.2.1))
  clear hp t5 H5 htk
  go_wp2_with fail
  refine HW.out.mono ?_; rintro e w6 ⟨rb, rfl, hrb, t6⟩
  have HRB := Lib.hid hrb
  have T6 : Hid (Still w w6) := T5.out.trans t6
  clear hrb t6
  cases rb with
  | false =>
    go_wp2_with fail
    refine (need_no _).mono ?_; rintro e w7 ⟨rfl, rfl⟩
    refine ⟨rfl, .inr ⟨fun e => ?_, rfl, T6.out.turn⟩⟩
    rw [HNE.out, HTB.out.2.2] at e
    exact absurd (HRB.out.2 (HLE.out.2 e.2)) (by decide)
  | true =>
    go_wp2_with fail
    refine (need_yes _).mono ?_; rintro e w7 ⟨rfl, rfl⟩
    go_wp2_with fail
    go_end0
    have H7 := HH.out.still T6.out
    refine .inl ⟨?_, rfl, ⟨r, l, H7.now, by rw [HNX.out]; exact H7.kn, .inl rfl⟩, T6.out.turn⟩
    rw [HNE.out, HTB.out.2.2]
    exact ⟨HP.out, HLE.out.1 (HRB.out.1 (by first | rfl | trivial))⟩
set_option maxRecDepth 100000 in
set_option maxHeartbeats 8000000 in
theorem step_tail (c : WkC) (x : M.Ins) (hop : x.op = 21) (hF : ∀ f ∈ c.m.funcs, fnB c.m.types.length f = true) : StepOk c x := by
  intro w f g fi bi ii N r T Y l k la ln lc ma mn mc va vn vc h hx
  have S1 : Hid (Still w (w.alloc (.cells #[.int .i64 21, .int .i64 x.d, .int .i64 x.a, .int .i64 x.b, .int .i64 x.c, .int .i64 x.n, .slice la ln lc, .slice ma mn mc, .slice va vn vc] 36)) ∧ Blk (w.alloc (.cells #[.int .i64 21, .int .i64 x.d, .int .i64 x.a, .int .i64 x.b, .int .i64 x.c, .int .i64 x.n, .slice la ln lc, .slice ma mn mc, .slice va vn vc] 36)) w.heap.size 36 #[.int .i64 21, .int .i64 x.d, .int .i64 x.a, .int .i64 x.b, .int .i64 x.c, .int .i64 x.n, .slice la ln lc, .slice ma mn mc, .slice va vn vc]) := ⟨(Still.refl w).alloc _, Blk.new w _ _⟩
  have HL := Lib.hid (leave_tail c x hop hF _ f g fi bi ii N r T Y l k la ln lc ma mn mc va vn vc (h.still S1.out.1) ⟨hx.lrow.1.keep ((Still.below S1.out.1).mono (by have := h.rows.le; omega)) (by have := h.rows.le; omega), hx.lrow.2⟩)
  rw [hop]
  have c0 := S1.out.2.cell 0
  have c1 := S1.out.2.cell 1
  have c2 := S1.out.2.cell 2
  have c3 := S1.out.2.cell 3
  have c4 := S1.out.2.cell 4
  have c5 := S1.out.2.cell 5
  have c6 := S1.out.2.cell 6
  have c7 := S1.out.2.cell 7
  have c8 := S1.out.2.cell 8
  have HSR : Hid (∀ e W, StepR c f N r k x (w.alloc (.cells #[.int .i64 21, .int .i64 x.d, .int .i64 x.a, .int .i64 x.b, .int .i64 x.c, .int .i64 x.n, .slice la ln lc, .slice ma mn mc, .slice va vn vc] 36)) e W → StepR c f N r k x w e W) := fun e W hs => by
    rcases hs with ⟨h1, h2, ⟨r', l', h3, h4, h5⟩, h6⟩ | ⟨h1, h2, h3⟩
    · exact .inl ⟨h1, h2, ⟨r', l', h3, h4, h5.elim .inl fun e => .inr (Nat.le_trans S1.out.1.size e)⟩, S1.out.1.turn.trans h6⟩
    · exact .inr ⟨h1, h2, S1.out.1.turn.trans h3⟩
  clear h hx hop
  go_enter Tryz.func59, Tryz.ntmps59
  go_wp2_with fail
  clear c0 c1 c2 c3 c4 c5 c6 c7 c8
  refine HL.out.mono ?_; rintro e w5 hs
  have hs2 := HSR.out _ _ hs
  clear hs
  rcases hs2 with ⟨h1, rfl, h3, h4⟩ | ⟨h1, rfl, h3⟩
  · have HS := Lib.hid (And.intro h1 (And.intro h3 h4))
    clear h1 h3 h4
    go_wp2_with fail
    go_end0
    exact .inl ⟨HS.out.1, rfl, HS.out.2.1, HS.out.2.2⟩
  · exact ⟨rfl, .inr ⟨h1, rfl, h3⟩⟩
end Go.Proofs.YtglalgjffkoneaaGreatDoor
/- What an instruction needs, and does: an answer's. -/
namespace Go.Proofs.YtglalgjffkoneaaGreatDoor
set_option linter.unusedVariables false
set_option linter.unusedSimpArgs false
open Go.ChangeShapes Go.WideShapes Go.ChangeAt Go.RowKit
open Vf (K nth nth_nat tyAt atK isK numT oneT le beginK tsub)
def tnn (c : WkC) : Nat := c.v.tn
set_option maxRecDepth 100000 in
set_option maxHeartbeats 8000000 in
theorem leave_raise (c : WkC) (x : M.Ins) (hop : x.op = 23) (hex : 0 ≤ c.m.exn ∧ c.m.exn < c.m.types.length) (w : World) (f : M.Fn) (g : FV) (fi bi ii : Int) (N r T Y : Nat) (l : List (Option Nat)) (k : K) (la : Option Addr) (ln lc : Nat) (ma : Option Addr) (mn mc : Nat) (va : Option Addr) (vn vc : Nat) (h : WkAt c w f g fi bi ii N r T Y l k) :
    Calls Tryz.prog 95 #[.pointer (some ⟨c.X, 0, none⟩), .agg #[.int .i64 23, .int .i64 x.d, .int .i64 x.a, .int .i64 x.b, .int .i64 x.c, .int .i64 x.n, .slice la ln lc, .slice ma mn mc, .slice va vn vc]] w (StepR c f N r k x w) := by
  have HH := Lib.hid h
  have HNE : Hid (Vf.Needs c.m f k x = isK k x.a (tyAt c.m c.m.exn)) := by show _ = _; unfold Vf.Needs; rw [hop]; rfl
  have HNX : Hid (Vf.next c.m k x = k) := by show _ = _; unfold Vf.next; rw [hop]; rfl
  have S1 : Hid (Still w (w.alloc (.cells #[.int .i64 23, .int .i64 x.d, .int .i64 x.a, .int .i64 x.b, .int .i64 x.c, .int .i64 x.n, .slice la ln lc, .slice ma mn mc, .slice va vn vc] 36)) ∧ Blk (w.alloc (.cells #[.int .i64 23, .int .i64 x.d, .int .i64 x.a, .int .i64 x.b, .int .i64 x.c, .int .i64 x.n, .slice la ln lc, .slice ma mn mc, .slice va vn vc] 36)) w.heap.size 36 #[.int .i64 23, .int .i64 x.d, .int .i64 x.a, .int .i64 x.b, .int .i64 x.c, .int .i64 x.n, .slice la ln lc, .slice ma mn mc, .slice va vn vc]) := ⟨(Still.refl w).alloc _, Blk.new w _ _⟩
  obtain ⟨X, hX⟩ : ∃ X, c.X = X := ⟨_, rfl⟩
  have HX := Lib.hid hX
  rw [hX]
  generalize x.a = a at *
  obtain ⟨kf, hkf, hkl⟩ : ∃ kf : Nat, f.result = kf ∧ kf < c.m.types.length := by
    have h1 := h.ok
    unfold fnB at h1
    simp only [Bool.and_eq_true] at h1
    obtain ⟨e1, e2⟩ := (hasB_iff _ _).1 h1.1.2
    obtain ⟨kf, hkf⟩ := Int.eq_ofNat_of_zero_le e1
    exact ⟨kf, hkf, by omega⟩
  obtain ⟨tb, htb⟩ : ∃ tb, c.bs[kf]? = some tb := ⟨_, List.getElem?_eq_getElem (by rw [h.rows.lb]; exact hkl)⟩
  obtain ⟨tt, htt⟩ : ∃ tt, c.m.types[kf]? = some tt := ⟨_, List.getElem?_eq_getElem hkl⟩
  have HTB : Hid (c.bs[kf]? = some tb ∧ c.m.types[kf]? = some tt ∧ tyAt c.m f.result = tt) := ⟨htb, htt, by unfold tyAt; rw [hkf, nth_nat, htt]; rfl⟩
  obtain ⟨ke, hke⟩ : ∃ ke : Nat, c.m.exn = ke := ⟨c.m.exn.toNat, by omega⟩
  have hkel : ke < c.m.types.length := by omega
  obtain ⟨te, hte⟩ : ∃ te, c.bs[ke]? = some te := ⟨_, List.getElem?_eq_getElem (by rw [h.rows.lb]; exact hkel)⟩
  obtain ⟨ue, hue⟩ : ∃ ue, c.m.types[ke]? = some ue := ⟨_, List.getElem?_eq_getElem hkel⟩
  have HTE : Hid (c.bs[ke]? = some te ∧ c.m.types[ke]? = some ue ∧ tyAt c.m c.m.exn = ue) := ⟨hte, hue, by unfold tyAt; rw [hke, nth_nat, hue]; rfl⟩
  have HKE : Hid (c.v.exn = (ke : Int)) := h.rows.img.exn.trans hke
  have hketn : ke < tnn c := by unfold tnn; have := h.rows.img.types.len; omega
  obtain ⟨r1, hr1⟩ : ∃ r1, c.r1 = r1 := ⟨_, rfl⟩
  have HR1 := Lib.hid hr1
  obtain ⟨tn, htn⟩ : ∃ tn, c.v.tn = tn := ⟨_, rfl⟩
  have HTN := Lib.hid htn
  rw [show tnn c = tn from htn] at hketn
  have hktn : kf < tn := by have := h.rows.img.types.len; omega
  have HKF := Lib.hid hkf
  clear h hop hX hkf htb htt hr1 htn hkl hex hke hkel hte hue
  go_enter Tryz.func95, Tryz.ntmps95
  go_wp2_with fail
  generalize w.alloc (.cells #[.int .i64 23, .int .i64 x.d, .int .i64 a, .int .i64 x.b, .int .i64 x.c, .int .i64 x.n, .slice la ln lc, .slice ma mn mc, .slice va vn vc] 36) = w1 at S1 ⊢
  obtain ⟨K0, hK0⟩ : ∃ K0, w.heap.size = K0 := ⟨_, rfl⟩
  rw [hK0] at S1
  rw [hK0]
  have HK0 := Lib.hid hK0
  clear hK0
  have H1 := Lib.hid (HH.out.still S1.out.1)
  have x7 : w1.cell? ⟨X, 7, none⟩ = some (.slice (some ⟨r1, 0, none⟩) tn c.rc) := by rw [← HX.out, ← HR1.out, ← HTN.out]; exact H1.out.box.cell 7
  have x12 : w1.cell? ⟨X, 12, none⟩ = some (.int .i64 kf) := by rw [← HX.out, ← HKF.out, ← HH.out.fn.1]; exact H1.out.box.cell 12
  have xr : w1.cell? ⟨r1, kf, none⟩ = some (.pointer (some ⟨tb, 0, none⟩)) := by rw [← HR1.out]; exact H1.out.rows.rt kf tb HTB.out.1
  have y7 : w1.drew.cell? ⟨X, 7, none⟩ = some (.slice (some ⟨r1, 0, none⟩) tn c.rc) := x7
  have y12 : w1.drew.cell? ⟨X, 12, none⟩ = some (.int .i64 kf) := x12
  have yr : w1.drew.cell? ⟨r1, kf, none⟩ = some (.pointer (some ⟨tb, 0, none⟩)) := xr
  have lX : X < w1.heap.size := by rw [← HX.out]; exact H1.out.box.lt
  have lr : r1 < w1.heap.size := World.block_lt_of_cell? _ _ xr
  have hki : (kf : Int) < tn := by omega
  go_region
  have c0 : w1.drew.cell? ⟨K0, 0, none⟩ = some (.int .i64 23) := S1.out.2.cell 0
  have c0' : w1.cell? ⟨K0, 0, none⟩ = some (.int .i64 23) := S1.out.2.cell 0
  clear x7 x12 xr y7 y12 yr
  have SD1 : Hid (Still w1 w1.drew) := (Still.refl w1).drew
  go_wp2_with fail
  generalize w1.drew = w2 at SD1 c0 ⊢
  clear c0 c0'
  obtain ⟨wD, hwD⟩ : ∃ wD, w2.drew = wD := ⟨_, rfl⟩
  have SD : Hid (Still w1 wD) := by rw [← hwD]; exact SD1.out.drew
  have H2 := Lib.hid (H1.out.still SD.out)
  have x18 : wD.cell? ⟨X, 18, none⟩ = some (.func (.func 84) #[] #[.pointer (some ⟨N, 0, none⟩)]) := by rw [← HX.out]; exact H2.out.box.cell 18
  have k2 : wD.cell? ⟨K0, 2, none⟩ = some (.int .i64 a) := (SD.out.blk S1.out.2).cell 2
  have z7 : wD.cell? ⟨X, 7, none⟩ = some (.slice (some ⟨r1, 0, none⟩) tn c.rc) := by rw [← HX.out, ← HR1.out, ← HTN.out]; exact H2.out.box.cell 7
  have z6 : wD.cell? ⟨X, 6, none⟩ = some (.int .i64 ke) := by rw [← HX.out, ← HKE.out]; exact H2.out.box.cell 6
  have zr : wD.cell? ⟨r1, ke, none⟩ = some (.pointer (some ⟨te, 0, none⟩)) := by rw [← HR1.out]; exact H2.out.rows.rt ke te HTE.out.1
  have lrD : r1 < wD.heap.size := World.block_lt_of_cell? _ _ zr
  have hkei : (ke : Int) < tn := by omega
  have lK : K0 < wD.heap.size := (SD.out.blk S1.out.2).lt
  have lXD : X < wD.heap.size := by rw [← HX.out]; exact H2.out.box.lt
  have henter : ∀ (args : Array Value) (W : World), (callFunc 84 args).run Tryz.prog W = .ok (.enter 84 args) W := enters_of Tryz.func84 (by kernel_rfl) rfl
  have HTY := Lib.hid (typed_any H2.out.now a)
  clear lX lr
  refine wp_region_held_drew (S := fun W => W.cell? ⟨X, 18, none⟩ = some (.func (.func 84) #[] #[.pointer (some ⟨N, 0, none⟩)]) ∧ W.cell? ⟨K0, 2, none⟩ = some (.int .i64 a) ∧ W.cell? ⟨X, 7, none⟩ = some (.slice (some ⟨r1, 0, none⟩) tn c.rc) ∧ W.cell? ⟨X, 6, none⟩ = some (.int .i64 ke) ∧ W.cell? ⟨r1, ke, none⟩ = some (.pointer (some ⟨te, 0, none⟩))) (by kernel_rfl) (by rw [hwD]; exact ⟨x18, k2, z7, z6, zr⟩) (fun hHeld => ?_)
  try simp only [Act.put, List.getElem_toArray, List.getElem_cons_succ, List.getElem_cons_zero, List.setIfInBounds_toArray, List.set_cons_zero, List.set_cons_succ]
  rw [hwD] at hHeld ⊢
  clear hwD
  refine wpAnyH_take (i := 0) (v := ?_) rfl (by kernel_rfl) (by kernel_rfl) (by kernel_rfl) (fun _ _ _ h => h) (Or.inl ⟨by rfl, ?_⟩) (by assumption) ?_
  rotate_left
  · intro w hSw; (try dsimp only at hSw); go_simp; try with_reducible rfl
  try simp only [Act.put, List.getElem_toArray, List.getElem_cons_succ, List.getElem_cons_zero, List.setIfInBounds_toArray, List.set_cons_zero, List.set_cons_succ]
  refine wpAnyH_take (i := 1) (v := ?_) rfl (by kernel_rfl) (by kernel_rfl) (by kernel_rfl) (fun _ _ _ h => h) (Or.inl ⟨by rfl, ?_⟩) (by assumption) ?_
  rotate_left
  · intro w hSw; (try dsimp only at hSw); go_simp; try with_reducible rfl
  try simp only [Act.put, List.getElem_toArray, List.getElem_cons_succ, List.getElem_cons_zero, List.setIfInBounds_toArray, List.set_cons_zero, List.set_cons_succ]
  refine wpAnyH_take (i := 2) (v := ?_) rfl (by kernel_rfl) (by kernel_rfl) (by kernel_rfl) (fun _ _ _ h => h) (Or.inl ⟨by rfl, ?_⟩) (by assumption) ?_
  rotate_left
  · intro w hSw; (try dsimp only at hSw); go_simp; try with_reducible rfl
  try simp only [Act.put, List.getElem_toArray, List.getElem_cons_succ, List.getElem_cons_zero, List.setIfInBounds_toArray, List.set_cons_zero, List.set_cons_succ]
  refine wpAnyH_take (i := 3) (v := ?_) rfl (by kernel_rfl) (by kernel_rfl) (by kernel_rfl) (fun _ _ _ h => h) (Or.inl ⟨by rfl, ?_⟩) (by assumption) ?_
  rotate_left
  · intro w hSw; (try dsimp only at hSw); go_simp; try with_reducible rfl
  try simp only [Act.put, List.getElem_toArray, List.getElem_cons_succ, List.getElem_cons_zero, List.setIfInBounds_toArray, List.set_cons_zero, List.set_cons_succ]
  refine wpAnyH_take (i := 4) (v := ?_) rfl (by kernel_rfl) (by kernel_rfl) (by kernel_rfl) (fun _ _ _ h => h) (Or.inl ⟨by rfl, ?_⟩) (by assumption) ?_
  rotate_left
  · intro w hSw; (try dsimp only at hSw); go_simp; try with_reducible rfl
  try simp only [Act.put, List.getElem_toArray, List.getElem_cons_succ, List.getElem_cons_zero, List.setIfInBounds_toArray, List.set_cons_zero, List.set_cons_succ]
  refine wpAnyH_take (i := 5) (v := ?_) rfl (by kernel_rfl) (by kernel_rfl) (by kernel_rfl) (fun _ _ _ h => h) (Or.inl ⟨by rfl, ?_⟩) (by assumption) ?_
  rotate_left
  · intro w hSw; (try dsimp only at hSw); go_simp; try with_reducible rfl
  try simp only [Act.put, List.getElem_toArray, List.getElem_cons_succ, List.getElem_cons_zero, List.setIfInBounds_toArray, List.set_cons_zero, List.set_cons_succ]
  refine wpAnyH_take (i := 6) (v := ?_) rfl (by kernel_rfl) (by kernel_rfl) (by kernel_rfl) (fun _ _ _ h => h) (Or.inl ⟨by rfl, ?_⟩) (by assumption) ?_
  rotate_left
  · intro w hSw; (try dsimp only at hSw); go_simp; try with_reducible rfl
  try simp only [Act.put, List.getElem_toArray, List.getElem_cons_succ, List.getElem_cons_zero, List.setIfInBounds_toArray, List.set_cons_zero, List.set_cons_succ]
  refine wpAnyH_take (i := 8) (v := ?_) rfl (by kernel_rfl) (by kernel_rfl) (by kernel_rfl) (fun _ _ _ h => h) (Or.inl ⟨by rfl, ?_⟩) (by assumption) ?_
  rotate_left
  · intro w hSw; (try dsimp only at hSw); go_simp; try with_reducible rfl
  try simp only [Act.put, List.getElem_toArray, List.getElem_cons_succ, List.getElem_cons_zero, List.setIfInBounds_toArray, List.set_cons_zero, List.set_cons_succ]
  refine wpAnyH_take (i := 9) (v := ?_) rfl (by kernel_rfl) (by kernel_rfl) (by kernel_rfl) (fun _ _ _ h => h) (Or.inl ⟨by rfl, ?_⟩) (by assumption) ?_
  rotate_left
  · intro w hSw; (try dsimp only at hSw); go_simp; try with_reducible rfl
  try simp only [Act.put, List.getElem_toArray, List.getElem_cons_succ, List.getElem_cons_zero, List.setIfInBounds_toArray, List.set_cons_zero, List.set_cons_succ]
  refine wpAnyH_take (i := 10) (v := ?_) rfl (by kernel_rfl) (by kernel_rfl) (by kernel_rfl) (fun _ _ _ h => h) (Or.inl ⟨by rfl, ?_⟩) (by assumption) ?_
  rotate_left
  · intro w hSw; (try dsimp only at hSw); go_simp; try with_reducible rfl
  try simp only [Act.put, List.getElem_toArray, List.getElem_cons_succ, List.getElem_cons_zero, List.setIfInBounds_toArray, List.set_cons_zero, List.set_cons_succ]
  refine wpAnyH_take (i := 11) (v := ?_) rfl (by kernel_rfl) (by kernel_rfl) (by kernel_rfl) (fun _ _ _ h => h) (Or.inl ⟨by rfl, ?_⟩) (by assumption) ?_
  rotate_left
  · intro w hSw; (try dsimp only at hSw); go_simp; try with_reducible rfl
  try simp only [Act.put, List.getElem_toArray, List.getElem_cons_succ, List.getElem_cons_zero, List.setIfInBounds_toArray, List.set_cons_zero, List.set_cons_succ]
  refine wpAnyH_take (i := 12) (v := ?_) rfl (by kernel_rfl) (by kernel_rfl) (by kernel_rfl) (fun _ _ _ h => h) (Or.inl ⟨by rfl, ?_⟩) (by assumption) ?_
  rotate_left
  · intro w hSw; (try dsimp only at hSw); go_simp; try with_reducible rfl
  try simp only [Act.put, List.getElem_toArray, List.getElem_cons_succ, List.getElem_cons_zero, List.setIfInBounds_toArray, List.set_cons_zero, List.set_cons_succ]
  refine wpAnyH_take (i := 13) (v := ?_) rfl (by kernel_rfl) (by kernel_rfl) (by kernel_rfl) (fun _ _ _ h => h) (Or.inl ⟨by rfl, ?_⟩) (by assumption) ?_
  rotate_left
  · intro w hSw; (try dsimp only at hSw); go_simp; try with_reducible rfl
  try simp only [Act.put, List.getElem_toArray, List.getElem_cons_succ, List.getElem_cons_zero, List.setIfInBounds_toArray, List.set_cons_zero, List.set_cons_succ]
  refine wpAnyH_take (i := 14) (v := ?_) rfl (by kernel_rfl) (by kernel_rfl) (by kernel_rfl) (fun _ _ _ h => h) (Or.inl ⟨by rfl, ?_⟩) (by assumption) ?_
  rotate_left
  · intro w hSw; (try dsimp only at hSw); go_simp; try with_reducible rfl
  try simp only [Act.put, List.getElem_toArray, List.getElem_cons_succ, List.getElem_cons_zero, List.setIfInBounds_toArray, List.set_cons_zero, List.set_cons_succ]
  refine wpAnyH_take (i := 15) (v := ?_) rfl (by kernel_rfl) (by kernel_rfl) (by kernel_rfl) (fun _ _ _ h => h) (Or.inl ⟨by rfl, ?_⟩) (by assumption) ?_
  rotate_left
  · intro w hSw; (try dsimp only at hSw); go_simp; try with_reducible rfl
  try simp only [Act.put, List.getElem_toArray, List.getElem_cons_succ, List.getElem_cons_zero, List.setIfInBounds_toArray, List.set_cons_zero, List.set_cons_succ]
  refine wpAnyH_take (i := 16) (v := ?_) rfl (by kernel_rfl) (by kernel_rfl) (by kernel_rfl) (fun _ _ _ h => h) (Or.inl ⟨by rfl, ?_⟩) (by assumption) ?_
  rotate_left
  · intro w hSw; (try dsimp only at hSw); go_simp; try with_reducible rfl
  try simp only [Act.put, List.getElem_toArray, List.getElem_cons_succ, List.getElem_cons_zero, List.setIfInBounds_toArray, List.set_cons_zero, List.set_cons_succ]
  refine wpAnyH_take (i := 17) (v := ?_) rfl (by kernel_rfl) (by kernel_rfl) (by kernel_rfl) (fun _ _ _ h => h) (Or.inl ⟨by rfl, ?_⟩) (by assumption) ?_
  rotate_left
  · intro w hSw; (try dsimp only at hSw); go_simp; try with_reducible rfl
  try simp only [Act.put, List.getElem_toArray, List.getElem_cons_succ, List.getElem_cons_zero, List.setIfInBounds_toArray, List.set_cons_zero, List.set_cons_succ]
  refine wpAnyH_take (i := 18) (v := ?_) rfl (by kernel_rfl) (by kernel_rfl) (by kernel_rfl) (fun _ _ _ h => h) (Or.inl ⟨by rfl, ?_⟩) (by assumption) ?_
  rotate_left
  · intro w hSw; (try dsimp only at hSw); go_simp; try with_reducible rfl
  try simp only [Act.put, List.getElem_toArray, List.getElem_cons_succ, List.getElem_cons_zero, List.setIfInBounds_toArray, List.set_cons_zero, List.set_cons_succ]
  refine wpAnyH_ready (rs := [7]) (by kernel_rfl) (by simp) ?_
  refine AllReadyH.cons rfl (fun K hK => ?_) AllReadyH.nil
  go_simp
  refine HTY.out.mono ?_; rintro e w5 ⟨⟨b, hb5, rfl⟩ | ⟨h5, rfl⟩, rfl⟩
  rotate_left
  · refine ⟨rfl, .inr ⟨fun e => ?_, rfl, (S1.out.1.trans SD.out).turn⟩⟩
    rw [HNE.out] at e
    obtain ⟨y, e1, _⟩ := e
    rcases HH.out.kn.slot a with ⟨_, e2⟩ | ⟨b, t, e2, _, _⟩
    · rw [e1] at e2; cases e2
    · rw [h5] at e2; cases e2
  obtain ⟨ty, hty, htk⟩ : ∃ ty, atK k a = some ty ∧ TyK w5 b ty := by
    rcases H2.out.kn.slot a with ⟨e1, _⟩ | ⟨b', t, e1, e2, e3⟩
    · rw [hb5] at e1; cases e1
    · rw [hb5] at e1
      obtain rfl := Option.some.inj e1
      exact ⟨t, e2, e3⟩
  have HTYK := Lib.hid (And.intro hty htk)
  have HW := Lib.hid (within_any htk.1 (H2.out.rows.wt ke te ue HTE.out.1 HTE.out.2.1))
  have HLE : Hid (WSub ty.imm (ofL ty.shapes) ue.imm (ofL ue.shapes) ↔ le ty ue = true) := wsub_iff htk.2 (H2.out.rows.ok ue (List.mem_of_getElem? HTE.out.2.1))
  clear hb5 hty htk
  refine hK.out _ _ hHeld (fun hHeld => ?_)
  clear hK K
  refine wpAnyH_ready (rs := [19]) (by kernel_rfl) (by simp) ?_
  refine AllReadyH.cons rfl (fun K hK => ?_) AllReadyH.nil
  go_simp
  refine HW.out.mono ?_; rintro e w6 ⟨rb, rfl, hrb, t6⟩
  have HRB := Lib.hid hrb
  have T6 := Lib.hid t6
  have hH6 : w6.cell? ⟨X, 18, none⟩ = some (.func (.func 84) #[] #[.pointer (some ⟨N, 0, none⟩)]) ∧ w6.cell? ⟨K0, 2, none⟩ = some (.int .i64 a) ∧ w6.cell? ⟨X, 7, none⟩ = some (.slice (some ⟨r1, 0, none⟩) tn c.rc) ∧ w6.cell? ⟨X, 6, none⟩ = some (.int .i64 ke) ∧ w6.cell? ⟨r1, ke, none⟩ = some (.pointer (some ⟨te, 0, none⟩)) := ⟨(t6.cell (p := ⟨X, 18, none⟩) lXD).trans hHeld.1, (t6.cell (p := ⟨K0, 2, none⟩) lK).trans hHeld.2.1, (t6.cell (p := ⟨X, 7, none⟩) lXD).trans hHeld.2.2.1, (t6.cell (p := ⟨X, 6, none⟩) lXD).trans hHeld.2.2.2.1, (t6.cell (p := ⟨r1, ke, none⟩) lrD).trans hHeld.2.2.2.2⟩
  clear hrb t6 hHeld
  refine hK.out _ _ hH6 (fun hHeld => ?_)
  clear hK K
  refine wpAnyH_ready (rs := [20]) (by kernel_rfl) (by simp) ?_
  refine AllReadyH.cons rfl (fun K hK => ?_) AllReadyH.nil
  go_simp
  have TT : Hid (Still w w6) := (S1.out.1.trans SD.out).trans T6.out
  cases rb with
  | false =>
    refine (need_no _).mono ?_; rintro e w7 ⟨rfl, rfl⟩
    refine ⟨rfl, .inr ⟨fun e => ?_, rfl, TT.out.turn⟩⟩
    rw [HNE.out, HTE.out.2.2] at e
    obtain ⟨y, e1, e2⟩ := e
    rw [HTYK.out.1] at e1
    obtain rfl := Option.some.inj e1
    exact absurd (HRB.out.2 (HLE.out.2 e2)) (by decide)
  | true =>
    refine (need_yes _).mono ?_; rintro e w7 ⟨rfl, rfl⟩
    refine hK.out _ _ hHeld (fun hHeld => ?_)
    clear hK K
    refine wpAnyH_done (by kernel_rfl) ?_ _
    clear hHeld hH6
    go_wp2_with fail
    go_end0
    have H7 := HH.out.still TT.out
    refine .inl ⟨?_, rfl, ⟨r, l, H7.now, by rw [HNX.out]; exact H7.kn, .inl rfl⟩, TT.out.turn⟩
    rw [HNE.out, HTE.out.2.2]
    exact ⟨ty, HTYK.out.1, HLE.out.1 (HRB.out.1 (by first | rfl | trivial))⟩
set_option maxRecDepth 100000 in
set_option maxHeartbeats 8000000 in
theorem step_raise (c : WkC) (x : M.Ins) (hop : x.op = 23) (hex : 0 ≤ c.m.exn ∧ c.m.exn < c.m.types.length) : StepOk c x := by
  intro w f g fi bi ii N r T Y l k la ln lc ma mn mc va vn vc h hx
  have S1 : Hid (Still w (w.alloc (.cells #[.int .i64 23, .int .i64 x.d, .int .i64 x.a, .int .i64 x.b, .int .i64 x.c, .int .i64 x.n, .slice la ln lc, .slice ma mn mc, .slice va vn vc] 36)) ∧ Blk (w.alloc (.cells #[.int .i64 23, .int .i64 x.d, .int .i64 x.a, .int .i64 x.b, .int .i64 x.c, .int .i64 x.n, .slice la ln lc, .slice ma mn mc, .slice va vn vc] 36)) w.heap.size 36 #[.int .i64 23, .int .i64 x.d, .int .i64 x.a, .int .i64 x.b, .int .i64 x.c, .int .i64 x.n, .slice la ln lc, .slice ma mn mc, .slice va vn vc]) := ⟨(Still.refl w).alloc _, Blk.new w _ _⟩
  have HL := Lib.hid (leave_raise c x hop hex _ f g fi bi ii N r T Y l k la ln lc ma mn mc va vn vc (h.still S1.out.1))
  rw [hop]
  have c0 := S1.out.2.cell 0
  have c1 := S1.out.2.cell 1
  have c2 := S1.out.2.cell 2
  have c3 := S1.out.2.cell 3
  have c4 := S1.out.2.cell 4
  have c5 := S1.out.2.cell 5
  have c6 := S1.out.2.cell 6
  have c7 := S1.out.2.cell 7
  have c8 := S1.out.2.cell 8
  have HSR : Hid (∀ e W, StepR c f N r k x (w.alloc (.cells #[.int .i64 23, .int .i64 x.d, .int .i64 x.a, .int .i64 x.b, .int .i64 x.c, .int .i64 x.n, .slice la ln lc, .slice ma mn mc, .slice va vn vc] 36)) e W → StepR c f N r k x w e W) := fun e W hs => by
    rcases hs with ⟨h1, h2, ⟨r', l', h3, h4, h5⟩, h6⟩ | ⟨h1, h2, h3⟩
    · exact .inl ⟨h1, h2, ⟨r', l', h3, h4, h5.elim .inl fun e => .inr (Nat.le_trans S1.out.1.size e)⟩, S1.out.1.turn.trans h6⟩
    · exact .inr ⟨h1, h2, S1.out.1.turn.trans h3⟩
  clear h hx hop
  go_enter Tryz.func59, Tryz.ntmps59
  go_wp2_with fail
  clear c0 c1 c2 c3 c4 c5 c6 c7 c8
  refine HL.out.mono ?_; rintro e w5 hs
  have hs2 := HSR.out _ _ hs
  clear hs
  rcases hs2 with ⟨h1, rfl, h3, h4⟩ | ⟨h1, rfl, h3⟩
  · have HS := Lib.hid (And.intro h1 (And.intro h3 h4))
    clear h1 h3 h4
    go_wp2_with fail
    go_end0
    exact .inl ⟨HS.out.1, rfl, HS.out.2.1, HS.out.2.2⟩
  · exact ⟨rfl, .inr ⟨h1, rfl, h3⟩⟩
end Go.Proofs.YtglalgjffkoneaaGreatDoor
