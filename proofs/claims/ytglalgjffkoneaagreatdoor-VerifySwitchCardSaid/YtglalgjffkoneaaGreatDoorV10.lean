/- Lemmas, put together: Vth Vim Vholds Vfa Vfu Vve Vle. -/
import Derived.Test.YtglalgjffkoneaaGreatDoorV9
import Derived.Test.YtglalgjffkoneaaGreatDoorV2
/- through: a block. -/
namespace Go.Proofs.YtglalgjffkoneaaGreatDoor
set_option linter.unusedVariables false
set_option linter.unusedSimpArgs false
open Go.ChangeShapes Go.WideShapes Go.ChangeAt Go.RowKit
open Vf (K nth nth_nat tyAt atK isK numT oneT le beginK tsub WrongAt WrongBk Last)
def lastB (x : M.Ins) : Bool := decide (18 ≤ x.op) && decide (x.op ≤ 23)
theorem lastB_iff (x : M.Ins) : lastB x = true ↔ Last x := by unfold lastB Last; simp
theorem leaves_any (x : M.Ins) (la : Option Addr) (ln lc : Nat) (ma : Option Addr) (mn mc : Nat) (va : Option Addr) (vn vc : Nat) (w : World) :
    Calls Tryz.prog 58 #[.agg #[.int .i64 x.op, .int .i64 x.d, .int .i64 x.a, .int .i64 x.b, .int .i64 x.c, .int .i64 x.n, .slice la ln lc, .slice ma mn mc, .slice va vn vc]] w fun e w' => e = .returned (.bool (lastB x)) ∧ Still w w' := by
  have S1 : Hid (Still w (w.alloc (.cells #[.int .i64 x.op, .int .i64 x.d, .int .i64 x.a, .int .i64 x.b, .int .i64 x.c, .int .i64 x.n, .slice la ln lc, .slice ma mn mc, .slice va vn vc] 36))) := (Still.refl w).alloc _
  have HL : Hid (lastB x = (decide (18 ≤ x.op) && decide (x.op ≤ 23))) := rfl
  generalize lastB x = q at *
  generalize x.op = op at *
  by_cases h1 : 18 ≤ op
  · have x1 : decide (18 ≤ op) = true := decide_eq_true h1
    by_cases h2 : op ≤ 23
    · have x2 : decide (op ≤ 23) = true := decide_eq_true h2
      have HE : Hid (q = true) := by rw [HL.out, x1, x2]; rfl
      go_enter Tryz.func58, Tryz.ntmps58
      go_wp2_with fail
      go_ret
      exact ⟨by rw [HE.out]; rfl, S1.out⟩
    · have x2 : decide (op ≤ 23) = false := decide_eq_false h2
      have HE : Hid (q = false) := by rw [HL.out, x1, x2]; rfl
      go_enter Tryz.func58, Tryz.ntmps58
      go_wp2_with fail
      go_ret
      exact ⟨by rw [HE.out]; rfl, S1.out⟩
  · have x1 : decide (18 ≤ op) = false := decide_eq_false h1
    have HE : Hid (q = false) := by rw [HL.out, x1]; rfl
    go_enter Tryz.func58, Tryz.ntmps58
    go_wp2_with fail
    go_ret
    exact ⟨by rw [HE.out]; rfl, S1.out⟩
/-- A walk within a function, whatever its slots are. -/
structure WkF (c : WkC) (w : World) (f : M.Fn) (g : FV) (fi bi ii : Int) : Prop where
  rows : RowsAt c w
  box : ∃ v0 v1 v2 v3 v4, Blk w c.X 67 (c.cells g fi bi ii v0 v1 v2 v3 v4)
  fn : g.res = f.result ∧ g.slots = f.slots ∧ g.pn ≤ maxLen ∧ g.bn ≤ maxLen
  par : Ints c.B w g.pa g.pn f.params
  blk : Lies c.B w 2 (BkIs c.B w) g.ba g.bn f.blocks
  ok : fnB c.m.types.length f = true
theorem WkF.keep {c : WkC} {w w' : World} {f : M.Fn} {g : FV} {fi bi ii ii' : Int} {bi' : Int} (h : WkF c w f g fi bi ii) {S : Nat → Prop} (t : Turn S w w') (hS : Far c S) (hb : ∃ v0 v1 v2 v3 v4, Blk w' c.X 67 (c.cells g fi bi' ii' v0 v1 v2 v3 v4)) : WkF c w' f g fi bi' ii' :=
  have hbl : Below c.B w w' := t.below (by have := h.rows.le; omega) fun j e => by have := h.rows.le; rcases hS _ e with e | e <;> omega
  have hB : c.B ≤ w.heap.size := by have := h.rows.le; omega
  ⟨h.rows.keep t hS, hb, h.fn, h.par.keep hbl hB, Lies.keep h.blk hbl hB (fun cs x _ h1 => h1.keep hbl hB), h.ok⟩
theorem WkAt.f {c : WkC} {w : World} {f : M.Fn} {g : FV} {fi bi ii : Int} {N r T Y : Nat} {l : List (Option Nat)} {k : K} (h : WkAt c w f g fi bi ii N r T Y l k) : WkF c w f g fi bi ii := ⟨h.rows, ⟨_, _, _, _, _, h.box⟩, h.fn, h.par, h.blk, h.ok⟩
/-- What a block's going through leaves. -/
def ThroughR (c : WkC) (f : M.Fn) (g : FV) (fi bi : Int) (b : M.Bk) (w : World) (e : Ending) (w' : World) : Prop :=
  ∃ (res : Option Nat) (ii : Int), WrongBk c.m f b res ∧ WkF c w' f g fi bi ii ∧ Turn (fun j => j = c.X) w w' ∧ ((res = none ∧ e = .returned (.tuple #[])) ∨ (∃ n : Nat, res = some n ∧ ii = n ∧ e = .panicked [{ v := wrongV, recovered := false }]))
/-- Beside a walk's box and its slots, nothing of old. -/
theorem WkAt.put {c : WkC} {w : World} {f : M.Fn} {g : FV} {fi bi ii : Int} {N r T Y : Nat} {l : List (Option Nat)} {k : K} (h : WkAt c w f g fi bi ii N r T Y l k) (jj : Int) : WkAt c (w.setCell ⟨c.X, 17, none⟩ (.int .i64 jj)) f g fi bi jj N r T Y l k ∧ Turn (fun j => j = c.X) w (w.setCell ⟨c.X, 17, none⟩ (.int .i64 jj)) := by
  have t : Turn (fun j => j = c.X) w (w.setCell ⟨c.X, 17, none⟩ (.int .i64 jj)) := (Turn.refl (fun j => j = c.X) w).setCell (p := ⟨c.X, 17, none⟩) (fun _ => rfl) _
  have hF := h.f.keep (ii' := ii) (bi' := bi) t (fun j e => .inl e)
  have hbox : Blk (w.setCell ⟨c.X, 17, none⟩ (.int .i64 jj)) c.X 67 (c.cells g fi bi jj (.func (.func 84) #[] #[.pointer (some ⟨N, 0, none⟩)]) (.func (.func 86) #[] #[.pointer (some ⟨N, 0, none⟩)]) (.func (.func 87) #[] #[.pointer (some ⟨N, 0, none⟩)]) (.func (.func 88) #[] #[.pointer (some ⟨N, 0, none⟩), .pointer (some ⟨T, 0, none⟩)]) (.func (.func 89) #[] #[.pointer (some ⟨T, 0, none⟩), .pointer (some ⟨Y, 0, none⟩)])) := by
    have := h.box.set 17 (.int .i64 jj)
    simpa using this
  have hF2 := h.f.keep (ii' := jj) (bi' := bi) t (fun j e => .inl e) ⟨_, _, _, _, _, hbox⟩
  have hX := h.rows.le
  have hf := h.far
  refine ⟨⟨hF2.rows, hbox, hF2.fn, hF2.par, hF2.blk, h.now.keep t (by omega) (by omega), h.typed.keep t (by omega), h.types.keep t (by omega), h.far, h.ne, h.kn.keep t (fun b im R hb e => ?_), h.ok, h.inK⟩, t⟩
  exact words_ne hb h.box (by decide) e
/-- Behind an instruction. -/
theorem WkAt.step {c : WkC} {w w' : World} {f : M.Fn} {g : FV} {fi bi ii : Int} {N r T Y : Nat} {l : List (Option Nat)} {k : K} (h : WkAt c w f g fi bi ii N r T Y l k) {r' : Nat} {l' : List (Option Nat)} {k' : K} (hn : NowAt w' N r' l') (hk : Kn w' l' k') (hi : InK c.m k') (hr : r' = r ∨ w.heap.size ≤ r') (t : Turn (fun j => j = N ∨ j = r) w w') : WkAt c w' f g fi bi ii N r' T Y l' k' := by
  have hX := h.rows.le
  have hf := h.far
  have hne := h.ne
  have hbox : Blk w' c.X 67 (c.cells g fi bi ii (.func (.func 84) #[] #[.pointer (some ⟨N, 0, none⟩)]) (.func (.func 86) #[] #[.pointer (some ⟨N, 0, none⟩)]) (.func (.func 87) #[] #[.pointer (some ⟨N, 0, none⟩)]) (.func (.func 88) #[] #[.pointer (some ⟨N, 0, none⟩), .pointer (some ⟨T, 0, none⟩)]) (.func (.func 89) #[] #[.pointer (some ⟨T, 0, none⟩), .pointer (some ⟨Y, 0, none⟩)])) := h.box.keep t (by omega)
  have hF := h.f.keep (ii' := ii) (bi' := bi) t (fun j e => by rcases e with e | e <;> exact .inr (by omega)) ⟨_, _, _, _, _, hbox⟩
  have hl1 := h.typed.lt
  have hl2 := h.types.lt
  have hl3 := h.now.box.lt
  refine ⟨hF.rows, hbox, hF.fn, hF.par, hF.blk, hn, h.typed.keep t (by omega), h.types.keep t (by omega), ⟨hf.1, by omega, hf.2.2⟩, ⟨hne.1, by omega, by omega, hne.2.2.2.1, by omega⟩, hk, h.ok, hi⟩
theorem turn_fresh {w w7 w8 : World} {X N r : Nat} (h : Turn (fun j => j = X) w w7) (t : Turn (fun j => j = N ∨ j = r) w7 w8) (hN : w.heap.size ≤ N) (hr : w.heap.size ≤ r) : Turn (fun j => j = X) w w8 := by
  have t1 : Turn (fun j => j = X ∨ w.heap.size ≤ j) w w8 := (h.mono fun _ _ e => .inl e).trans (t.mono fun j _ e => .inr (by rcases e with e | e <;> omega))
  exact t1.mono fun j hj e => e.elim id fun e => by omega
/-- How far a block is gone through. -/
def PR (c : WkC) (f : M.Fn) (b : M.Bk) (cn i : Nat) (k : K) : Prop :=
  (i < cn ∨ cn = 0 → ∀ res, WrongAt c.m f cn i k (b.code.drop i) res → WrongBk c.m f b res) ∧ (i = cn → 0 < cn → ∀ x, b.code[cn - 1]? = some x → ∀ res, ((Last x ∧ res = none) ∨ (¬ Last x ∧ res = some cn)) → WrongBk c.m f b res)
theorem PR.begin {c : WkC} {f : M.Fn} {b : M.Bk} {cn : Nat} (h : b.code.length = cn) : PR c f b cn 0 (beginK c.m b.inn) := by
  refine ⟨fun _ res hr => ?_, fun e h0 => by omega⟩
  unfold WrongBk
  rw [h]
  exact hr
theorem PR.next {c : WkC} {f : M.Fn} {b : M.Bk} {cn i : Nat} {k : K} {x : M.Ins} (h : PR c f b cn i k) (hi : i < cn) (hx : b.code[i]? = some x) (hl : i + 1 = cn ∨ ¬ Last x) (hn : Vf.Needs c.m f k x) : PR c f b cn (i + 1) (Vf.next c.m k x) := by
  have hd : b.code.drop i = x :: b.code.drop (i + 1) := by
    have hil := (List.getElem?_eq_some_iff.1 hx).1
    rw [List.drop_eq_getElem_cons hil, (List.getElem?_eq_some_iff.1 hx).2]
  refine ⟨fun e res hr => h.1 (.inl hi) res ?_, fun e h0 y hy res hr => h.1 (.inl hi) res ?_⟩
  · rw [hd]
    exact .inl ⟨⟨hl, hn⟩, .inr (.inr ⟨by omega, hr⟩)⟩
  · rw [hd]
    have hxy : x = y := by
      rw [show cn - 1 = i by omega, hx] at hy
      exact Option.some.inj hy
    subst hxy
    rcases hr with ⟨h1, h2⟩ | ⟨h1, h2⟩
    · exact .inl ⟨⟨hl, hn⟩, .inl ⟨e, h1, h2⟩⟩
    · exact .inl ⟨⟨hl, hn⟩, .inr (.inl ⟨e, h1, h2⟩)⟩
theorem PR.bad {c : WkC} {f : M.Fn} {b : M.Bk} {cn i : Nat} {k : K} {x : M.Ins} (h : PR c f b cn i k) (hi : i < cn) (hx : b.code[i]? = some x) (hb : ¬ ((i + 1 = cn ∨ ¬ Last x) ∧ Vf.Needs c.m f k x)) : WrongBk c.m f b (some i) := by
  have hd : b.code.drop i = x :: b.code.drop (i + 1) := by
    have hil := (List.getElem?_eq_some_iff.1 hx).1
    rw [List.drop_eq_getElem_cons hil, (List.getElem?_eq_some_iff.1 hx).2]
  refine h.1 (.inl hi) _ ?_
  rw [hd]
  exact .inr ⟨hb, rfl⟩
/-- What a block's slots have at first. -/
theorem kn_begin {c : WkC} {w : World} (h : RowsAt c w) {inn : List Int} (hin : ∀ n ∈ inn, n = -1 ∨ 0 ≤ n ∧ n < c.m.types.length) : Kn w (beginL c.bs inn) (beginK c.m inn) := by
  refine ⟨by unfold beginL beginK; rw [List.length_map, List.length_map], fun i hi => ?_⟩
  have hi' : i < inn.length := by unfold beginL at hi; rwa [List.length_map] at hi
  unfold beginL beginK
  rw [List.getElem?_map, List.getElem?_map, List.getElem?_eq_getElem hi']
  obtain ⟨n, hn⟩ : ∃ n, inn[i] = n := ⟨_, rfl⟩
  rw [hn]
  simp only [Option.map_some]
  by_cases h1 : n = -1
  · rw [if_pos h1, if_pos h1]
    exact .inl ⟨rfl, rfl⟩
  · rw [if_neg h1, if_neg h1]
    rcases hin n (hn ▸ List.getElem_mem hi') with e | ⟨e1, e2⟩
    · exact absurd e h1
    · obtain ⟨k, rfl⟩ := Int.eq_ofNat_of_zero_le e1
      have hk : k < c.m.types.length := by omega
      have hb : c.bs[k]? = some (c.bs[k]'(by rw [h.lb]; exact hk)) := List.getElem?_eq_getElem _
      have ht : c.m.types[k]? = some (c.m.types[k]'hk) := List.getElem?_eq_getElem _
      refine .inr ⟨_, c.m.types[k]'hk, by rw [Int.toNat_natCast, hb], ?_, h.wt k _ _ hb ht, h.ok _ (List.getElem_mem hk)⟩
      unfold tyAt
      rw [nth_nat, ht]
      rfl
set_option maxRecDepth 100000 in
set_option maxHeartbeats 8000000 in
theorem through_any (c : WkC) (b : M.Bk) (hok : ∀ x ∈ b.code, StepOk c x) {w : World} {f : M.Fn} {g : FV} {fi bi ii : Int} (h : WkF c w f g fi bi ii) {ia : Option Addr} {inn ic : Nat} {ca : Option Addr} {cn cc : Nat} (hin : Ints c.B w ia inn b.inn) (hcode : Lies c.B w 9 (InsIs c.B w) ca cn b.code) (hn : inn ≤ 1000) (hcn : cn ≤ maxLen) (hbk : ∀ n ∈ b.inn, n = -1 ∨ 0 ≤ n ∧ n < c.m.types.length) :
    Calls Tryz.prog 34 #[.pointer (some ⟨c.X, 0, none⟩), .agg #[.slice ia inn ic, .slice ca cn cc]] w (ThroughR c f g fi bi b w) := by
  have hsf : ∀ (a : Addr) (fn : Fn) (x y : Array Value) (m : Mode) (w : World), (store a (.func fn x y) m).run Tryz.prog w = stored Tryz.prog w a (.func fn x y) m := fun _ _ _ _ _ _ => run_store _ _ _ _ _ rfl
  have HH := Lib.hid h
  have HOK := Lib.hid hok
  have HIN := Lib.hid hin
  have HCODE := Lib.hid hcode
  have HCL : Hid (b.code.length = cn) := hcode.len
  have HBK := Lib.hid hbk
  have HCN := Lib.hid hcn
  have hcn63 : cn ≤ 9223372036854775807 := by unfold maxLen at hcn; omega
  have HN := Lib.hid hn
  have S1 : Hid (Still w (w.alloc (.cells #[.slice ia inn ic, .slice ca cn cc] 48)) ∧ Blk (w.alloc (.cells #[.slice ia inn ic, .slice ca cn cc] 48)) w.heap.size 48 #[.slice ia inn ic, .slice ca cn cc]) := ⟨(Still.refl w).alloc _, Blk.new w _ _⟩
  obtain ⟨X, hX⟩ : ∃ X, c.X = X := ⟨_, rfl⟩
  have HX := Lib.hid hX
  have HTL : Hid (c.bs.length = c.v.tn) := h.rows.lb.trans h.rows.img.types.len
  obtain ⟨tn, htn⟩ : ∃ tn, c.v.tn = tn := ⟨_, rfl⟩
  have HTN := Lib.hid htn
  obtain ⟨r1, hr1⟩ : ∃ r1, c.r1 = r1 := ⟨_, rfl⟩
  have HR1 := Lib.hid hr1
  rw [hX]
  clear h hok hin hcode hbk hcn hX htn hr1
  go_enter Tryz.func34, Tryz.ntmps34
  go_wp2_with fail
  generalize w.alloc (.cells #[.slice ia inn ic, .slice ca cn cc] 48) = w1 at S1 ⊢
  obtain ⟨K0, hK0⟩ : ∃ K0, w.heap.size = K0 := ⟨_, rfl⟩
  rw [hK0] at S1
  rw [hK0]
  have HK0 := Lib.hid hK0
  clear hK0
  obtain ⟨wD, hwD⟩ : ∃ wD, w1.drew = wD := ⟨_, rfl⟩
  have SD : Hid (Still w wD) := by rw [← hwD]; exact S1.out.1.drew
  have SD1 : Hid (Still w1 wD) := by rw [← hwD]; exact (Still.refl w1).drew
  obtain ⟨v0, v1, v2, v3, v4, hbox0⟩ := HH.out.box
  have HB0 := Lib.hid (SD.out.blk hbox0)
  have HRW := Lib.hid (HH.out.rows.keep SD.out (fun _ e => e.elim))
  have x7 : wD.cell? ⟨X, 7, none⟩ = some (.slice (some ⟨r1, 0, none⟩) tn c.rc) := by rw [← HX.out, ← HR1.out, ← HTN.out]; exact HB0.out.cell 7
  have k0 : wD.cell? ⟨K0, 0, none⟩ = some (.slice ia inn ic) := (SD1.out.blk S1.out.2).cell 0
  have k1 : wD.cell? ⟨K0, 1, none⟩ = some (.slice ca cn cc) := (SD1.out.blk S1.out.2).cell 1
  have lX : X < wD.heap.size := by rw [← HX.out]; exact HB0.out.lt
  have lK : K0 < wD.heap.size := (SD1.out.blk S1.out.2).lt
  have hD : ∃ D : Nat → Option (Bool × (Nat → Nat)), ∀ x ∈ c.bs, ∃ im R, D x = some (im, R) := ⟨fun _ => some (true, Vf.zero), fun _ _ => ⟨_, _, rfl⟩⟩
  obtain ⟨D, hDD⟩ := hD
  have HBG := Lib.hid (begin_any (w := wD) (D := D) (yr := c.r1) (yc := c.rc) (ts := c.bs) (c := ic) HRW.out.rt (Nat.lt_of_lt_of_le HRW.out.l1.1 HRW.out.le.2.2) hDD (by rw [HRW.out.lb]; exact HRW.out.few.1) (HIN.out.keep ((Still.below SD.out).mono (by have := HH.out.rows.le; omega)) (by have := HH.out.rows.le; omega)) hn (by have := HRW.out.le; omega) (fun x hx => by rw [HRW.out.lb]; exact HBK.out x hx))
  rw [HTL.out, HTN.out, HR1.out] at HBG
  clear hDD hbox0
  refine wp_region_held_drew (S := fun W => W.cell? ⟨X, 7, none⟩ = some (.slice (some ⟨r1, 0, none⟩) tn c.rc) ∧ W.cell? ⟨K0, 0, none⟩ = some (.slice ia inn ic) ∧ W.cell? ⟨K0, 1, none⟩ = some (.slice ca cn cc)) (by kernel_rfl) (by rw [hwD]; exact ⟨x7, k0, k1⟩) (fun hHeld => ?_)
  try simp only [Act.put, List.getElem_toArray, List.getElem_cons_succ, List.getElem_cons_zero, List.setIfInBounds_toArray, List.set_cons_zero, List.set_cons_succ]
  rw [hwD] at hHeld ⊢
  clear hwD
  refine wpAnyH_take (i := 0) (v := ?_) rfl (by kernel_rfl) (by kernel_rfl) (by kernel_rfl) (fun _ _ _ h => h) (Or.inl ⟨by rfl, ?_⟩) (by assumption) ?_
  rotate_left
  · intro w hSw; (try dsimp only at hSw); go_simp; try with_reducible rfl
  try simp only [Act.put, List.getElem_toArray, List.getElem_cons_succ, List.getElem_cons_zero, List.setIfInBounds_toArray, List.set_cons_zero, List.set_cons_succ]
  refine wpAnyH_take (i := 1) (v := ?_) rfl (by kernel_rfl) (by kernel_rfl) (by kernel_rfl) (fun _ _ _ h => h) (Or.inl ⟨by rfl, ?_⟩) (by assumption) ?_
  rotate_left
  · intro w hSw; (try dsimp only at hSw); go_simp; try with_reducible rfl
  try simp only [Act.put, List.getElem_toArray, List.getElem_cons_succ, List.getElem_cons_zero, List.setIfInBounds_toArray, List.set_cons_zero, List.set_cons_succ]
  refine wpAnyH_take (i := 2) (v := ?_) rfl (by kernel_rfl) (by kernel_rfl) (by kernel_rfl) (fun _ _ _ h => h) (Or.inl ⟨by rfl, ?_⟩) (by assumption) ?_
  rotate_left
  · intro w hSw; (try dsimp only at hSw); go_simp; try with_reducible rfl
  try simp only [Act.put, List.getElem_toArray, List.getElem_cons_succ, List.getElem_cons_zero, List.setIfInBounds_toArray, List.set_cons_zero, List.set_cons_succ]
  refine wpAnyH_take (i := 3) (v := ?_) rfl (by kernel_rfl) (by kernel_rfl) (by kernel_rfl) (fun _ _ _ h => h) (Or.inl ⟨by rfl, ?_⟩) (by assumption) ?_
  rotate_left
  · intro w hSw; (try dsimp only at hSw); go_simp; try with_reducible rfl
  try simp only [Act.put, List.getElem_toArray, List.getElem_cons_succ, List.getElem_cons_zero, List.setIfInBounds_toArray, List.set_cons_zero, List.set_cons_succ]
  refine wpAnyH_take (i := 4) (v := ?_) rfl (by kernel_rfl) (by kernel_rfl) (by kernel_rfl) (fun _ _ _ h => h) (Or.inl ⟨by rfl, ?_⟩) (by assumption) ?_
  rotate_left
  · intro w hSw; (try dsimp only at hSw); go_simp; try with_reducible rfl
  try simp only [Act.put, List.getElem_toArray, List.getElem_cons_succ, List.getElem_cons_zero, List.setIfInBounds_toArray, List.set_cons_zero, List.set_cons_succ]
  refine wpAnyH_take (i := 5) (v := ?_) rfl (by kernel_rfl) (by kernel_rfl) (by kernel_rfl) (fun _ _ _ h => h) (Or.inl ⟨by rfl, ?_⟩) (by assumption) ?_
  rotate_left
  · intro w hSw; (try dsimp only at hSw); go_simp; try with_reducible rfl
  try simp only [Act.put, List.getElem_toArray, List.getElem_cons_succ, List.getElem_cons_zero, List.setIfInBounds_toArray, List.set_cons_zero, List.set_cons_succ]
  refine wpAnyH_take (i := 6) (v := ?_) rfl (by kernel_rfl) (by kernel_rfl) (by kernel_rfl) (fun _ _ _ h => h) (Or.inl ⟨by rfl, ?_⟩) (by assumption) ?_
  rotate_left
  · intro w hSw; (try dsimp only at hSw); go_simp; try with_reducible rfl
  try simp only [Act.put, List.getElem_toArray, List.getElem_cons_succ, List.getElem_cons_zero, List.setIfInBounds_toArray, List.set_cons_zero, List.set_cons_succ]
  refine wpAnyH_ready (rs := [7]) (by kernel_rfl) (by simp) ?_
  refine AllReadyH.cons rfl (fun K hK => ?_) AllReadyH.nil
  go_simp
  refine HBG.out.mono ?_; rintro e w5 ⟨N, r, T, Y, rfl, hva, hN, hr, hT, hY, t5⟩
  have HVA := Lib.hid (And.intro hva (And.intro hN (And.intro hr (And.intro hT (And.intro hY t5)))))
  have hH5 : w5.cell? ⟨X, 7, none⟩ = some (.slice (some ⟨r1, 0, none⟩) tn c.rc) ∧ w5.cell? ⟨K0, 0, none⟩ = some (.slice ia inn ic) ∧ w5.cell? ⟨K0, 1, none⟩ = some (.slice ca cn cc) := ⟨(t5.cell (p := ⟨X, 7, none⟩) lX).trans hHeld.1, (t5.cell (p := ⟨K0, 0, none⟩) lK).trans hHeld.2.1, (t5.cell (p := ⟨K0, 1, none⟩) lK).trans hHeld.2.2⟩
  have HB5 := Lib.hid (t5.blk HB0.out)
  have SW5 : Hid (Still w w5) := SD.out.trans t5
  have HK5 := Lib.hid (t5.blk (SD1.out.blk S1.out.2))
  clear hva hN hr hT hY t5 hHeld x7 k0 k1 lX lK
  refine hK.out _ _ hH5 (fun hHeld => ?_)
  clear hK K
  refine wpAnyH_take (i := 8) (v := ?_) rfl (by kernel_rfl) (by kernel_rfl) (by kernel_rfl) (fun _ _ _ h => h) (Or.inl ⟨by rfl, ?_⟩) (by assumption) ?_
  rotate_left
  · intro w hSw; (try dsimp only at hSw); go_simp; try with_reducible rfl
  try simp only [Act.put, List.getElem_toArray, List.getElem_cons_succ, List.getElem_cons_zero, List.setIfInBounds_toArray, List.set_cons_zero, List.set_cons_succ]
  refine wpAnyH_take (i := 9) (v := ?_) rfl (by kernel_rfl) (by kernel_rfl) (by kernel_rfl) (fun _ _ _ h => h) (Or.inl ⟨by rfl, ?_⟩) (by assumption) ?_
  rotate_left
  · intro w hSw; (try dsimp only at hSw); go_simp; try with_reducible rfl
  try simp only [Act.put, List.getElem_toArray, List.getElem_cons_succ, List.getElem_cons_zero, List.setIfInBounds_toArray, List.set_cons_zero, List.set_cons_succ]
  have z18 : w5.cell? ⟨X, 18, none⟩ = some v0 := by rw [← HX.out]; exact HB5.out.cell 18
  have z19 : w5.cell? ⟨X, 19, none⟩ = some v1 := by rw [← HX.out]; exact HB5.out.cell 19
  have z20 : w5.cell? ⟨X, 20, none⟩ = some v2 := by rw [← HX.out]; exact HB5.out.cell 20
  have z21 : w5.cell? ⟨X, 21, none⟩ = some v3 := by rw [← HX.out]; exact HB5.out.cell 21
  have z22 : w5.cell? ⟨X, 22, none⟩ = some v4 := by rw [← HX.out]; exact HB5.out.cell 22
  have f18 : w5.frozen? ⟨X, 18, none⟩ = false := by rw [← HX.out]; exact HB5.out.frozen 18
  have f19 : w5.frozen? ⟨X, 19, none⟩ = false := by rw [← HX.out]; exact HB5.out.frozen 19
  have f20 : w5.frozen? ⟨X, 20, none⟩ = false := by rw [← HX.out]; exact HB5.out.frozen 20
  have f21 : w5.frozen? ⟨X, 21, none⟩ = false := by rw [← HX.out]; exact HB5.out.frozen 21
  have f22 : w5.frozen? ⟨X, 22, none⟩ = false := by rw [← HX.out]; exact HB5.out.frozen 22
  have lX5 : X < w5.heap.size := by rw [← HX.out]; exact HB5.out.lt
  refine wpAnyH_ready (rs := [10]) (by kernel_rfl) (by simp) ?_
  refine AllReadyH.cons rfl (fun K hK => ?_) AllReadyH.nil
  go_simp
  have hb5 : Blk w5 X 67 (c.cells g fi bi ii v0 v1 v2 v3 v4) := by rw [← HX.out]; exact HB5.out
  have hbX : Blk (((((w5.setCell ⟨X, 18, none⟩ (.func (.func 84) #[] #[.pointer (some ⟨N, 0, none⟩)])).setCell ⟨X, 19, none⟩ (.func (.func 86) #[] #[.pointer (some ⟨N, 0, none⟩)])).setCell ⟨X, 20, none⟩ (.func (.func 87) #[] #[.pointer (some ⟨N, 0, none⟩)])).setCell ⟨X, 21, none⟩ (.func (.func 88) #[] #[.pointer (some ⟨N, 0, none⟩), .pointer (some ⟨T, 0, none⟩)])).setCell ⟨X, 22, none⟩ (.func (.func 89) #[] #[.pointer (some ⟨T, 0, none⟩), .pointer (some ⟨Y, 0, none⟩)])) X 67 (c.cells g fi bi ii (.func (.func 84) #[] #[.pointer (some ⟨N, 0, none⟩)]) (.func (.func 86) #[] #[.pointer (some ⟨N, 0, none⟩)]) (.func (.func 87) #[] #[.pointer (some ⟨N, 0, none⟩)]) (.func (.func 88) #[] #[.pointer (some ⟨N, 0, none⟩), .pointer (some ⟨T, 0, none⟩)]) (.func (.func 89) #[] #[.pointer (some ⟨T, 0, none⟩), .pointer (some ⟨Y, 0, none⟩)])) := by simpa using (((((hb5.set 18 (.func (.func 84) #[] #[.pointer (some ⟨N, 0, none⟩)])).set 19 (.func (.func 86) #[] #[.pointer (some ⟨N, 0, none⟩)])).set 20 (.func (.func 87) #[] #[.pointer (some ⟨N, 0, none⟩)])).set 21 (.func (.func 88) #[] #[.pointer (some ⟨N, 0, none⟩), .pointer (some ⟨T, 0, none⟩)])).set 22 (.func (.func 89) #[] #[.pointer (some ⟨T, 0, none⟩), .pointer (some ⟨Y, 0, none⟩)]))
  have hTX : Turn (fun j => j = X) w5 (((((w5.setCell ⟨X, 18, none⟩ (.func (.func 84) #[] #[.pointer (some ⟨N, 0, none⟩)])).setCell ⟨X, 19, none⟩ (.func (.func 86) #[] #[.pointer (some ⟨N, 0, none⟩)])).setCell ⟨X, 20, none⟩ (.func (.func 87) #[] #[.pointer (some ⟨N, 0, none⟩)])).setCell ⟨X, 21, none⟩ (.func (.func 88) #[] #[.pointer (some ⟨N, 0, none⟩), .pointer (some ⟨T, 0, none⟩)])).setCell ⟨X, 22, none⟩ (.func (.func 89) #[] #[.pointer (some ⟨T, 0, none⟩), .pointer (some ⟨Y, 0, none⟩)])) := ((((((Turn.refl (fun j => j = X) w5).setCell (p := ⟨X, 18, none⟩) (fun _ => rfl) _).setCell (p := ⟨X, 19, none⟩) (fun _ => rfl) _).setCell (p := ⟨X, 20, none⟩) (fun _ => rfl) _).setCell (p := ⟨X, 21, none⟩) (fun _ => rfl) _).setCell (p := ⟨X, 22, none⟩) (fun _ => rfl) _)
  have hKX : K0 ≠ X := fun e => by have h1 := HH.out.rows.le; have h2 := HK0.out; rw [HX.out] at h1; omega
  have hlK5 := HK5.out.lt
  have hH6 : (((((w5.setCell ⟨X, 18, none⟩ (.func (.func 84) #[] #[.pointer (some ⟨N, 0, none⟩)])).setCell ⟨X, 19, none⟩ (.func (.func 86) #[] #[.pointer (some ⟨N, 0, none⟩)])).setCell ⟨X, 20, none⟩ (.func (.func 87) #[] #[.pointer (some ⟨N, 0, none⟩)])).setCell ⟨X, 21, none⟩ (.func (.func 88) #[] #[.pointer (some ⟨N, 0, none⟩), .pointer (some ⟨T, 0, none⟩)])).setCell ⟨X, 22, none⟩ (.func (.func 89) #[] #[.pointer (some ⟨T, 0, none⟩), .pointer (some ⟨Y, 0, none⟩)])).cell? ⟨X, 7, none⟩ = some (.slice (some ⟨r1, 0, none⟩) tn c.rc) ∧ (((((w5.setCell ⟨X, 18, none⟩ (.func (.func 84) #[] #[.pointer (some ⟨N, 0, none⟩)])).setCell ⟨X, 19, none⟩ (.func (.func 86) #[] #[.pointer (some ⟨N, 0, none⟩)])).setCell ⟨X, 20, none⟩ (.func (.func 87) #[] #[.pointer (some ⟨N, 0, none⟩)])).setCell ⟨X, 21, none⟩ (.func (.func 88) #[] #[.pointer (some ⟨N, 0, none⟩), .pointer (some ⟨T, 0, none⟩)])).setCell ⟨X, 22, none⟩ (.func (.func 89) #[] #[.pointer (some ⟨T, 0, none⟩), .pointer (some ⟨Y, 0, none⟩)])).cell? ⟨K0, 0, none⟩ = some (.slice ia inn ic) ∧ (((((w5.setCell ⟨X, 18, none⟩ (.func (.func 84) #[] #[.pointer (some ⟨N, 0, none⟩)])).setCell ⟨X, 19, none⟩ (.func (.func 86) #[] #[.pointer (some ⟨N, 0, none⟩)])).setCell ⟨X, 20, none⟩ (.func (.func 87) #[] #[.pointer (some ⟨N, 0, none⟩)])).setCell ⟨X, 21, none⟩ (.func (.func 88) #[] #[.pointer (some ⟨N, 0, none⟩), .pointer (some ⟨T, 0, none⟩)])).setCell ⟨X, 22, none⟩ (.func (.func 89) #[] #[.pointer (some ⟨T, 0, none⟩), .pointer (some ⟨Y, 0, none⟩)])).cell? ⟨K0, 1, none⟩ = some (.slice ca cn cc) := ⟨by rw [← HR1.out, ← HTN.out]; exact hbX.cell 7, (hTX.cell (p := ⟨K0, 0, none⟩) hlK5 hKX).trans hHeld.2.1, (hTX.cell (p := ⟨K0, 1, none⟩) hlK5 hKX).trans hHeld.2.2⟩
  clear z18 z19 z20 z21 z22 f18 f19 f20 f21 f22 lX5 hHeld hH5
  refine hK.out _ _ hH6 (fun hHeld => ?_)
  clear hK K
  refine wpAnyH_done (by kernel_rfl) ?_ _
  have BX := Lib.hid (And.intro hbX hTX)
  clear hbX hTX hHeld hH6 hb5
  generalize (((((w5.setCell ⟨X, 18, none⟩ (.func (.func 84) #[] #[.pointer (some ⟨N, 0, none⟩)])).setCell ⟨X, 19, none⟩ (.func (.func 86) #[] #[.pointer (some ⟨N, 0, none⟩)])).setCell ⟨X, 20, none⟩ (.func (.func 87) #[] #[.pointer (some ⟨N, 0, none⟩)])).setCell ⟨X, 21, none⟩ (.func (.func 88) #[] #[.pointer (some ⟨N, 0, none⟩), .pointer (some ⟨T, 0, none⟩)])).setCell ⟨X, 22, none⟩ (.func (.func 89) #[] #[.pointer (some ⟨T, 0, none⟩), .pointer (some ⟨Y, 0, none⟩)])) = w6 at BX ⊢
  have AT : Hid (WkAt c w6 f g fi bi ii N r T Y (beginL c.bs b.inn) (beginK c.m b.inn) ∧ Turn (fun j => j = c.X) w w6 ∧ Blk w6 K0 48 #[.slice ia inn ic, .slice ca cn cc]) := by
    obtain ⟨⟨hnow, htyped, htypes, hne⟩, hN, hr, hT, hY, t5⟩ := HVA.out
    have hle := HRW.out.le
    have hX := HX.out
    have hl1 := HRW.out.l1
    have tX : Turn (fun j => j = c.X) w w6 := by rw [hX]; exact SW5.out.turn.trans BX.out.2
    have hF := HH.out.keep (bi' := bi) (ii' := ii) tX (fun j e => .inl e) ⟨_, _, _, _, _, by rw [hX]; exact BX.out.1⟩
    refine ⟨⟨hF.rows, by rw [hX]; exact BX.out.1, hF.fn, hF.par, hF.blk, hnow.keep BX.out.2 (by omega) (by omega), htyped.keep BX.out.2 (by omega), ?_, ⟨by omega, by omega, by omega, by omega⟩, ⟨hne.1, hne.2.1, hne.2.2.1, hne.2.2.2.1, hne.2.2.2.2.1⟩, kn_begin hF.rows HBK.out, hF.ok, hF.rows.inM.begin _⟩, tX, HK5.out.keep BX.out.2 hKX⟩
    have := htypes.box.keep BX.out.2 (by omega)
    rw [HTL.out, ← HR1.out] at this
    exact this
  have HNK : Hid (K0 < N ∧ K0 < r) := by
    have h1 := (SD1.out.blk S1.out.2).lt
    obtain ⟨_, hN, hr, _, _, _⟩ := HVA.out
    exact ⟨by omega, by omega⟩
  clear HVA BX HB5 HK5 SW5 HBG hlK5 hKX
  have b1 := AT.out.2.2.cell 1
  have lK6 := AT.out.2.2.lt
  go_wp2_with fail
  clear b1 lK6
  go_loopw [5, 6, 24] (fun _ _ z wr => ∃ i r0 l k ii0, z = .int .i64 (i : Nat) ∧ i ≤ cn ∧ WkAt c wr f g fi bi ii0 N r0 T Y l k ∧ Turn (fun j => j = c.X) w wr ∧ Blk wr K0 48 #[.slice ia inn ic, .slice ca cn cc] ∧ PR c f b cn i k ∧ K0 < r0) (fun _ _ z _ => cn - (intOf z).toNat)
  case atStart => exact ⟨0, r, _, _, ii, rfl, Nat.zero_le _, AT.out.1, AT.out.2.1, AT.out.2.2, PR.begin HCL.out, HNK.out.2⟩
  case round =>
    obtain ⟨i, r0, l, k, ii0, rfl, hi, hwk, ht, hkb, hpr, hr0⟩ := hrel
    have HWK := Lib.hid (And.intro hwk (And.intro ht hkb))
    have HR0 : Hid (True ∧ PR c f b cn i k ∧ K0 < r0) := ⟨trivial, hpr, hr0⟩
    have HBL : Hid (Below c.B w wr) := ht.below (by have := HH.out.rows.le; omega) fun j e => by have := HH.out.rows.le; have e2 : j = c.X := e; omega
    have HBW : Hid (c.B ≤ w.heap.size) := by have := HH.out.rows.le; show _ ≤ _; omega
    by_cases hlt : i < cn
    · obtain ⟨b3, off3, x, cs, hca, hbB, hxi, hcl, hPx, hcell⟩ := (Lies.keep HCODE.out HBL.out HBW.out (fun cs x _ h => h.keep HBL.out HBW.out)).here hlt
      have hPx0 := hPx
      obtain ⟨la, ln, lc, ma, mn, mc, va, vn, vc, rfl, hrest⟩ := hPx
      have d0 : wr.cell? ⟨b3, off3 + i * 9, none⟩ = some (.int .i64 x.op) := by simpa using hcell 0 (by decide)
      have d1 : wr.cell? ⟨b3, off3 + i * 9 + 1, none⟩ = some (.int .i64 x.d) := by simpa using hcell 1 (by decide)
      have d2 : wr.cell? ⟨b3, off3 + i * 9 + 2, none⟩ = some (.int .i64 x.a) := by simpa using hcell 2 (by decide)
      have d3 : wr.cell? ⟨b3, off3 + i * 9 + 3, none⟩ = some (.int .i64 x.b) := by simpa using hcell 3 (by decide)
      have d4 : wr.cell? ⟨b3, off3 + i * 9 + 4, none⟩ = some (.int .i64 x.c) := by simpa using hcell 4 (by decide)
      have d5 : wr.cell? ⟨b3, off3 + i * 9 + 5, none⟩ = some (.int .i64 x.n) := by simpa using hcell 5 (by decide)
      have d6 : wr.cell? ⟨b3, off3 + i * 9 + 6, none⟩ = some (.slice la ln lc) := by simpa using hcell 6 (by decide)
      have d7 : wr.cell? ⟨b3, off3 + i * 9 + 7, none⟩ = some (.slice ma mn mc) := by simpa using hcell 7 (by decide)
      have d8 : wr.cell? ⟨b3, off3 + i * 9 + 8, none⟩ = some (.slice va vn vc) := by simpa using hcell 8 (by decide)
      have hbl : b3 < wr.heap.size := World.block_lt_of_cell? _ _ d0
      have hii : (i : Int) < cn := by omega
      have HLT := Lib.hid hlt
      have HX1 : Hid (b.code[i]? = some x ∧ x ∈ b.code) := ⟨hxi, List.mem_of_getElem? hxi⟩
      have WP := (hwk.put (i : Int))
      rw [HX.out] at WP
      have W7 : Hid (WkAt c ((wr.setCell ⟨X, 17, none⟩ (.int .i64 (i : Int))).alloc (.cells #[.int .i64 x.op, .int .i64 x.d, .int .i64 x.a, .int .i64 x.b, .int .i64 x.c, .int .i64 x.n, .slice la ln lc, .slice ma mn mc, .slice va vn vc] 36)) f g fi bi i N r0 T Y l k ∧ Turn (fun j => j = c.X) w ((wr.setCell ⟨X, 17, none⟩ (.int .i64 (i : Int))).alloc (.cells #[.int .i64 x.op, .int .i64 x.d, .int .i64 x.a, .int .i64 x.b, .int .i64 x.c, .int .i64 x.n, .slice la ln lc, .slice ma mn mc, .slice va vn vc] 36)) ∧ Blk ((wr.setCell ⟨X, 17, none⟩ (.int .i64 (i : Int))).alloc (.cells #[.int .i64 x.op, .int .i64 x.d, .int .i64 x.a, .int .i64 x.b, .int .i64 x.c, .int .i64 x.n, .slice la ln lc, .slice ma mn mc, .slice va vn vc] 36)) wr.heap.size 36 #[.int .i64 x.op, .int .i64 x.d, .int .i64 x.a, .int .i64 x.b, .int .i64 x.c, .int .i64 x.n, .slice la ln lc, .slice ma mn mc, .slice va vn vc] ∧ InsIs c.B ((wr.setCell ⟨X, 17, none⟩ (.int .i64 (i : Int))).alloc (.cells #[.int .i64 x.op, .int .i64 x.d, .int .i64 x.a, .int .i64 x.b, .int .i64 x.c, .int .i64 x.n, .slice la ln lc, .slice ma mn mc, .slice va vn vc] 36)) [.int .i64 x.op, .int .i64 x.d, .int .i64 x.a, .int .i64 x.b, .int .i64 x.c, .int .i64 x.n, .slice la ln lc, .slice ma mn mc, .slice va vn vc] x) := by
        have t1 : Turn (fun j => j = c.X) wr ((wr.setCell ⟨X, 17, none⟩ (.int .i64 (i : Int))).alloc (.cells #[.int .i64 x.op, .int .i64 x.d, .int .i64 x.a, .int .i64 x.b, .int .i64 x.c, .int .i64 x.n, .slice la ln lc, .slice ma mn mc, .slice va vn vc] 36)) := by rw [HX.out]; exact WP.2.alloc _
        refine ⟨WP.1.still ((Still.refl _).alloc _), ht.trans t1, ?_, hPx0.keep (t1.below (by have := hwk.rows.le; omega) fun j e => by have := hwk.rows.le; have e2 : j = c.X := e; omega) (by have := hwk.rows.le; omega)⟩
        have := Blk.new (wr.setCell ⟨X, 17, none⟩ (.int .i64 (i : Int))) 36 #[.int .i64 x.op, .int .i64 x.d, .int .i64 x.a, .int .i64 x.b, .int .i64 x.c, .int .i64 x.n, .slice la ln lc, .slice ma mn mc, .slice va vn vc]
        rwa [show (wr.setCell ⟨X, 17, none⟩ (.int .i64 (i : Int))).heap.size = wr.heap.size by simp] at this
      have W7K : Hid (Blk ((wr.setCell ⟨X, 17, none⟩ (.int .i64 (i : Int))).alloc (.cells #[.int .i64 x.op, .int .i64 x.d, .int .i64 x.a, .int .i64 x.b, .int .i64 x.c, .int .i64 x.n, .slice la ln lc, .slice ma mn mc, .slice va vn vc] 36)) K0 48 #[.slice ia inn ic, .slice ca cn cc]) := (hkb.keep WP.2 (by have h1 := HH.out.rows.le; have h2 := HK0.out; rw [HX.out] at h1; omega)).alloc _
      have y17 : wr.cell? ⟨X, 17, none⟩ = some (.int .i64 ii0) := by rw [← HX.out]; exact hwk.box.cell 17
      have g17 : wr.frozen? ⟨X, 17, none⟩ = false := by rw [← HX.out]; exact hwk.box.frozen 17
      have lX : X < wr.heap.size := by rw [← HX.out]; exact hwk.box.lt
      clear hcell hcl hxi hPx0 hrest hwk ht hkb hpr hr0 WP
      subst hca
      by_cases hlast : i + 1 = cn
      · have x5 : ((i : Int) == (cn : Int) - 1) = true := beq_iff_eq.2 (by omega)
        have HLA := Lib.hid hlast
        clear hlast
        go_wp2_with fail
        clear y17 g17 lX d0 d1 d2 d3 d4 d5 d6 d7 d8
        generalize (wr.setCell ⟨X, 17, none⟩ (.int .i64 (i : Int))).alloc (.cells #[.int .i64 x.op, .int .i64 x.d, .int .i64 x.a, .int .i64 x.b, .int .i64 x.c, .int .i64 x.n, .slice la ln lc, .slice ma mn mc, .slice va vn vc] 36) = w7 at W7 W7K ⊢
        obtain ⟨Q, hQ⟩ : ∃ Q, wr.heap.size = Q := ⟨_, rfl⟩
        rw [hQ] at W7 hbl
        rw [hQ]
        clear hQ
        refine (need_yes _).mono ?_; rintro e w7' ⟨rfl, rfl⟩
        have HST := Lib.hid (HOK.out x HX1.out.2 w7' f g fi bi i N r0 T Y l k la ln lc ma mn mc va vn vc (by have := W7.out.1; exact this) W7.out.2.2.2)
        have q0 := W7.out.2.2.1.cell 0
        have q1 := W7.out.2.2.1.cell 1
        have q2 := W7.out.2.2.1.cell 2
        have q3 := W7.out.2.2.1.cell 3
        have q4 := W7.out.2.2.1.cell 4
        have q5 := W7.out.2.2.1.cell 5
        have q6 := W7.out.2.2.1.cell 6
        have q7 := W7.out.2.2.1.cell 7
        have q8 := W7.out.2.2.1.cell 8
        have lq := W7.out.2.2.1.lt
        rw [HX.out] at HST
        go_wp2_with fail
        clear q0 q1 q2 q3 q4 q5 q6 q7 q8 lq
        refine HST.out.mono ?_; rintro e w8 (⟨hN8, rfl, ⟨r8, l8, hn8, hk8, hr8⟩, t8⟩ | ⟨hN8, rfl, t8⟩)
        · have T8 : Hid (Turn (fun j => j = c.X) w w8) := turn_fresh W7.out.2.1 t8 (by have := HNK.out.1; have := HK0.out; omega) (by have := HR0.out.2.2; have := HK0.out; omega)
          have WK8 := Lib.hid (W7.out.1.step hn8 hk8 (W7.out.1.inK.next W7.out.1.rows.inM hN8) hr8 t8)
          have HR8 := Lib.hid (And.intro (show K0 < r8 by
            have h1 := HR0.out.2.2
            have h3 := W7K.out.lt
            rcases hr8 with e | e <;> omega) (W7K.out.keep t8 (by
            have h1 := HR0.out.2.2
            have h2 := HNK.out.1
            omega)))
          have HPN := Lib.hid (HR0.out.2.1.next HLT.out HX1.out.1 (Or.inl HLA.out) hN8)
          clear hN8 hn8 hk8 hr8 t8
          go_wp2_with fail
          go_roundw
          case rel => exact ⟨i + 1, r8, l8, _, _, by go_num, by have := HLT.out; omega, WK8.out, T8.out, HR8.out.2, HPN.out, HR8.out.1⟩
          case measure => have := HLT.out; simp [intOf]; omega
        · have T8 : Hid (Turn (fun j => j = c.X) w w8) := turn_fresh W7.out.2.1 t8 (by have := HNK.out.1; have := HK0.out; omega) (by have := HR0.out.2.2; have := HK0.out; omega)
          refine ⟨rfl, some i, i, HR0.out.2.1.bad HLT.out HX1.out.1 (fun e => hN8 e.2), W7.out.1.f.keep t8 (fun j e => ?_) ⟨_, _, _, _, _, W7.out.1.box.keep t8 ?_⟩, T8.out, .inr ⟨i, rfl, rfl, rfl⟩⟩
          · have := W7.out.1.far
            rcases e with e | e <;> exact .inr (by omega)
          · have h1 := W7.out.1.far
            have h2 := W7.out.1.rows.le
            omega
      · have x5 : ((i : Int) == (cn : Int) - 1) = false := beq_eq_false_iff_ne.2 (by omega)
        have HLA := Lib.hid hlast
        clear hlast
        go_wp2_with fail
        clear y17 g17 lX d0 d1 d2 d3 d4 d5 d6 d7 d8
        generalize (wr.setCell ⟨X, 17, none⟩ (.int .i64 (i : Int))).alloc (.cells #[.int .i64 x.op, .int .i64 x.d, .int .i64 x.a, .int .i64 x.b, .int .i64 x.c, .int .i64 x.n, .slice la ln lc, .slice ma mn mc, .slice va vn vc] 36) = w7 at W7 W7K ⊢
        obtain ⟨Q, hQ⟩ : ∃ Q, wr.heap.size = Q := ⟨_, rfl⟩
        rw [hQ] at W7 hbl
        rw [hQ]
        clear hQ
        refine (leaves_any x la ln lc ma mn mc va vn vc w7).mono ?_; rintro e w9 ⟨rfl, t9⟩
        have W9 : Hid (WkAt c w9 f g fi bi i N r0 T Y l k ∧ Turn (fun j => j = c.X) w w9 ∧ Blk w9 Q 36 #[.int .i64 x.op, .int .i64 x.d, .int .i64 x.a, .int .i64 x.b, .int .i64 x.c, .int .i64 x.n, .slice la ln lc, .slice ma mn mc, .slice va vn vc] ∧ InsIs c.B w9 [.int .i64 x.op, .int .i64 x.d, .int .i64 x.a, .int .i64 x.b, .int .i64 x.c, .int .i64 x.n, .slice la ln lc, .slice ma mn mc, .slice va vn vc] x) := ⟨W7.out.1.still t9, W7.out.2.1.trans t9.turn, t9.blk W7.out.2.2.1, W7.out.2.2.2.keep ((Still.below t9).mono (by have := W7.out.1.rows.le; omega)) (by have := W7.out.1.rows.le; omega)⟩
        have W9K := Lib.hid (t9.blk W7K.out)
        clear t9
        clear W7 W7K
        have W7 := W9
        have W7K := W9K
        clear W9 W9K
        cases hlb : lastB x with
        | true =>
          go_wp2_with fail
          refine (need_no _).mono ?_; rintro e wz ⟨rfl, rfl⟩
          exact ⟨rfl, some i, i, HR0.out.2.1.bad HLT.out HX1.out.1 (fun e => e.1.elim HLA.out fun e => e ((lastB_iff x).1 hlb)), W7.out.1.f, W7.out.2.1, .inr ⟨i, rfl, rfl, rfl⟩⟩
        | false =>
          have HLB : Hid (¬ Last x) := fun e => by rw [(lastB_iff x).2 e] at hlb; cases hlb
          go_wp2_with fail
          refine (need_yes _).mono ?_; rintro e w9' ⟨rfl, rfl⟩
          clear hlb
          have HST := Lib.hid (HOK.out x HX1.out.2 w9' f g fi bi i N r0 T Y l k la ln lc ma mn mc va vn vc (by have := W7.out.1; exact this) W7.out.2.2.2)
          have q0 := W7.out.2.2.1.cell 0
          have q1 := W7.out.2.2.1.cell 1
          have q2 := W7.out.2.2.1.cell 2
          have q3 := W7.out.2.2.1.cell 3
          have q4 := W7.out.2.2.1.cell 4
          have q5 := W7.out.2.2.1.cell 5
          have q6 := W7.out.2.2.1.cell 6
          have q7 := W7.out.2.2.1.cell 7
          have q8 := W7.out.2.2.1.cell 8
          have lq := W7.out.2.2.1.lt
          rw [HX.out] at HST
          go_wp2_with fail
          clear q0 q1 q2 q3 q4 q5 q6 q7 q8 lq
          refine HST.out.mono ?_; rintro e w8 (⟨hN8, rfl, ⟨r8, l8, hn8, hk8, hr8⟩, t8⟩ | ⟨hN8, rfl, t8⟩)
          · have T8 : Hid (Turn (fun j => j = c.X) w w8) := turn_fresh W7.out.2.1 t8 (by have := HNK.out.1; have := HK0.out; omega) (by have := HR0.out.2.2; have := HK0.out; omega)
            have WK8 := Lib.hid (W7.out.1.step hn8 hk8 (W7.out.1.inK.next W7.out.1.rows.inM hN8) hr8 t8)
            have HR8 := Lib.hid (And.intro (show K0 < r8 by
              have h1 := HR0.out.2.2
              have h3 := W7K.out.lt
              rcases hr8 with e | e <;> omega) (W7K.out.keep t8 (by
              have h1 := HR0.out.2.2
              have h2 := HNK.out.1
              omega)))
            have HPN := Lib.hid (HR0.out.2.1.next HLT.out HX1.out.1 (Or.inr HLB.out) hN8)
            clear hN8 hn8 hk8 hr8 t8
            go_wp2_with fail
            go_roundw
            case rel => exact ⟨i + 1, r8, l8, _, _, by go_num, by have := HLT.out; omega, WK8.out, T8.out, HR8.out.2, HPN.out, HR8.out.1⟩
            case measure => have := HLT.out; simp [intOf]; omega
          · have T8 : Hid (Turn (fun j => j = c.X) w w8) := turn_fresh W7.out.2.1 t8 (by have := HNK.out.1; have := HK0.out; omega) (by have := HR0.out.2.2; have := HK0.out; omega)
            refine ⟨rfl, some i, i, HR0.out.2.1.bad HLT.out HX1.out.1 (fun e => hN8 e.2), W7.out.1.f.keep t8 (fun j e => ?_) ⟨_, _, _, _, _, W7.out.1.box.keep t8 ?_⟩, T8.out, .inr ⟨i, rfl, rfl, rfl⟩⟩
            · have := W7.out.1.far
              rcases e with e | e <;> exact .inr (by omega)
            · have h1 := W7.out.1.far
              have h2 := W7.out.1.rows.le
              omega
    · obtain rfl : cn = i := by omega
      have x6 : decide ((cn : Int) < cn) = false := decide_eq_false (by omega)
      have x6' : decide (cn < cn) = false := decide_eq_false (by omega)
      have WP := (hwk.put (cn : Int))
      rw [HX.out] at WP
      have W7 : Hid (WkAt c (wr.setCell ⟨X, 17, none⟩ (.int .i64 (cn : Int))) f g fi bi cn N r0 T Y l k ∧ Turn (fun j => j = c.X) w (wr.setCell ⟨X, 17, none⟩ (.int .i64 (cn : Int)))) := by
        refine ⟨WP.1, ht.trans ?_⟩
        rw [HX.out]
        exact WP.2
      have W7K : Hid (Blk (wr.setCell ⟨X, 17, none⟩ (.int .i64 (cn : Int))) K0 48 #[.slice ia inn ic, .slice ca cn cc]) := hkb.keep WP.2 (by have h1 := HH.out.rows.le; have h2 := HK0.out; rw [HX.out] at h1; omega)
      have y17 : wr.cell? ⟨X, 17, none⟩ = some (.int .i64 ii0) := by rw [← HX.out]; exact hwk.box.cell 17
      have g17 : wr.frozen? ⟨X, 17, none⟩ = false := by rw [← HX.out]; exact hwk.box.frozen 17
      have lX : X < wr.heap.size := by rw [← HX.out]; exact hwk.box.lt
      have kb1 : wr.cell? ⟨K0, 1, none⟩ = some (.slice ca cn cc) := hkb.cell 1
      have lK : K0 < wr.heap.size := hkb.lt
      have hKX : K0 ≠ X := by have h1 := HH.out.rows.le; have h2 := HK0.out; rw [HX.out] at h1; omega
      have hXK : X ≠ K0 := hKX.symm
      have HCA : Hid (0 < cn → ∃ b3 off3 x la ln lc ma mn mc va vn vc, ca = some ⟨b3, off3, none⟩ ∧ b.code[cn - 1]? = some x ∧ (∀ j (u : Value), #[.int .i64 x.op, .int .i64 x.d, .int .i64 x.a, .int .i64 x.b, .int .i64 x.c, .int .i64 x.n, .slice la ln lc, .slice ma mn mc, .slice va vn vc][j]? = some u → (wr.setCell ⟨X, 17, none⟩ (.int .i64 (cn : Int))).cell? ⟨b3, off3 + (cn - 1) * 9 + j, none⟩ = some u)) := fun h0 => by
        obtain ⟨b3, off3, x, cs, hca, hbB, hxi, hcl, hPx, hcell⟩ := (Lies.keep HCODE.out HBL.out HBW.out (fun cs x _ h => h.keep HBL.out HBW.out)).here (i := cn - 1) (by omega)
        obtain ⟨la, ln, lc, ma, mn, mc, va, vn, vc, rfl, hrest⟩ := hPx
        refine ⟨b3, off3, x, la, ln, lc, ma, mn, mc, va, vn, vc, hca, hxi, fun j u hj => ?_⟩
        have hj9 : j < 9 := (Array.getElem?_eq_some_iff.1 hj).1
        refine (WP.2.cell (p := ⟨b3, off3 + (cn - 1) * 9 + j, none⟩) (by have h2 := ht.size; have h1 := HBW.out; show b3 < wr.heap.size; omega) (by have h1 := HH.out.rows.le; rw [HX.out] at h1; show ¬ b3 = X; omega)).trans ?_
        rw [hcell j hj9, ← hj]
        simp
      clear hlt hwk ht hkb hpr hr0 WP
      by_cases h0 : 0 < cn
      rotate_left
      · obtain rfl : cn = 0 := by omega
        have HW0 : Hid (WrongBk c.m f b (some 0)) := HR0.out.2.1.1 (.inr rfl) (some 0) (by
          have : b.code = [] := List.eq_nil_of_length_eq_zero HCL.out
          rw [this]
          exact rfl)
        clear h0
        go_wp2_with fail
        refine (need_no _).mono ?_; rintro e wz ⟨rfl, rfl⟩
        exact ⟨rfl, some 0, 0, HW0.out, W7.out.1.f, W7.out.2, .inr ⟨0, rfl, rfl, rfl⟩⟩
      obtain ⟨b3, off3, x, la, ln, lc, ma, mn, mc, va, vn, vc, hca, hxi, hcell⟩ := HCA.out h0
      obtain ⟨q, hq⟩ : ∃ q, cn - 1 = q := ⟨_, rfl⟩
      have hqi : (cn : Int) - 1 = (q : Int) := by omega
      have hqc : (q : Int) < cn := by omega
      rw [hq] at hcell hxi
      have d0 := hcell 0 _ rfl
      have d1 := hcell 1 _ rfl
      have d2 := hcell 2 _ rfl
      have d3 := hcell 3 _ rfl
      have d4 := hcell 4 _ rfl
      have d5 := hcell 5 _ rfl
      have d6 := hcell 6 _ rfl
      have d7 := hcell 7 _ rfl
      have d8 := hcell 8 _ rfl
      have hb3 := World.block_lt_of_cell? _ _ d0
      have HQ : Hid (b.code[cn - 1]? = some x ∧ 0 < cn) := ⟨by rw [hq]; exact hxi, h0⟩
      have w7k1 : (wr.setCell ⟨X, 17, none⟩ (.int .i64 (cn : Int))).cell? ⟨K0, 1, none⟩ = some (.slice ca cn cc) := W7K.out.cell 1
      clear hcell hxi h0 HCA
      rw [Nat.add_zero] at d0
      subst hca
      go_wp2_with fail
      clear y17 g17 lX kb1 lK hKX hXK d0 d1 d2 d3 d4 d5 d6 d7 d8 hb3 w7k1
      generalize wr.setCell ⟨X, 17, none⟩ (.int .i64 (cn : Int)) = w7 at W7 W7K ⊢
      refine (leaves_any x la ln lc ma mn mc va vn vc w7).mono ?_; rintro e w9 ⟨rfl, t9⟩
      have W9 : Hid (WkF c w9 f g fi bi cn ∧ Turn (fun j => j = c.X) w w9) := ⟨(W7.out.1.still t9).f, W7.out.2.trans t9.turn⟩
      clear t9
      cases hlb : lastB x with
      | true =>
        have HLB : Hid (Last x) := (lastB_iff x).1 hlb
        go_wp2_with fail
        refine (need_yes _).mono ?_; rintro e w9' ⟨rfl, rfl⟩
        clear hlb
        go_wp2_with fail
        go_end0
        exact ⟨none, cn, HR0.out.2.1.2 rfl HQ.out.2 x HQ.out.1 none (.inl ⟨HLB.out, rfl⟩), W9.out.1, W9.out.2, .inl ⟨rfl, rfl⟩⟩
      | false =>
        have HLB : Hid (¬ Last x) := fun e => by rw [(lastB_iff x).2 e] at hlb; cases hlb
        go_wp2_with fail
        refine (need_no _).mono ?_; rintro e wz ⟨rfl, rfl⟩
        exact ⟨rfl, some cn, cn, HR0.out.2.1.2 rfl HQ.out.2 x HQ.out.1 (some cn) (.inr ⟨HLB.out, rfl⟩), W9.out.1, W9.out.2, .inr ⟨cn, rfl, rfl, rfl⟩⟩
end Go.Proofs.YtglalgjffkoneaaGreatDoor
/- image: all functions, all blocks. -/
namespace Go.Proofs.YtglalgjffkoneaaGreatDoor
set_option linter.unusedVariables false
set_option linter.unusedSimpArgs false
open Go.ChangeShapes Go.WideShapes Go.ChangeAt Go.RowKit
open Vf (K nth nth_nat tyAt atK isK numT oneT le beginK tsub WrongAt WrongBk WrongFn WrongImg Last)
def ImageR (c : WkC) (w : World) (e : Ending) (w' : World) : Prop :=
  ∃ res, WrongImg c.m 0 c.m.funcs res ∧ RowsAt c w' ∧ Turn (fun j => j = c.X) w w' ∧ ((res = none ∧ e = .returned (.tuple #[])) ∨ (∃ (i j k : Nat), res = some (i, j, k) ∧ e = .panicked [{ v := wrongV, recovered := false }] ∧ ∃ g v0 v1 v2 v3 v4, Blk w' c.X 67 (c.cells g i j k v0 v1 v2 v3 v4)))
theorem wfn_good {m : M.Img} {f : M.Fn} {l : List M.Bk} {j : Nat} {b : M.Bk} (hb : l[j]? = some b) (h : WrongBk m f b none) {res : Option (Nat × Nat)} (hr : WrongFn m f (j + 1) (l.drop (j + 1)) res) : WrongFn m f j (l.drop j) res := by
  have hd : l.drop j = b :: l.drop (j + 1) := by
    have hil := (List.getElem?_eq_some_iff.1 hb).1
    rw [List.drop_eq_getElem_cons hil, (List.getElem?_eq_some_iff.1 hb).2]
  rw [hd]
  exact .inr ⟨h, hr⟩
theorem wfn_bad {m : M.Img} {f : M.Fn} {l : List M.Bk} {j n : Nat} {b : M.Bk} (hb : l[j]? = some b) (h : WrongBk m f b (some n)) : WrongFn m f j (l.drop j) (some (j, n)) := by
  have hd : l.drop j = b :: l.drop (j + 1) := by
    have hil := (List.getElem?_eq_some_iff.1 hb).1
    rw [List.drop_eq_getElem_cons hil, (List.getElem?_eq_some_iff.1 hb).2]
  rw [hd]
  exact .inl ⟨n, h, rfl⟩
theorem wimg_good {m : M.Img} {l : List M.Fn} {i : Nat} {f : M.Fn} (hf : l[i]? = some f) (h : WrongFn m f 0 f.blocks none) {res : Option (Nat × Nat × Nat)} (hr : WrongImg m (i + 1) (l.drop (i + 1)) res) : WrongImg m i (l.drop i) res := by
  have hd : l.drop i = f :: l.drop (i + 1) := by
    have hil := (List.getElem?_eq_some_iff.1 hf).1
    rw [List.drop_eq_getElem_cons hil, (List.getElem?_eq_some_iff.1 hf).2]
  rw [hd]
  exact .inr ⟨h, hr⟩
theorem wimg_bad {m : M.Img} {l : List M.Fn} {i j n : Nat} {f : M.Fn} (hf : l[i]? = some f) (h : WrongFn m f 0 f.blocks (some (j, n))) : WrongImg m i (l.drop i) (some (i, j, n)) := by
  have hd : l.drop i = f :: l.drop (i + 1) := by
    have hil := (List.getElem?_eq_some_iff.1 hf).1
    rw [List.drop_eq_getElem_cons hil, (List.getElem?_eq_some_iff.1 hf).2]
  rw [hd]
  exact .inl ⟨j, n, h, rfl⟩
/-- A function's first instructions are asked in a walk that stands there. -/
theorem RowsAt.at {c : WkC} {w : World} (h : RowsAt c w) {f : M.Fn} {g : FV} {fi bi ii : Int} (hb : ∃ v0 v1 v2 v3 v4, Blk w c.X 67 (c.cells g fi bi ii v0 v1 v2 v3 v4)) (hg : g.res = f.result ∧ g.slots = f.slots ∧ g.pn ≤ maxLen ∧ g.bn ≤ maxLen) (hp : Ints c.B w g.pa g.pn f.params) (hk : Lies c.B w 2 (BkIs c.B w) g.ba g.bn f.blocks) (ho : fnB c.m.types.length f = true) : WkF c w f g fi bi ii := ⟨h, hb, hg, hp, hk, ho⟩
set_option maxRecDepth 100000 in
set_option maxHeartbeats 8000000 in
theorem image_any (c : WkC) (hok : ∀ f ∈ c.m.funcs, ∀ b ∈ f.blocks, ∀ x ∈ b.code, StepOk c x) (hfn : ∀ f ∈ c.m.funcs, fnB c.m.types.length f = true ∧ f.slots ≤ 200) {w : World} (h : RowsAt c w) {g0 : FV} {f0 b0 i0 : Int} {v0 v1 v2 v3 v4 : Value} (hbox : Blk w c.X 67 (c.cells g0 f0 b0 i0 v0 v1 v2 v3 v4)) :
    Calls Tryz.prog 20 #[.pointer (some ⟨c.X, 0, none⟩)] w (ImageR c w) := by
  have HOK := Lib.hid hok
  have HFN := Lib.hid hfn
  have HH := Lib.hid h
  have HBX := Lib.hid hbox
  have HFL : Hid (c.m.funcs.length = c.v.fn) := h.img.funcs.len
  obtain ⟨X, hX⟩ : ∃ X, c.X = X := ⟨_, rfl⟩
  have HX := Lib.hid hX
  obtain ⟨fa, hfa⟩ : ∃ fa, c.v.fa = fa := ⟨_, rfl⟩
  obtain ⟨fn, hfn2⟩ : ∃ fn, c.v.fn = fn := ⟨_, rfl⟩
  have HFV : Hid (c.v.fa = fa ∧ c.v.fn = fn) := ⟨hfa, hfn2⟩
  have hfn63 : fn ≤ 9223372036854775807 := by have := h.img.le.2.2.2.2; unfold maxLen at this; omega
  have x4 : w.cell? ⟨X, 4, none⟩ = some (.slice fa fn c.v.fc) := by rw [← hX, ← hfa, ← hfn2]; exact hbox.cell 4
  have lX : X < w.heap.size := by rw [← hX]; exact hbox.lt
  rw [hX]
  rw [hfn2] at HFL
  clear hok hfn h hbox hX hfa hfn2
  go_enter Tryz.func20, Tryz.ntmps20
  go_wp2_with fail
  clear x4 lX
  go_loopw [2, 3, 4, 5, 12, 28] (fun _ _ _ _ z _ wr => ∃ i : Nat, z = .int .i64 i ∧ i ≤ fn ∧ RowsAt c wr ∧ (∃ g f0 b0 i0 v0 v1 v2 v3 v4, Blk wr X 67 (c.cells g f0 b0 i0 v0 v1 v2 v3 v4)) ∧ Turn (fun j => j = c.X) w wr ∧ (∀ res, WrongImg c.m i (c.m.funcs.drop i) res → WrongImg c.m 0 c.m.funcs res)) (fun _ _ _ _ z _ _ => fn - (intOf z).toNat)
  case atStart => exact ⟨0, rfl, Nat.zero_le _, HH.out, ⟨g0, f0, b0, i0, v0, v1, v2, v3, v4, by rw [← HX.out]; exact HBX.out⟩, Turn.refl _ _, fun res h => h⟩
  case round =>
    obtain ⟨wo, hwo⟩ : ∃ wo, wo = wr := ⟨_, rfl⟩
    subst hwo
    obtain ⟨i, rfl, hi, hrows, ⟨g1, f1, b1, i1, u0, u1', u2', u3', u4', hbx⟩, ht, hpr⟩ := hrel
    have HR := Lib.hid (And.intro hrows (And.intro ht hpr))
    have HBX1 := Lib.hid hbx
    by_cases hlt : i < fn
    · obtain ⟨b3, off3, f, cs, hfa, hbB, hxi, hcl, hPx, hcell⟩ := hrows.img.funcs.here (i := i) (by rw [HFV.out.2]; exact hlt)
      rw [HFV.out.1] at hfa
      obtain ⟨pa, pn, pc, ba, bn, bc, rfl, hpn, hbn, hr64, hs64, hpar, hblk⟩ := hPx
      have d0 : wo.cell? ⟨b3, off3 + i * 4, none⟩ = some (.slice pa pn pc) := by simpa using hcell 0 (by decide)
      have d1 : wo.cell? ⟨b3, off3 + i * 4 + 1, none⟩ = some (.int .i64 f.result) := by simpa using hcell 1 (by decide)
      have d2 : wo.cell? ⟨b3, off3 + i * 4 + 2, none⟩ = some (.int .i64 f.slots) := by simpa using hcell 2 (by decide)
      have d3 : wo.cell? ⟨b3, off3 + i * 4 + 3, none⟩ = some (.slice ba bn bc) := by simpa using hcell 3 (by decide)
      have hbl : b3 < wo.heap.size := World.block_lt_of_cell? _ _ d0
      have hii : (i : Int) < fn := by omega
      have HLT := Lib.hid hlt
      have HX1 : Hid (c.m.funcs[i]? = some f ∧ f ∈ c.m.funcs) := ⟨hxi, List.mem_of_getElem? hxi⟩
      have HPB := Lib.hid (And.intro hpar (And.intro hblk (And.intro hpn hbn)))
      have hbn63 : bn ≤ 9223372036854775807 := by unfold maxLen at hbn; omega
      have S5 : Hid (Still wo (wo.alloc (.cells #[.slice pa pn pc, .int .i64 f.result, .int .i64 f.slots, .slice ba bn bc] 45)) ∧ Blk (wo.alloc (.cells #[.slice pa pn pc, .int .i64 f.result, .int .i64 f.slots, .slice ba bn bc] 45)) wo.heap.size 45 #[.slice pa pn pc, .int .i64 f.result, .int .i64 f.slots, .slice ba bn bc]) := ⟨(Still.refl wo).alloc _, Blk.new wo _ _⟩
      clear hrows ht hpr hbx hcell hcl hxi hpar hblk hpn hbn hr64 hs64
      subst hfa
      go_wp2_with fail
      clear d0 d1 d2 d3
      generalize wo.alloc (.cells #[.slice pa pn pc, .int .i64 f.result, .int .i64 f.slots, .slice ba bn bc] 45) = w5 at S5 ⊢
      obtain ⟨Q, hQ⟩ : ∃ Q, wo.heap.size = Q := ⟨_, rfl⟩
      rw [hQ] at S5 hbl
      rw [hQ]
      have HQ := Lib.hid hQ
      clear hQ
      have B5 := S5.out.1.blk HBX1.out
      have HB5 := Lib.hid B5
      have lX : X < w5.heap.size := B5.lt
      have lQ : Q < w5.heap.size := S5.out.2.lt
      have hQX : Q ≠ X := fun e => by have h1 := HBX1.out.lt; have h2 := HQ.out; omega
      have hXQ : X ≠ Q := hQX.symm
      have y0 := S5.out.2.cell 0
      have y1 := S5.out.2.cell 1
      have y2 := S5.out.2.cell 2
      have y3 := S5.out.2.cell 3
      have z11 := B5.cell 11
      have f11' := B5.frozen 11
      have z12 := B5.cell 12
      have f12' := B5.frozen 12
      have z13 := B5.cell 13
      have f13' := B5.frozen 13
      have z14 := B5.cell 14
      have f14' := B5.frozen 14
      have z15 := B5.cell 15
      have f15' := B5.frozen 15
      clear B5
      go_region
      have hbX : Blk ((((((w5.setCell ⟨X, 15, none⟩ (.int .i64 (i : Int))).setCell ⟨X, 11, none⟩ (.slice pa pn pc)).setCell ⟨X, 12, none⟩ (.int .i64 f.result)).setCell ⟨X, 13, none⟩ (.int .i64 f.slots)).setCell ⟨X, 14, none⟩ (.slice ba bn bc))).drew X 67 (c.cells ⟨pa, pn, pc, f.result, f.slots, ba, bn, bc⟩ i b1 i1 u0 u1' u2' u3' u4') := Blk.keep (by simpa using (((((HB5.out.set 15 (.int .i64 (i : Int))).set 11 (.slice pa pn pc)).set 12 (.int .i64 f.result)).set 13 (.int .i64 f.slots)).set 14 (.slice ba bn bc))) (Still.refl _).drew (fun e => e)
      have hTX : Turn (fun j => j = X) w5 ((((((w5.setCell ⟨X, 15, none⟩ (.int .i64 (i : Int))).setCell ⟨X, 11, none⟩ (.slice pa pn pc)).setCell ⟨X, 12, none⟩ (.int .i64 f.result)).setCell ⟨X, 13, none⟩ (.int .i64 f.slots)).setCell ⟨X, 14, none⟩ (.slice ba bn bc))).drew := ((((((Turn.refl (fun j => j = X) w5).setCell (p := ⟨X, 15, none⟩) (fun _ => rfl) _).setCell (p := ⟨X, 11, none⟩) (fun _ => rfl) _).setCell (p := ⟨X, 12, none⟩) (fun _ => rfl) _).setCell (p := ⟨X, 13, none⟩) (fun _ => rfl) _).setCell (p := ⟨X, 14, none⟩) (fun _ => rfl) _).drew
      clear y0 y1 y2 y3 z11 z12 z13 z14 z15 f11' f12' f13' f14' f15' lX lQ
      have HQ6 := Lib.hid (S5.out.2.keep hTX hQX)
      have W6 : Hid (WkF c ((((((w5.setCell ⟨X, 15, none⟩ (.int .i64 (i : Int))).setCell ⟨X, 11, none⟩ (.slice pa pn pc)).setCell ⟨X, 12, none⟩ (.int .i64 f.result)).setCell ⟨X, 13, none⟩ (.int .i64 f.slots)).setCell ⟨X, 14, none⟩ (.slice ba bn bc))).drew f ⟨pa, pn, pc, f.result, f.slots, ba, bn, bc⟩ i b1 i1 ∧ Turn (fun j => j = c.X) w ((((((w5.setCell ⟨X, 15, none⟩ (.int .i64 (i : Int))).setCell ⟨X, 11, none⟩ (.slice pa pn pc)).setCell ⟨X, 12, none⟩ (.int .i64 f.result)).setCell ⟨X, 13, none⟩ (.int .i64 f.slots)).setCell ⟨X, 14, none⟩ (.slice ba bn bc))).drew) := by
        have t5 : Turn (fun j => j = c.X) wo ((((((w5.setCell ⟨X, 15, none⟩ (.int .i64 (i : Int))).setCell ⟨X, 11, none⟩ (.slice pa pn pc)).setCell ⟨X, 12, none⟩ (.int .i64 f.result)).setCell ⟨X, 13, none⟩ (.int .i64 f.slots)).setCell ⟨X, 14, none⟩ (.slice ba bn bc))).drew := by rw [HX.out]; exact S5.out.1.turn.trans hTX
        have hB : c.B ≤ wo.heap.size := by have := HR.out.1.le; omega
        have hbl5 : Below c.B wo ((((((w5.setCell ⟨X, 15, none⟩ (.int .i64 (i : Int))).setCell ⟨X, 11, none⟩ (.slice pa pn pc)).setCell ⟨X, 12, none⟩ (.int .i64 f.result)).setCell ⟨X, 13, none⟩ (.int .i64 f.slots)).setCell ⟨X, 14, none⟩ (.slice ba bn bc))).drew := t5.below hB fun j e => by have := HR.out.1.le; have e2 : j = c.X := e; omega
        refine ⟨RowsAt.at (HR.out.1.keep t5 (fun j e => .inl e)) ⟨_, _, _, _, _, by rw [HX.out]; exact hbX⟩ ⟨rfl, rfl, HPB.out.2.2.1, HPB.out.2.2.2⟩ (HPB.out.1.keep hbl5 hB) (Lies.keep HPB.out.2.1 hbl5 hB fun cs x _ h => h.keep hbl5 hB) (HFN.out f HX1.out.2).1, HR.out.2.1.trans t5⟩
      clear hbX hTX
      generalize ((((((w5.setCell ⟨X, 15, none⟩ (.int .i64 (i : Int))).setCell ⟨X, 11, none⟩ (.slice pa pn pc)).setCell ⟨X, 12, none⟩ (.int .i64 f.result)).setCell ⟨X, 13, none⟩ (.int .i64 f.slots)).setCell ⟨X, 14, none⟩ (.slice ba bn bc))).drew = w6 at W6 HQ6 ⊢
      have y3 := HQ6.out.cell 3
      have lQ := HQ6.out.lt
      go_wp2_with fail
      clear y3 lQ
      go_loopw [4, 5, 28] (fun _ _ z wr => ∃ (j : Nat) (bi ii : Int), z = .int .i64 j ∧ j ≤ bn ∧ WkF c wr f ⟨pa, pn, pc, f.result, f.slots, ba, bn, bc⟩ i bi ii ∧ Turn (fun j => j = c.X) w wr ∧ (∀ res, WrongFn c.m f j (f.blocks.drop j) res → WrongFn c.m f 0 f.blocks res)) (fun _ _ z _ => bn - (intOf z).toNat)
      case atStart => exact ⟨0, b1, i1, rfl, Nat.zero_le _, W6.out.1, W6.out.2, fun res h => h⟩
      case round =>
        obtain ⟨j, bi, ii, rfl, hj, hwf, ht2, hpr2⟩ := hrel
        have HW := Lib.hid (And.intro hwf (And.intro ht2 hpr2))
        have HBLEN : Hid (f.blocks.length = bn) := hwf.blk.len
        by_cases hlt2 : j < bn
        · obtain ⟨b4, off4, b, cs, hba, hbB4, hxi, hcl, hPx, hcell⟩ := hwf.blk.here hlt2
          obtain ⟨ia, inn, ic, ca, cn, cc, rfl, hinn, hcn, hin, hcode⟩ := hPx
          have hba : ba = some ⟨b4, off4, none⟩ := hba
          have e0 : wr.cell? ⟨b4, off4 + j * 2, none⟩ = some (.slice ia inn ic) := by simpa using hcell 0 (by decide)
          have e1 : wr.cell? ⟨b4, off4 + j * 2 + 1, none⟩ = some (.slice ca cn cc) := by simpa using hcell 1 (by decide)
          have hbl4 : b4 < wr.heap.size := World.block_lt_of_cell? _ _ e0
          have hji : (j : Int) < bn := by omega
          have HLT2 := Lib.hid hlt2
          have HB1 : Hid (f.blocks[j]? = some b ∧ b ∈ f.blocks) := ⟨hxi, List.mem_of_getElem? hxi⟩
          obtain ⟨w0', w1', w2', w3', w4', hbx2⟩ := hwf.box
          rw [HX.out] at hbx2
          have z16 : wr.cell? ⟨X, 16, none⟩ = some (.int .i64 bi) := hbx2.cell 16
          have f16 : wr.frozen? ⟨X, 16, none⟩ = false := hbx2.frozen 16
          have lX : X < wr.heap.size := hbx2.lt
          have t7 : Turn (fun j => j = X) wr ((wr.setCell ⟨X, 16, none⟩ (.int .i64 (j : Int))).alloc (.cells #[.slice ia inn ic, .slice ca cn cc] 48)) := ((Turn.refl (fun j => j = X) wr).setCell (p := ⟨X, 16, none⟩) (fun _ => rfl) _).alloc _
          have W7 : Hid (WkF c ((wr.setCell ⟨X, 16, none⟩ (.int .i64 (j : Int))).alloc (.cells #[.slice ia inn ic, .slice ca cn cc] 48)) f ⟨pa, pn, pc, f.result, f.slots, ba, bn, bc⟩ i j ii ∧ Turn (fun j => j = c.X) w ((wr.setCell ⟨X, 16, none⟩ (.int .i64 (j : Int))).alloc (.cells #[.slice ia inn ic, .slice ca cn cc] 48)) ∧ Ints c.B ((wr.setCell ⟨X, 16, none⟩ (.int .i64 (j : Int))).alloc (.cells #[.slice ia inn ic, .slice ca cn cc] 48)) ia inn b.inn ∧ Lies c.B ((wr.setCell ⟨X, 16, none⟩ (.int .i64 (j : Int))).alloc (.cells #[.slice ia inn ic, .slice ca cn cc] 48)) 9 (InsIs c.B ((wr.setCell ⟨X, 16, none⟩ (.int .i64 (j : Int))).alloc (.cells #[.slice ia inn ic, .slice ca cn cc] 48))) ca cn b.code) := by
            have hB : c.B ≤ wr.heap.size := by have := hwf.rows.le; omega
            have hbl7 : Below c.B wr ((wr.setCell ⟨X, 16, none⟩ (.int .i64 (j : Int))).alloc (.cells #[.slice ia inn ic, .slice ca cn cc] 48)) := t7.below hB fun j e => by have h1 := hwf.rows.le; have h2 := HX.out; have e2 : j = X := e; omega
            refine ⟨hwf.keep (S := fun j => j = X) t7 (fun j e => .inl (by rw [HX.out]; exact e)) ⟨w0', w1', w2', w3', w4', ?_⟩, ht2.trans (by rw [HX.out]; exact t7), hin.keep hbl7 hB, Lies.keep hcode hbl7 hB fun cs x _ h => h.keep hbl7 hB⟩
            rw [HX.out]
            refine Blk.alloc ?_ _
            have := hbx2.set 16 (.int .i64 (j : Int))
            simpa using this
          have HSMALL : Hid (inn ≤ 1000 ∧ cn ≤ maxLen ∧ ∀ n ∈ b.inn, n = -1 ∨ 0 ≤ n ∧ n < c.m.types.length) := by
            obtain ⟨h1, h2⟩ := HFN.out f HX1.out.2
            unfold fnB at h1
            simp only [Bool.and_eq_true] at h1
            have h3 := (List.all_eq_true.1 h1.2.2.2.1) b HB1.out.2
            unfold bkB at h3
            rw [Bool.and_eq_true] at h3
            have h4 := of_decide_eq_true h3.1
            rw [hin.len] at h4
            refine ⟨by omega, hcn, fun n hn => ?_⟩
            have h5 := (List.all_eq_true.1 h3.2) n hn
            unfold innB at h5
            rw [Bool.or_eq_true, beq_iff_eq, hasB_iff] at h5
            exact h5
          have S7 : Hid (Blk ((wr.setCell ⟨X, 16, none⟩ (.int .i64 (j : Int))).alloc (.cells #[.slice ia inn ic, .slice ca cn cc] 48)) wr.heap.size 48 #[.slice ia inn ic, .slice ca cn cc]) := by
            have := Blk.new (wr.setCell ⟨X, 16, none⟩ (.int .i64 (j : Int))) 48 #[.slice ia inn ic, .slice ca cn cc]
            rwa [show (wr.setCell ⟨X, 16, none⟩ (.int .i64 (j : Int))).heap.size = wr.heap.size by simp] at this
          clear hwf ht2 hpr2 hcell hcl hxi hin hcode hinn hcn hbx2 t7
          subst hba
          go_wp2_with fail
          clear e0 e1 z16 f16 lX hbl4
          generalize ((wr.setCell ⟨X, 16, none⟩ (.int .i64 (j : Int))).alloc (.cells #[.slice ia inn ic, .slice ca cn cc] 48)) = w7 at W7 S7 ⊢
          have HTH := Lib.hid (through_any c b (fun x hx => HOK.out f HX1.out.2 b HB1.out.2 x hx) (ic := ic) (cc := cc) W7.out.1 W7.out.2.2.1 W7.out.2.2.2 HSMALL.out.1 HSMALL.out.2.1 HSMALL.out.2.2)
          rw [HX.out] at HTH
          refine HTH.out.mono ?_; rintro e w8 ⟨res, ii', hwb, hwf8, ht8, ⟨rfl, rfl⟩ | ⟨k, rfl, rfl, rfl⟩⟩
          · have H8 := Lib.hid (And.intro hwb (And.intro hwf8 ht8))
            clear hwb hwf8 ht8
            go_wp2_with fail
            go_roundw
            case rel => exact ⟨j + 1, _, _, by go_num, by have := HLT2.out; omega, H8.out.2.1, W7.out.2.1.trans H8.out.2.2, fun res h => HW.out.2.2 res (wfn_good HB1.out.1 H8.out.1 h)⟩
            case measure => have := HLT2.out; simp [intOf]; omega
          · refine ⟨rfl, some (i, j, k), HR.out.2.2 _ (wimg_bad HX1.out.1 (HW.out.2.2 _ (wfn_bad HB1.out.1 hwb))), hwf8.rows, W7.out.2.1.trans ht8, .inr ⟨i, j, k, rfl, rfl, ?_⟩⟩
            obtain ⟨v0, v1, v2, v3, v4, hb8⟩ := hwf8.box
            exact ⟨_, v0, v1, v2, v3, v4, hb8⟩
        · obtain rfl : bn = j := by omega
          have x6 : decide ((bn : Int) < bn) = false := decide_eq_false (by omega)
          have x6' : decide (bn < bn) = false := decide_eq_false (by omega)
          have HNONE : Hid (WrongFn c.m f 0 f.blocks none) := hpr2 none (by rw [List.drop_of_length_le (by rw [HBLEN.out]; exact Nat.le_refl _)]; exact rfl)
          clear hlt2 hwf ht2 hpr2
          go_wp2_with fail
          go_roundw
          case rel =>
            obtain ⟨v0, v1, v2, v3, v4, hb8⟩ := HW.out.1.box
            rw [HX.out] at hb8
            exact ⟨i + 1, by go_num, by have := HLT.out; omega, HW.out.1.rows, ⟨_, _, _, _, v0, v1, v2, v3, v4, hb8⟩, HW.out.2.1, fun res h => HR.out.2.2 res (wimg_good HX1.out.1 HNONE.out h)⟩
          case measure => have := HLT.out; simp [intOf]; omega
    · obtain rfl : fn = i := by omega
      have x6 : decide ((fn : Int) < fn) = false := decide_eq_false (by omega)
      have x6' : decide (fn < fn) = false := decide_eq_false (by omega)
      clear hlt hrows ht hpr hbx
      go_wp2_with fail
      go_end0
      exact ⟨none, HR.out.2.2 none (by rw [List.drop_of_length_le (by rw [HFL.out]; exact Nat.le_refl _)]; exact rfl), HR.out.1, HR.out.2.1, .inl ⟨rfl, rfl⟩⟩
end Go.Proofs.YtglalgjffkoneaaGreatDoor
/- holds: does a check come to its end? -/
namespace Go.Proofs.YtglalgjffkoneaaGreatDoor
set_option linter.unusedVariables false
set_option linter.unusedSimpArgs false
open Go.ChangeShapes Go.WideShapes Go.ChangeAt Go.RowKit
/-- A check that comes to its end, or throws what need throws. -/
def Checks (R : Bool → World → Prop) (e : Ending) (w' : World) : Prop := (e = .returned (.tuple #[]) ∧ R true w') ∨ (e = .panicked [{ v := wrongV, recovered := false }] ∧ R false w')
def HoldsR (R : Bool → World → Prop) (e : Ending) (w' : World) : Prop := ∃ b, e = .returned (.bool b) ∧ R b w'
set_option maxRecDepth 100000 in
theorem holds_any (fid : FuncId) (first cap : Array Value) (hfid : ∀ args W, (callFunc fid args).run Tryz.prog W = .ok (.enter fid args) W) {w : World} {R : Bool → World → Prop}
    (hc : Calls Tryz.prog fid (first ++ cap) w (Checks R)) : Calls Tryz.prog 19 #[.func (.func fid) first cap] w (HoldsR R) := by
  have HC := Lib.hid hc
  clear hc
  go_enter_defers Tryz.func19, Tryz.ntmps19
  go_wp2_with fail
  refine HC.out.mono ?_; rintro e w1 (⟨rfl, hR⟩ | ⟨rfl, hR⟩)
  · have HR := Lib.hid hR
    clear hR
    go_wp2_with fail
    refine leaves_cons (f := 33) (args := #[]) (by simp) (by simp [go_sem]) ?_
    refine (catch_idle w1).mono ?_
    rintro e u' w'' ⟨rfl, rfl, rfl⟩
    simp [Leaves, settle, results, Tryz.results19, go_sem]
    exact ⟨true, rfl, HR.out⟩
  · have HR := Lib.hid hR
    clear hR
    refine leaves_cons (f := 33) (args := #[]) (by simp) (by simp [go_sem]) ?_
    refine (catch_wrong [] w1).mono ?_
    rintro e u' w'' ⟨rfl, rfl, rfl⟩
    simp [Leaves, settle, results, Tryz.results19, go_sem]
    exact ⟨false, rfl, HR.out⟩
end Go.Proofs.YtglalgjffkoneaaGreatDoor
/- Whole, Fault, Verify. -/
namespace Go.Proofs.YtglalgjffkoneaaGreatDoor
set_option linter.unusedVariables false
set_option linter.unusedSimpArgs false
open Go.ChangeShapes Go.WideShapes Go.ChangeAt Go.RowKit
open Vf (K nth nth_nat tyAt atK isK numT oneT le beginK tsub WrongAt WrongBk WrongFn WrongImg Last)
theorem whole1_any {B : Nat} {w : World} {v : ImgV} {m : M.Img} (hp : ImgIs B w v m) (hB : B ≤ w.heap.size) (hw : M.size m ≤ 1000000000) (hroom : Room w v) {b : Nat} (hb : Blk w b 27 v.cells) :
    Calls Tryz.prog 22 #[.pointer (some ⟨b, 0, none⟩)] w (AskR (wholeB m = true) w) := by
  have HN := Lib.hid (needWhole_any hp hB hw hroom)
  obtain ⟨ta, tn, tc, sa, sn, sc, xa, xn, xc, na, nn, nc, fa, fn, fc, mi, ei⟩ := v
  dsimp only at HN
  have m0 := hb.cell 0
  have m1 := hb.cell 1
  have m2 := hb.cell 2
  have m3 := hb.cell 3
  have m4 := hb.cell 4
  have m5 := hb.cell 5
  have m6 := hb.cell 6
  have lb := hb.lt
  clear hp hB hw hroom hb
  go_enter Tryz.func22, Tryz.ntmps22
  go_wp2_with fail
  clear m0 m1 m2 m3 m4 m5 m6 lb
  refine HN.out.mono ?_; rintro e w5 ⟨t5, ⟨hP, rfl⟩ | ⟨hP, rfl⟩⟩
  · have H := Lib.hid (And.intro t5 hP)
    clear t5 hP
    go_wp2_with fail
    go_end0
    exact ⟨H.out.1, .inl ⟨H.out.2, rfl⟩⟩
  · exact ⟨rfl, t5, .inr ⟨hP, rfl⟩⟩
theorem BkRoom.later {w W : World} {ba : Option Addr} {bn : Nat} {B : Nat} {P : List Value → M.Bk → Prop} {l : List M.Bk} (h : BkRoom w ba bn) (t : Still w W) (hB : B ≤ w.heap.size) (hl : Lies B w 2 P ba bn l) : BkRoom W ba bn := fun b off hba h0 ia inn ic hc => by
  obtain ⟨b', off', e, hb, _⟩ := hl.at_ h0
  rw [hba] at e
  simp only [Option.some.injEq, Addr.mk.injEq, and_true] at e
  obtain ⟨rfl, rfl⟩ := e
  exact h b off hba h0 ia inn ic ((t.cell (p := ⟨b, off, none⟩) (Nat.lt_of_lt_of_le hb hB)).symm.trans hc)
theorem Room.still {B : Nat} {w W : World} {v : ImgV} {m : M.Img} (h : Room w v) (hp : ImgIs B w v m) (hB : B ≤ w.heap.size) (t : Still w W) : Room W v := fun b off i hv hi ba bn bc hc => by
  obtain ⟨b', off', f, cs, ha, hbB, hxi, hcl, hPx, hcell⟩ := hp.funcs.here hi
  rw [hv] at ha
  simp only [Option.some.injEq, Addr.mk.injEq, and_true] at ha
  obtain ⟨rfl, rfl⟩ := ha
  have hc' : w.cell? ⟨b, off + i * 4 + 3, none⟩ = some (.slice ba bn bc) := (t.cell (p := ⟨b, off + i * 4 + 3, none⟩) (Nat.lt_of_lt_of_le hbB hB)).symm.trans hc
  obtain ⟨pa, pn, pc, ba', bn', bc', rfl, hpn, hbn, hr64, hs64, hpar, hblk⟩ := hPx
  have h3 := hcell 3 (by decide)
  rw [hc'] at h3
  simp at h3
  obtain ⟨rfl, rfl, rfl⟩ := h3
  exact (h b off i hv hi _ _ _ hc').later t hB hblk
set_option maxHeartbeats 2000000 in
theorem whole_any {B : Nat} {w : World} {v : ImgV} {m : M.Img} (hp : ImgIs B w v m) (hB : B ≤ w.heap.size) (hw : M.size m ≤ 1000000000) (hroom : Room w v) :
    Calls Tryz.prog 13 #[.agg #[.slice v.ta v.tn v.tc, .slice v.sa v.sn v.sc, .slice v.xa v.xn v.xc, .slice v.na v.nn v.nc, .slice v.fa v.fn v.fc, .int .i64 v.main, .int .i64 v.exn]] w fun e w' => e = .returned (.bool (wholeB m)) ∧ Still w w' := by
  have S1 : Hid (Still w (w.alloc (.cells v.cells 27)) ∧ Blk (w.alloc (.cells v.cells 27)) w.heap.size 27 v.cells) := ⟨(Still.refl w).alloc _, Blk.new w _ _⟩
  have henter : ∀ (args : Array Value) (W : World), (callFunc 22 args).run Tryz.prog W = .ok (.enter 22 args) W := enters_of Tryz.func22 (by kernel_rfl) rfl
  have HC := Lib.hid (holds_any 22 #[] #[.pointer (some ⟨w.heap.size, 0, none⟩)] henter (w := w.alloc (.cells v.cells 27)) (R := fun b w' => b = wholeB m ∧ Still (w.alloc (.cells v.cells 27)) w')
    ((whole1_any (hp.keep ((Still.below S1.out.1).mono hB) hB) (Nat.le_trans hB S1.out.1.size) hw (hroom.still hp hB S1.out.1) S1.out.2).mono fun e w' h => by
      obtain ⟨t, ⟨h1, h2⟩ | ⟨h1, h2⟩⟩ := h
      · exact .inl ⟨h2, h1.symm, t⟩
      · exact .inr ⟨h2, by simpa using h1, t⟩))
  obtain ⟨ta, tn, tc, sa, sn, sc, xa, xn, xc, na, nn, nc, fa, fn, fc, mi, ei⟩ := v
  dsimp only at HC S1 ⊢
  clear hp hB hw hroom henter
  go_enter Tryz.func13, Tryz.ntmps13
  go_wp2_with fail
  refine HC.out.mono ?_; rintro e w5 ⟨q, rfl, hq, t5⟩
  have H := Lib.hid (And.intro hq (S1.out.1.trans t5))
  clear hq t5
  go_wp2_with fail
  go_ret
  exact ⟨by rw [← H.out.1]; rfl, H.out.2⟩
/-- What a whole image is. -/
theorem whole_facts {m : M.Img} (h : wholeB m = true) : (m.types[0]? = some numT ∧ 0 < m.types.length ∧ 0 < m.shapes.length) ∧ (m.types.length ≤ 1024 ∧ m.shapes.length ≤ 512) ∧ (∀ t ∈ m.types, Fit8 t) ∧ (∀ f ∈ m.funcs, fnB m.types.length f = true ∧ f.slots ≤ 200) := by
  unfold wholeB at h
  simp only [Bool.and_eq_true, decide_eq_true_eq] at h
  obtain ⟨h0, h1, h2, h3, h4, h5, h6, h7⟩ := h
  have hbig : M.big m = false := by
    unfold M.check at h0
    split at h0
    · simp at h0
    · rename_i hb
      simpa using hb
  unfold M.big at hbig
  simp only [Bool.or_eq_false_iff, decide_eq_false_iff_not, Nat.not_lt] at hbig
  refine ⟨⟨?_, ?_, ?_⟩, ⟨by omega, by omega⟩, fun t ht s hs => ?_, fun f hf => ⟨List.all_eq_true.1 h7 f hf, ?_⟩⟩
  · unfold zeroT at h1
    cases hm : m.types with
    | nil => rw [hm] at h1; cases h1
    | cons t l =>
      rw [hm] at h1
      simp only [Bool.and_eq_true, decide_eq_true_eq] at h1
      obtain ⟨im, sh⟩ := t
      obtain ⟨e1, e2⟩ := h1
      have e1 : im = true := e1
      have e3 : sh = [] := List.eq_nil_of_length_eq_zero e2
      subst e1
      subst e3
      rfl
  · unfold zeroT at h1
    cases hm : m.types with
    | nil => rw [hm] at h1; cases h1
    | cons t l => simp
  · unfold zeroS at h2
    cases hm : m.shapes with
    | nil => rw [hm] at h2; cases h2
    | cons t l => simp
  · have h8 := List.all_eq_true.1 h3 t ht
    unfold tyB at h8
    rw [Bool.and_eq_true] at h8
    have := (inAll_iff _ _).1 h8.2 s hs
    omega
  · have hb := hbig.1.1.2
    have := List.any_eq_false.1 hb f hf
    unfold M.bigFn at this
    simp only [Bool.or_eq_true, decide_eq_true_eq, not_or, Int.not_lt, Nat.not_lt] at this
    omega
theorem whole_in {m : M.Img} (h : wholeB m = true) : InM m := by
  obtain ⟨⟨_, _, hs⟩, _⟩ := whole_facts h
  refine ⟨fun t ht s hs => ?_, hs⟩
  unfold wholeB at h
  simp only [Bool.and_eq_true, decide_eq_true_eq] at h
  obtain ⟨h0, h1, h2, h3, h4, h5, h6, h7⟩ := h
  have h8 := List.all_eq_true.1 h3 t ht
  unfold tyB at h8
  rw [Bool.and_eq_true] at h8
  exact (inAll_iff _ _).1 h8.2 s hs
end Go.Proofs.YtglalgjffkoneaaGreatDoor
/- Fault, Verify. -/
namespace Go.Proofs.YtglalgjffkoneaaGreatDoor
set_option linter.unusedVariables false
set_option linter.unusedSimpArgs false
open Go.ChangeShapes Go.WideShapes Go.ChangeAt Go.RowKit
open Vf (K nth nth_nat tyAt atK isK numT oneT le beginK tsub WrongAt WrongBk WrongFn WrongImg Last)
/-- A new walk, as it is gone through. -/
theorem rows_new {B : Nat} {w w' : World} {v : ImgV} {m : M.Img} (hp : ImgIs B w v m) (hB : B ≤ w.heap.size) (hf : wholeB m = true) (htab : Tz w) (htB : 1 < B) {e : Ending} (h : NewR v m w e w') :
    ∃ c : WkC, c.m = m ∧ e = .returned (.pointer (some ⟨c.X, 0, none⟩)) ∧ RowsAt c w' ∧ Blk w' c.X 67 (c.cells ⟨none, 0, 0, 0, 0, none, 0, 0⟩ 0 0 0 .nilFunc .nilFunc .nilFunc .nilFunc .nilFunc) ∧ w.heap.size < c.X ∧ Still w w' := by
  obtain ⟨X, ra, rc, aa, ac, bs, cs, b0, c0, base1, base2, ⟨hx1, hx2⟩, rfl, hX, hbox, hbt, hba, hb0, hc0, hst⟩ := h
  obtain ⟨⟨z0, zt, zs⟩, ⟨ft, fs⟩, hfit, _⟩ := whole_facts hf
  have htl := hp.types.len
  have hsl := hp.shapes.len
  obtain ⟨g1, rfl, hg1, hg1l, _, hc1⟩ := hbt.head (by omega)
  obtain ⟨g2, rfl, hg2, hg2l, _, hc2⟩ := hba.head (by omega)
  have lX := hbox.lt
  have hw1 : ∀ (j b : Nat), bs[j]? = some b → ∃ t, TyW w' b t := fun j b hb => by
    have hj : j < m.types.length := by
      have := (List.getElem?_eq_some_iff.1 hb).1
      rw [hbt.len] at this
      omega
    exact ⟨_, hbt.each j b _ hb (List.getElem?_eq_getElem hj)⟩
  have hw2 : ∀ (j b : Nat), cs[j]? = some b → TyW w' b (oneT j) := fun j b hb => by
    have hj : j < v.sn := by
      have := (List.getElem?_eq_some_iff.1 hb).1
      rw [hba.len] at this
      exact this
    refine hba.each j b _ hb ?_
    unfold alones
    rw [List.getElem?_map, List.getElem?_range hj]
    rfl
  refine ⟨⟨v, m, X, g1, rc, g2, ac, bs, cs, b0, c0, B, w'.heap.size⟩, rfl, rfl, ⟨hc1, hc2, fun k b t h1 h2 => hbt.each k b t h1 h2, hw2, by show bs.length = m.types.length; rw [hbt.len]; omega, by show cs.length = m.shapes.length; rw [hba.len]; omega, hp.keep ((Still.below hst).mono hB) hB, ⟨by show B ≤ X; omega, lX, Nat.le_refl _⟩, ⟨hg1l, by show g1 ≠ X; omega, hg2l, by show g2 ≠ X; omega⟩, fun b hb => ?_, fun b hb => ?_, hb0, hc0, hfit, ⟨ft, fs⟩, z0, htab.keep hst (fun e => e), htB, whole_in hf⟩, ?_, hX, hst⟩
  · obtain ⟨j, hj⟩ := List.getElem?_of_mem hb
    obtain ⟨t, ht⟩ := hw1 j b hj
    exact ⟨ht.blk.lt, words_ne ht hbox (by decide)⟩
  · obtain ⟨j, hj⟩ := List.getElem?_of_mem hb
    have ht := hw2 j b hj
    exact ⟨ht.blk.lt, words_ne ht hbox (by decide)⟩
  · exact hbox
theorem results_tmp4 {fn : Func} {t u v x : Tmp} (h : fn.results = #[.tmp t, .tmp u, .tmp v, .tmp x]) (tmps : Array Value) (P : Program) (w : World) :
    (results fn tmps).run P w = .ok (.tuple #[tmps.getD t undef, tmps.getD u undef, tmps.getD v undef, tmps.getD x undef]) w := by
  simp [results, h]
/-- What Fault answers. -/
def FaultR (m : M.Img) (w : World) (e : Ending) (w' : World) : Prop :=
  Still w w' ∧ ((wholeB m = false ∧ e = .returned (.tuple #[.int .i64 (-1), .int .i64 (-1), .int .i64 (-1), .bool false])) ∨ (wholeB m = true ∧ ∃ res, WrongImg m 0 m.funcs res ∧ ((res = none ∧ e = .returned (.tuple #[.int .i64 0, .int .i64 0, .int .i64 0, .bool true])) ∨ (∃ i j k : Nat, res = some (i, j, k) ∧ e = .returned (.tuple #[.int .i64 i, .int .i64 j, .int .i64 k, .bool false])))))
set_option maxRecDepth 100000 in
set_option maxHeartbeats 4000000 in
theorem fault_any {B : Nat} {w : World} {v : ImgV} {m : M.Img} (hp : ImgIs B w v m) (hB : B ≤ w.heap.size) (hw : M.size m ≤ 1000000000) (hroom : Room w v) (htab : Tz w) (htB : 1 < B) (hok : wholeB m = true → ∀ c : WkC, c.m = m → ∀ f ∈ m.funcs, ∀ b ∈ f.blocks, ∀ x ∈ b.code, StepOk c x) :
    Calls Tryz.prog 10 #[.agg #[.slice v.ta v.tn v.tc, .slice v.sa v.sn v.sc, .slice v.xa v.xn v.xc, .slice v.na v.nn v.nc, .slice v.fa v.fn v.fc, .int .i64 v.main, .int .i64 v.exn]] w (FaultR m w) := by
  have S1 : Hid (Still w (w.alloc (.cells v.cells 27)) ∧ Blk (w.alloc (.cells v.cells 27)) w.heap.size 27 v.cells) := ⟨(Still.refl w).alloc _, Blk.new w _ _⟩
  have HOK := Lib.hid hok
  have HK : Hid (∀ {W : World}, Still w W → B ≤ W.heap.size ∧ ImgIs B W v m) := fun {W} hW => ⟨Nat.le_trans hB hW.size, hp.keep ((Still.below hW).mono hB) hB⟩
  have HWH := Lib.hid (whole_any (HK.out S1.out.1).2 (HK.out S1.out.1).1 hw (hroom.still hp hB S1.out.1))
  have HNW : Hid (wholeB m = true → ∀ {W : World}, Still w W → Calls Tryz.prog 18 #[.agg #[.slice v.ta v.tn v.tc, .slice v.sa v.sn v.sc, .slice v.xa v.xn v.xc, .slice v.na v.nn v.nc, .slice v.fa v.fn v.fc, .int .i64 v.main, .int .i64 v.exn]] W (NewR v m W)) := fun hf {W} hW => by
    obtain ⟨⟨z0, zt, zs⟩, ⟨ft, fs⟩, hfit, _⟩ := whole_facts hf
    have htl := hp.types.len
    have hsl := hp.shapes.len
    exact newWalk_any (HK.out hW).2 (HK.out hW).1 hfit (by omega) (by omega) (by omega) (by omega)
  have HRN : Hid (wholeB m = true → ∀ {W W' : World} {e : Ending}, Still w W → NewR v m W e W' → ∃ c : WkC, c.m = m ∧ e = .returned (.pointer (some ⟨c.X, 0, none⟩)) ∧ RowsAt c W' ∧ Blk W' c.X 67 (c.cells ⟨none, 0, 0, 0, 0, none, 0, 0⟩ 0 0 0 .nilFunc .nilFunc .nilFunc .nilFunc .nilFunc) ∧ W.heap.size < c.X ∧ Still W W') := fun hf {W W' e} hW h => rows_new (HK.out hW).2 (HK.out hW).1 hf (htab.keep hW (fun e => e)) htB h
  obtain ⟨ta, tn, tc, sa, sn, sc, xa, xn, xc, na, nn, nc, fa, fn, fc, mi, ei⟩ := v
  dsimp only at HWH HNW HRN S1 ⊢
  clear hp hB hw hroom hok htab htB HK
  go_enter Tryz.func10, Tryz.ntmps10
  go_wp2_with fail
  generalize w.alloc (.cells (ImgV.cells ⟨ta, tn, tc, sa, sn, sc, xa, xn, xc, na, nn, nc, fa, fn, fc, mi, ei⟩) 27) = w1 at S1 HWH ⊢
  obtain ⟨K0, hK0⟩ : ∃ K0, w.heap.size = K0 := ⟨_, rfl⟩
  rw [hK0] at S1
  rw [hK0]
  have HK0 := Lib.hid hK0
  clear hK0
  refine HWH.out.mono ?_; rintro e w2 ⟨rfl, t2⟩
  have S2 : Hid (Still w w2 ∧ Blk w2 K0 27 (ImgV.cells ⟨ta, tn, tc, sa, sn, sc, xa, xn, xc, na, nn, nc, fa, fn, fc, mi, ei⟩)) := ⟨S1.out.1.trans t2, t2.blk S1.out.2⟩
  clear t2
  cases hwb : wholeB m with
  | false =>
    have HWB := Lib.hid hwb
    go_wp2_with fail
    try simp only [Exit.inBlock, Exit.then]
    refine bodyPost_ret (results_tmp4 rfl _ _ _) rfl ?_
    exact ⟨S2.out.1, .inl ⟨HWB.out, rfl⟩⟩
  | true =>
    have HWB := Lib.hid hwb
    have m0 := S2.out.2.cell 0
    have m1 := S2.out.2.cell 1
    have m2 := S2.out.2.cell 2
    have m3 := S2.out.2.cell 3
    have m4 := S2.out.2.cell 4
    have m5 := S2.out.2.cell 5
    have m6 := S2.out.2.cell 6
    have lM := S2.out.2.lt
    go_wp2_with fail
    clear m0 m1 m2 m3 m4 m5 m6 lM hwb
    refine (HNW.out HWB.out S2.out.1).mono ?_; rintro e w3 hnr
    obtain ⟨c, hcm, rfl, hrows, hbox, hXl, t3⟩ := HRN.out HWB.out S2.out.1 hnr
    have S3 : Hid (Still w w3) := S2.out.1.trans t3
    have henter : ∀ (args : Array Value) (W : World), (callFunc 20 args).run Tryz.prog W = .ok (.enter 20 args) W := enters_of Tryz.func20 (by kernel_rfl) rfl
    have hmf : ∀ (fn : Fn) (first cap : Array Value) (w : World), (Instr.makeFunc fn first cap).run Tryz.prog w = .ok (.func fn first cap) w := fun _ _ _ _ => rfl
    have HXW : Hid (w.heap.size < c.X) := Nat.lt_of_le_of_lt S2.out.1.size hXl
    have HBX3 := Lib.hid hbox
    have HC := Lib.hid (holds_any 20 #[.pointer (some ⟨c.X, 0, none⟩)] #[] henter (w := w3) (R := fun b w' => ∃ res, WrongImg c.m 0 c.m.funcs res ∧ Turn (fun j => j = c.X) w3 w' ∧ ((res = none ∧ b = true) ∨ (∃ (i j k : Nat), res = some (i, j, k) ∧ b = false ∧ ∃ g v0 v1 v2 v3 v4, Blk w' c.X 67 (c.cells g i j k v0 v1 v2 v3 v4))))
      ((image_any c (fun f hf b hb x hx => HOK.out HWB.out c hcm f (hcm ▸ hf) b hb x hx) (by rw [hcm]; exact (whole_facts HWB.out).2.2.2) hrows hbox).mono fun e w' h => by
        obtain ⟨res, h1, h2, h3, ⟨h4, h5⟩ | ⟨i, j, k, h4, h5, h6⟩⟩ := h
        · exact .inl ⟨h5, res, h1, h3, .inl ⟨h4, rfl⟩⟩
        · exact .inr ⟨h5, res, h1, h3, .inr ⟨i, j, k, h4, rfl, h6⟩⟩))
    have HCM := Lib.hid hcm
    clear hnr hrows hbox t3 henter hcm hXl
    obtain ⟨X, hX⟩ : ∃ X, c.X = X := ⟨_, rfl⟩
    have HX := Lib.hid hX
    rw [hX] at HC ⊢
    clear hX
    go_wp2_with fail
    refine HC.out.mono ?_; rintro e w5 ⟨q, rfl, res, hwi, t5, ⟨rfl, rfl⟩ | ⟨i, j, k, rfl, rfl, g, v0, v1, v2, v3, v4, hb5⟩⟩
    · have H5 : Hid (WrongImg m 0 m.funcs none ∧ Still w w5) := ⟨by rw [← HCM.out]; exact hwi, (S3.out.turn.trans t5).mono fun j hj e => by have := HXW.out; have h2 := HX.out; omega⟩
      clear hwi t5
      go_wp2_with fail
      try simp only [Exit.inBlock, Exit.then]
      refine bodyPost_ret (results_tmp4 rfl _ _ _) rfl ?_
      exact ⟨H5.out.2, .inr ⟨HWB.out, none, H5.out.1, .inl ⟨rfl, rfl⟩⟩⟩
    · have H5 : Hid (WrongImg m 0 m.funcs (some (i, j, k)) ∧ Still w w5) := ⟨by rw [← HCM.out]; exact hwi, (S3.out.turn.trans t5).mono fun j hj e => by have := HXW.out; have h2 := HX.out; omega⟩
      have x15 : w5.cell? ⟨X, 15, none⟩ = some (.int .i64 i) := hb5.cell 15
      have x16 : w5.cell? ⟨X, 16, none⟩ = some (.int .i64 j) := hb5.cell 16
      have x17 : w5.cell? ⟨X, 17, none⟩ = some (.int .i64 k) := hb5.cell 17
      have y15 : w5.drew.cell? ⟨X, 15, none⟩ = some (.int .i64 i) := x15
      have y16 : w5.drew.cell? ⟨X, 16, none⟩ = some (.int .i64 j) := x16
      have y17 : w5.drew.cell? ⟨X, 17, none⟩ = some (.int .i64 k) := x17
      have lX := hb5.lt
      clear hwi t5 hb5
      go_wp2_with fail
      go_region
      go_wp2_with fail
      try simp only [Exit.inBlock, Exit.then]
      refine bodyPost_ret (results_tmp4 rfl _ _ _) rfl ?_
      exact ⟨H5.out.2.drew, .inr ⟨HWB.out, some (i, j, k), H5.out.1, .inr ⟨i, j, k, rfl, rfl⟩⟩⟩
end Go.Proofs.YtglalgjffkoneaaGreatDoor
/- Verify; where an image is wrong first is one place. -/
namespace Go.Proofs.YtglalgjffkoneaaGreatDoor
set_option linter.unusedVariables false
set_option linter.unusedSimpArgs false
open Go.ChangeShapes Go.WideShapes Go.ChangeAt Go.RowKit
open Vf (K nth nth_nat tyAt atK isK numT oneT le beginK tsub WrongAt WrongBk WrongFn WrongImg Last)
theorem wat_one {m : M.Img} {f : M.Fn} {n : Nat} : ∀ (l : List M.Ins) (i : Nat) (k : K) (r r' : Option Nat), WrongAt m f n i k l r → WrongAt m f n i k l r' → r = r'
  | [], i, k, r, r', h, h' => Eq.trans h (Eq.symm h')
  | x :: l, i, k, r, r', h, h' => by
    rcases h with ⟨hg, h⟩ | ⟨hb, h⟩ <;> rcases h' with ⟨hg', h'⟩ | ⟨hb', h'⟩
    · rcases h with ⟨e1, e2, e3⟩ | ⟨e1, e2, e3⟩ | ⟨e1, e2⟩ <;> rcases h' with ⟨f1, f2, f3⟩ | ⟨f1, f2, f3⟩ | ⟨f1, f2⟩
      · rw [e3, f3]
      · exact absurd e2 f2
      · exact absurd e1 f1
      · exact absurd f2 e2
      · rw [e3, f3]
      · exact absurd e1 f1
      · exact absurd f1 e1
      · exact absurd f1 e1
      · exact wat_one l _ _ _ _ e2 f2
    · exact absurd hg hb'
    · exact absurd hg' hb
    · rw [h, h']
theorem wfn_one {m : M.Img} {f : M.Fn} : ∀ (l : List M.Bk) (j : Nat) (r r' : Option (Nat × Nat)), WrongFn m f j l r → WrongFn m f j l r' → r = r'
  | [], j, r, r', h, h' => Eq.trans h (Eq.symm h')
  | b :: l, j, r, r', h, h' => by
    rcases h with ⟨n, h1, h2⟩ | ⟨h1, h2⟩ <;> rcases h' with ⟨n', h1', h2'⟩ | ⟨h1', h2'⟩
    · have := wat_one _ _ _ _ _ h1 h1'
      rw [h2, h2', Option.some.inj this]
    · exact absurd (wat_one _ _ _ _ _ h1 h1') (by simp)
    · exact absurd (wat_one _ _ _ _ _ h1 h1') (by simp)
    · exact wfn_one l _ _ _ h2 h2'
theorem wimg_one {m : M.Img} : ∀ (l : List M.Fn) (i : Nat) (r r' : Option (Nat × Nat × Nat)), WrongImg m i l r → WrongImg m i l r' → r = r'
  | [], i, r, r', h, h' => Eq.trans h (Eq.symm h')
  | f :: l, i, r, r', h, h' => by
    rcases h with ⟨j, n, h1, h2⟩ | ⟨h1, h2⟩ <;> rcases h' with ⟨j', n', h1', h2'⟩ | ⟨h1', h2'⟩
    · have := Option.some.inj (wfn_one _ _ _ _ h1 h1')
      rw [h2, h2']
      rw [Prod.mk.injEq] at this
      rw [this.1, this.2]
    · exact absurd (wfn_one _ _ _ _ h1 h1') (by simp)
    · exact absurd (wfn_one _ _ _ _ h1 h1') (by simp)
    · exact wimg_one l _ _ _ h2 h2'
def VerifyR (m : M.Img) (w : World) (e : Ending) (w' : World) : Prop :=
  Still w w' ∧ ((e = .returned (.int .i64 0) ∧ wholeB m = true ∧ WrongImg m 0 m.funcs none) ∨ (e = .returned (.int .i64 21) ∧ ¬ (wholeB m = true ∧ WrongImg m 0 m.funcs none)))
set_option maxRecDepth 100000 in
set_option maxHeartbeats 4000000 in
theorem verify_any {B : Nat} {w : World} {v : ImgV} {m : M.Img} (hp : ImgIs B w v m) (hB : B ≤ w.heap.size) (hw : M.size m ≤ 1000000000) (hroom : Room w v) (htab : Tz w) (htB : 1 < B) (hok : wholeB m = true → ∀ c : WkC, c.m = m → ∀ f ∈ m.funcs, ∀ b ∈ f.blocks, ∀ x ∈ b.code, StepOk c x) :
    Calls Tryz.prog 12 #[.agg #[.slice v.ta v.tn v.tc, .slice v.sa v.sn v.sc, .slice v.xa v.xn v.xc, .slice v.na v.nn v.nc, .slice v.fa v.fn v.fc, .int .i64 v.main, .int .i64 v.exn]] w (VerifyR m w) := by
  have S1 : Hid (Still w (w.alloc (.cells v.cells 27))) := (Still.refl w).alloc _
  have HF := Lib.hid (fault_any (hp.keep ((Still.below S1.out).mono hB) hB) (Nat.le_trans hB S1.out.size) hw (hroom.still hp hB S1.out) (htab.keep S1.out (fun e => e)) htB hok)
  obtain ⟨ta, tn, tc, sa, sn, sc, xa, xn, xc, na, nn, nc, fa, fn, fc, mi, ei⟩ := v
  dsimp only at HF S1 ⊢
  clear hp hB hw hroom hok htab htB
  go_enter Tryz.func12, Tryz.ntmps12
  go_wp2_with fail
  refine HF.out.mono ?_; rintro e w5 ⟨t5, ⟨h1, rfl⟩ | ⟨h1, res, h2, ⟨rfl, rfl⟩ | ⟨i, j, k, rfl, rfl⟩⟩⟩
  · have H := Lib.hid (And.intro (S1.out.trans t5) h1)
    clear t5 h1
    go_wp2_with fail
    go_ret
    exact ⟨H.out.1, .inr ⟨rfl, fun e => by rw [H.out.2] at e; exact absurd e.1 (by decide)⟩⟩
  · have H := Lib.hid (And.intro (S1.out.trans t5) (And.intro h1 h2))
    clear t5 h1 h2
    go_wp2_with fail
    go_ret
    exact ⟨H.out.1, .inl ⟨rfl, H.out.2⟩⟩
  · have H := Lib.hid (And.intro (S1.out.trans t5) (And.intro h1 h2))
    clear t5 h1 h2
    go_wp2_with fail
    go_ret
    exact ⟨H.out.1, .inr ⟨rfl, fun e => absurd (wimg_one _ _ _ _ H.out.2.2 e.2) (by simp)⟩⟩
end Go.Proofs.YtglalgjffkoneaaGreatDoor
/- The least image that may run, and one that may not. -/
namespace Go.Proofs.YtglalgjffkoneaaGreatDoor
set_option linter.unusedVariables false
set_option linter.unusedSimpArgs false
open Go.ChangeShapes Go.WideShapes Go.ChangeAt Go.RowKit
open Vf (K nth nth_nat tyAt atK isK numT oneT le beginK tsub WrongAt WrongBk WrongFn WrongImg Last Needs)
def insC : M.Ins := ⟨1, 0, 0, 0, 0, 5, [], [], []⟩
def insR : M.Ins := ⟨22, 0, 0, 0, 0, 0, [], [], []⟩
def leastF (cl : List M.Ins) : M.Fn := ⟨[], 0, 1, [⟨[-1], cl⟩]⟩
def leastC (cl : List M.Ins) : M.Img := ⟨[⟨true, []⟩, ⟨false, [0]⟩], [⟨3, [], ⟨#[]⟩⟩], [], [], [leastF cl], 0, 0⟩
theorem whole_two : wholeB (leastC [insC, insR]) = true := by decide +kernel
theorem whole_one : wholeB (leastC [insR]) = true := by decide +kernel
theorem needs_c (m : M.Img) (f : M.Fn) : Needs m f [none] insC := by
  unfold Needs
  rw [if_pos (show insC.op = 1 from rfl)]
  exact ⟨by unfold Vf.Is63 insC; exact ⟨by decide, by decide⟩, by unfold Vf.hasK insC; exact ⟨by decide, by decide⟩⟩
theorem next_c (m : M.Img) : Vf.next m [none] insC = [some numT] := by
  unfold Vf.next
  rw [if_pos (show insC.op = 1 ∨ insC.op = 4 ∨ insC.op = 11 ∨ insC.op = 12 ∨ insC.op = 14 ∨ insC.op = 15 from .inl rfl)]
  rfl
theorem needs_r (cl : List M.Ins) : Needs (leastC cl) (leastF cl) [some numT] insR := ⟨numT, rfl, show le numT ⟨true, []⟩ = true from rfl⟩
theorem needs_r_not (cl : List M.Ins) : ¬ Needs (leastC cl) (leastF cl) [none] insR := fun ⟨x, h, _⟩ => by
  have h2 : (none : Option M.Ty) = some x := h
  cases h2
theorem begin_l (cl : List M.Ins) : beginK (leastC cl) [-1] = [none] := rfl
theorem wrong_two : WrongImg (leastC [insC, insR]) 0 (leastC [insC, insR]).funcs none := by
  refine .inr ⟨.inr ⟨?_, rfl⟩, rfl⟩
  show WrongAt (leastC [insC, insR]) (leastF [insC, insR]) 2 0 [none] [insC, insR] none
  refine .inl ⟨⟨.inr (by unfold Last insC; decide), needs_c _ _⟩, .inr (.inr ⟨by decide, ?_⟩)⟩
  rw [next_c]
  exact .inl ⟨⟨.inl rfl, needs_r _⟩, .inl ⟨rfl, by unfold Last insR; decide, rfl⟩⟩
theorem wrong_one : WrongImg (leastC [insR]) 0 (leastC [insR]).funcs (some (0, 0, 0)) := by
  refine .inl ⟨0, 0, .inl ⟨0, ?_, rfl⟩, rfl⟩
  show WrongAt (leastC [insR]) (leastF [insR]) 1 0 [none] [insR] (some 0)
  exact .inr ⟨fun e => needs_r_not _ e.2, rfl⟩
theorem steps_least {cl : List M.Ins} (h : ∀ x ∈ cl, x = insC ∨ x = insR) (c : WkC) : ∀ f ∈ (leastC cl).funcs, ∀ b ∈ f.blocks, ∀ x ∈ b.code, StepOk c x := fun f hf b hb x hx => by
  have hf : f = leastF cl := List.mem_singleton.1 hf
  subst hf
  have hb : b = ⟨[-1], cl⟩ := List.mem_singleton.1 hb
  subst hb
  rcases h x hx with rfl | rfl
  · exact step_const c _ rfl
  · exact step_ret c _ rfl
theorem in0 : In64 0 := by unfold In64; decide
theorem in1 : In64 1 := by unfold In64; decide
theorem le0 : 0 ≤ maxLen := by decide
theorem le1 : 1 ≤ maxLen := by decide
theorem le2 : 2 ≤ maxLen := by decide
/-- Where it lies. -/
structure LeastP where
  p1 : Nat
  p2 : Nat
  p3 : Nat
  p4 : Nat
  p5 : Nat
  p6 : Nat
  p7 : Nat
abbrev LeastP.v (p : LeastP) : ImgV := ⟨some ⟨p.p2, 0, none⟩, 2, 2, some ⟨p.p3, 0, none⟩, 1, 1, none, 0, 0, none, 0, 0, some ⟨p.p7, 0, none⟩, 1, 1, 0, 0⟩
def insCells (op n : Int) : List Value := [.int .i64 op, .int .i64 0, .int .i64 0, .int .i64 0, .int .i64 0, .int .i64 n, .slice none 0 0, .slice none 0 0, .slice none 0 0]
structure LeastAt (w : World) (p : LeastP) (co cn : Nat) : Prop where
  a1 : Blk w p.p1 3 #[.int .i64 0]
  a2 : Blk w p.p2 51 #[.bool true, .slice none 0 0, .bool false, .slice (some ⟨p.p1, 0, none⟩) 1 1]
  a3 : Blk w p.p3 42 #[.int .i64 3, .slice none 0 0, .string ⟨#[]⟩]
  a4 : Blk w p.p4 3 #[.int .i64 (-1)]
  a5 : Blk w p.p5 36 (insCells 1 5 ++ insCells 22 0).toArray
  a6 : Blk w p.p6 48 #[.slice (some ⟨p.p4, 0, none⟩) 1 1, .slice (some ⟨p.p5, co, none⟩) cn cn]
  a7 : Blk w p.p7 45 #[.slice none 0 0, .int .i64 0, .int .i64 1, .slice (some ⟨p.p6, 0, none⟩) 1 1]
theorem LeastAt.still {w w' : World} {p : LeastP} {co cn : Nat} (h : LeastAt w p co cn) (t : Still w w') : LeastAt w' p co cn := ⟨t.blk h.a1, t.blk h.a2, t.blk h.a3, t.blk h.a4, t.blk h.a5, t.blk h.a6, t.blk h.a7⟩
theorem nil_lies {α : Type} {B k : Nat} {w : World} {P : List Value → α → Prop} : Lies B w k P none 0 [] := ⟨rfl, fun h => absurd h (Nat.lt_irrefl _)⟩
theorem one_int {w : World} {g : Nat} {z : Int} (h : Blk w g 3 #[.int .i64 z]) (hz : In64 z) : Ints w.heap.size w (some ⟨g, 0, none⟩) 1 [z] := ⟨rfl, fun _ => ⟨g, 0, rfl, h.lt, fun i x hi => by
  have h0 : i = 0 := by have := (List.getElem?_eq_some_iff.1 hi).1; simpa using this
  subst h0
  simp at hi
  subst hi
  exact ⟨[.int .i64 z], rfl, ⟨rfl, hz⟩, fun j hj => by
    have : j = 0 := by omega
    subst this
    exact h.cell 0⟩⟩⟩
theorem ins_is {w : World} (B : Nat) (op n : Int) (h1 : In64 op) (h2 : In64 n) : InsIs B w (insCells op n) ⟨op, 0, 0, 0, 0, n, [], [], []⟩ := ⟨none, 0, 0, none, 0, 0, none, 0, 0, rfl, by decide, by decide, by decide, ⟨h1, in0, in0, in0, in0, h2⟩, nil_lies, nil_lies, nil_lies⟩
/-- The code, whole or without its first instruction. -/
def leastCode (co : Nat) : List M.Ins := if co = 0 then [insC, insR] else [insR]
theorem least_code {w : World} {p : LeastP} {co cn : Nat} (h : LeastAt w p co cn) (hc : (co = 0 ∧ cn = 2) ∨ (co = 9 ∧ cn = 1)) : Lies w.heap.size w 9 (InsIs w.heap.size w) (some ⟨p.p5, co, none⟩) cn (leastCode co) := by
  rcases hc with ⟨rfl, rfl⟩ | ⟨rfl, rfl⟩
  · refine ⟨rfl, fun _ => ⟨p.p5, 0, rfl, h.a5.lt, fun i x hi => ?_⟩⟩
    have hi2 : i < 2 := (List.getElem?_eq_some_iff.1 hi).1
    rcases (show i = 0 ∨ i = 1 by omega) with rfl | rfl
    · obtain rfl : insC = x := Option.some.inj hi
      exact ⟨insCells 1 5, rfl, ins_is _ 1 5 (by unfold In64; decide) (by unfold In64; decide), fun j hj => by
        rw [h.a5.cell]
        rcases (show j = 0 ∨ j = 1 ∨ j = 2 ∨ j = 3 ∨ j = 4 ∨ j = 5 ∨ j = 6 ∨ j = 7 ∨ j = 8 by omega) with rfl | rfl | rfl | rfl | rfl | rfl | rfl | rfl | rfl <;> rfl⟩
    · obtain rfl : insR = x := Option.some.inj hi
      exact ⟨insCells 22 0, rfl, ins_is _ 22 0 (by unfold In64; decide) (by unfold In64; decide), fun j hj => by
        rw [h.a5.cell]
        rcases (show j = 0 ∨ j = 1 ∨ j = 2 ∨ j = 3 ∨ j = 4 ∨ j = 5 ∨ j = 6 ∨ j = 7 ∨ j = 8 by omega) with rfl | rfl | rfl | rfl | rfl | rfl | rfl | rfl | rfl <;> rfl⟩
  · refine ⟨rfl, fun _ => ⟨p.p5, 9, rfl, h.a5.lt, fun i x hi => ?_⟩⟩
    have hi2 : i < 1 := (List.getElem?_eq_some_iff.1 hi).1
    obtain rfl : i = 0 := by omega
    obtain rfl : insR = x := Option.some.inj hi
    exact ⟨insCells 22 0, rfl, ins_is _ 22 0 (by unfold In64; decide) (by unfold In64; decide), fun j hj => by
        rw [h.a5.cell]
        rcases (show j = 0 ∨ j = 1 ∨ j = 2 ∨ j = 3 ∨ j = 4 ∨ j = 5 ∨ j = 6 ∨ j = 7 ∨ j = 8 by omega) with rfl | rfl | rfl | rfl | rfl | rfl | rfl | rfl | rfl <;> rfl⟩
theorem least_img {w : World} {p : LeastP} {co cn : Nat} (h : LeastAt w p co cn) (hc : (co = 0 ∧ cn = 2) ∨ (co = 9 ∧ cn = 1)) : ImgIs w.heap.size w p.v (leastC (leastCode co)) := by
  have hcode := least_code h hc
  have hcn : cn ≤ maxLen := by unfold maxLen; omega
  refine ⟨rfl, rfl, in0, in0, ⟨le2, le1, le0, le0, le1⟩, ?_, ?_, nil_lies, nil_lies, ?_⟩
  · refine ⟨rfl, fun _ => ⟨p.p2, 0, rfl, h.a2.lt, fun i x hi => ?_⟩⟩
    have hi2 : i < 2 := (List.getElem?_eq_some_iff.1 hi).1
    rcases (show i = 0 ∨ i = 1 by omega) with rfl | rfl
    · obtain rfl : (⟨true, []⟩ : M.Ty) = x := Option.some.inj hi
      exact ⟨[.bool true, .slice none 0 0], rfl, ⟨none, 0, 0, rfl, by decide, nil_lies⟩, fun j hj => by
        rw [h.a2.cell]
        rcases (show j = 0 ∨ j = 1 by omega) with rfl | rfl <;> rfl⟩
    · obtain rfl : (⟨false, [0]⟩ : M.Ty) = x := Option.some.inj hi
      exact ⟨[.bool false, .slice (some ⟨p.p1, 0, none⟩) 1 1], rfl, ⟨_, 1, 1, rfl, by decide, one_int h.a1 (by unfold In64; decide)⟩, fun j hj => by
        rw [h.a2.cell]
        rcases (show j = 0 ∨ j = 1 by omega) with rfl | rfl <;> rfl⟩
  · refine ⟨rfl, fun _ => ⟨p.p3, 0, rfl, h.a3.lt, fun i x hi => ?_⟩⟩
    have hi2 : i < 1 := (List.getElem?_eq_some_iff.1 hi).1
    obtain rfl : i = 0 := by omega
    obtain rfl : (⟨3, [], ⟨#[]⟩⟩ : M.Sh) = x := Option.some.inj hi
    exact ⟨[.int .i64 3, .slice none 0 0, .string ⟨#[]⟩], rfl, ⟨none, 0, 0, rfl, by decide, by unfold In64; decide, by decide, nil_lies⟩, fun j hj => by
      rw [h.a3.cell]
      rcases (show j = 0 ∨ j = 1 ∨ j = 2 by omega) with rfl | rfl | rfl <;> rfl⟩
  · refine ⟨rfl, fun _ => ⟨p.p7, 0, rfl, h.a7.lt, fun i x hi => ?_⟩⟩
    have hi2 : i < 1 := (List.getElem?_eq_some_iff.1 hi).1
    obtain rfl : i = 0 := by omega
    obtain rfl : leastF (leastCode co) = x := Option.some.inj hi
    refine ⟨[.slice none 0 0, .int .i64 0, .int .i64 1, .slice (some ⟨p.p6, 0, none⟩) 1 1], rfl, ⟨none, 0, 0, _, 1, 1, rfl, le0, le1, in0, in1, nil_lies, ?_⟩, fun j hj => ?_⟩
    · refine ⟨rfl, fun _ => ⟨p.p6, 0, rfl, h.a6.lt, fun i x hi => ?_⟩⟩
      have hi2 : i < 1 := (List.getElem?_eq_some_iff.1 hi).1
      obtain rfl : i = 0 := by omega
      obtain rfl : (⟨[-1], leastCode co⟩ : M.Bk) = x := Option.some.inj hi
      exact ⟨[.slice (some ⟨p.p4, 0, none⟩) 1 1, .slice (some ⟨p.p5, co, none⟩) cn cn], rfl, ⟨_, 1, 1, _, cn, cn, rfl, by decide, hcn, one_int h.a4 (by unfold In64; decide), hcode⟩, fun j hj => by
        rw [h.a6.cell]
        rcases (show j = 0 ∨ j = 1 by omega) with rfl | rfl <;> rfl⟩
    · rw [h.a7.cell]
      rcases (show j = 0 ∨ j = 1 ∨ j = 2 ∨ j = 3 by omega) with rfl | rfl | rfl | rfl <;> rfl
theorem least_room {w : World} {p : LeastP} {co cn : Nat} (h : LeastAt w p co cn) : Room w p.v := fun b off i hv hi ba bn bc hc b' off' hb' h0 ia inn ic hi2 => by
  have hi' : i < 1 := hi
  obtain rfl : i = 0 := by omega
  have hv' : (some ⟨p.p7, 0, none⟩ : Option Addr) = some ⟨b, off, none⟩ := hv
  simp only [Option.some.injEq, Addr.mk.injEq, and_true] at hv'
  obtain ⟨rfl, rfl⟩ := hv'
  rw [h.a7.cell] at hc
  simp at hc
  obtain ⟨rfl, rfl, rfl⟩ := hc
  simp only [Option.some.injEq, Addr.mk.injEq, and_true] at hb'
  obtain ⟨rfl, rfl⟩ := hb'
  rw [h.a6.cell] at hi2
  simp at hi2
  omega
end Go.Proofs.YtglalgjffkoneaaGreatDoor
