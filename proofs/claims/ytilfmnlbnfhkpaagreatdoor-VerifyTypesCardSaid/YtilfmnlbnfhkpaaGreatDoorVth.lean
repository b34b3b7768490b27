/- through: a block. -/
import Derived.Test.YtilfmnlbnfhkpaaGreatDoorV9
namespace Go.Proofs.YtilfmnlbnfhkpaaGreatDoor
set_option linter.unusedVariables false
set_option linter.unusedSimpArgs false
open Go.ChangeShapes Go.WideShapes Go.ChangeAt Go.RowKit
open Vf (K nth nth_nat tyAt atK isK numT oneT le beginK tsub WrongAt WrongBk Last)
def lastB (x : M.Ins) : Bool := decide (18 ≤ x.op) && decide (x.op ≤ 23)
theorem lastB_iff (x : M.Ins) : lastB x = true ↔ Last x := by unfold lastB Last; simp
theorem leaves_any (x : M.Ins) (la : Option Addr) (ln lc : Nat) (ma : Option Addr) (mn mc : Nat) (va : Option Addr) (vn vc : Nat) (w : World) :
    Calls Tryz.prog 70 #[.agg #[.int .i64 x.op, .int .i64 x.d, .int .i64 x.a, .int .i64 x.b, .int .i64 x.c, .int .i64 x.n, .slice la ln lc, .slice ma mn mc, .slice va vn vc]] w fun e w' => e = .returned (.bool (lastB x)) ∧ Still w w' := by
  have S1 : Hid (Still w (w.alloc (.cells #[.int .i64 x.op, .int .i64 x.d, .int .i64 x.a, .int .i64 x.b, .int .i64 x.c, .int .i64 x.n, .slice la ln lc, .slice ma mn mc, .slice va vn vc] 43))) := (Still.refl w).alloc _
  have HL : Hid (lastB x = (decide (18 ≤ x.op) && decide (x.op ≤ 23))) := rfl
  generalize lastB x = q at *
  generalize x.op = op at *
  by_cases h1 : 18 ≤ op
  · have x1 : decide (18 ≤ op) = true := decide_eq_true h1
    by_cases h2 : op ≤ 23
    · have x2 : decide (op ≤ 23) = true := decide_eq_true h2
      have HE : Hid (q = true) := by rw [HL.out, x1, x2]; rfl
      go_enter Tryz.func70, Tryz.ntmps70
      go_wp2_with fail
      go_ret
      exact ⟨by rw [HE.out]; rfl, S1.out⟩
    · have x2 : decide (op ≤ 23) = false := decide_eq_false h2
      have HE : Hid (q = false) := by rw [HL.out, x1, x2]; rfl
      go_enter Tryz.func70, Tryz.ntmps70
      go_wp2_with fail
      go_ret
      exact ⟨by rw [HE.out]; rfl, S1.out⟩
  · have x1 : decide (18 ≤ op) = false := decide_eq_false h1
    have HE : Hid (q = false) := by rw [HL.out, x1]; rfl
    go_enter Tryz.func70, Tryz.ntmps70
    go_wp2_with fail
    go_ret
    exact ⟨by rw [HE.out]; rfl, S1.out⟩
/-- A walk within a function, whatever its slots are. -/
structure WkF (c : WkC) (w : World) (f : M.Fn) (g : FV) (fi bi ii : Int) : Prop where
  rows : RowsAt c w
  box : ∃ v0 v1 v2 v3 v4, Blk w c.X 77 (c.cells g fi bi ii v0 v1 v2 v3 v4)
  fn : g.res = f.result ∧ g.slots = f.slots ∧ g.pn ≤ maxLen ∧ g.bn ≤ maxLen
  par : Ints c.B w g.pa g.pn f.params
  blk : Lies c.B w 2 (BkIs c.B w) g.ba g.bn f.blocks
  ok : fnB c.m.types.length f = true
theorem WkF.keep {c : WkC} {w w' : World} {f : M.Fn} {g : FV} {fi bi ii ii' : Int} {bi' : Int} (h : WkF c w f g fi bi ii) {S : Nat → Prop} (t : Turn S w w') (hS : Far c S) (hb : ∃ v0 v1 v2 v3 v4, Blk w' c.X 77 (c.cells g fi bi' ii' v0 v1 v2 v3 v4)) : WkF c w' f g fi bi' ii' :=
  have hbl : Below c.B w w' := t.below (by have := h.rows.le; omega) fun j e => by have := h.rows.le; rcases hS _ e with e | e <;> omega
  have hB : c.B ≤ w.heap.size := by have := h.rows.le; omega
  ⟨h.rows.keep t hS, hb, h.fn, h.par.keep hbl hB, Lies.keep h.blk hbl hB (fun cs x _ h1 => h1.keep hbl hB), h.ok⟩
theorem WkAt.f {c : WkC} {w : World} {f : M.Fn} {g : FV} {fi bi ii : Int} {N r T Y : Nat} {l : List (Option Nat)} {k : K} (h : WkAt c w f g fi bi ii N r T Y l k) : WkF c w f g fi bi ii := ⟨h.rows, ⟨_, _, _, _, _, h.box⟩, h.fn, h.par, h.blk, h.ok⟩
/-- What a block's going through leaves. -/
def ThroughR (c : WkC) (f : M.Fn) (g : FV) (fi bi : Int) (b : M.Bk) (w : World) (e : Ending) (w' : World) : Prop :=
  ∃ (res : Option Nat) (ii : Int), WrongBk c.m f b res ∧ WkF c w' f g fi bi ii ∧ Turn (fun j => j = c.X) w w' ∧ ((res = none ∧ e = .returned (.tuple #[])) ∨ (∃ n : Nat, res = some n ∧ ii = n ∧ e = .panicked [{ v := wrongV, recovered := false }]))
/-- Beside a walk's box and its slots, nothing of old. -/
theorem WkAt.put {c : WkC} {w : World} {f : M.Fn} {g : FV} {fi bi ii : Int} {N r T Y : Nat} {l : List (Option Nat)} {k : K} (h : WkAt c w f g fi bi ii N r T Y l k) (jj : Int) : WkAt c (w.setCell ⟨c.X, 17, none⟩ (.int .i64 jj)) f g fi bi jj N r T Y l k ∧ Turn (fun j => j = c.X) w (w.setCell ⟨c.X, 17, none⟩ (.int .i64 jj)) := by
  have t : Turn (fun j => j = c.X) w (w.setCell ⟨c.X, 17, none⟩ (.int .i64 jj)) := (Turn.refl (fun j => j = c.X) w).setCell (p := ⟨c.X, 17, none⟩) (fun _ => rfl) _
  have hF := h.f.keep (ii' := ii) (bi' := bi) t (fun j e => .inl e)
  have hbox : Blk (w.setCell ⟨c.X, 17, none⟩ (.int .i64 jj)) c.X 77 (c.cells g fi bi jj (.func (.func 101) #[] #[.pointer (some ⟨N, 0, none⟩)]) (.func (.func 103) #[] #[.pointer (some ⟨N, 0, none⟩)]) (.func (.func 104) #[] #[.pointer (some ⟨N, 0, none⟩)]) (.func (.func 105) #[] #[.pointer (some ⟨N, 0, none⟩), .pointer (some ⟨T, 0, none⟩)]) (.func (.func 106) #[] #[.pointer (some ⟨T, 0, none⟩), .pointer (some ⟨Y, 0, none⟩)])) := by
    have := h.box.set 17 (.int .i64 jj)
    simpa using this
  have hF2 := h.f.keep (ii' := jj) (bi' := bi) t (fun j e => .inl e) ⟨_, _, _, _, _, hbox⟩
  have hX := h.rows.le
  have hf := h.far
  refine ⟨⟨hF2.rows, hbox, hF2.fn, hF2.par, hF2.blk, h.now.keep t (by omega) (by omega), h.typed.keep t (by omega), h.types.keep t (by omega), h.far, h.ne, h.kn.keep t (fun b im R hb e => ?_), h.ok⟩, t⟩
  exact words_ne hb h.box (by decide) e
/-- Behind an instruction. -/
theorem WkAt.step {c : WkC} {w w' : World} {f : M.Fn} {g : FV} {fi bi ii : Int} {N r T Y : Nat} {l : List (Option Nat)} {k : K} (h : WkAt c w f g fi bi ii N r T Y l k) {r' : Nat} {l' : List (Option Nat)} {k' : K} (hn : NowAt w' N r' l') (hk : Kn w' l' k') (hr : r' = r ∨ w.heap.size ≤ r') (t : Turn (fun j => j = N ∨ j = r) w w') : WkAt c w' f g fi bi ii N r' T Y l' k' := by
  have hX := h.rows.le
  have hf := h.far
  have hne := h.ne
  have hbox : Blk w' c.X 77 (c.cells g fi bi ii (.func (.func 101) #[] #[.pointer (some ⟨N, 0, none⟩)]) (.func (.func 103) #[] #[.pointer (some ⟨N, 0, none⟩)]) (.func (.func 104) #[] #[.pointer (some ⟨N, 0, none⟩)]) (.func (.func 105) #[] #[.pointer (some ⟨N, 0, none⟩), .pointer (some ⟨T, 0, none⟩)]) (.func (.func 106) #[] #[.pointer (some ⟨T, 0, none⟩), .pointer (some ⟨Y, 0, none⟩)])) := h.box.keep t (by omega)
  have hF := h.f.keep (ii' := ii) (bi' := bi) t (fun j e => by rcases e with e | e <;> exact .inr (by omega)) ⟨_, _, _, _, _, hbox⟩
  have hl1 := h.typed.lt
  have hl2 := h.types.lt
  have hl3 := h.now.box.lt
  refine ⟨hF.rows, hbox, hF.fn, hF.par, hF.blk, hn, h.typed.keep t (by omega), h.types.keep t (by omega), ⟨hf.1, by omega, hf.2.2⟩, ⟨hne.1, by omega, by omega, hne.2.2.2.1, by omega⟩, hk, h.ok⟩
theorem turn_fresh {w w7 w8 : World} {X N r : Nat} (h : Turn (fun j => j = X) w w7) (t : Turn (fun j => j = N ∨ j = r) w7 w8) (hN : w.heap.size ≤ N) (hr : w.heap.size ≤ r) : Turn (fun j => j = X) w w8 := by
  have t1 : Turn (fun j => j = X ∨ w.heap.size ≤ j) w w8 := (h.mono fun _ _ e => .inl e).trans (t.mono fun j _ e => .inr (by rcases e with e | e <;> omega))
  exact t1.mono fun j hj e => e.elim id fun e => by omega
/-- How far a block is gone through. -/
def PR (c : WkC) (f : M.Fn) (b : M.Bk) (cn i : Nat) (k : K) : Prop :=
  (i < cn ∨ cn = 0 → ∀ res, WrongAt c.m f cn i k (b.code.drop i) res → WrongBk c.m f b res) ∧ (i = cn → 0 < cn → ∀ x, b.code[cn - 1]? = some x → ∀ res, ((Last x ∧ res = none) ∨ (¬ Last x ∧ res = some cn)) → WrongBk c.m f b res)
theorem PR.begin {c : WkC} {f : M.Fn} {b : M.Bk} {cn : Nat} (h : b.code.length = cn) : PR c f b cn 0 (beginK c.m b.inn) := by
  refine ⟨fun _ res hr => ?_, fun e h0 => by omega⟩
  unfold WrongBk
  rw [h]
  exact hr
theorem PR.next {c : WkC} {f : M.Fn} {b : M.Bk} {cn i : Nat} {k : K} {x : M.Ins} (h : PR c f b cn i k) (hi : i < cn) (hx : b.code[i]? = some x) (hl : i + 1 = cn ∨ ¬ Last x) (hn : Vf.Needs c.m f k x) : PR c f b cn (i + 1) (Vf.next c.m k x) := by
  have hd : b.code.drop i = x :: b.code.drop (i + 1) := by
    have hil := (List.getElem?_eq_some_iff.1 hx).1
    rw [List.drop_eq_getElem_cons hil, (List.getElem?_eq_some_iff.1 hx).2]
  refine ⟨fun e res hr => h.1 (.inl hi) res ?_, fun e h0 y hy res hr => h.1 (.inl hi) res ?_⟩
  · rw [hd]
    exact .inl ⟨⟨hl, hn⟩, .inr (.inr ⟨by omega, hr⟩)⟩
  · rw [hd]
    have hxy : x = y := by
      rw [show cn - 1 = i by omega, hx] at hy
      exact Option.some.inj hy
    subst hxy
    rcases hr with ⟨h1, h2⟩ | ⟨h1, h2⟩
    · exact .inl ⟨⟨hl, hn⟩, .inl ⟨e, h1, h2⟩⟩
    · exact .inl ⟨⟨hl, hn⟩, .inr (.inl ⟨e, h1, h2⟩)⟩
theorem PR.bad {c : WkC} {f : M.Fn} {b : M.Bk} {cn i : Nat} {k : K} {x : M.Ins} (h : PR c f b cn i k) (hi : i < cn) (hx : b.code[i]? = some x) (hb : ¬ ((i + 1 = cn ∨ ¬ Last x) ∧ Vf.Needs c.m f k x)) : WrongBk c.m f b (some i) := by
  have hd : b.code.drop i = x :: b.code.drop (i + 1) := by
    have hil := (List.getElem?_eq_some_iff.1 hx).1
    rw [List.drop_eq_getElem_cons hil, (List.getElem?_eq_some_iff.1 hx).2]
  refine h.1 (.inl hi) _ ?_
  rw [hd]
  exact .inr ⟨hb, rfl⟩
/-- What a block's slots have at first. -/
theorem kn_begin {c : WkC} {w : World} (h : RowsAt c w) {inn : List Int} (hin : ∀ n ∈ inn, n = -1 ∨ 0 ≤ n ∧ n < c.m.types.length) : Kn w (beginL c.bs inn) (beginK c.m inn) := by
  refine ⟨by unfold beginL beginK; rw [List.length_map, List.length_map], fun i hi => ?_⟩
  have hi' : i < inn.length := by unfold beginL at hi; rwa [List.length_map] at hi
  unfold beginL beginK
  rw [List.getElem?_map, List.getElem?_map, List.getElem?_eq_getElem hi']
  obtain ⟨n, hn⟩ : ∃ n, inn[i] = n := ⟨_, rfl⟩
  rw [hn]
  simp only [Option.map_some]
  by_cases h1 : n = -1
  · rw [if_pos h1, if_pos h1]
    exact .inl ⟨rfl, rfl⟩
  · rw [if_neg h1, if_neg h1]
    rcases hin n (hn ▸ List.getElem_mem hi') with e | ⟨e1, e2⟩
    · exact absurd e h1
    · obtain ⟨k, rfl⟩ := Int.eq_ofNat_of_zero_le e1
      have hk : k < c.m.types.length := by omega
      have hb : c.bs[k]? = some (c.bs[k]'(by rw [h.lb]; exact hk)) := List.getElem?_eq_getElem _
      have ht : c.m.types[k]? = some (c.m.types[k]'hk) := List.getElem?_eq_getElem _
      refine .inr ⟨_, c.m.types[k]'hk, by rw [Int.toNat_natCast, hb], ?_, h.wt k _ _ hb ht, h.ok _ (List.getElem_mem hk)⟩
      unfold tyAt
      rw [nth_nat, ht]
      rfl
set_option maxRecDepth 100000 in
set_option maxHeartbeats 8000000 in
theorem through_any (c : WkC) (b : M.Bk) (hok : ∀ x ∈ b.code, StepOk c x) {w : World} {f : M.Fn} {g : FV} {fi bi ii : Int} (h : WkF c w f g fi bi ii) {ia : Option Addr} {inn ic : Nat} {ca : Option Addr} {cn cc : Nat} (hin : Ints c.B w ia inn b.inn) (hcode : Lies c.B w 9 (InsIs c.B w) ca cn b.code) (hn : inn ≤ 1000) (hcn : cn ≤ maxLen) (hbk : ∀ n ∈ b.inn, n = -1 ∨ 0 ≤ n ∧ n < c.m.types.length) :
    Calls Tryz.prog 48 #[.pointer (some ⟨c.X, 0, none⟩), .agg #[.slice ia inn ic, .slice ca cn cc]] w (ThroughR c f g fi bi b w) := by
  have hsf : ∀ (a : Addr) (fn : Fn) (x y : Array Value) (m : Mode) (w : World), (store a (.func fn x y) m).run Tryz.prog w = stored Tryz.prog w a (.func fn x y) m := fun _ _ _ _ _ _ => run_store _ _ _ _ _ rfl
  have HH := Lib.hid h
  have HOK := Lib.hid hok
  have HIN := Lib.hid hin
  have HCODE := Lib.hid hcode
  have HCL : Hid (b.code.length = cn) := hcode.len
  have HBK := Lib.hid hbk
  have HCN := Lib.hid hcn
  have hcn63 : cn ≤ 9223372036854775807 := by unfold maxLen at hcn; omega
  have HN := Lib.hid hn
  have S1 : Hid (Still w (w.alloc (.cells #[.slice ia inn ic, .slice ca cn cc] 55)) ∧ Blk (w.alloc (.cells #[.slice ia inn ic, .slice ca cn cc] 55)) w.heap.size 55 #[.slice ia inn ic, .slice ca cn cc]) := ⟨(Still.refl w).alloc _, Blk.new w _ _⟩
  obtain ⟨X, hX⟩ : ∃ X, c.X = X := ⟨_, rfl⟩
  have HX := Lib.hid hX
  have HTL : Hid (c.bs.length = c.v.tn) := h.rows.lb.trans h.rows.img.types.len
  obtain ⟨tn, htn⟩ : ∃ tn, c.v.tn = tn := ⟨_, rfl⟩
  have HTN := Lib.hid htn
  obtain ⟨r1, hr1⟩ : ∃ r1, c.r1 = r1 := ⟨_, rfl⟩
  have HR1 := Lib.hid hr1
  rw [hX]
  clear h hok hin hcode hbk hcn hX htn hr1
  go_enter Tryz.func48, Tryz.ntmps48
  go_wp2_with fail
  generalize w.alloc (.cells #[.slice ia inn ic, .slice ca cn cc] 55) = w1 at S1 ⊢
  obtain ⟨K0, hK0⟩ : ∃ K0, w.heap.size = K0 := ⟨_, rfl⟩
  rw [hK0] at S1
  rw [hK0]
  have HK0 := Lib.hid hK0
  clear hK0
  obtain ⟨wD, hwD⟩ : ∃ wD, w1.drew = wD := ⟨_, rfl⟩
  have SD : Hid (Still w wD) := by rw [← hwD]; exact S1.out.1.drew
  have SD1 : Hid (Still w1 wD) := by rw [← hwD]; exact (Still.refl w1).drew
  obtain ⟨v0, v1, v2, v3, v4, hbox0⟩ := HH.out.box
  have HB0 := Lib.hid (SD.out.blk hbox0)
  have HRW := Lib.hid (HH.out.rows.keep SD.out (fun _ e => e.elim))
  have x7 : wD.cell? ⟨X, 7, none⟩ = some (.slice (some ⟨r1, 0, none⟩) tn c.rc) := by rw [← HX.out, ← HR1.out, ← HTN.out]; exact HB0.out.cell 7
  have k0 : wD.cell? ⟨K0, 0, none⟩ = some (.slice ia inn ic) := (SD1.out.blk S1.out.2).cell 0
  have k1 : wD.cell? ⟨K0, 1, none⟩ = some (.slice ca cn cc) := (SD1.out.blk S1.out.2).cell 1
  have lX : X < wD.heap.size := by rw [← HX.out]; exact HB0.out.lt
  have lK : K0 < wD.heap.size := (SD1.out.blk S1.out.2).lt
  have hD : ∃ D : Nat → Option (Bool × (Nat → Nat)), ∀ x ∈ c.bs, ∃ im R, D x = some (im, R) := ⟨fun _ => some (true, Vf.zero), fun _ _ => ⟨_, _, rfl⟩⟩
  obtain ⟨D, hDD⟩ := hD
  have HBG := Lib.hid (begin_any (w := wD) (D := D) (yr := c.r1) (yc := c.rc) (ts := c.bs) (c := ic) HRW.out.rt (Nat.lt_of_lt_of_le HRW.out.l1.1 HRW.out.le.2.2) hDD (by rw [HRW.out.lb]; exact HRW.out.few.1) (HIN.out.keep ((Still.below SD.out).mono (by have := HH.out.rows.le; omega)) (by have := HH.out.rows.le; omega)) hn (by have := HRW.out.le; omega) (fun x hx => by rw [HRW.out.lb]; exact HBK.out x hx))
  rw [HTL.out, HTN.out, HR1.out] at HBG
  clear hDD hbox0
  refine wp_region_held_drew (S := fun W => W.cell? ⟨X, 7, none⟩ = some (.slice (some ⟨r1, 0, none⟩) tn c.rc) ∧ W.cell? ⟨K0, 0, none⟩ = some (.slice ia inn ic) ∧ W.cell? ⟨K0, 1, none⟩ = some (.slice ca cn cc)) (by kernel_rfl) (by rw [hwD]; exact ⟨x7, k0, k1⟩) (fun hHeld => ?_)
  try simp only [Act.put, List.getElem_toArray, List.getElem_cons_succ, List.getElem_cons_zero, List.setIfInBounds_toArray, List.set_cons_zero, List.set_cons_succ]
  rw [hwD] at hHeld ⊢
  clear hwD
  refine wpAnyH_take (i := 0) (v := ?_) rfl (by kernel_rfl) (by kernel_rfl) (by kernel_rfl) (fun _ _ _ h => h) (Or.inl ⟨by rfl, ?_⟩) (by assumption) ?_
  rotate_left
  · intro w hSw; (try dsimp only at hSw); go_simp; try with_reducible rfl
  try simp only [Act.put, List.getElem_toArray, List.getElem_cons_succ, List.getElem_cons_zero, List.setIfInBounds_toArray, List.set_cons_zero, List.set_cons_succ]
  refine wpAnyH_take (i := 1) (v := ?_) rfl (by kernel_rfl) (by kernel_rfl) (by kernel_rfl) (fun _ _ _ h => h) (Or.inl ⟨by rfl, ?_⟩) (by assumption) ?_
  rotate_left
  · intro w hSw; (try dsimp only at hSw); go_simp; try with_reducible rfl
  try simp only [Act.put, List.getElem_toArray, List.getElem_cons_succ, List.getElem_cons_zero, List.setIfInBounds_toArray, List.set_cons_zero, List.set_cons_succ]
  refine wpAnyH_take (i := 2) (v := ?_) rfl (by kernel_rfl) (by kernel_rfl) (by kernel_rfl) (fun _ _ _ h => h) (Or.inl ⟨by rfl, ?_⟩) (by assumption) ?_
  rotate_left
  · intro w hSw; (try dsimp only at hSw); go_simp; try with_reducible rfl
  try simp only [Act.put, List.getElem_toArray, List.getElem_cons_succ, List.getElem_cons_zero, List.setIfInBounds_toArray, List.set_cons_zero, List.set_cons_succ]
  refine wpAnyH_take (i := 3) (v := ?_) rfl (by kernel_rfl) (by kernel_rfl) (by kernel_rfl) (fun _ _ _ h => h) (Or.inl ⟨by rfl, ?_⟩) (by assumption) ?_
  rotate_left
  · intro w hSw; (try dsimp only at hSw); go_simp; try with_reducible rfl
  try simp only [Act.put, List.getElem_toArray, List.getElem_cons_succ, List.getElem_cons_zero, List.setIfInBounds_toArray, List.set_cons_zero, List.set_cons_succ]
  refine wpAnyH_take (i := 4) (v := ?_) rfl (by kernel_rfl) (by kernel_rfl) (by kernel_rfl) (fun _ _ _ h => h) (Or.inl ⟨by rfl, ?_⟩) (by assumption) ?_
  rotate_left
  · intro w hSw; (try dsimp only at hSw); go_simp; try with_reducible rfl
  try simp only [Act.put, List.getElem_toArray, List.getElem_cons_succ, List.getElem_cons_zero, List.setIfInBounds_toArray, List.set_cons_zero, List.set_cons_succ]
  refine wpAnyH_take (i := 5) (v := ?_) rfl (by kernel_rfl) (by kernel_rfl) (by kernel_rfl) (fun _ _ _ h => h) (Or.inl ⟨by rfl, ?_⟩) (by assumption) ?_
  rotate_left
  · intro w hSw; (try dsimp only at hSw); go_simp; try with_reducible rfl
  try simp only [Act.put, List.getElem_toArray, List.getElem_cons_succ, List.getElem_cons_zero, List.setIfInBounds_toArray, List.set_cons_zero, List.set_cons_succ]
  refine wpAnyH_take (i := 6) (v := ?_) rfl (by kernel_rfl) (by kernel_rfl) (by kernel_rfl) (fun _ _ _ h => h) (Or.inl ⟨by rfl, ?_⟩) (by assumption) ?_
  rotate_left
  · intro w hSw; (try dsimp only at hSw); go_simp; try with_reducible rfl
  try simp only [Act.put, List.getElem_toArray, List.getElem_cons_succ, List.getElem_cons_zero, List.setIfInBounds_toArray, List.set_cons_zero, List.set_cons_succ]
  refine wpAnyH_ready (rs := [7]) (by kernel_rfl) (by simp) ?_
  refine AllReadyH.cons rfl (fun K hK => ?_) AllReadyH.nil
  go_simp
  refine HBG.out.mono ?_; rintro e w5 ⟨N, r, T, Y, rfl, hva, hN, hr, hT, hY, t5⟩
  have HVA := Lib.hid (And.intro hva (And.intro hN (And.intro hr (And.intro hT (And.intro hY t5)))))
  have hH5 : w5.cell? ⟨X, 7, none⟩ = some (.slice (some ⟨r1, 0, none⟩) tn c.rc) ∧ w5.cell? ⟨K0, 0, none⟩ = some (.slice ia inn ic) ∧ w5.cell? ⟨K0, 1, none⟩ = some (.slice ca cn cc) := ⟨(t5.cell (p := ⟨X, 7, none⟩) lX).trans hHeld.1, (t5.cell (p := ⟨K0, 0, none⟩) lK).trans hHeld.2.1, (t5.cell (p := ⟨K0, 1, none⟩) lK).trans hHeld.2.2⟩
  have HB5 := Lib.hid (t5.blk HB0.out)
  have SW5 : Hid (Still w w5) := SD.out.trans t5
  have HK5 := Lib.hid (t5.blk (SD1.out.blk S1.out.2))
  clear hva hN hr hT hY t5 hHeld x7 k0 k1 lX lK
  refine hK.out _ _ hH5 (fun hHeld => ?_)
  clear hK K
  refine wpAnyH_take (i := 8) (v := ?_) rfl (by kernel_rfl) (by kernel_rfl) (by kernel_rfl) (fun _ _ _ h => h) (Or.inl ⟨by rfl, ?_⟩) (by assumption) ?_
  rotate_left
  · intro w hSw; (try dsimp only at hSw); go_simp; try with_reducible rfl
  try simp only [Act.put, List.getElem_toArray, List.getElem_cons_succ, List.getElem_cons_zero, List.setIfInBounds_toArray, List.set_cons_zero, List.set_cons_succ]
  refine wpAnyH_take (i := 9) (v := ?_) rfl (by kernel_rfl) (by kernel_rfl) (by kernel_rfl) (fun _ _ _ h => h) (Or.inl ⟨by rfl, ?_⟩) (by assumption) ?_
  rotate_left
  · intro w hSw; (try dsimp only at hSw); go_simp; try with_reducible rfl
  try simp only [Act.put, List.getElem_toArray, List.getElem_cons_succ, List.getElem_cons_zero, List.setIfInBounds_toArray, List.set_cons_zero, List.set_cons_succ]
  have z18 : w5.cell? ⟨X, 18, none⟩ = some v0 := by rw [← HX.out]; exact HB5.out.cell 18
  have z19 : w5.cell? ⟨X, 19, none⟩ = some v1 := by rw [← HX.out]; exact HB5.out.cell 19
  have z20 : w5.cell? ⟨X, 20, none⟩ = some v2 := by rw [← HX.out]; exact HB5.out.cell 20
  have z21 : w5.cell? ⟨X, 21, none⟩ = some v3 := by rw [← HX.out]; exact HB5.out.cell 21
  have z22 : w5.cell? ⟨X, 22, none⟩ = some v4 := by rw [← HX.out]; exact HB5.out.cell 22
  have f18 : w5.frozen? ⟨X, 18, none⟩ = false := by rw [← HX.out]; exact HB5.out.frozen 18
  have f19 : w5.frozen? ⟨X, 19, none⟩ = false := by rw [← HX.out]; exact HB5.out.frozen 19
  have f20 : w5.frozen? ⟨X, 20, none⟩ = false := by rw [← HX.out]; exact HB5.out.frozen 20
  have f21 : w5.frozen? ⟨X, 21, none⟩ = false := by rw [← HX.out]; exact HB5.out.frozen 21
  have f22 : w5.frozen? ⟨X, 22, none⟩ = false := by rw [← HX.out]; exact HB5.out.frozen 22
  have lX5 : X < w5.heap.size := by rw [← HX.out]; exact HB5.out.lt
  refine wpAnyH_ready (rs := [10]) (by kernel_rfl) (by simp) ?_
  refine AllReadyH.cons rfl (fun K hK => ?_) AllReadyH.nil
  go_simp
  have hb5 : Blk w5 X 77 (c.cells g fi bi ii v0 v1 v2 v3 v4) := by rw [← HX.out]; exact HB5.out
  have hbX : Blk (((((w5.setCell ⟨X, 18, none⟩ (.func (.func 101) #[] #[.pointer (some ⟨N, 0, none⟩)])).setCell ⟨X, 19, none⟩ (.func (.func 103) #[] #[.pointer (some ⟨N, 0, none⟩)])).setCell ⟨X, 20, none⟩ (.func (.func 104) #[] #[.pointer (some ⟨N, 0, none⟩)])).setCell ⟨X, 21, none⟩ (.func (.func 105) #[] #[.pointer (some ⟨N, 0, none⟩), .pointer (some ⟨T, 0, none⟩)])).setCell ⟨X, 22, none⟩ (.func (.func 106) #[] #[.pointer (some ⟨T, 0, none⟩), .pointer (some ⟨Y, 0, none⟩)])) X 77 (c.cells g fi bi ii (.func (.func 101) #[] #[.pointer (some ⟨N, 0, none⟩)]) (.func (.func 103) #[] #[.pointer (some ⟨N, 0, none⟩)]) (.func (.func 104) #[] #[.pointer (some ⟨N, 0, none⟩)]) (.func (.func 105) #[] #[.pointer (some ⟨N, 0, none⟩), .pointer (some ⟨T, 0, none⟩)]) (.func (.func 106) #[] #[.pointer (some ⟨T, 0, none⟩), .pointer (some ⟨Y, 0, none⟩)])) := by simpa using (((((hb5.set 18 (.func (.func 101) #[] #[.pointer (some ⟨N, 0, none⟩)])).set 19 (.func (.func 103) #[] #[.pointer (some ⟨N, 0, none⟩)])).set 20 (.func (.func 104) #[] #[.pointer (some ⟨N, 0, none⟩)])).set 21 (.func (.func 105) #[] #[.pointer (some ⟨N, 0, none⟩), .pointer (some ⟨T, 0, none⟩)])).set 22 (.func (.func 106) #[] #[.pointer (some ⟨T, 0, none⟩), .pointer (some ⟨Y, 0, none⟩)]))
  have hTX : Turn (fun j => j = X) w5 (((((w5.setCell ⟨X, 18, none⟩ (.func (.func 101) #[] #[.pointer (some ⟨N, 0, none⟩)])).setCell ⟨X, 19, none⟩ (.func (.func 103) #[] #[.pointer (some ⟨N, 0, none⟩)])).setCell ⟨X, 20, none⟩ (.func (.func 104) #[] #[.pointer (some ⟨N, 0, none⟩)])).setCell ⟨X, 21, none⟩ (.func (.func 105) #[] #[.pointer (some ⟨N, 0, none⟩), .pointer (some ⟨T, 0, none⟩)])).setCell ⟨X, 22, none⟩ (.func (.func 106) #[] #[.pointer (some ⟨T, 0, none⟩), .pointer (some ⟨Y, 0, none⟩)])) := ((((((Turn.refl (fun j => j = X) w5).setCell (p := ⟨X, 18, none⟩) (fun _ => rfl) _).setCell (p := ⟨X, 19, none⟩) (fun _ => rfl) _).setCell (p := ⟨X, 20, none⟩) (fun _ => rfl) _).setCell (p := ⟨X, 21, none⟩) (fun _ => rfl) _).setCell (p := ⟨X, 22, none⟩) (fun _ => rfl) _)
  have hKX : K0 ≠ X := fun e => by have h1 := HH.out.rows.le; have h2 := HK0.out; rw [HX.out] at h1; omega
  have hlK5 := HK5.out.lt
  have hH6 : (((((w5.setCell ⟨X, 18, none⟩ (.func (.func 101) #[] #[.pointer (some ⟨N, 0, none⟩)])).setCell ⟨X, 19, none⟩ (.func (.func 103) #[] #[.pointer (some ⟨N, 0, none⟩)])).setCell ⟨X, 20, none⟩ (.func (.func 104) #[] #[.pointer (some ⟨N, 0, none⟩)])).setCell ⟨X, 21, none⟩ (.func (.func 105) #[] #[.pointer (some ⟨N, 0, none⟩), .pointer (some ⟨T, 0, none⟩)])).setCell ⟨X, 22, none⟩ (.func (.func 106) #[] #[.pointer (some ⟨T, 0, none⟩), .pointer (some ⟨Y, 0, none⟩)])).cell? ⟨X, 7, none⟩ = some (.slice (some ⟨r1, 0, none⟩) tn c.rc) ∧ (((((w5.setCell ⟨X, 18, none⟩ (.func (.func 101) #[] #[.pointer (some ⟨N, 0, none⟩)])).setCell ⟨X, 19, none⟩ (.func (.func 103) #[] #[.pointer (some ⟨N, 0, none⟩)])).setCell ⟨X, 20, none⟩ (.func (.func 104) #[] #[.pointer (some ⟨N, 0, none⟩)])).setCell ⟨X, 21, none⟩ (.func (.func 105) #[] #[.pointer (some ⟨N, 0, none⟩), .pointer (some ⟨T, 0, none⟩)])).setCell ⟨X, 22, none⟩ (.func (.func 106) #[] #[.pointer (some ⟨T, 0, none⟩), .pointer (some ⟨Y, 0, none⟩)])).cell? ⟨K0, 0, none⟩ = some (.slice ia inn ic) ∧ (((((w5.setCell ⟨X, 18, none⟩ (.func (.func 101) #[] #[.pointer (some ⟨N, 0, none⟩)])).setCell ⟨X, 19, none⟩ (.func (.func 103) #[] #[.pointer (some ⟨N, 0, none⟩)])).setCell ⟨X, 20, none⟩ (.func (.func 104) #[] #[.pointer (some ⟨N, 0, none⟩)])).setCell ⟨X, 21, none⟩ (.func (.func 105) #[] #[.pointer (some ⟨N, 0, none⟩), .pointer (some ⟨T, 0, none⟩)])).setCell ⟨X, 22, none⟩ (.func (.func 106) #[] #[.pointer (some ⟨T, 0, none⟩), .pointer (some ⟨Y, 0, none⟩)])).cell? ⟨K0, 1, none⟩ = some (.slice ca cn cc) := ⟨by rw [← HR1.out, ← HTN.out]; exact hbX.cell 7, (hTX.cell (p := ⟨K0, 0, none⟩) hlK5 hKX).trans hHeld.2.1, (hTX.cell (p := ⟨K0, 1, none⟩) hlK5 hKX).trans hHeld.2.2⟩
  clear z18 z19 z20 z21 z22 f18 f19 f20 f21 f22 lX5 hHeld hH5
  refine hK.out _ _ hH6 (fun hHeld => ?_)
  clear hK K
  refine wpAnyH_done (by kernel_rfl) ?_ _
  have BX := Lib.hid (And.intro hbX hTX)
  clear hbX hTX hHeld hH6 hb5
  generalize (((((w5.setCell ⟨X, 18, none⟩ (.func (.func 101) #[] #[.pointer (some ⟨N, 0, none⟩)])).setCell ⟨X, 19, none⟩ (.func (.func 103) #[] #[.pointer (some ⟨N, 0, none⟩)])).setCell ⟨X, 20, none⟩ (.func (.func 104) #[] #[.pointer (some ⟨N, 0, none⟩)])).setCell ⟨X, 21, none⟩ (.func (.func 105) #[] #[.pointer (some ⟨N, 0, none⟩), .pointer (some ⟨T, 0, none⟩)])).setCell ⟨X, 22, none⟩ (.func (.func 106) #[] #[.pointer (some ⟨T, 0, none⟩), .pointer (some ⟨Y, 0, none⟩)])) = w6 at BX ⊢
  have AT : Hid (WkAt c w6 f g fi bi ii N r T Y (beginL c.bs b.inn) (beginK c.m b.inn) ∧ Turn (fun j => j = c.X) w w6 ∧ Blk w6 K0 55 #[.slice ia inn ic, .slice ca cn cc]) := by
    obtain ⟨⟨hnow, htyped, htypes, hne⟩, hN, hr, hT, hY, t5⟩ := HVA.out
    have hle := HRW.out.le
    have hX := HX.out
    have hl1 := HRW.out.l1
    have tX : Turn (fun j => j = c.X) w w6 := by rw [hX]; exact SW5.out.turn.trans BX.out.2
    have hF := HH.out.keep (bi' := bi) (ii' := ii) tX (fun j e => .inl e) ⟨_, _, _, _, _, by rw [hX]; exact BX.out.1⟩
    refine ⟨⟨hF.rows, by rw [hX]; exact BX.out.1, hF.fn, hF.par, hF.blk, hnow.keep BX.out.2 (by omega) (by omega), htyped.keep BX.out.2 (by omega), ?_, ⟨by omega, by omega, by omega, by omega⟩, ⟨hne.1, hne.2.1, hne.2.2.1, hne.2.2.2.1, hne.2.2.2.2.1⟩, kn_begin hF.rows HBK.out, hF.ok⟩, tX, HK5.out.keep BX.out.2 hKX⟩
    have := htypes.box.keep BX.out.2 (by omega)
    rw [HTL.out, ← HR1.out] at this
    exact this
  have HNK : Hid (K0 < N ∧ K0 < r) := by
    have h1 := (SD1.out.blk S1.out.2).lt
    obtain ⟨_, hN, hr, _, _, _⟩ := HVA.out
    exact ⟨by omega, by omega⟩
  clear HVA BX HB5 HK5 SW5 HBG hlK5 hKX
  have b1 := AT.out.2.2.cell 1
  have lK6 := AT.out.2.2.lt
  go_wp2_with fail
  clear b1 lK6
  go_loopw [5, 6, 24] (fun _ _ z wr => ∃ i r0 l k ii0, z = .int .i64 (i : Nat) ∧ i ≤ cn ∧ WkAt c wr f g fi bi ii0 N r0 T Y l k ∧ Turn (fun j => j = c.X) w wr ∧ Blk wr K0 55 #[.slice ia inn ic, .slice ca cn cc] ∧ PR c f b cn i k ∧ K0 < r0) (fun _ _ z _ => cn - (intOf z).toNat)
  case atStart => exact ⟨0, r, _, _, ii, rfl, Nat.zero_le _, AT.out.1, AT.out.2.1, AT.out.2.2, PR.begin HCL.out, HNK.out.2⟩
  case round =>
    obtain ⟨i, r0, l, k, ii0, rfl, hi, hwk, ht, hkb, hpr, hr0⟩ := hrel
    have HWK := Lib.hid (And.intro hwk (And.intro ht hkb))
    have HR0 : Hid (True ∧ PR c f b cn i k ∧ K0 < r0) := ⟨trivial, hpr, hr0⟩
    have HBL : Hid (Below c.B w wr) := ht.below (by have := HH.out.rows.le; omega) fun j e => by have := HH.out.rows.le; have e2 : j = c.X := e; omega
    have HBW : Hid (c.B ≤ w.heap.size) := by have := HH.out.rows.le; show _ ≤ _; omega
    by_cases hlt : i < cn
    · obtain ⟨b3, off3, x, cs, hca, hbB, hxi, hcl, hPx, hcell⟩ := (Lies.keep HCODE.out HBL.out HBW.out (fun cs x _ h => h.keep HBL.out HBW.out)).here hlt
      have hPx0 := hPx
      obtain ⟨la, ln, lc, ma, mn, mc, va, vn, vc, rfl, hrest⟩ := hPx
      have d0 : wr.cell? ⟨b3, off3 + i * 9, none⟩ = some (.int .i64 x.op) := by simpa using hcell 0 (by decide)
      have d1 : wr.cell? ⟨b3, off3 + i * 9 + 1, none⟩ = some (.int .i64 x.d) := by simpa using hcell 1 (by decide)
      have d2 : wr.cell? ⟨b3, off3 + i * 9 + 2, none⟩ = some (.int .i64 x.a) := by simpa using hcell 2 (by decide)
      have d3 : wr.cell? ⟨b3, off3 + i * 9 + 3, none⟩ = some (.int .i64 x.b) := by simpa using hcell 3 (by decide)
      have d4 : wr.cell? ⟨b3, off3 + i * 9 + 4, none⟩ = some (.int .i64 x.c) := by simpa using hcell 4 (by decide)
      have d5 : wr.cell? ⟨b3, off3 + i * 9 + 5, none⟩ = some (.int .i64 x.n) := by simpa using hcell 5 (by decide)
      have d6 : wr.cell? ⟨b3, off3 + i * 9 + 6, none⟩ = some (.slice la ln lc) := by simpa using hcell 6 (by decide)
      have d7 : wr.cell? ⟨b3, off3 + i * 9 + 7, none⟩ = some (.slice ma mn mc) := by simpa using hcell 7 (by decide)
      have d8 : wr.cell? ⟨b3, off3 + i * 9 + 8, none⟩ = some (.slice va vn vc) := by simpa using hcell 8 (by decide)
      have hbl : b3 < wr.heap.size := World.block_lt_of_cell? _ _ d0
      have hii : (i : Int) < cn := by omega
      have HLT := Lib.hid hlt
      have HX1 : Hid (b.code[i]? = some x ∧ x ∈ b.code) := ⟨hxi, List.mem_of_getElem? hxi⟩
      have WP := (hwk.put (i : Int))
      rw [HX.out] at WP
      have W7 : Hid (WkAt c ((wr.setCell ⟨X, 17, none⟩ (.int .i64 (i : Int))).alloc (.cells #[.int .i64 x.op, .int .i64 x.d, .int .i64 x.a, .int .i64 x.b, .int .i64 x.c, .int .i64 x.n, .slice la ln lc, .slice ma mn mc, .slice va vn vc] 43)) f g fi bi i N r0 T Y l k ∧ Turn (fun j => j = c.X) w ((wr.setCell ⟨X, 17, none⟩ (.int .i64 (i : Int))).alloc (.cells #[.int .i64 x.op, .int .i64 x.d, .int .i64 x.a, .int .i64 x.b, .int .i64 x.c, .int .i64 x.n, .slice la ln lc, .slice ma mn mc, .slice va vn vc] 43)) ∧ Blk ((wr.setCell ⟨X, 17, none⟩ (.int .i64 (i : Int))).alloc (.cells #[.int .i64 x.op, .int .i64 x.d, .int .i64 x.a, .int .i64 x.b, .int .i64 x.c, .int .i64 x.n, .slice la ln lc, .slice ma mn mc, .slice va vn vc] 43)) wr.heap.size 43 #[.int .i64 x.op, .int .i64 x.d, .int .i64 x.a, .int .i64 x.b, .int .i64 x.c, .int .i64 x.n, .slice la ln lc, .slice ma mn mc, .slice va vn vc] ∧ InsIs c.B ((wr.setCell ⟨X, 17, none⟩ (.int .i64 (i : Int))).alloc (.cells #[.int .i64 x.op, .int .i64 x.d, .int .i64 x.a, .int .i64 x.b, .int .i64 x.c, .int .i64 x.n, .slice la ln lc, .slice ma mn mc, .slice va vn vc] 43)) [.int .i64 x.op, .int .i64 x.d, .int .i64 x.a, .int .i64 x.b, .int .i64 x.c, .int .i64 x.n, .slice la ln lc, .slice ma mn mc, .slice va vn vc] x) := by
        have t1 : Turn (fun j => j = c.X) wr ((wr.setCell ⟨X, 17, none⟩ (.int .i64 (i : Int))).alloc (.cells #[.int .i64 x.op, .int .i64 x.d, .int .i64 x.a, .int .i64 x.b, .int .i64 x.c, .int .i64 x.n, .slice la ln lc, .slice ma mn mc, .slice va vn vc] 43)) := by rw [HX.out]; exact WP.2.alloc _
        refine ⟨WP.1.still ((Still.refl _).alloc _), ht.trans t1, ?_, hPx0.keep (t1.below (by have := hwk.rows.le; omega) fun j e => by have := hwk.rows.le; have e2 : j = c.X := e; omega) (by have := hwk.rows.le; omega)⟩
        have := Blk.new (wr.setCell ⟨X, 17, none⟩ (.int .i64 (i : Int))) 43 #[.int .i64 x.op, .int .i64 x.d, .int .i64 x.a, .int .i64 x.b, .int .i64 x.c, .int .i64 x.n, .slice la ln lc, .slice ma mn mc, .slice va vn vc]
        rwa [show (wr.setCell ⟨X, 17, none⟩ (.int .i64 (i : Int))).heap.size = wr.heap.size by simp] at this
      have W7K : Hid (Blk ((wr.setCell ⟨X, 17, none⟩ (.int .i64 (i : Int))).alloc (.cells #[.int .i64 x.op, .int .i64 x.d, .int .i64 x.a, .int .i64 x.b, .int .i64 x.c, .int .i64 x.n, .slice la ln lc, .slice ma mn mc, .slice va vn vc] 43)) K0 55 #[.slice ia inn ic, .slice ca cn cc]) := (hkb.keep WP.2 (by have h1 := HH.out.rows.le; have h2 := HK0.out; rw [HX.out] at h1; omega)).alloc _
      have y17 : wr.cell? ⟨X, 17, none⟩ = some (.int .i64 ii0) := by rw [← HX.out]; exact hwk.box.cell 17
      have g17 : wr.frozen? ⟨X, 17, none⟩ = false := by rw [← HX.out]; exact hwk.box.frozen 17
      have lX : X < wr.heap.size := by rw [← HX.out]; exact hwk.box.lt
      clear hcell hcl hxi hPx0 hrest hwk ht hkb hpr hr0 WP
      subst hca
      by_cases hlast : i + 1 = cn
      · have x5 : ((i : Int) == (cn : Int) - 1) = true := beq_iff_eq.2 (by omega)
        have HLA := Lib.hid hlast
        clear hlast
        go_wp2_with fail
        clear y17 g17 lX d0 d1 d2 d3 d4 d5 d6 d7 d8
        generalize (wr.setCell ⟨X, 17, none⟩ (.int .i64 (i : Int))).alloc (.cells #[.int .i64 x.op, .int .i64 x.d, .int .i64 x.a, .int .i64 x.b, .int .i64 x.c, .int .i64 x.n, .slice la ln lc, .slice ma mn mc, .slice va vn vc] 43) = w7 at W7 W7K ⊢
        obtain ⟨Q, hQ⟩ : ∃ Q, wr.heap.size = Q := ⟨_, rfl⟩
        rw [hQ] at W7 hbl
        rw [hQ]
        clear hQ
        refine (need_yes _).mono ?_; rintro e w7' ⟨rfl, rfl⟩
        have HST := Lib.hid (HOK.out x HX1.out.2 w7' f g fi bi i N r0 T Y l k la ln lc ma mn mc va vn vc (by have := W7.out.1; exact this) W7.out.2.2.2)
        have q0 := W7.out.2.2.1.cell 0
        have q1 := W7.out.2.2.1.cell 1
        have q2 := W7.out.2.2.1.cell 2
        have q3 := W7.out.2.2.1.cell 3
        have q4 := W7.out.2.2.1.cell 4
        have q5 := W7.out.2.2.1.cell 5
        have q6 := W7.out.2.2.1.cell 6
        have q7 := W7.out.2.2.1.cell 7
        have q8 := W7.out.2.2.1.cell 8
        have lq := W7.out.2.2.1.lt
        rw [HX.out] at HST
        go_wp2_with fail
        clear q0 q1 q2 q3 q4 q5 q6 q7 q8 lq
        refine HST.out.mono ?_; rintro e w8 (⟨hN8, rfl, ⟨r8, l8, hn8, hk8, hr8⟩, t8⟩ | ⟨hN8, rfl, t8⟩)
        · have T8 : Hid (Turn (fun j => j = c.X) w w8) := turn_fresh W7.out.2.1 t8 (by have := HNK.out.1; have := HK0.out; omega) (by have := HR0.out.2.2; have := HK0.out; omega)
          have WK8 := Lib.hid (W7.out.1.step hn8 hk8 hr8 t8)
          have HR8 := Lib.hid (And.intro (show K0 < r8 by
            have h1 := HR0.out.2.2
            have h3 := W7K.out.lt
            rcases hr8 with e | e <;> omega) (W7K.out.keep t8 (by
            have h1 := HR0.out.2.2
            have h2 := HNK.out.1
            omega)))
          have HPN := Lib.hid (HR0.out.2.1.next HLT.out HX1.out.1 (Or.inl HLA.out) hN8)
          clear hN8 hn8 hk8 hr8 t8
          go_wp2_with fail
          go_roundw
          case rel => exact ⟨i + 1, r8, l8, _, _, by go_num, by have := HLT.out; omega, WK8.out, T8.out, HR8.out.2, HPN.out, HR8.out.1⟩
          case measure => have := HLT.out; simp [intOf]; omega
        · have T8 : Hid (Turn (fun j => j = c.X) w w8) := turn_fresh W7.out.2.1 t8 (by have := HNK.out.1; have := HK0.out; omega) (by have := HR0.out.2.2; have := HK0.out; omega)
          refine ⟨rfl, some i, i, HR0.out.2.1.bad HLT.out HX1.out.1 (fun e => hN8 e.2), W7.out.1.f.keep t8 (fun j e => ?_) ⟨_, _, _, _, _, W7.out.1.box.keep t8 ?_⟩, T8.out, .inr ⟨i, rfl, rfl, rfl⟩⟩
          · have := W7.out.1.far
            rcases e with e | e <;> exact .inr (by omega)
          · have h1 := W7.out.1.far
            have h2 := W7.out.1.rows.le
            omega
      · have x5 : ((i : Int) == (cn : Int) - 1) = false := beq_eq_false_iff_ne.2 (by omega)
        have HLA := Lib.hid hlast
        clear hlast
        go_wp2_with fail
        clear y17 g17 lX d0 d1 d2 d3 d4 d5 d6 d7 d8
        generalize (wr.setCell ⟨X, 17, none⟩ (.int .i64 (i : Int))).alloc (.cells #[.int .i64 x.op, .int .i64 x.d, .int .i64 x.a, .int .i64 x.b, .int .i64 x.c, .int .i64 x.n, .slice la ln lc, .slice ma mn mc, .slice va vn vc] 43) = w7 at W7 W7K ⊢
        obtain ⟨Q, hQ⟩ : ∃ Q, wr.heap.size = Q := ⟨_, rfl⟩
        rw [hQ] at W7 hbl
        rw [hQ]
        clear hQ
        refine (leaves_any x la ln lc ma mn mc va vn vc w7).mono ?_; rintro e w9 ⟨rfl, t9⟩
        have W9 : Hid (WkAt c w9 f g fi bi i N r0 T Y l k ∧ Turn (fun j => j = c.X) w w9 ∧ Blk w9 Q 43 #[.int .i64 x.op, .int .i64 x.d, .int .i64 x.a, .int .i64 x.b, .int .i64 x.c, .int .i64 x.n, .slice la ln lc, .slice ma mn mc, .slice va vn vc] ∧ InsIs c.B w9 [.int .i64 x.op, .int .i64 x.d, .int .i64 x.a, .int .i64 x.b, .int .i64 x.c, .int .i64 x.n, .slice la ln lc, .slice ma mn mc, .slice va vn vc] x) := ⟨W7.out.1.still t9, W7.out.2.1.trans t9.turn, t9.blk W7.out.2.2.1, W7.out.2.2.2.keep ((Still.below t9).mono (by have := W7.out.1.rows.le; omega)) (by have := W7.out.1.rows.le; omega)⟩
        have W9K := Lib.hid (t9.blk W7K.out)
        clear t9
        clear W7 W7K
        have W7 := W9
        have W7K := W9K
        clear W9 W9K
        cases hlb : lastB x with
        | true =>
          go_wp2_with fail
          refine (need_no _).mono ?_; rintro e wz ⟨rfl, rfl⟩
          exact ⟨rfl, some i, i, HR0.out.2.1.bad HLT.out HX1.out.1 (fun e => e.1.elim HLA.out fun e => e ((lastB_iff x).1 hlb)), W7.out.1.f, W7.out.2.1, .inr ⟨i, rfl, rfl, rfl⟩⟩
        | false =>
          have HLB : Hid (¬ Last x) := fun e => by rw [(lastB_iff x).2 e] at hlb; cases hlb
          go_wp2_with fail
          refine (need_yes _).mono ?_; rintro e w9' ⟨rfl, rfl⟩
          clear hlb
          have HST := Lib.hid (HOK.out x HX1.out.2 w9' f g fi bi i N r0 T Y l k la ln lc ma mn mc va vn vc (by have := W7.out.1; exact this) W7.out.2.2.2)
          have q0 := W7.out.2.2.1.cell 0
          have q1 := W7.out.2.2.1.cell 1
          have q2 := W7.out.2.2.1.cell 2
          have q3 := W7.out.2.2.1.cell 3
          have q4 := W7.out.2.2.1.cell 4
          have q5 := W7.out.2.2.1.cell 5
          have q6 := W7.out.2.2.1.cell 6
          have q7 := W7.out.2.2.1.cell 7
          have q8 := W7.out.2.2.1.cell 8
          have lq := W7.out.2.2.1.lt
          rw [HX.out] at HST
          go_wp2_with fail
          clear q0 q1 q2 q3 q4 q5 q6 q7 q8 lq
          refine HST.out.mono ?_; rintro e w8 (⟨hN8, rfl, ⟨r8, l8, hn8, hk8, hr8⟩, t8⟩ | ⟨hN8, rfl, t8⟩)
          · have T8 : Hid (Turn (fun j => j = c.X) w w8) := turn_fresh W7.out.2.1 t8 (by have := HNK.out.1; have := HK0.out; omega) (by have := HR0.out.2.2; have := HK0.out; omega)
            have WK8 := Lib.hid (W7.out.1.step hn8 hk8 hr8 t8)
            have HR8 := Lib.hid (And.intro (show K0 < r8 by
              have h1 := HR0.out.2.2
              have h3 := W7K.out.lt
              rcases hr8 with e | e <;> omega) (W7K.out.keep t8 (by
              have h1 := HR0.out.2.2
              have h2 := HNK.out.1
              omega)))
            have HPN := Lib.hid (HR0.out.2.1.next HLT.out HX1.out.1 (Or.inr HLB.out) hN8)
            clear hN8 hn8 hk8 hr8 t8
            go_wp2_with fail
            go_roundw
            case rel => exact ⟨i + 1, r8, l8, _, _, by go_num, by have := HLT.out; omega, WK8.out, T8.out, HR8.out.2, HPN.out, HR8.out.1⟩
            case measure => have := HLT.out; simp [intOf]; omega
          · have T8 : Hid (Turn (fun j => j = c.X) w w8) := turn_fresh W7.out.2.1 t8 (by have := HNK.out.1; have := HK0.out; omega) (by have := HR0.out.2.2; have := HK0.out; omega)
            refine ⟨rfl, some i, i, HR0.out.2.1.bad HLT.out HX1.out.1 (fun e => hN8 e.2), W7.out.1.f.keep t8 (fun j e => ?_) ⟨_, _, _, _, _, W7.out.1.box.keep t8 ?_⟩, T8.out, .inr ⟨i, rfl, rfl, rfl⟩⟩
            · have := W7.out.1.far
              rcases e with e | e <;> exact .inr (by omega)
            · have h1 := W7.out.1.far
              have h2 := W7.out.1.rows.le
              omega
    · obtain rfl : cn = i := by omega
      have x6 : decide ((cn : Int) < cn) = false := decide_eq_false (by omega)
      have x6' : decide (cn < cn) = false := decide_eq_false (by omega)
      have WP := (hwk.put (cn : Int))
      rw [HX.out] at WP
      have W7 : Hid (WkAt c (wr.setCell ⟨X, 17, none⟩ (.int .i64 (cn : Int))) f g fi bi cn N r0 T Y l k ∧ Turn (fun j => j = c.X) w (wr.setCell ⟨X, 17, none⟩ (.int .i64 (cn : Int)))) := by
        refine ⟨WP.1, ht.trans ?_⟩
        rw [HX.out]
        exact WP.2
      have W7K : Hid (Blk (wr.setCell ⟨X, 17, none⟩ (.int .i64 (cn : Int))) K0 55 #[.slice ia inn ic, .slice ca cn cc]) := hkb.keep WP.2 (by have h1 := HH.out.rows.le; have h2 := HK0.out; rw [HX.out] at h1; omega)
      have y17 : wr.cell? ⟨X, 17, none⟩ = some (.int .i64 ii0) := by rw [← HX.out]; exact hwk.box.cell 17
      have g17 : wr.frozen? ⟨X, 17, none⟩ = false := by rw [← HX.out]; exact hwk.box.frozen 17
      have lX : X < wr.heap.size := by rw [← HX.out]; exact hwk.box.lt
      have kb1 : wr.cell? ⟨K0, 1, none⟩ = some (.slice ca cn cc) := hkb.cell 1
      have lK : K0 < wr.heap.size := hkb.lt
      have hKX : K0 ≠ X := by have h1 := HH.out.rows.le; have h2 := HK0.out; rw [HX.out] at h1; omega
      have hXK : X ≠ K0 := hKX.symm
      have HCA : Hid (0 < cn → ∃ b3 off3 x la ln lc ma mn mc va vn vc, ca = some ⟨b3, off3, none⟩ ∧ b.code[cn - 1]? = some x ∧ (∀ j (u : Value), #[.int .i64 x.op, .int .i64 x.d, .int .i64 x.a, .int .i64 x.b, .int .i64 x.c, .int .i64 x.n, .slice la ln lc, .slice ma mn mc, .slice va vn vc][j]? = some u → (wr.setCell ⟨X, 17, none⟩ (.int .i64 (cn : Int))).cell? ⟨b3, off3 + (cn - 1) * 9 + j, none⟩ = some u)) := fun h0 => by
        obtain ⟨b3, off3, x, cs, hca, hbB, hxi, hcl, hPx, hcell⟩ := (Lies.keep HCODE.out HBL.out HBW.out (fun cs x _ h => h.keep HBL.out HBW.out)).here (i := cn - 1) (by omega)
        obtain ⟨la, ln, lc, ma, mn, mc, va, vn, vc, rfl, hrest⟩ := hPx
        refine ⟨b3, off3, x, la, ln, lc, ma, mn, mc, va, vn, vc, hca, hxi, fun j u hj => ?_⟩
        have hj9 : j < 9 := (Array.getElem?_eq_some_iff.1 hj).1
        refine (WP.2.cell (p := ⟨b3, off3 + (cn - 1) * 9 + j, none⟩) (by have h2 := ht.size; have h1 := HBW.out; show b3 < wr.heap.size; omega) (by have h1 := HH.out.rows.le; rw [HX.out] at h1; show ¬ b3 = X; omega)).trans ?_
        rw [hcell j hj9, ← hj]
        simp
      clear hlt hwk ht hkb hpr hr0 WP
      by_cases h0 : 0 < cn
      rotate_left
      · obtain rfl : cn = 0 := by omega
        have HW0 : Hid (WrongBk c.m f b (some 0)) := HR0.out.2.1.1 (.inr rfl) (some 0) (by
          have : b.code = [] := List.eq_nil_of_length_eq_zero HCL.out
          rw [this]
          exact rfl)
        clear h0
        go_wp2_with fail
        refine (need_no _).mono ?_; rintro e wz ⟨rfl, rfl⟩
        exact ⟨rfl, some 0, 0, HW0.out, W7.out.1.f, W7.out.2, .inr ⟨0, rfl, rfl, rfl⟩⟩
      obtain ⟨b3, off3, x, la, ln, lc, ma, mn, mc, va, vn, vc, hca, hxi, hcell⟩ := HCA.out h0
      obtain ⟨q, hq⟩ : ∃ q, cn - 1 = q := ⟨_, rfl⟩
      have hqi : (cn : Int) - 1 = (q : Int) := by omega
      have hqc : (q : Int) < cn := by omega
      rw [hq] at hcell hxi
      have d0 := hcell 0 _ rfl
      have d1 := hcell 1 _ rfl
      have d2 := hcell 2 _ rfl
      have d3 := hcell 3 _ rfl
      have d4 := hcell 4 _ rfl
      have d5 := hcell 5 _ rfl
      have d6 := hcell 6 _ rfl
      have d7 := hcell 7 _ rfl
      have d8 := hcell 8 _ rfl
      have hb3 := World.block_lt_of_cell? _ _ d0
      have HQ : Hid (b.code[cn - 1]? = some x ∧ 0 < cn) := ⟨by rw [hq]; exact hxi, h0⟩
      have w7k1 : (wr.setCell ⟨X, 17, none⟩ (.int .i64 (cn : Int))).cell? ⟨K0, 1, none⟩ = some (.slice ca cn cc) := W7K.out.cell 1
      clear hcell hxi h0 HCA
      rw [Nat.add_zero] at d0
      subst hca
      go_wp2_with fail
      clear y17 g17 lX kb1 lK hKX hXK d0 d1 d2 d3 d4 d5 d6 d7 d8 hb3 w7k1
      generalize wr.setCell ⟨X, 17, none⟩ (.int .i64 (cn : Int)) = w7 at W7 W7K ⊢
      refine (leaves_any x la ln lc ma mn mc va vn vc w7).mono ?_; rintro e w9 ⟨rfl, t9⟩
      have W9 : Hid (WkF c w9 f g fi bi cn ∧ Turn (fun j => j = c.X) w w9) := ⟨(W7.out.1.still t9).f, W7.out.2.trans t9.turn⟩
      clear t9
      cases hlb : lastB x with
      | true =>
        have HLB : Hid (Last x) := (lastB_iff x).1 hlb
        go_wp2_with fail
        refine (need_yes _).mono ?_; rintro e w9' ⟨rfl, rfl⟩
        clear hlb
        go_wp2_with fail
        go_end0
        exact ⟨none, cn, HR0.out.2.1.2 rfl HQ.out.2 x HQ.out.1 none (.inl ⟨HLB.out, rfl⟩), W9.out.1, W9.out.2, .inl ⟨rfl, rfl⟩⟩
      | false =>
        have HLB : Hid (¬ Last x) := fun e => by rw [(lastB_iff x).2 e] at hlb; cases hlb
        go_wp2_with fail
        refine (need_no _).mono ?_; rintro e wz ⟨rfl, rfl⟩
        exact ⟨rfl, some cn, cn, HR0.out.2.1.2 rfl HQ.out.2 x HQ.out.1 (some cn) (.inr ⟨HLB.out, rfl⟩), W9.out.1, W9.out.2, .inr ⟨cn, rfl, rfl, rfl⟩⟩
end Go.Proofs.YtilfmnlbnfhkpaaGreatDoor
