/- The reader in memory: a block. -/
import Derived.Test.YthlifflapgccbaaGreatL13
import Derived.Deep.RegionHeld3
import Derived.Deep.Cut
import Derived.StillTailTactics
namespace Go.Proofs.YthlifflapgccbaaGreat
set_option linter.unusedVariables false
set_option linter.unusedSimpArgs false
open Go.ChangeShapes Go.WideShapes Go.ChangeAt Go.RowKit
open M (W)
theorem StepR.code {q : RP} {V : List M.Ins → Prop} {wa wb wc w3 : World} {k sz k2 n : Nat} {bad b2 : Bool} (h : StepR q (M.pList (20000 - sz) M.pIns) V wa wb k sz bad k2 sz b2) (hr : Rd q w3 k2 (sz + n) b2) (ht : Turn (fun i => i = q.g) wc w3) (hn : ∀ l, V l → l.length = n) : StepR q M.pCode V wc w3 k sz bad k2 (sz + n) b2 :=
  ⟨hr, ht, h.stay, fun hb e => by
    unfold M.pCode at e
    cases hp : M.pList (20000 - sz) M.pIns sz (q.L.drop k) with
    | none => exact h.no hb hp
    | some y =>
      obtain ⟨x, z1, R1⟩ := y
      rw [hp] at e
      exact absurd e (by simp), fun hb x s3 R3 e => by
    unfold M.pCode at e
    cases hp : M.pList (20000 - sz) M.pIns sz (q.L.drop k) with
    | none => rw [hp] at e; exact absurd e (by simp)
    | some y =>
      obtain ⟨x1, z1, R1⟩ := y
      rw [hp] at e
      simp only [Option.some.injEq, Prod.mk.injEq] at e
      obtain ⟨rfl, rfl, rfl⟩ := e
      obtain ⟨y1, y2, y3, y4⟩ := h.yes hb _ _ _ hp
      exact ⟨y1, by rw [hn _ y4, y2], y3, y4⟩⟩
theorem StepR.weak {α : Type} {q : RP} {p : M.Par α} {V V' : α → Prop} {wa wb : World} {k sz k1 s1 : Nat} {bad b1 : Bool} (h : StepR q p V wa wb k sz bad k1 s1 b1) (hV : ∀ x, V x → V' x) : StepR q p V' wa wb k sz bad k1 s1 b1 := h.into h.rd h.turn hV
def Fresh2 (w : World) (B : Nat) (W : World) (b : Nat) : Prop := w.heap.size < b ∧ b < W.heap.size ∧ b ≠ B
/-- A block as it is taken: its box is laid, the count of instructions is not turned yet. -/
structure BlkMid (q : RP) (w : World) (Z : Array Value) (k sz : Nat) (bad : Bool) (B : Nat) (a2 : Option Addr) (n2 c2 : Nat) (a3 : Option Addr) (n3 c3 : Nat) (k2 : Nat) (b2 : Bool) (W : World) : Prop where
  box : Blk W B 85 #[.slice a2 n2 c2, .slice a3 n3 c3]
  res : Blk W w.heap.size 85 Z
  lt : w.heap.size < B
  rd : Rd q W k2 sz b2
  turn : Turn (fun i => i = q.g) w W
  le2 : n2 ≤ 200
  le3 : n3 ≤ 20000 - sz
  step : ∃ (k1 : Nat) (b1 : Bool) (wb wc wd : World), StepR q (M.pList 200 M.pNum) (fun l => IntsQ (Fresh2 w B W) W a2 n2 l) w wb k sz bad k1 sz b1 ∧ StepR q (M.pList (20000 - sz) M.pIns) (fun l => LiesQ (Fresh2 w B W) W 9 (InsQ (Fresh2 w B W) W) a3 n3 l) wc wd k1 sz b1 k2 sz b2
theorem kept_box {w wc ws w9 : World} {g B : Nat} (hg : g < w.heap.size) (t : Turn (fun k => k = g) wc ws) (t2 : Turn (fun k => k = w.heap.size) ws w9) : Kept (Fresh2 w B wc) (Fresh w w9) wc w9 :=
  ⟨fun b hb => (t2.block b (Nat.lt_of_lt_of_le hb.2.1 t.size) (by have := hb.1; omega)).trans (t.block b hb.2.1 (by have := hb.1; omega)), fun b hb => ⟨Nat.le_of_lt hb.1, Nat.lt_of_lt_of_le hb.2.1 (Nat.le_trans t.size t2.size)⟩⟩
theorem mid_of {q : RP} {w wa w1 wb w2 W : World} {Z : Array Value} {k sz k1 k2 B : Nat} {bad b1 b2 : Bool} {a2 : Option Addr} {n2 c2 : Nat} {a3 : Option Addr} {n3 c3 : Nat}
    (h1 : n2 ≤ 200 ∧ StepR q (M.pList 200 M.pNum) (fun l => LiesQ (Fresh wa w1) w1 1 IntIs a2 n2 l) wa w1 k sz bad k1 sz b1) (h2 : n3 ≤ 20000 - sz ∧ StepR q (M.pList (20000 - sz) M.pIns) (fun l => LiesQ (Fresh wb w2) w2 9 (InsQ (Fresh wb w2) w2) a3 n3 l) wb w2 k1 sz b1 k2 sz b2)
    (t0 : Turn (fun i => i = q.g) w wa) (s0 : w.heap.size < wa.heap.size) (s1 : Still w1 wb) (t2 : Turn (fun j => j = B) w2 W) (hB1 : ∀ b, Fresh wa w1 b → b ≠ B) (hB2 : ∀ b, Fresh wb w2 b → b ≠ B) (hB : w.heap.size < B) (hg : q.g < w.heap.size) (hb : q.b < w.heap.size)
    (hbox : Blk W B 85 #[.slice a2 n2 c2, .slice a3 n3 c3]) (hres : Blk wa w.heap.size 85 Z) : BlkMid q w Z k sz bad B a2 n2 c2 a3 n3 c3 k2 b2 W := by
  have z1 := h1.2.turn.size
  have z2 := s1.size
  have z3 := h2.2.turn.size
  have z4 := t2.size
  have tt : Turn (fun i => i = q.g) w w2 := ((t0.trans h1.2.turn).trans s1.turn).trans h2.2.turn
  have hr := (((hres.keep h1.2.turn (by omega)).keep s1 (fun e => e)).keep h2.2.turn (by omega)).keep t2 (by omega)
  refine ⟨hbox, hr, hB, h2.2.rd.turn t2 (by omega) (by omega), turn_box tt t2 (Nat.le_of_lt hB), h1.1, h2.1, k1, b1, _, _, _, h1.2.into h1.2.rd (t0.trans h1.2.turn) fun l hl => LiesQ.keep hl ⟨fun b hb2 => ?_, fun b hb2 => ⟨by have := hb2.1; omega, by have := hb2.2; omega, hB1 b hb2⟩⟩ fun _ _ h => h, h2.2.weak fun l hl => ?_⟩
  · have e1 := hb2.1
    have e2 := hb2.2
    exact (t2.block b (by omega) (hB1 b hb2)).trans ((h2.2.turn.block b (by omega) (by omega)).trans (s1.block b e2 (fun e => e)))
  · have hk : Kept (Fresh wb w2) (Fresh2 w B W) w2 W := ⟨fun b hb2 => t2.block b hb2.2 (hB2 b hb2), fun b hb2 => ⟨by have := hb2.1; omega, by have := hb2.2; omega, hB2 b hb2⟩⟩
    exact LiesQ.keep hl hk fun _ _ h => h.keep hk
set_option maxRecDepth 100000 in
set_option maxHeartbeats 2000000 in
theorem rblock_any {q : RP} (hq : q.ok) (w : World) (k sz : Nat) (bad : Bool) (h : Rd q w k sz bad) :
    Calls Tryz.prog 61 #[.pointer (some ⟨q.g, 0, none⟩)] w fun e w' => ∃ (a2 : Option Addr) (n2 c2 : Nat) (a3 : Option Addr) (n3 c3 : Nat) (k' sz' : Nat) (bad' : Bool),
      e = .returned (.agg #[.slice a2 n2 c2, .slice a3 n3 c3]) ∧ StepR q M.pBk (fun x => BkQ (Fresh w w') w' [.slice a2 n2 c2, .slice a3 n3 c3] x) w w' k sz bad k' sz' bad' := by
  have hsz := h.few
  obtain ⟨Z, hZ⟩ : ∃ Z : Array Value, #[.slice none 0 0, .slice none 0 0] = Z := ⟨_, rfl⟩
  have st0 : Still w (w.alloc (.cells Z 85)).drew := ((Still.refl w).alloc _).drew
  have H0 : Hid (Rd q (w.alloc (.cells Z 85)).drew k sz bad ∧ Blk (w.alloc (.cells Z 85)).drew w.heap.size 85 Z) := ⟨h.still st0, Blk.new w _ _⟩
  have T0 : Hid (Turn (fun i => i = q.g) w (w.alloc (.cells Z 85)).drew ∧ w.heap.size < (w.alloc (.cells Z 85)).drew.heap.size) := ⟨st0.turn, by show _ < (w.alloc _).heap.size; simp⟩
  have HN : Hid (q.g < w.heap.size ∧ q.b < w.heap.size) := ⟨h.blk.lt, h.lt⟩
  have HQ := Lib.hid hq
  have e1 : IntKind.i64.wrap (20000 - (sz : Int)) = 20000 - (sz : Int) := by rw [IntKind.wrap_i64]; omega
  clear h hq st0
  go_enter Tryz.func61, Tryz.ntmps61
  go_wp2_with fail
  have HZ := Lib.hid hZ
  clear hZ
  have HA : Hid (∀ (w0 : World), Rd q w0 k sz bad → Calls Tryz.prog 59 #[.pointer (some ⟨q.g, 0, none⟩), .int .i64 200, .func (.func 38) #[.pointer (some ⟨q.g, 0, none⟩)] #[]] w0 fun e w' => ∃ (a : Option Addr) (n c k' : Nat) (bad' : Bool), e = .returned (.slice a n c) ∧ n ≤ 200 ∧ StepR q (M.pList 200 M.pNum) (fun l => LiesQ (Fresh w0 w') w' 1 IntIs a n l) w0 w' k sz bad k' sz bad') :=
    fun w0 hr => takeNum_any M.pNum 38 (enters_of Tryz.func38 (by kernel_rfl) rfl) 200 (by decide) HQ.out hr (rnum_elemN HQ.out)
  have HB : Hid (∀ (w1 : World) (k1 : Nat) (b1 : Bool), Rd q w1 k1 sz b1 → Calls Tryz.prog 89 #[.pointer (some ⟨q.g, 0, none⟩), .int .i64 (20000 - (sz : Int)), .func (.func 90) #[.pointer (some ⟨q.g, 0, none⟩)] #[]] w1 fun e w' => ∃ (a : Option Addr) (n c k' : Nat) (bad' : Bool), e = .returned (.slice a n c) ∧ n ≤ 20000 - sz ∧ StepR q (M.pList (20000 - sz) M.pIns) (fun l => LiesQ (Fresh w1 w') w' 9 (InsQ (Fresh w1 w') w') a n l) w1 w' k1 sz b1 k' sz bad') := fun w1 k1 b1 hr => by
    have := takeInn_any M.pIns 90 (enters_of Tryz.func90 (by kernel_rfl) rfl) (20000 - sz) (by omega) HQ.out hr (rinstr_any HQ.out)
    rwa [show (((20000 - sz : Nat)) : Int) = 20000 - (sz : Int) by omega] at this
  obtain ⟨hl, c0, c1, c2, c3, f1, f2, f3⟩ := rd_cells H0.out.1
  have RA : Hid (Rd q ((w.alloc (.cells Z 85)).alloc (.cells #[.slice none 0 0, .slice none 0 0] 85)).drew k sz bad ∧ Blk ((w.alloc (.cells Z 85)).alloc (.cells #[.slice none 0 0, .slice none 0 0] 85)).drew (w.heap.size + 1) 85 #[.slice none 0 0, .slice none 0 0] ∧ Turn (fun i => i = q.g) w ((w.alloc (.cells Z 85)).alloc (.cells #[.slice none 0 0, .slice none 0 0] 85)).drew ∧ ((w.alloc (.cells Z 85)).alloc (.cells #[.slice none 0 0, .slice none 0 0] 85)).drew.heap.size = w.heap.size + 2) := by
    have st : Still (w.alloc (.cells Z 85)).drew ((w.alloc (.cells Z 85)).alloc (.cells #[.slice none 0 0, .slice none 0 0] 85)).drew := ((Still.refl (w.alloc (.cells Z 85)).drew).alloc _)
    refine ⟨H0.out.1.still st, ?_, T0.out.1.trans st.turn, by show ((w.alloc _).alloc _).heap.size = _; simp⟩
    have := Blk.new (w.alloc (.cells Z 85)) 85 #[.slice none 0 0, .slice none 0 0]
    rwa [show (w.alloc (.cells Z 85)).heap.size = w.heap.size + 1 by simp] at this
  have RB : Hid (Blk ((w.alloc (.cells Z 85)).alloc (.cells #[.slice none 0 0, .slice none 0 0] 85)).drew w.heap.size 85 Z) := H0.out.2.keep (S := fun _ => False) ((Still.refl (w.alloc (.cells Z 85)).drew).alloc (.cells #[.slice none 0 0, .slice none 0 0] 85)) (fun e => e)
  have zA : ((w.alloc (.cells Z 85)).alloc (.cells #[.slice none 0 0, .slice none 0 0] 85)).drew.cell? ⟨q.g, 2, none⟩ = some (.int .i64 sz) := RA.out.1.blk.cell 2
  go_cut [3] from 4 (fun s3 wc => ∃ (B : Nat) (a2 : Option Addr) (n2 c2 : Nat) (a3 : Option Addr) (n3 c3 k2 : Nat) (b2 : Bool), s3 = .pointer (some ⟨B, 0, none⟩) ∧ BlkMid q w Z k sz bad B a2 n2 c2 a3 n3 c3 k2 b2 wc)
  case rest =>
    obtain ⟨B, a2, n2, c2, a3, n3, c3, k2, b2, rfl, hm⟩ := hcut
    have HM := Lib.hid hm
    have e2 : IntKind.i64.wrap ((sz : Int) + n3) = (sz : Int) + n3 := by rw [IntKind.wrap_i64]; have := hm.le3; omega
    have hle3 := Lib.hid hm.le3
    obtain ⟨hl, c0, c1, c2', c3', f1, f2, f3⟩ := rd_cells (hm.rd.still ((Still.refl wc).drew))
    have hbx : Blk wc.drew B 85 #[.slice a2 n2 c2, .slice a3 n3 c3] := hm.box
    have v0 := hbx.cell 0
    have v1 := hbx.cell 1
    have hlB := hbx.lt
    have hne : B ≠ q.g := by have := hm.lt; have := HN.out; omega
    have ts : Turn (fun i => i = q.g) wc (wc.setCell ⟨q.g, 2, none⟩ (.int .i64 ((sz : Int) + n3))).drew := ((Turn.refl (fun i => i = q.g) wc).setCell (p := ⟨q.g, 2, none⟩) (fun _ => rfl) _).drew
    have bx2 := hm.box.keep ts hne
    have rs2 := hm.res.keep ts (by have := HN.out; omega)
    rw [← HZ.out] at rs2
    have p0 := bx2.cell 0
    have p1 := bx2.cell 1
    have r0 := rs2.cell 0
    have r1 := rs2.cell 1
    have g0 := rs2.frozen 0
    have g1 := rs2.frozen 1
    have hlr := rs2.lt
    have rs1 := hm.res
    rw [← HZ.out] at rs1
    have r0c : wc.cell? ⟨w.heap.size, 0, none⟩ = some (.slice none 0 0) := rs1.cell 0
    have r1c : wc.cell? ⟨w.heap.size, 1, none⟩ = some (.slice none 0 0) := rs1.cell 1
    have g0c : wc.frozen? ⟨w.heap.size, 0, none⟩ = false := rs1.frozen 0
    have g1c : wc.frozen? ⟨w.heap.size, 1, none⟩ = false := rs1.frozen 1
    clear rs1
    have RS := Lib.hid rs2
    have TS := Lib.hid ts
    clear hm hsz e1 bx2 rs2 ts
    go_wp2_with fail
    go_still_tail 10, (by kernel_rfl)
    change wpList _ _ _ _ _ wc.drew
    go_wp2_with fail
    have hb := setsB2 (w := (wc.setCell ⟨q.g, 2, none⟩ (.int .i64 ((sz : Int) + n3))).drew) RS.out (.slice a2 n2 c2) (.slice a3 n3 c3)
    have ht := setsT2 (wc.setCell ⟨q.g, 2, none⟩ (.int .i64 ((sz : Int) + n3))).drew w.heap.size (.slice a2 n2 c2) (.slice a3 n3 c3)
    refine bodyPost_ret (results_cell_row rfl _ _ w.heap.size 85 #[.slice a2 n2 c2, .slice a3 n3 c3] (0, 0) _ rfl hb Tryz.underlying85 rfl (by kernel_rfl)) rfl ?_
    have hrs : Rd q (wc.setCell ⟨q.g, 2, none⟩ (.int .i64 ((sz : Int) + n3))).drew k2 (sz + n3) b2 := by
      have := HM.out.rd.set 2 (.int .i64 ((sz : Int) + n3)) (k' := k2) (sz' := sz + n3) (bad' := b2) (by simp) HM.out.rd.le (by have := hle3.out; have := HM.out.rd.few; omega)
      exact this.still ((Still.refl _).drew)
    have TSo := TS.out
    generalize hW9 : (((wc.setCell ⟨q.g, 2, none⟩ (.int .i64 ((sz : Int) + n3))).drew.setCell ⟨w.heap.size, 0, none⟩ (.slice a2 n2 c2)).setCell ⟨w.heap.size, 1, none⟩ (.slice a3 n3 c3)) = w9 at hb ht
    have hW8 : ((((wc.setCell ⟨q.g, 2, none⟩ (.int .i64 ((sz : Int) + n3))).setCell ⟨w.heap.size, 0, none⟩ (.slice a2 n2 c2)).setCell ⟨w.heap.size, 1, none⟩ (.slice a3 n3 c3))).drew = w9 := hW9
    rw [hW8]
    clear hW8 hW9
    generalize (wc.setCell ⟨q.g, 2, none⟩ (.int .i64 ((sz : Int) + n3))).drew = ws at hrs TSo ht
    obtain ⟨hgl, hbl⟩ := HN.out
    obtain ⟨k1, b1, wb, wc', wd, s1, s2⟩ := HM.out.step
    have hr9 := hrs.turn ht (by omega) (by omega)
    have hrm := hrs
    have tt := turn_box (HM.out.turn.trans TSo) ht (Nat.le_refl _)
    have hk : Kept (Fresh2 w B wc) (Fresh w w9) wc w9 := kept_box hgl TSo ht
    have h1 := HM.out.le2
    have h2 := hle3.out
    refine ⟨a2, n2, c2, a3, n3, c3, k2, sz + n3, b2, rfl, ?_⟩
    refine StepR.into (StepR.pair (Z := fun x => BkQ (Fresh w w9) w9 [.slice a2 n2 c2, .slice a3 n3 c3] x) s1 (StepR.code (wc := w) (w3 := ws) (V := fun l => LiesQ (Fresh2 w B wc) wc 9 (InsQ (Fresh2 w B wc) wc) a3 n3 l) (n := n3) s2 hrs (HM.out.turn.trans TSo) (fun l hl => hl.len)) (HM.out.turn.trans TSo) ?_) hr9 tt fun x hx => hx
    intro x y hx hy
    exact ⟨a2, n2, c2, a3, n3, c3, rfl, by unfold maxLen; omega, by unfold maxLen; omega, IntsQ.keep hx hk, LiesQ.keep hy hk fun _ _ h => h.keep hk⟩
  case first =>
   go_region_held3 (fun W => W.cell? ⟨q.g, 2, none⟩ = some (.int .i64 sz)) (first | exact zs | exact z2 | exact x2 | exact zA | go_keep)
    (first
      | (go_at_call 59; refine (HA.out (w.alloc (.cells Z 85)).drew H0.out.1).mono ?_; rintro e w1 ⟨a2, n2, c2', k1, b1, rfl, hi1, u1⟩
         have U1 := Lib.hid (And.intro hi1 u1)
         obtain ⟨hl1, x0, x1, x2, x3, y1, y2, y3⟩ := rd_cells u1.rd
         clear hi1 u1)
      | (go_at_call 59; refine (HA.out ((w.alloc (.cells Z 85)).alloc (.cells #[.slice none 0 0, .slice none 0 0] 85)).drew RA.out.1).mono ?_; rintro e w1 ⟨a2, n2, c2', k1, b1, rfl, hi1, u1⟩
         have U1 := Lib.hid (And.intro hi1 u1)
         obtain ⟨hl1, x0, x1, x2, x3, y1, y2, y3⟩ := rd_cells u1.rd
         have hbA : Blk w1 (w.heap.size + 1) 85 #[.slice none 0 0, .slice none 0 0] := RA.out.2.1.keep u1.turn (by have := HN.out; omega)
         clear hi1 u1)
      | (go_at_call 89; refine (HB.out w1 k1 b1 U1.out.2.rd).mono ?_; rintro e w2 ⟨a3, n3, c3', k2, b2, rfl, hi2, u2⟩
         have U2 := Lib.hid (And.intro hi2 u2)
         obtain ⟨hl2, z0, z1, z2, z3, y21, y22, y23⟩ := rd_cells u2.rd
         have hbk : Blk w2 (w.heap.size + 1) 85 #[.slice none 0 0, .slice none 0 0] := hbA.keep u2.turn (by have := HN.out; omega)
         have v0 := hbk.cell 0
         have v1 := hbk.cell 1
         have v2 := hbk.frozen 0
         have v3 := hbk.frozen 1
         have hl3 := hbk.lt
         have hne : ¬ q.g = w.heap.size + 1 := by have := HN.out; omega
         have zs : ((w2.setCell ⟨w.heap.size + 1, 0, none⟩ (.slice a2 n2 c2')).setCell ⟨w.heap.size + 1, 1, none⟩ (.slice a3 n3 c3')).cell? ⟨q.g, 2, none⟩ = some (.int .i64 sz) := (Turn.cell (setsT2 w2 (w.heap.size + 1) (.slice a2 n2 c2') (.slice a3 n3 c3')) (p := ⟨q.g, 2, none⟩) hl2 hne).trans z2
         have mid := Lib.hid (mid_of (c2 := c2') (c3 := c3') U1.out U2.out RA.out.2.2.1 (by have := RA.out.2.2.2; omega) (Still.refl w1) (setsT2 w2 (w.heap.size + 1) (.slice a2 n2 c2') (.slice a3 n3 c3')) (fun b h => by have := h.1; have := RA.out.2.2.2; omega) (fun b h => by have := h.1; have := RA.out.2.2.2; have := U1.out.2.turn.size; omega) (by omega) HN.out.1 HN.out.2 (setsB2 hbk (.slice a2 n2 c2') (.slice a3 n3 c3')) RB.out)
         clear hi2 u2)
      | (go_at_call 89; refine (HB.out w1 k1 b1 U1.out.2.rd).mono ?_; rintro e w2 ⟨a3, n3, c3', k2, b2, rfl, hi2, u2⟩
         have U2 := Lib.hid (And.intro hi2 u2)
         obtain ⟨hl2, z0, z1, z2, z3, y21, y22, y23⟩ := rd_cells u2.rd
         have mid := Lib.hid (mid_of (c2 := c2') (c3 := c3') (W := w2.alloc (.cells #[.slice a2 n2 c2', .slice a3 n3 c3'] 85)) (B := w2.heap.size) U1.out U2.out T0.out.1 T0.out.2 (Still.refl w1) ((Still.refl w2).alloc _).turn (fun b h => by have := h.2; have := U2.out.2.turn.size; omega) (fun b h => by have := h.2; omega) (by have := T0.out.2; have := U1.out.2.turn.size; have := U2.out.2.turn.size; omega) HN.out.1 HN.out.2 (Blk.new w2 _ _) H0.out.2)
         clear hi2 u2)
      | (go_at_call 89; refine (HB.out (w1.alloc (.cells #[.slice none 0 0, .slice none 0 0] 85)) k1 b1 (U1.out.2.rd.still ((Still.refl _).alloc _))).mono ?_; rintro e w2 ⟨a3, n3, c3', k2, b2, rfl, hi2, u2⟩
         have U2 := Lib.hid (And.intro hi2 u2)
         obtain ⟨hl2, z0, z1, z2, z3, y21, y22, y23⟩ := rd_cells u2.rd
         have hbk : Blk w2 w1.heap.size 85 #[.slice none 0 0, .slice none 0 0] := (Blk.new w1 85 #[.slice none 0 0, .slice none 0 0]).keep u2.turn (by omega)
         have v0 := hbk.cell 0
         have v1 := hbk.cell 1
         have v2 := hbk.frozen 0
         have v3 := hbk.frozen 1
         have hl3 := hbk.lt
         have zs : ((w2.setCell ⟨w1.heap.size, 0, none⟩ (.slice a2 n2 c2')).setCell ⟨w1.heap.size, 1, none⟩ (.slice a3 n3 c3')).cell? ⟨q.g, 2, none⟩ = some (.int .i64 sz) := (Turn.cell (setsT2 w2 w1.heap.size (.slice a2 n2 c2') (.slice a3 n3 c3')) (p := ⟨q.g, 2, none⟩) hl2 (by show ¬ q.g = _; omega)).trans z2
         have mid := Lib.hid (mid_of (c2 := c2') (c3 := c3') U1.out U2.out T0.out.1 T0.out.2 ((Still.refl w1).alloc _) (setsT2 w2 w1.heap.size (.slice a2 n2 c2') (.slice a3 n3 c3')) (fun b h => by have := h.2; omega) (fun b h => by have := h.1; simp only [World.size_alloc] at this; omega) (by have := T0.out.2; have := U1.out.2.turn.size; omega) HN.out.1 HN.out.2 (setsB2 hbk (.slice a2 n2 c2') (.slice a3 n3 c3')) H0.out.2)
         clear hi2 u2))
   all_goals
    go_wp2_with fail
    go_meet
    case rel => exact ⟨_, a2, n2, c2', a3, n3, c3', k2, b2, rfl, mid.out⟩
end Go.Proofs.YthlifflapgccbaaGreat
