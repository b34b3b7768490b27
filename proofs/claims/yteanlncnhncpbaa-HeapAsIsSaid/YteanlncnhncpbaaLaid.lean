/- Close's closures: the heads gathered; the words between them asked. -/
import Derived.Test.YteanlncnhncpbaaHolds
import Derived.Test.YteanlncnhncpbaaHeapAlloc
import Derived.StillTailTactics
namespace Go.Proofs.Yteanlncnhncpbaa
set_option linter.unusedVariables false
open Go.ChangeShapes Go.WideShapes Go.ChangeAt Go.RowKit
open M (W)

def M.putAll (l : List Nat) : Nat → Nat := l.foldl M.putIn (fun _ => 0)
theorem putAll_snoc (l : List Nat) (p : Nat) : M.putAll (l ++ [p]) = M.putIn (M.putAll l) p := by unfold M.putAll; rw [List.foldl_append]; rfl
theorem putIn_lt {x : Nat → Nat} (hx : ∀ i, x i < 18446744073709551616) (p : Nat) : ∀ i, M.putIn x p i < 18446744073709551616 := fun i => by
  unfold M.putIn
  split
  · exact or_bit_lt _ _ (hx i) (by omega)
  · exact hx i
theorem foldl_putIn_lt : ∀ (l : List Nat) (x : Nat → Nat), (∀ i, x i < 18446744073709551616) → ∀ i, l.foldl M.putIn x i < 18446744073709551616
  | [], x, h => h
  | p :: l, x, h => foldl_putIn_lt l _ (putIn_lt h p)
theorem putAll_lt (l : List Nat) : ∀ i, M.putAll l i < 18446744073709551616 := foldl_putIn_lt l _ (fun _ => by decide)
theorem foldl_putIn_in : ∀ (l : List Nat) (x : Nat → Nat), (∀ q ∈ l, q < 65536) → ∀ i : Int, M.inSet (l.foldl M.putIn x) i = (l.any (fun q => decide (i = q)) || M.inSet x i)
  | [], x, h, i => by simp
  | p :: l, x, h, i => by
    rw [List.foldl_cons, foldl_putIn_in l _ (fun q hq => h q (List.mem_cons_of_mem _ hq)), M.putIn_in x p (h p (List.mem_cons_self)), List.any_cons]
    cases decide (i = p) <;> simp
theorem putAll_in (l : List Nat) (h : ∀ q ∈ l, q < 65536) (i : Int) : M.inSet (M.putAll l) i = l.any (fun q => decide (i = q)) := by
  unfold M.putAll
  rw [foldl_putIn_in l _ h]
  have : M.inSet (fun _ => 0) i = false := by unfold M.inSet; simp
  rw [this, Bool.or_false]

/-- Is the word at p just the head that it is read as? -/
def St.headB (s : St) (p : Nat) : Bool := decide ((s.ws p : Int) = M.hd (M.sh (s.ws p)) (M.ln (s.ws p)) 0 0)
structure LaidI (w0 : World) (s : St) (hb bx : Nat) (l : List Nat) (W : World) : Prop where
  hp : HpIs W s
  set : W.rowIs hb 97 1024 (fun i => .int .u64 (M.putAll l i : Nat))
  box : Blk W bx 24 #[s.ptr]
  hb : w0.heap.size ≤ hb
  bx : w0.heap.size ≤ bx
  still : Still w0 W
theorem LaidI.stay {w0 W W' : World} {s : St} {hb bx : Nat} {l : List Nat} (h : LaidI w0 s hb bx l W) (t : Still W W') : LaidI w0 s hb bx l W' :=
  { h with hp := h.hp.still t, set := h.set.of_block (t.block _ h.set.lt (fun e => e)), box := Still.blk t h.box, still := h.still.trans t }
theorem LaidI.put {w0 W W' : World} {s : St} {hb bx p : Nat} {l : List Nat} (h : LaidI w0 s hb bx l W) (hp : p < 65536) (hW : W' = (W.setCell ⟨hb, 0 + p / 64, none⟩ (.int .u64 ((M.putAll l (p / 64) ||| 2 ^ (p % 64) : Nat) : Int))).drew) : LaidI w0 s hb bx (l ++ [p]) W' ∧ Turn (fun k => k = hb) W W' := by
  have t : Turn (fun k => k = hb) W W' := by rw [hW]; exact ((Turn.refl (fun k => k = hb) W).setCell (p := ⟨hb, 0 + p / 64, none⟩) (fun _ => rfl) _).drew
  refine ⟨⟨h.hp.keep t ?_ ?_ ?_, ?_, h.box.keep t ?_, h.hb, h.bx, ?_⟩, t⟩
  · exact fun e => HpIs.rowIs_ne h.hp.blk h.set (by decide) e
  · exact fun e => HpIs.rowIs_ne h.hp.words h.set (by decide) e
  · exact fun e => HpIs.rowIs_ne h.hp.lays h.set (by decide) e
  · rw [hW]
    have := h.set.set (0 + p / 64) (.int .u64 ((M.putAll l (p / 64) ||| 2 ^ (p % 64) : Nat) : Int))
    refine World.rowIs.congr (show ((W.setCell ⟨hb, 0 + p / 64, none⟩ (.int .u64 ((M.putAll l (p / 64) ||| 2 ^ (p % 64) : Nat) : Int))).drew).rowIs hb _ _ _ from this) fun i hi => ?_
    rw [putAll_snoc]
    unfold M.putIn
    by_cases e : i = p / 64
    · rw [if_pos (by omega), if_pos e, e]
    · rw [if_neg (by omega), if_neg e]
  · intro e
    obtain ⟨c, hc, _⟩ := h.set
    have := h.box
    unfold Blk at this
    rw [e, hc] at this; injection this with this; injection this with _ e2; exact absurd e2 (by decide)
  · exact Still.own h.still (t.mono fun k _ e => by rw [e]; exact h.hb)

set_option maxRecDepth 100000 in
set_option maxHeartbeats 4000000 in
theorem laid1_any (w0 : World) (s : St) (hb bx p : Nat) (l : List Nat) (top : Nat) (w : World) (h : LaidI w0 s hb bx l w) (hr : s.reads p top = true) (hlt : p < top) (htop : top ≤ s.n) :
    Calls Try.prog 87 #[.int .i64 p, (s.ob (s.ws p)).val, .pointer (some ⟨hb, 0, none⟩), .pointer (some ⟨bx, 0, none⟩)] w fun e w' => e = .returned (.bool (s.headB p)) ∧ LaidI w0 s hb bx (l ++ [p]) w' ∧ Turn (fun k => k = hb) w w' := by
  have hn := h.hp.n_le
  have hws := h.hp.ws_lt p
  unfold St.headB
  unfold Ob.val
  show Calls _ _ #[_, .agg #[.int .i64 (M.sh (s.ws p)), .int .i64 (s.ob (s.ws p)).kind, .int .i64 (M.ln (s.ws p)), .int .i64 (s.ob (s.ws p)).need], _, _] w _
  generalize (s.ob (s.ws p)).kind = kk
  generalize (s.ob (s.ws p)).need = nn
  have HH := Lib.hid h
  have hA := h.stay ((Still.refl w).alloc (.cells #[.int .i64 (M.sh (s.ws p)), .int .i64 kk, .int .i64 (M.ln (s.ws p)), .int .i64 nn] 123))
  have HA := Lib.hid hA
  have HPUT := Lib.hid (put_any hb 0 p (M.putAll l (p / 64)) _ (by omega) (putAll_lt l _) (by rw [Nat.zero_add]; exact hA.set.cell (by omega)) (by exact hA.set.frozen _))
  have HBK := Lib.hid (Blk.new w 123 #[.int .i64 (M.sh (s.ws p)), .int .i64 kk, .int .i64 (M.ln (s.ws p)), .int .i64 nn])
  have hne : w.heap.size ≠ hb := fun e => by have := h.set.lt; omega
  clear h hA
  go_enter Try.func87, Try.ntmps87
  go_wp2_with fail
  refine HPUT.out.mono ?_; rintro e w1 ⟨rfl, hw1⟩
  obtain ⟨hI1, t1⟩ := HA.out.put (by omega) hw1
  have hbk := HBK.out.keep t1 hne
  have b0 : w1.cell? ⟨w.heap.size, 0, none⟩ = some (.int .i64 (M.sh (s.ws p))) := hbk.cell 0
  have b2 : w1.cell? ⟨w.heap.size, 2, none⟩ = some (.int .i64 (M.ln (s.ws p))) := hbk.cell 2
  have hbl := hbk.lt
  have c0 := hI1.hp.c0
  have cw := hI1.hp.cw p (by omega)
  have cb : w1.cell? ⟨bx, 0, none⟩ = some (.pointer (some ⟨s.g, 0, none⟩)) := hI1.box.cell 0
  have hg := hI1.hp.blk.lt
  have hgw := hI1.hp.words.lt
  have hbx := hI1.box.lt
  have HI1 := Lib.hid hI1
  have HT1 := Lib.hid t1
  clear hI1 t1 hbk hw1
  obtain ⟨X, hX⟩ : ∃ X : Int, (s.ws p : Int) = X := ⟨_, rfl⟩
  go_wp2_with fail
  go_quiet ((go_at_call 78; exact Calls.quiet_of (head_hd _ _ _)))
  go_wp2_with fail
  go_ret
  refine ⟨?_, HI1.out.stay ((Still.refl w1).drewN _), ?_⟩
  · show Ending.returned (.bool (X == M.hd (M.sh X) (M.ln X) 0 0)) = .returned (.bool (decide ((s.ws p : Int) = M.hd (M.sh (s.ws p)) (M.ln (s.ws p)) 0 0)))
    rw [hX]; rfl
  · have t := (((Turn.refl (fun k => k = hb) w).alloc (.cells #[.int .i64 (M.sh (s.ws p)), .int .i64 kk, .int .i64 (M.ln (s.ws p)), .int .i64 nn] 123)).trans HT1.out).drewN nq
    exact t

structure FilledI (w0 : World) (s : St) (x : Nat → Nat) (hb bx by_ : Nat) (W : World) : Prop where
  hp : HpIs W s
  set : SetAt W hb 0 x
  lt : hb < W.heap.size
  box : Blk W bx 24 #[s.ptr]
  box2 : Blk W by_ 107 #[.pointer (some ⟨hb, 0, none⟩)]
  still : Still w0 W
theorem FilledI.stay {w0 W W' : World} {s : St} {x : Nat → Nat} {hb bx by_ : Nat} (h : FilledI w0 s x hb bx by_ W) (t : Still W W') : FilledI w0 s x hb bx by_ W' :=
  { hp := h.hp.still t, set := fun i hi => by rw [t.cell (p := ⟨hb, _, none⟩) h.lt]; exact h.set i hi, lt := Nat.lt_of_lt_of_le h.lt t.size, box := Still.blk t h.box, box2 := Still.blk t h.box2, still := h.still.trans t }
def St.fillB (s : St) (x : Nat → Nat) (p : Nat) : Bool := s.holds x (s.ob (s.ws p)).kind (s.ob (s.ws p)).n p (s.nd p)
set_option maxRecDepth 100000 in
set_option maxHeartbeats 4000000 in
theorem filled1_any (w0 : World) (s : St) (x : Nat → Nat) (hb bx by_ p : Nat) (top : Nat) (w : World) (h : FilledI w0 s x hb bx by_ w) (hr : s.reads p top = true) (hlt : p < top) (htop : top ≤ s.n) :
    Calls Try.prog 88 #[.int .i64 p, (s.ob (s.ws p)).val, .pointer (some ⟨bx, 0, none⟩), .pointer (some ⟨by_, 0, none⟩)] w fun e w' => e = .returned (.bool (s.fillB x p)) ∧ FilledI w0 s x hb bx by_ w' ∧ Still w w' := by
  have hn := h.hp.n_le
  obtain ⟨r1, r2, r3⟩ := St.reads_need hr
  have HH := Lib.hid h
  have HHO := fun c W (hW : FilledI w0 s x hb bx by_ W) => holds_any s p c hb x W hW.hp hW.set hW.lt top htop hr
  have hpD : p + s.nd p ≤ s.n := by omega
  unfold St.fillB
  unfold Ob.val at HHO ⊢
  rw [r1] at HHO ⊢
  generalize hkk : (s.ob (s.ws p)).kind = kk at *
  generalize hnn : (s.ob (s.ws p)).n = nn at *
  generalize hsh : (s.ob (s.ws p)).sh = sh at *
  have HHH := Lib.hid HHO
  clear HHO hkk hnn hsh r1 r3 hr
  generalize s.nd p = E at *
  have hA := h.stay ((Still.refl w).alloc (.cells #[.int .i64 sh, .int .i64 kk, .int .i64 nn, .int .i64 E] 123))
  have hB := Blk.new w 123 #[.int .i64 sh, .int .i64 kk, .int .i64 nn, .int .i64 E]
  obtain ⟨W1, hW1⟩ : ∃ W1, w.alloc (.cells #[.int .i64 sh, .int .i64 kk, .int .i64 nn, .int .i64 E] 123) = W1 := ⟨_, rfl⟩
  rw [hW1] at hA hB
  have hAD : FilledI w0 s x hb bx by_ W1.drew := hA.stay (Turn.drew (Still.refl W1))
  have hBD : Blk W1.drew w.heap.size 123 #[.int .i64 sh, .int .i64 kk, .int .i64 nn, .int .i64 E] := hB
  have b0 : W1.drew.cell? ⟨w.heap.size, 0, none⟩ = some (.int .i64 sh) := hBD.cell 0
  have b1 : W1.drew.cell? ⟨w.heap.size, 1, none⟩ = some (.int .i64 kk) := hBD.cell 1
  have b2 : W1.drew.cell? ⟨w.heap.size, 2, none⟩ = some (.int .i64 nn) := hBD.cell 2
  have b3 : W1.drew.cell? ⟨w.heap.size, 3, none⟩ = some (.int .i64 E) := hBD.cell 3
  have hbl := hBD.lt
  have c0 := hAD.hp.c0
  have cb : W1.drew.cell? ⟨bx, 0, none⟩ = some (.pointer (some ⟨s.g, 0, none⟩)) := hAD.box.cell 0
  have cy : W1.drew.cell? ⟨by_, 0, none⟩ = some (.pointer (some ⟨hb, 0, none⟩)) := hAD.box2.cell 0
  have hg := hAD.hp.blk.lt
  have hgw := hAD.hp.words.lt
  have hbx := hAD.box.lt
  have hby := hAD.box2.lt
  have HAD := Lib.hid hAD
  have HW1 := Lib.hid hW1
  have HT1 : Hid (Still w W1) := by rw [← hW1]; exact (Still.refl w).alloc _
  have hp1 : p + 1 ≤ s.n := by omega
  obtain ⟨p1, hp1e⟩ : ∃ p1, p + 1 = p1 := ⟨_, rfl⟩
  obtain ⟨pE, hpEe⟩ : ∃ pE, p + E = pE := ⟨_, rfl⟩
  have hw1 : IntKind.i64.wrap ((p : Int) + 1) = (p1 : Int) := by rw [IntKind.wrap_i64]; omega
  have hw2 : IntKind.i64.wrap ((p : Int) + (E : Int)) = (pE : Int) := by rw [IntKind.wrap_i64]; omega
  have hb1 : p1 ≤ pE := by omega
  have hb2 : pE ≤ s.n := by omega
  have HP1 := Lib.hid hp1e
  have HPE := Lib.hid hpEe
  clear h hA hB hBD hAD hp1e hpEe hp1 hpD
  go_enter Try.func88, Try.ntmps88
  go_wp2_with fail
  refine wp_region_still_tail 13 (by kernel_rfl) (by kernel_rfl) ?_
  simp only [List.take_succ_cons, List.take_zero, List.drop_succ_cons, List.drop_zero]
  change wpStill _ _ W1.drew (fun a' => wpList _ _ _ _ a' W1.drew) _ _
  repeat still_step
  refine wpStill_nil ?_
  have e1 : pE - p1 = E - 1 := by have := HP1.out; have := HPE.out; omega
  rw [e1]
  have hbase : (if s.n = p1 then some (⟨s.gw, 0, none⟩ : Addr) else some ⟨s.gw, p1, none⟩) = some ⟨s.gw, p + 1, none⟩ ∨ E = 1 := by
    have := HP1.out; have := HPE.out
    by_cases e : s.n = p1
    · right; omega
    · left; rw [if_neg e, HP1.out]
  generalize (if s.n = p1 then some (⟨s.gw, 0, none⟩ : Addr) else some ⟨s.gw, p1, none⟩) = base at *
  have HBS := Lib.hid hbase
  clear hbase e1
  go_wp2_with fail
  refine (HHH.out _ _ HAD.out base HBS.out).mono ?_; rintro e w4 ⟨rfl, t4⟩
  have HT4 := Lib.hid t4
  clear t4
  go_wp2_with fail
  go_ret
  exact ⟨rfl, HAD.out.stay HT4.out, (HT1.out.trans ((Turn.drew (Still.refl W1) : Still W1 W1.drew))).trans HT4.out⟩
end Go.Proofs.Yteanlncnhncpbaa
