/- Lemmas, put together: Vbm Vlw. -/
import Derived.Test.YtglalgjffkoneaaGreatDoorV13
import Derived.Test.YtglalgjffkoneaaGreatDoorV3
import Derived.Test.YtglalgjffkoneaaGreatDoorV18
import Derived.Test.YtglalgjffkoneaaGreatDoorV16
import Derived.ArgAppend
import Derived.LaidMore
import Derived.Lib.LaidTab
/- Images that a program has just built, read off its blocks; which instructions are known. -/
namespace Go.Proofs.YtglalgjffkoneaaGreatDoor
set_option linter.unusedVariables false
set_option linter.unusedSimpArgs false
open Go.ChangeShapes Go.WideShapes Go.ChangeAt Go.RowKit
namespace Bm
/-- A cell, its blocks by their place in a list. -/
inductive C where
  | int (z : Int)
  | bool (x : Bool)
  | str (s : ByteArray)
  | sl (a : Option (Nat × Nat)) (n c : Nat)
def C.val (ρ : Nat → Nat) : C → Value
  | .int z => .int .i64 z
  | .bool x => .bool x
  | .str s => .string s
  | .sl a n c => .slice (a.map fun p => ⟨ρ p.1, p.2, none⟩) n c
abbrev Mem := List (List C)
structure Holds (w : World) (ρ : Nat → Nat) (D : Mem) : Prop where
  at_ : ∀ (i : Nat) (cs : List C), D[i]? = some cs → ρ i < w.heap.size ∧ ∀ j c, cs[j]? = some c → w.cell? ⟨ρ i, j, none⟩ = some (c.val ρ)
theorem Holds.still {w w' : World} {ρ : Nat → Nat} {D : Mem} (h : Holds w ρ D) (t : Still w w') : Holds w' ρ D := ⟨fun i cs hi => ⟨Nat.lt_of_lt_of_le (h.at_ i cs hi).1 t.size, fun j c hj => (t.cell (p := ⟨ρ i, j, none⟩) (h.at_ i cs hi).1).trans ((h.at_ i cs hi).2 j c hj)⟩⟩
theorem holds_nil (w : World) (ρ : Nat → Nat) : Holds w ρ [] := ⟨fun i cs h => by simp at h⟩
theorem Holds.snoc {w : World} {ρ : Nat → Nat} {D : Mem} (h : Holds w ρ D) {t : TypeId} {cs : List C} {vs : Array Value} (hb : Blk w (ρ D.length) t vs) (hv : vs.toList = cs.map (C.val ρ)) : Holds w ρ (D ++ [cs]) := ⟨fun i x hi => by
  by_cases hl : i < D.length
  · rw [List.getElem?_append_left hl] at hi
    exact h.at_ i x hi
  · rw [List.getElem?_append_right (by omega)] at hi
    have h0 : i - D.length = 0 := by
      have := (List.getElem?_eq_some_iff.1 hi).1
      simp at this
      omega
    rw [h0] at hi
    obtain rfl : cs = x := by simpa using hi
    obtain rfl : i = D.length := by omega
    refine ⟨hb.lt, fun j c hj => ?_⟩
    rw [hb.cell j, ← Array.getElem?_toList, hv, List.getElem?_map, hj]
    rfl⟩
def many {α : Type} (f : Nat → Option α) : Nat → Nat → Option (List α)
  | _, 0 => some []
  | i, n + 1 => match f i with
    | none => none
    | some x => match many f (i + 1) n with
      | none => none
      | some l => some (x :: l)
theorem many_spec {α : Type} {f : Nat → Option α} : ∀ (n i : Nat) (l : List α), many f i n = some l → l.length = n ∧ ∀ j x, l[j]? = some x → f (i + j) = some x
  | 0, i, l, h => by
    obtain rfl : [] = l := Option.some.inj h
    exact ⟨rfl, fun j x hj => by simp at hj⟩
  | n + 1, i, l, h => by
    unfold many at h
    split at h
    · cases h
    · rename_i x hx
      split at h
      · cases h
      · rename_i l' hl
        obtain rfl : x :: l' = l := Option.some.inj h
        obtain ⟨h1, h2⟩ := many_spec n (i + 1) l' hl
        refine ⟨by rw [List.length_cons, h1], fun j y hj => ?_⟩
        cases j with
        | zero =>
          obtain rfl : x = y := by simpa using hj
          exact hx
        | succ j => rw [show i + (j + 1) = i + 1 + j by omega]; exact h2 j y (by simpa using hj)
/-- n things of k cells each. -/
def rows {α : Type} (D : Mem) (k : Nat) (f : List C → Option α) (a : Option (Nat × Nat)) (n : Nat) : Option (List α) :=
  if n = 0 then some [] else match a with
    | none => none
    | some p => match D[p.1]? with
      | none => none
      | some cs => many (fun i => f ((cs.drop (p.2 + i * k)).take k)) 0 n
theorem rows_lies {α : Type} {w : World} {ρ : Nat → Nat} {D : Mem} (h : Holds w ρ D) {k : Nat} {f : List C → Option α} {P : List Value → α → Prop} (hf : ∀ cs x, f cs = some x → cs.length = k ∧ P (cs.map (C.val ρ)) x) {a : Option (Nat × Nat)} {n : Nat} {xs : List α} (hr : rows D k f a n = some xs) : Lies w.heap.size w k P (a.map fun p => ⟨ρ p.1, p.2, none⟩) n xs := by
  unfold rows at hr
  split at hr
  · rename_i h0
    subst h0
    obtain rfl := Option.some.inj hr
    exact ⟨rfl, fun h => absurd h (Nat.lt_irrefl _)⟩
  · rename_i h0
    split at hr
    · cases hr
    · rename_i p
      split at hr
      · cases hr
      · rename_i cs hcs
        obtain ⟨h1, h2⟩ := many_spec n 0 xs hr
        obtain ⟨hl, hc⟩ := h.at_ p.1 cs hcs
        refine ⟨h1, fun _ => ⟨ρ p.1, p.2, rfl, hl, fun i x hi => ?_⟩⟩
        have h3 := h2 i x hi
        rw [Nat.zero_add] at h3
        obtain ⟨e1, e2⟩ := hf _ _ h3
        refine ⟨_, by rw [List.length_map]; exact e1, e2, fun j hj => ?_⟩
        rw [List.getElem?_map, List.getElem?_take_of_lt hj, List.getElem?_drop]
        have hlen : p.2 + i * k + j < cs.length := by
          rw [List.length_take, List.length_drop] at e1
          omega
        rw [List.getElem?_eq_getElem hlen]
        exact hc _ _ (List.getElem?_eq_getElem hlen)
def in64 (z : Int) : Bool := decide (-9223372036854775808 ≤ z ∧ z ≤ 9223372036854775807)
theorem in64_iff {z : Int} : in64 z = true ↔ In64 z := by unfold in64 In64; rw [decide_eq_true_eq]
def rInt : List C → Option Int
  | [.int z] => if in64 z then some z else none
  | _ => none
theorem rInt_is {ρ : Nat → Nat} (cs : List C) (x : Int) (h : rInt cs = some x) : cs.length = 1 ∧ IntIs (cs.map (C.val ρ)) x := by
  unfold rInt at h
  split at h
  · split at h
    · rename_i z h64
      obtain rfl := Option.some.inj h
      exact ⟨rfl, rfl, in64_iff.1 h64⟩
    · cases h
  · cases h
def rInts (D : Mem) (a : Option (Nat × Nat)) (n : Nat) : Option (List Int) := if n ≤ maxLen then rows D 1 rInt a n else none
theorem rInts_is {w : World} {ρ : Nat → Nat} {D : Mem} (h : Holds w ρ D) {a : Option (Nat × Nat)} {n : Nat} {xs : List Int} (hr : rInts D a n = some xs) : n ≤ maxLen ∧ Ints w.heap.size w (a.map fun p => ⟨ρ p.1, p.2, none⟩) n xs := by
  unfold rInts at hr
  split at hr
  · rename_i hn
    exact ⟨hn, rows_lies h rInt_is hr⟩
  · cases hr
def rTx : List C → Option ByteArray
  | [.str s] => if s.size ≤ maxLen then some s else none
  | _ => none
theorem rTx_is {ρ : Nat → Nat} (cs : List C) (x : ByteArray) (h : rTx cs = some x) : cs.length = 1 ∧ TxIs (cs.map (C.val ρ)) x := by
  unfold rTx at h
  split at h
  · split at h
    · rename_i z hz
      obtain rfl := Option.some.inj h
      exact ⟨rfl, rfl, hz⟩
    · cases h
  · cases h
def rTy (D : Mem) : List C → Option M.Ty
  | [.bool b, .sl a n c] => match rInts D a n with
    | some xs => some ⟨b, xs⟩
    | none => none
  | _ => none
theorem rTy_is {w : World} {ρ : Nat → Nat} {D : Mem} (h : Holds w ρ D) (cs : List C) (x : M.Ty) (hr : rTy D cs = some x) : cs.length = 2 ∧ TyIs w.heap.size w (cs.map (C.val ρ)) x := by
  unfold rTy at hr
  split at hr
  · split at hr
    · rename_i xs hx
      obtain rfl := Option.some.inj hr
      obtain ⟨h1, h2⟩ := rInts_is h hx
      exact ⟨rfl, _, _, _, rfl, h1, h2⟩
    · cases hr
  · cases hr
def rSh (D : Mem) : List C → Option M.Sh
  | [.int k, .sl a n c, .str s] => if in64 k && decide (s.size ≤ maxLen) then (match rInts D a n with
    | some xs => some ⟨k, xs, s⟩
    | none => none) else none
  | _ => none
theorem rSh_is {w : World} {ρ : Nat → Nat} {D : Mem} (h : Holds w ρ D) (cs : List C) (x : M.Sh) (hr : rSh D cs = some x) : cs.length = 3 ∧ ShIs w.heap.size w (cs.map (C.val ρ)) x := by
  unfold rSh at hr
  split at hr
  · split at hr
    · rename_i hk
      rw [Bool.and_eq_true, in64_iff, decide_eq_true_eq] at hk
      split at hr
      · rename_i xs hx
        obtain rfl := Option.some.inj hr
        obtain ⟨h1, h2⟩ := rInts_is h hx
        exact ⟨rfl, _, _, _, rfl, h1, hk.1, hk.2, h2⟩
      · cases hr
    · cases hr
  · cases hr
def rIns (D : Mem) : List C → Option M.Ins
  | [.int op, .int d, .int a, .int b, .int c, .int n, .sl la ln lc, .sl ma mn mc, .sl va vn vc] => if in64 op && (in64 d && (in64 a && (in64 b && (in64 c && in64 n)))) then (match rInts D la ln with
    | some l => match rInts D ma mn with
      | some m => match rInts D va vn with
        | some v => some ⟨op, d, a, b, c, n, l, m, v⟩
        | none => none
      | none => none
    | none => none) else none
  | _ => none
theorem rIns_is {w : World} {ρ : Nat → Nat} {D : Mem} (h : Holds w ρ D) (cs : List C) (x : M.Ins) (hr : rIns D cs = some x) : cs.length = 9 ∧ InsIs w.heap.size w (cs.map (C.val ρ)) x := by
  unfold rIns at hr
  split at hr
  · split at hr
    · rename_i hk
      simp only [Bool.and_eq_true, in64_iff] at hk
      split at hr
      · rename_i l hl
        split at hr
        · rename_i m hm
          split at hr
          · rename_i v hv
            obtain rfl := Option.some.inj hr
            obtain ⟨l1, l2⟩ := rInts_is h hl
            obtain ⟨m1, m2⟩ := rInts_is h hm
            obtain ⟨v1, v2⟩ := rInts_is h hv
            exact ⟨rfl, _, _, _, _, _, _, _, _, _, rfl, l1, m1, v1, hk, l2, m2, v2⟩
          · cases hr
        · cases hr
      · cases hr
    · cases hr
  · cases hr
def rBk (D : Mem) : List C → Option M.Bk
  | [.sl ia inn ic, .sl ca cn cc] => if cn ≤ maxLen then (match rInts D ia inn with
    | some l => match rows D 9 (rIns D) ca cn with
      | some m => some ⟨l, m⟩
      | none => none
    | none => none) else none
  | _ => none
theorem rBk_is {w : World} {ρ : Nat → Nat} {D : Mem} (h : Holds w ρ D) (cs : List C) (x : M.Bk) (hr : rBk D cs = some x) : cs.length = 2 ∧ BkIs w.heap.size w (cs.map (C.val ρ)) x := by
  unfold rBk at hr
  split at hr
  · split at hr
    · rename_i hc
      split at hr
      · rename_i l hl
        split at hr
        · rename_i m hm
          obtain rfl := Option.some.inj hr
          obtain ⟨l1, l2⟩ := rInts_is h hl
          exact ⟨rfl, _, _, _, _, _, _, rfl, l1, hc, l2, rows_lies h (rIns_is h) hm⟩
        · cases hr
      · cases hr
    · cases hr
  · cases hr
/-- May a function's first In be cut? -/
def roomy (D : Mem) (ba : Option (Nat × Nat)) : Bool := match ba with
  | none => true
  | some p => match D[p.1]? with
    | none => false
    | some cs => match cs[p.2]? with
      | some (.sl _ inn ic) => decide (inn ≤ ic)
      | _ => false
def rFn (D : Mem) : List C → Option M.Fn
  | [.sl pa pn pc, .int r, .int s, .sl ba bn bc] => if in64 r && (in64 s && (decide (bn ≤ maxLen) && roomy D ba)) then (match rInts D pa pn with
    | some l => match rows D 2 (rBk D) ba bn with
      | some m => some ⟨l, r, s, m⟩
      | none => none
    | none => none) else none
  | _ => none
theorem rFn_is {w : World} {ρ : Nat → Nat} {D : Mem} (h : Holds w ρ D) (cs : List C) (x : M.Fn) (hr : rFn D cs = some x) : cs.length = 4 ∧ FnIs w.heap.size w (cs.map (C.val ρ)) x ∧ ∃ ba bn bc, cs[3]? = some (.sl ba bn bc) ∧ roomy D ba = true := by
  unfold rFn at hr
  split at hr
  · split at hr
    · rename_i hc
      simp only [Bool.and_eq_true, in64_iff, decide_eq_true_eq] at hc
      split at hr
      · rename_i l hl
        split at hr
        · rename_i m hm
          obtain rfl := Option.some.inj hr
          obtain ⟨l1, l2⟩ := rInts_is h hl
          exact ⟨rfl, ⟨_, _, _, _, _, _, rfl, l1, hc.2.2.1, hc.1, hc.2.1, l2, rows_lies h (rBk_is h) hm⟩, _, _, _, rfl, hc.2.2.2⟩
        · cases hr
      · cases hr
    · cases hr
  · cases hr
theorem room_of {w : World} {ρ : Nat → Nat} {D : Mem} (h : Holds w ρ D) {ba : Option (Nat × Nat)} {bn : Nat} (hr : roomy D ba = true) : BkRoom w (ba.map fun p => ⟨ρ p.1, p.2, none⟩) bn := fun b off hb h0 ia inn ic hc => by
  unfold roomy at hr
  split at hr
  · cases hb
  · rename_i p
    split at hr
    · cases hr
    · rename_i cs hcs
      split at hr
      · rename_i x inn' ic' hx
        simp only [Option.map_some, Option.some.injEq, Addr.mk.injEq, and_true] at hb
        obtain ⟨rfl, rfl⟩ := hb
        rw [(h.at_ p.1 cs hcs).2 _ _ hx] at hc
        simp only [C.val, Option.some.injEq, Value.slice.injEq] at hc
        obtain ⟨_, rfl, rfl⟩ := hc
        exact of_decide_eq_true hr
      · cases hr
/-- An image's cells. -/
structure ImgC where
  ta : Option (Nat × Nat)
  tn : Nat
  tc : Nat
  sa : Option (Nat × Nat)
  sn : Nat
  sc : Nat
  xa : Option (Nat × Nat)
  xn : Nat
  xc : Nat
  na : Option (Nat × Nat)
  nn : Nat
  nc : Nat
  fa : Option (Nat × Nat)
  fn : Nat
  fc : Nat
  main : Int
  exn : Int
abbrev pl (ρ : Nat → Nat) (a : Option (Nat × Nat)) : Option Addr := a.map fun p => ⟨ρ p.1, p.2, none⟩
abbrev ImgC.v (ρ : Nat → Nat) (c : ImgC) : ImgV := ⟨pl ρ c.ta, c.tn, c.tc, pl ρ c.sa, c.sn, c.sc, pl ρ c.xa, c.xn, c.xc, pl ρ c.na, c.nn, c.nc, pl ρ c.fa, c.fn, c.fc, c.main, c.exn⟩
def rImg (D : Mem) (c : ImgC) : Option M.Img :=
  if in64 c.main && (in64 c.exn && decide (c.tn ≤ maxLen ∧ c.sn ≤ maxLen ∧ c.xn ≤ maxLen ∧ c.nn ≤ maxLen ∧ c.fn ≤ maxLen)) then (match rows D 2 (rTy D) c.ta c.tn with
    | none => none
    | some t => match rows D 3 (rSh D) c.sa c.sn with
      | none => none
      | some s => match rows D 1 rTx c.xa c.xn with
        | none => none
        | some x => match rows D 1 rTx c.na c.nn with
          | none => none
          | some n => match rows D 4 (rFn D) c.fa c.fn with
            | none => none
            | some f => some ⟨t, s, x, n, f, c.main, c.exn⟩) else none
theorem rImg_is {w : World} {ρ : Nat → Nat} {D : Mem} (h : Holds w ρ D) {c : ImgC} {m : M.Img} (hr : rImg D c = some m) : ImgIs w.heap.size w (c.v ρ) m ∧ Room w (c.v ρ) := by
  unfold rImg at hr
  split at hr
  · rename_i hc
    simp only [Bool.and_eq_true, in64_iff, decide_eq_true_eq] at hc
    split at hr
    · cases hr
    rename_i t ht
    split at hr
    · cases hr
    rename_i s hs
    split at hr
    · cases hr
    rename_i x hx
    split at hr
    · cases hr
    rename_i n hn
    split at hr
    · cases hr
    rename_i f hf
    obtain rfl := Option.some.inj hr
    refine ⟨⟨rfl, rfl, hc.1, hc.2.1, hc.2.2, rows_lies h (rTy_is h) ht, rows_lies h (rSh_is h) hs, rows_lies h rTx_is hx, rows_lies h rTx_is hn, rows_lies h (fun cs x e => ⟨(rFn_is h cs x e).1, (rFn_is h cs x e).2.1⟩) hf⟩, ?_⟩
    intro b off i hv hi ba bn bc hcell
    have hv : (c.fa.map fun p => (⟨ρ p.1, p.2, none⟩ : Addr)) = some ⟨b, off, none⟩ := hv
    unfold rows at hf
    split at hf
    · rename_i h0; have hi : i < c.fn := hi; omega
    split at hf
    · cases hf
    rename_i p hp
    split at hf
    · cases hf
    rename_i cs hcs
    rw [hp] at hv
    simp only [Option.map_some, Option.some.injEq, Addr.mk.injEq, and_true] at hv
    obtain ⟨rfl, rfl⟩ := hv
    obtain ⟨h1, h2⟩ := many_spec _ 0 f hf
    have hil : i < f.length := by rw [h1]; exact hi
    have h3 := h2 i f[i] (List.getElem?_eq_getElem hil)
    rw [Nat.zero_add] at h3
    obtain ⟨e1, _, ba', bn', bc', e2, e3⟩ := rFn_is h _ _ h3
    rw [List.getElem?_take_of_lt (by decide), List.getElem?_drop] at e2
    rw [(h.at_ p.1 cs hcs).2 _ _ e2] at hcell
    simp only [C.val, Option.some.injEq, Value.slice.injEq] at hcell
    obtain ⟨rfl, rfl, rfl⟩ := hcell
    exact room_of h e3
  · cases hr
/-- The instructions that are known. -/
def okOp (x : M.Ins) : Bool := decide (x.op = 1 ∨ x.op = 2 ∨ x.op = 3 ∨ x.op = 4 ∨ x.op = 5 ∨ x.op = 6 ∨ x.op = 8 ∨ x.op = 15 ∨ x.op = 16 ∨ x.op = 17 ∨ x.op = 18 ∨ x.op = 19 ∨ x.op = 20 ∨ x.op = 21 ∨ x.op = 22 ∨ x.op = 23)
def okOps (m : M.Img) : Bool := m.funcs.all fun f => f.blocks.all fun b => b.code.all okOp
theorem step_ok (c : WkC) (hW : wholeB c.m = true) (x : M.Ins) (h : okOp x = true) : StepOk c x := by
  have hF : ∀ f ∈ c.m.funcs, fnB c.m.types.length f = true := fun f hf => ((whole_facts hW).2.2.2 f hf).1
  rcases of_decide_eq_true h with h | h | h | h | h | h | h | h | h | h | h | h | h | h | h | h
  · exact step_const c x h
  · exact step_text c hW x h
  · exact step_move c x h
  · exact step_prim c x h
  · exact step_new c hW x h
  · exact step_field c hW x h
  · exact step_array c hW x h
  · exact step_in c x h
  · exact step_out c x h
  · exact step_call c hW x h
  · exact step_jump c x h
  · exact step_if c x h
  · exact step_switch c x h
  · exact step_tail c x h hF
  · exact step_ret c x h
  · exact step_raise c x h (whole_exn hW)
theorem steps_ok {m : M.Img} (h : okOps m = true) (hW : wholeB m = true) (c : WkC) (hc : c.m = m) : ∀ f ∈ m.funcs, ∀ b ∈ f.blocks, ∀ x ∈ b.code, StepOk c x := fun f hf b hb x hx => by
  subst hc
  exact step_ok c hW x (List.all_eq_true.1 (List.all_eq_true.1 (List.all_eq_true.1 h f hf) b hb) x hx)
/-- What Fault, and Verify, say of an image that was built. -/
def faultE (m : M.Img) : Value := if wholeB m then (match Vf.faultB m with
  | none => .tuple #[.int .i64 0, .int .i64 0, .int .i64 0, .bool true]
  | some (i, j, k) => .tuple #[.int .i64 i, .int .i64 j, .int .i64 k, .bool false]) else .tuple #[.int .i64 (-1), .int .i64 (-1), .int .i64 (-1), .bool false]
def good (m : M.Img) : Bool := wholeB m && (Vf.faultB m).isNone
theorem fault_built {w : World} {ρ : Nat → Nat} {D : Mem} (h : Holds w ρ D) (ht : Tz w) {c : ImgC} {m : M.Img} (hr : rImg D c = some m) (hok : okOps m = true) (hs : M.size m ≤ 1000000000) :
    Calls Tryz.prog 10 #[.agg (c.v ρ).cells] w fun e w' => e = .returned (faultE m) ∧ Still w w' := by
  obtain ⟨h1, h2⟩ := rImg_is h hr
  refine (fault_any h1 (Nat.le_refl _) hs h2 ht ht.lt (fun hW c hc => steps_ok hok hW c hc)).mono ?_
  rintro e w' ⟨t, ⟨e1, e2⟩ | ⟨e1, res, e2, e3⟩⟩
  · exact ⟨by rw [e2]; unfold faultE; rw [e1]; rfl, t⟩
  · have e4 := wimg_one _ _ _ _ e2 (Vf.wrongImg_is m m.funcs 0)
    have e5 : res = Vf.faultB m := e4
    refine ⟨?_, t⟩
    unfold faultE
    rw [e1, ← e5]
    rcases e3 with ⟨rfl, e3⟩ | ⟨i, j, k, rfl, e3⟩
    · exact e3
    · exact e3
theorem verify_built {w : World} {ρ : Nat → Nat} {D : Mem} (h : Holds w ρ D) (ht : Tz w) {c : ImgC} {m : M.Img} (hr : rImg D c = some m) (hok : okOps m = true) (hs : M.size m ≤ 1000000000) :
    Calls Tryz.prog 12 #[.agg (c.v ρ).cells] w fun e w' => e = .returned (.int .i64 (if good m then 0 else 21)) ∧ Still w w' := by
  obtain ⟨h1, h2⟩ := rImg_is h hr
  refine (verify_any h1 (Nat.le_refl _) hs h2 ht ht.lt (fun hW c hc => steps_ok hok hW c hc)).mono ?_
  have hw := Vf.wrongImg_is m m.funcs 0
  rintro e w' ⟨t, ⟨rfl, e1, e2⟩ | ⟨rfl, e1⟩⟩
  · have e5 : none = Vf.faultB m := wimg_one _ _ _ _ e2 hw
    refine ⟨?_, t⟩
    unfold good
    rw [e1, ← e5]
    rfl
  · refine ⟨?_, t⟩
    have : good m = false := by
      cases hg : good m with
      | false => rfl
      | true =>
        unfold good at hg
        rw [Bool.and_eq_true, Option.isNone_iff_eq_none] at hg
        refine absurd ⟨hg.1, ?_⟩ e1
        rw [← hg.2]
        exact hw
    rw [this]
    rfl
end Bm
end Go.Proofs.YtglalgjffkoneaaGreatDoor
/- What the laws over built images lean on: a list that is full, and grows; the table. -/
namespace Go.Proofs.YtglalgjffkoneaaGreatDoor
set_option linter.unusedVariables false
set_option linter.unusedSimpArgs false
open Go.ChangeShapes Go.WideShapes Go.ChangeAt Go.RowKit
/-- Stops a walk. -/
structure Wait (P : Prop) : Prop where
  out : P
/-- A row that begins with these cells. -/
def Row (w : World) (g : Nat) (e : TypeId) (xs : List Value) : Prop := ∃ rest : List Value, Blk w g e (xs ++ rest).toArray
theorem Row.lt {w : World} {g : Nat} {e : TypeId} {xs : List Value} (h : Row w g e xs) : g < w.heap.size := h.choose_spec.lt
theorem Row.cell {w : World} {g : Nat} {e : TypeId} {xs : List Value} (h : Row w g e xs) {i : Nat} {v : Value} (hi : xs[i]? = some v) : w.cell? ⟨g, i, none⟩ = some v := by
  obtain ⟨rest, h⟩ := h
  rw [h.cell i]
  have hl := (List.getElem?_eq_some_iff.1 hi).1
  show (xs ++ rest).toArray[i]? = _
  rw [List.getElem?_toArray, List.getElem?_append_left hl, hi]
theorem Row.frozen {w : World} {g : Nat} {e : TypeId} {xs : List Value} (h : Row w g e xs) (i : Nat) : w.frozen? ⟨g, i, none⟩ = false := by
  obtain ⟨rest, h⟩ := h
  exact h.frozen i
theorem Row.keep {w w' : World} {g : Nat} {e : TypeId} {xs : List Value} {S : Nat → Prop} (h : Row w g e xs) (t : Turn S w w') (hs : ¬ S g) : Row w' g e xs := by
  obtain ⟨rest, h⟩ := h
  exact ⟨rest, h.keep t hs⟩
theorem Row.still {w w' : World} {g : Nat} {e : TypeId} {xs : List Value} (h : Row w g e xs) (t : Still w w') : Row w' g e xs := h.keep t (fun e => e)
theorem Row.alloc {w : World} {g : Nat} {e : TypeId} {xs : List Value} (h : Row w g e xs) (o : Obj) : Row (w.alloc o) g e xs := by
  obtain ⟨rest, h⟩ := h
  exact ⟨rest, h.alloc o⟩
theorem Row.drew {w : World} {g : Nat} {e : TypeId} {xs : List Value} (h : Row w g e xs) : Row w.drew g e xs := h
theorem Row.far {w : World} {g : Nat} {e : TypeId} {xs : List Value} (h : Row w g e xs) {p : Addr} (hp : g ≠ p.block) (u : Value) : Row (w.setCell p u) g e xs := by
  obtain ⟨rest, h⟩ := h
  exact ⟨rest, h.far hp u⟩
theorem Row.set {w : World} {g : Nat} {e : TypeId} {xs : List Value} (h : Row w g e xs) {i : Nat} (hi : i < xs.length) (u : Value) : Row (w.setCell ⟨g, i, none⟩ u) g e (xs.set i u) := by
  obtain ⟨rest, h⟩ := h
  refine ⟨rest, ?_⟩
  have h2 := h.set i u
  rw [List.setIfInBounds_toArray, List.set_append_left _ _ hi] at h2
  exact h2
theorem Blk.row' {w : World} {g : Nat} {e : TypeId} {cs : Array Value} (h : Blk w g e cs) : Row w g e cs.toList := ⟨[], by rw [List.append_nil]; exact h⟩
theorem Row.ne {w : World} {g g' : Nat} {e e' : TypeId} {xs xs' : List Value} (h : Row w g e xs) (h' : Row w g' e' xs') (hne : e ≠ e') : g ≠ g' := by
  obtain ⟨r, h⟩ := h
  obtain ⟨r', h'⟩ := h'
  exact h.ne h' hne
theorem append_new {P : Program} (w : World) (t ty e : TypeId) (size bytes : Nat) (z : Value) (ht : P.underlying t = some (.slice e)) (hi : (P.info? e).map (fun i => (i.zero, i.size, i.bytes)) = some (some z, size, bytes))
    (hzs : z.cells.size = size) (hsz : 0 < size) (ao : Option Addr) (n : Nat) (olds : List Value) (hnone : ao = none → n = 0) (hlo : olds.length = n * size) (holds : ∀ b, ao = some b → ∃ q, b = ⟨q, 0, none⟩ ∧ Row w q e olds)
    (q : Nat) (m c' : Nat) (news : List Value) (hl : news.length = m * size) (hnews : Row w q e news) (h1 : ∀ u ∈ news, u.oneCell' = true) (hm : 0 < m) (h63 : n + m ≤ maxLen) (hbytes : (n + m) * bytes ≤ 140737488355328) :
    ∃ g cap w', (Builtin.append_ #[t, t] ty #[.slice ao n n, .slice (some ⟨q, 0, none⟩) m c']).run P w = .ok (.slice (some ⟨g, 0, none⟩) (n + m) cap) w' ∧ w.heap.size ≤ g ∧ n + m ≤ cap ∧ Still w w' ∧ Row w' g e (olds ++ news) := by
  obtain ⟨i, hi1, he⟩ := Option.map_eq_some_iff.1 hi
  simp only [Prod.mk.injEq] at he
  have fin : ∀ v' w', w'.ownsRow w.heap.size e size v' (n + m) (olds ++ news) → w.grownBy w' none → ∃ g cap, v' = .slice (some ⟨g, 0, none⟩) (n + m) cap ∧ w.heap.size ≤ g ∧ n + m ≤ cap ∧ Still w w' ∧ Row w' g e (olds ++ news) := fun v' w' own gr => by
    rcases own.2 with ⟨_, h0⟩ | ⟨g, cap, cur, hv, hg, hc, hn, _, _, htake⟩
    · omega
    · refine ⟨g, cap, hv, hg, hn, (Turn.refl _ w).grown gr (fun k e => by cases e), cur.toList.drop ((n + m) * size), ?_⟩
      have : (olds ++ news ++ cur.toList.drop ((n + m) * size)).toArray = cur := by
        rw [← htake, List.take_append_drop]
      rw [this]
      exact hc
  have hn2 : ∀ j u, news[j]? = some u → w.cell? ((⟨q, 0, none⟩ : Addr).add j) = some u := fun j u hj => by rw [Addr.add_lit, Nat.zero_add]; exact hnews.cell hj
  cases ao with
  | some b =>
    obtain ⟨q0, rfl, hrow⟩ := holds b rfl
    obtain ⟨v', w', hrun, r1, r2⟩ := run_append_arg_grows (P := P) w t ty e i z size bytes ht hi1 he.1 he.2.1 he.2.2 hzs hsz ⟨q0, 0, none⟩ n n olds hlo (fun j u hj => by rw [Addr.add_lit, Nat.zero_add]; exact hrow.cell hj) ⟨q, 0, none⟩ m c' news hl hn2 (by omega) h63 hbytes
    obtain ⟨g, cap, rfl, h⟩ := fin v' w' r1 r2
    exact ⟨g, cap, w', hrun, h⟩
  | none =>
    obtain rfl := hnone rfl
    obtain rfl : olds = [] := List.eq_nil_of_length_eq_zero (by simpa using hlo)
    obtain ⟨v', w', hrun, r1, r2, _⟩ := run_append_own (P := P) w w.heap.size t ty e i z size bytes ht hi1 he.1 he.2.1 he.2.2 hzs hsz (.slice none 0 0) 0 [] (World.ownsRow_nil w _ e size) ⟨q, 0, none⟩ m c' news hl hn2 h1 h63 hbytes (Nat.le_refl _)
    obtain ⟨g, cap, rfl, h⟩ := fin v' w' r1 r2
    exact ⟨g, cap, w', hrun, h⟩
theorem wpList_append_new {P : Program} {w : World} {ops : Array Oper} {rest : List Oper} {o : Oper} {act : Act} {Q : Exit → Act → World → Prop} (hgd : o.guard = none) (s x : Operand) (t : TypeId)
    (ho : o.op = .call { callee := .builtin .append, args := #[s, x], argTypes := #[t, t] }) (e : TypeId) (size bytes : Nat) (z : Value) (ht : P.underlying t = some (.slice e)) (hi : (P.info? e).map (fun i => (i.zero, i.size, i.bytes)) = some (some z, size, bytes))
    (hzs : z.cells.size = size) (hsz : 0 < size) (ao : Option Addr) (n : Nat) (olds : List Value) (hs : act.eval s = .slice ao n n) (hnone : ao = none → n = 0) (hlo : olds.length = n * size) (holds : ∀ b, ao = some b → ∃ q, b = ⟨q, 0, none⟩ ∧ Row w q e olds)
    (q : Nat) (m c' : Nat) (news : List Value) (hx : act.eval x = .slice (some ⟨q, 0, none⟩) m c') (hl : news.length = m * size) (hnews : Row w q e news) (h1 : ∀ u ∈ news, u.oneCell' = true) (hm : 0 < m) (h63 : n + m ≤ maxLen) (hbytes : (n + m) * bytes ≤ 140737488355328)
    (h : ∀ g cap w', w.heap.size ≤ g → n + m ≤ cap → Still w w' → Row w' g e (olds ++ news) → wpList P ops Q rest (act.put o.dst (.slice (some ⟨g, 0, none⟩) (n + m) cap)) w') : wpList P ops Q (o :: rest) act w := by
  obtain ⟨g, cap, w', hrun, h2, h3, h4, h5⟩ := append_new (P := P) w t o.type e size bytes z ht hi hzs hsz ao n olds hnone hlo holds q m c' news hl hnews h1 hm h63 hbytes
  refine wpList_plain hgd fun K hK => ?_
  unfold Oper.wp
  simp [execOp, ho, resolve, invoke, builtin, hs, hx, hrun, Result.andThen]
  exact hK _ _ (h g cap w' h2 h3 h4 h5)
theorem step_append_new {P : Program} {w : World} {ops : Array Oper} {o : Oper} {act : Act} {K : Act → World → Prop} {Q : Exit → Act → World → Prop} {E : Prop} (hgd : o.guard = none) (s x : Operand) (t : TypeId)
    (ho : o.op = .call { callee := .builtin .append, args := #[s, x], argTypes := #[t, t] }) (e : TypeId) (size bytes : Nat) (z : Value) (ht : P.underlying t = some (.slice e)) (hi : (P.info? e).map (fun i => (i.zero, i.size, i.bytes)) = some (some z, size, bytes))
    (hzs : z.cells.size = size) (hsz : 0 < size) (ao : Option Addr) (n : Nat) (olds : List Value) (hs : act.eval s = .slice ao n n) (hnone : ao = none → n = 0) (hlo : olds.length = n * size) (holds : ∀ b, ao = some b → ∃ q, b = ⟨q, 0, none⟩ ∧ Row w q e olds)
    (q : Nat) (m c' : Nat) (news : List Value) (hx : act.eval x = .slice (some ⟨q, 0, none⟩) m c') (hl : news.length = m * size) (hnews : Row w q e news) (h1 : ∀ u ∈ news, u.oneCell' = true) (hm : 0 < m) (h63 : n + m ≤ maxLen) (hbytes : (n + m) * bytes ≤ 140737488355328)
    (h : ∀ g cap w', w.heap.size ≤ g → n + m ≤ cap → Still w w' → Row w' g e (olds ++ news) → K (act.put o.dst (.slice (some ⟨g, 0, none⟩) (n + m) cap)) w') : if Region.wanted o (yielded ops act.tmps) = true then Oper.wp P o act w K Q else E := by
  have hw : Region.wanted o (yielded ops act.tmps) = true := by simp [Region.wanted, hgd]
  rw [if_pos hw]
  obtain ⟨g, cap, w', hrun, h2, h3, h4, h5⟩ := append_new (P := P) w t o.type e size bytes z ht hi hzs hsz ao n olds hnone hlo holds q m c' news hl hnews h1 hm h63 hbytes
  unfold Oper.wp
  simp [execOp, ho, resolve, invoke, builtin, hs, hx, hrun, Result.andThen]
  exact h g cap w' h2 h3 h4 h5
theorem infoShape : (Tryz.prog.info? 42).map (fun i => (i.zero, i.size, i.bytes)) = some (some (.agg #[.int .i64 0, .slice none 0 0, .string ⟨#[]⟩]), 3, 48) := by kernel_rfl
theorem infoType : (Tryz.prog.info? 51).map (fun i => (i.zero, i.size, i.bytes)) = some (some (.agg #[.bool false, .slice none 0 0]), 2, 32) := by kernel_rfl
theorem infoFunc : (Tryz.prog.info? 45).map (fun i => (i.zero, i.size, i.bytes)) = some (some (.agg #[.slice none 0 0, .int .i64 0, .int .i64 0, .slice none 0 0]), 4, 64) := by kernel_rfl
theorem infoIntB : (Tryz.prog.info? 3).map (fun i => (i.zero, i.size, i.bytes)) = some (some (.int .i64 0), 1, 8) := by kernel_rfl
theorem Bm.Holds.row {w : World} {ρ : Nat → Nat} {D : Bm.Mem} (h : Bm.Holds w ρ D) {b : Nat} {t : TypeId} {cs : List Bm.C} {vs : List Value} (hb : Row w b t vs) (hρ : ρ D.length = b) (hv : vs = cs.map (Bm.C.val ρ)) : Bm.Holds w ρ (D ++ [cs]) := by
  obtain ⟨rest, hb⟩ := hb
  refine ⟨fun i x hi => ?_⟩
  by_cases hl : i < D.length
  · rw [List.getElem?_append_left hl] at hi
    exact h.at_ i x hi
  · rw [List.getElem?_append_right (by omega)] at hi
    have h0 : i - D.length = 0 := by
      have := (List.getElem?_eq_some_iff.1 hi).1
      simp at this
      omega
    rw [h0] at hi
    obtain rfl : cs = x := by simpa using hi
    obtain rfl : i = D.length := by omega
    refine ⟨by rw [hρ]; exact hb.lt, fun j c hj => ?_⟩
    have hrow : Row w b t vs := ⟨rest, hb⟩
    rw [hρ]
    exact hrow.cell (by rw [hv, List.getElem?_map, hj]; rfl)
end Go.Proofs.YtglalgjffkoneaaGreatDoor
