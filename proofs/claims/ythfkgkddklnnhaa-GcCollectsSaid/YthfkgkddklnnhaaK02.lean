/- Lemmas, put together: Frame HeapSt HeapRd HeapObj HeapNo. -/
import Derived.Below
import Derived.Laws.Rows
import Derived.Laws.Tables
import Derived.Laws.OwnMore
import Derived.Deep.Draws
import Derived.Test.YthfkgkddklnnhaaK01
import Derived.Deep.OwnRows
import Derived.WalkSmall
/- Frames: a block that is known whole; what may have turned between two worlds. No program in sight. -/
namespace Go.Proofs.Ythfkgkddklnnhaa
set_option linter.unusedVariables false
open Go.RowKit

/-- Block g is just the cells cs of element type t, none of them frozen. -/
def Blk (w : World) (g : Nat) (t : TypeId) (cs : Array Value) : Prop := w.heap[g]? = some (.cells cs t (0, 0))

/-- From w to w' no block that was there has turned but those of S. -/
structure Turn (S : Nat → Prop) (w w' : World) : Prop where
  os : w'.os = w.os
  tape : w'.tape = w.tape
  output : w'.output = w.output
  size : w.heap.size ≤ w'.heap.size
  block : ∀ k, k < w.heap.size → ¬ S k → w'.heap[k]? = w.heap[k]?

/-- Nothing turns. -/
def Still (w w' : World) : Prop := Turn (fun _ => False) w w'

section
variable {w w' w'' : World} {g : Nat} {t : TypeId} {cs : Array Value} {S T : Nat → Prop}

theorem Blk.lt (h : Blk w g t cs) : g < w.heap.size := (Array.getElem?_eq_some_iff.1 h).1
theorem Blk.cell (h : Blk w g t cs) (i : Nat) : w.cell? ⟨g, i, none⟩ = cs[i]? := cell_of_row w g i cs t (0, 0) h
theorem Blk.frozen (h : Blk w g t cs) (i : Nat) : w.frozen? ⟨g, i, none⟩ = false := frozen_of_row w g i cs t h
theorem Blk.new (w : World) (t : TypeId) (cs : Array Value) : Blk (w.alloc (.cells cs t)) w.heap.size t cs := heap_alloc_new w _
theorem Blk.drewN (h : Blk w g t cs) (n : Nat) : Blk (w.drewN n) g t cs := h
theorem Blk.alloc (h : Blk w g t cs) (o : Obj) : Blk (w.alloc o) g t cs := (Below.heap_alloc w o g h.lt).trans h
theorem Blk.set (h : Blk w g t cs) (i : Nat) (u : Value) : Blk (w.setCell ⟨g, i, none⟩ u) g t (cs.setIfInBounds i u) := by
  unfold Blk at h ⊢
  simp [World.setCell, Array.getElem?_modify, h]
theorem Blk.far (h : Blk w g t cs) {p : Addr} (hp : g ≠ p.block) (u : Value) : Blk (w.setCell p u) g t cs := (Below.heap_setCell w p u g hp).trans h
theorem Blk.keep (h : Blk w g t cs) (hb : Turn S w w') (hg : ¬ S g) : Blk w' g t cs := (hb.block g h.lt hg).trans h
theorem Blk.row (h : Blk w g t cs) (cs' : Array Value) : Blk (w.setRow g cs') g t cs' := setRow_heap w g cs cs' t (0, 0) h
theorem Blk.inj {t' : TypeId} {cs' : Array Value} (h : Blk w g t cs) (h' : Blk w g t' cs') : t = t' ∧ cs = cs' := by
  unfold Blk at h h'; rw [h] at h'; injection h' with h'; injection h' with a b; exact ⟨b, a⟩
theorem Blk.ne {g' : Nat} {t' : TypeId} {cs' : Array Value} (h : Blk w g t cs) (h' : Blk w g' t' cs') (hne : t ≠ t') : g ≠ g' := by
  rintro rfl; exact hne (h.inj h').1

theorem Turn.refl (S : Nat → Prop) (w : World) : Turn S w w := ⟨rfl, rfl, rfl, Nat.le_refl _, fun _ _ _ => rfl⟩
theorem Turn.trans (h : Turn S w w') (k : Turn S w' w'') : Turn S w w'' :=
  ⟨k.os.trans h.os, k.tape.trans h.tape, k.output.trans h.output, Nat.le_trans h.size k.size, fun i hi hs => (k.block i (Nat.lt_of_lt_of_le hi h.size) hs).trans (h.block i hi hs)⟩
theorem Turn.mono (h : Turn S w w') (hs : ∀ k, k < w.heap.size → S k → T k) : Turn T w w' :=
  ⟨h.os, h.tape, h.output, h.size, fun k hk hn => h.block k hk (fun e => hn (hs k hk e))⟩
theorem Turn.drewN (h : Turn S w w') (n : Nat) : Turn S w (w'.drewN n) := ⟨h.os, h.tape, h.output, h.size, h.block⟩
theorem Turn.drew (h : Turn S w w') : Turn S w w'.drew := ⟨h.os, h.tape, h.output, h.size, h.block⟩
theorem Turn.alloc (h : Turn S w w') (o : Obj) : Turn S w (w'.alloc o) :=
  ⟨h.os, h.tape, h.output, Nat.le_trans h.size (by simp), fun k hk hn => (Below.heap_alloc _ _ _ (Nat.lt_of_lt_of_le hk h.size)).trans (h.block k hk hn)⟩
/-- A store into a block that may turn, or into a new one. -/
theorem Turn.setCell (h : Turn S w w') {p : Addr} (hp : p.block < w.heap.size → S p.block) (u : Value) : Turn S w (w'.setCell p u) :=
  ⟨h.os, h.tape, h.output, Nat.le_trans h.size (by simp), fun k hk hn => (Below.heap_setCell _ _ _ _ (fun e => hn (by subst e; exact hp hk))).trans (h.block k hk hn)⟩
theorem Turn.setRow (h : Turn S w w') {b : Nat} (hp : b < w.heap.size → S b) (c : Array Value) : Turn S w (w'.setRow b c) :=
  ⟨h.os, h.tape, h.output, Nat.le_trans h.size (by simp), fun k hk hn => by
    rw [← h.block k hk hn]
    simp only [World.setRow, Array.getElem?_modify]
    rw [if_neg (fun e => hn (by subst e; exact hp hk))]⟩
theorem Turn.grown (h : Turn S w w') {row : Option Nat} (hg : w'.grownBy w'' row) (hr : ∀ k, row = some k → k < w.heap.size → S k) : Turn S w w'' :=
  ⟨hg.os.trans h.os, hg.tape.trans h.tape, hg.output.trans h.output, Nat.le_trans h.size hg.size, fun k hk hn => by
    rw [← h.block k hk hn]
    exact hg.block k (Nat.lt_of_lt_of_le hk h.size) (fun e => hn (hr k e.symm hk))⟩
theorem Turn.below {B : Nat} (h : Turn S w w') (hB : B ≤ w.heap.size) (hs : ∀ k, S k → B ≤ k) : Below B w w' :=
  ⟨h.os, h.tape, h.output, h.size, fun k hk => h.block k (Nat.lt_of_lt_of_le hk hB) (fun e => by have := hs k e; omega)⟩
theorem Turn.of_below {B : Nat} (h : Below B w w') (hs : ∀ k, k < w.heap.size → B ≤ k → S k) : Turn S w w' :=
  ⟨h.os, h.tape, h.output, h.size, fun k hk hn => h.block k (by
    rcases Nat.lt_or_ge k B with hb | hb
    · exact hb
    · exact absurd (hs k hk hb) hn)⟩
theorem Turn.cell (h : Turn S w w') {p : Addr} (hp : p.block < w.heap.size) (hn : ¬ S p.block) : w'.cell? p = w.cell? p := World.cell?_of_block (w := w) (h.block p.block hp hn)
theorem Turn.frozen (h : Turn S w w') {p : Addr} (hp : p.block < w.heap.size) (hn : ¬ S p.block) : w'.frozen? p = w.frozen? p := World.frozen?_of_block (w := w) (h.block p.block hp hn)

theorem Still.refl (w : World) : Still w w := Turn.refl _ w
theorem Still.blk (h : Still w w') (hb : Blk w g t cs) : Blk w' g t cs := hb.keep h (fun e => e)
theorem Still.turn (h : Still w w') : Turn S w w' := Turn.mono h fun _ _ e => e.elim
theorem Still.below (h : Still w w') : Below w.heap.size w w' := Turn.below h (Nat.le_refl _) fun _ e => e.elim
theorem Still.cell (h : Still w w') {p : Addr} (hp : p.block < w.heap.size) : w'.cell? p = w.cell? p := Turn.cell h hp (fun e => e)
theorem below_drewN {B : Nat} {a w : World} (h : Below B a w) (n : Nat) : Below B a (w.drewN n) := ⟨h.os, h.tape, h.output, h.size, h.block⟩
end
end Go.Proofs.Ythfkgkddklnnhaa
/- What a heap of layer 2 is in memory: its struct, its words, its layouts. -/
namespace Go.Proofs.Ythfkgkddklnnhaa
set_option linter.unusedVariables false
open Go.ChangeShapes Go.WideShapes Go.ChangeAt Go.RowKit
open M (W)

/-- A heap's state: the blocks of its struct, its words, its layouts; the words; where heads stand, as words of 64 bits; the layouts. -/
structure St where
  g : Nat
  gw : Nat
  gl : Nat
  n : Nat
  ws : Nat → Nat
  top : Nat
  hx : Nat → Nat
  m : Nat
  lk : Nat → Int
  ln : Nat → Int

namespace St
variable (s : St)
def is (k : Int) : Bool := decide (0 ≤ k) && decide (k < 65536) && (s.hx (k.toNat / 64)).testBit (k.toNat % 64)
def kind (sh : Int) : Int := if 0 ≤ sh ∧ sh < s.m then s.lk sh.toNat else 0
def len (sh : Int) : Int := if 0 ≤ sh ∧ sh < s.m then s.ln sh.toNat else 0
/-- The struct's cells. -/
def cell (i : Nat) : Value :=
  if i = 0 then .slice (some ⟨s.gw, 0, none⟩) s.n s.n else if i = 1 then .int .i64 s.top else if i = 1026 then .slice (some ⟨s.gl, 0, none⟩) s.m s.m else .int .u64 (s.hx (i - 2))
def lay (i : Nat) : Value := .int .i64 (if i % 2 = 0 then s.lk (i / 2) else s.ln (i / 2))
abbrev ptr : Value := .pointer (some ⟨s.g, 0, none⟩)
end St

/-- In the world w stands the heap s. -/
structure HpIs (w : World) (s : St) : Prop where
  blk : w.rowIs s.g 78 1027 s.cell
  words : w.rowIs s.gw 33 s.n (fun i => .int .u64 (s.ws i))
  lays : w.rowIs s.gl 67 (s.m * 2) s.lay
  n_le : s.n ≤ 65536
  m_le : s.m ≤ 512
  top_le : s.top ≤ s.n
  ws_lt : ∀ i, s.ws i < 18446744073709551616
  hx_lt : ∀ i, s.hx i < 18446744073709551616
  kinds : ∀ i, i < s.m → s.lk i = 1 ∨ s.lk i = 2 ∨ s.lk i = 3
  lens : ∀ i, i < s.m → 0 ≤ s.ln i ∧ s.ln i ≤ 65536

namespace HpIs
variable {w w' : World} {s : St}
theorem c0 (h : HpIs w s) : w.cell? ⟨s.g, 0, none⟩ = some (.slice (some ⟨s.gw, 0, none⟩) s.n s.n) := h.blk.cell (by omega)
theorem c1 (h : HpIs w s) : w.cell? ⟨s.g, 1, none⟩ = some (.int .i64 s.top) := h.blk.cell (by omega)
theorem c3 (h : HpIs w s) : w.cell? ⟨s.g, 1026, none⟩ = some (.slice (some ⟨s.gl, 0, none⟩) s.m s.m) := h.blk.cell (by omega)
theorem cx (h : HpIs w s) (k : Nat) (hk : k < 1024) : w.cell? ⟨s.g, 2 + k, none⟩ = some (.int .u64 (s.hx k)) := by
  rw [h.blk.cell (by omega)]; unfold St.cell
  rw [if_neg (by omega), if_neg (by omega), if_neg (by omega)]; simp
theorem cw (h : HpIs w s) (k : Nat) (hk : k < s.n) : w.cell? ⟨s.gw, k, none⟩ = some (.int .u64 (s.ws k)) := h.words.cell hk
theorem ck (h : HpIs w s) (k : Nat) (hk : k < s.m) : w.cell? ⟨s.gl, k * 2, none⟩ = some (.int .i64 (s.lk k)) := by
  rw [h.lays.cell (by omega)]; unfold St.lay
  rw [if_pos (by omega), show k * 2 / 2 = k by omega]
theorem cn (h : HpIs w s) (k : Nat) (hk : k < s.m) : w.cell? ⟨s.gl, k * 2 + 1, none⟩ = some (.int .i64 (s.ln k)) := by
  rw [h.lays.cell (by omega)]; unfold St.lay
  rw [if_neg (by omega), show (k * 2 + 1) / 2 = k by omega]
theorem rowIs_ne {f f' : Nat → Value} {n n' g g' : Nat} {t t' : TypeId} (h : w.rowIs g t n f) (h' : w.rowIs g' t' n' f') (hne : t ≠ t') : g ≠ g' := by
  rintro rfl
  obtain ⟨c, hb, _⟩ := h; obtain ⟨c', hb', _⟩ := h'
  rw [hb] at hb'; injection hb' with hb'; injection hb' with _ e; exact hne e
theorem ne_gw (h : HpIs w s) : s.g ≠ s.gw := rowIs_ne h.blk h.words (by decide)
theorem ne_gl (h : HpIs w s) : s.g ≠ s.gl := rowIs_ne h.blk h.lays (by decide)
theorem ne_wl (h : HpIs w s) : s.gw ≠ s.gl := rowIs_ne h.words h.lays (by decide)
theorem drewN (h : HpIs w s) (k : Nat) : HpIs (w.drewN k) s := { h with blk := h.blk, words := h.words, lays := h.lays }
theorem alloc (h : HpIs w s) (o : Obj) : HpIs (w.alloc o) s := { h with blk := h.blk.alloc o, words := h.words.alloc o, lays := h.lays.alloc o }
theorem keep {S : Nat → Prop} (h : HpIs w s) (t : Turn S w w') (h1 : ¬ S s.g) (h2 : ¬ S s.gw) (h3 : ¬ S s.gl) : HpIs w' s :=
  { h with blk := h.blk.of_block (t.block _ h.blk.lt h1), words := h.words.of_block (t.block _ h.words.lt h2), lays := h.lays.of_block (t.block _ h.lays.lt h3) }
theorem still (h : HpIs w s) (t : Still w w') : HpIs w' s := h.keep t (fun e => e) (fun e => e) (fun e => e)
end HpIs

theorem kind_nil (sh : Int) (w : World) : Calls Try.prog 75 #[.pointer none, .int .i64 sh] w fun e w' => e = .returned (.int .i64 0) ∧ w' = w := by
  go_enter Try.func75, Try.ntmps75
  go_wp2
  go_ret
  exact ⟨rfl, rfl⟩
theorem kind_out (s : St) (sh : Int) (w : World) (h : HpIs w s) (hs : sh < 0 ∨ (s.m : Int) ≤ sh) : Calls Try.prog 75 #[s.ptr, .int .i64 sh] w fun e w' => e = .returned (.int .i64 0) ∧ w' = w := by
  have c3 := h.c3
  have hm := h.m_le
  by_cases h0 : sh < 0
  · go_enter Try.func75, Try.ntmps75
    go_wp2
    go_ret
    exact ⟨rfl, rfl⟩
  · have h1 : (s.m : Int) ≤ sh := by omega
    clear hs h
    go_enter Try.func75, Try.ntmps75
    go_wp2
    go_ret
    exact ⟨rfl, rfl⟩
theorem kind_in (s : St) (k : Nat) (w : World) (h : HpIs w s) (hs : k < s.m) : Calls Try.prog 75 #[s.ptr, .int .i64 k] w fun e w' => e = .returned (.int .i64 (s.lk k)) ∧ w' = w := by
  have c3 := h.c3
  have ck := h.ck k hs
  have hm := h.m_le
  clear h
  go_enter Try.func75, Try.ntmps75
  go_wp2
  go_ret
  exact ⟨rfl, rfl⟩
theorem kind_any (s : St) (sh : Int) (w : World) (h : HpIs w s) : Calls Try.prog 75 #[s.ptr, .int .i64 sh] w fun e w' => e = .returned (.int .i64 (s.kind sh)) ∧ w' = w := by
  unfold St.kind
  by_cases hs : 0 ≤ sh ∧ sh < s.m
  · obtain ⟨k, rfl⟩ := Int.eq_ofNat_of_zero_le hs.1
    rw [if_pos hs]
    exact kind_in s k w h (by omega)
  · rw [if_neg hs]
    exact kind_out s sh w h (by omega)
end Go.Proofs.Ythfkgkddklnnhaa
/- Contracts of layer 2's calls that only read: Need, Is, Fits, Size, Top, Load, and of what they call. -/
namespace Go.Proofs.Ythfkgkddklnnhaa
set_option linter.unusedVariables false
open Go.ChangeShapes Go.WideShapes Go.ChangeAt Go.RowKit
open M (W)

/-- How many words an object of a kind needs, n of it, N being its layout's; and the error. -/
def M.need (kind N n : Int) : Int := if kind = 0 ∨ n < 0 ∨ (kind = 1 ∧ n ≠ N) then 0 else if 65536 < n then 0 else if kind = 3 then 1 + (n + 7) / 8 else 1 + n
def M.needE (kind N n : Int) : Int := if kind = 0 ∨ n < 0 ∨ (kind = 1 ∧ n ≠ N) then 1 else if 65536 < n then 2 else 0
def St.need (s : St) (sh n : Int) : Int := M.need (s.kind sh) (s.len sh) n
def St.needE (s : St) (sh n : Int) : Int := M.needE (s.kind sh) (s.len sh) n

theorem wordsOf_any (n : Int) (w : World) (h0 : 0 ≤ n) (h1 : n ≤ 65536) : Calls Try.prog 86 #[.int .i64 n] w fun e w' => e = .returned (.int .i64 ((n + 7) / 8)) ∧ w' = w := by
  go_enter Try.func86, Try.ntmps86
  go_wp2
  go_ret
  exact ⟨ret_int (by omega), rfl⟩

theorem ret_pair {a b c d : Int} {w : World} (h : a = c) (k : b = d) : Ending.returned (.tuple #[.int .i64 a, .int .i64 b]) = .returned (.tuple #[.int .i64 c, .int .i64 d]) ∧ w = w := by rw [h, k]; exact ⟨rfl, rfl⟩

theorem need_nil (sh n : Int) (w : World) : Calls Try.prog 59 #[.pointer none, .int .i64 sh, .int .i64 n] w fun e w' => e = .returned (.tuple #[.int .i64 0, .int .i64 1]) ∧ w' = w := by
  go_enter Try.func59, Try.ntmps59
  go_wp2_with (go_at_call 75; (with_reducible refine (kind_nil _ _).mono ?_); rintro e w ⟨rfl, rfl⟩)
  go_ret2
  exact ⟨rfl, rfl⟩
theorem need_out (s : St) (sh n : Int) (w : World) (h : HpIs w s) (hs : s.kind sh = 0) : Calls Try.prog 59 #[s.ptr, .int .i64 sh, .int .i64 n] w fun e w' => e = .returned (.tuple #[.int .i64 0, .int .i64 1]) ∧ w' = w := by
  have HK := kind_any s sh w h
  rw [hs] at HK
  clear h hs
  go_enter Try.func59, Try.ntmps59
  go_wp2_with (go_at_call 75; (with_reducible refine HK.mono ?_); rintro e w ⟨rfl, rfl⟩)
  go_ret2
  exact ⟨rfl, rfl⟩
theorem need_in (s : St) (k : Nat) (n : Int) (w : World) (h : HpIs w s) (hk : k < s.m) : Calls Try.prog 59 #[s.ptr, .int .i64 k, .int .i64 n] w fun e w' => e = .returned (.tuple #[.int .i64 (M.need (s.lk k) (s.ln k) n), .int .i64 (M.needE (s.lk k) (s.ln k) n)]) ∧ w' = w := by
  have HK := kind_in s k w h hk
  have c3 := h.c3
  have cn := h.cn k hk
  have hm := h.m_le
  have hkk := h.kinds k hk
  generalize s.lk k = K at *
  generalize s.ln k = N at *
  clear h
  by_cases hn : n < 0
  · have hz : ((K : Int) == 0) = false := by simp; omega
    go_enter Try.func59, Try.ntmps59
    go_wp2_with (go_at_call 75; (with_reducible refine HK.mono ?_); rintro e w ⟨rfl, rfl⟩)
    go_ret2
    exact ret_pair (by unfold M.need; rw [if_pos (by omega)]) (by unfold M.needE; rw [if_pos (by omega)])
  by_cases h1 : K = 1
  · subst h1
    by_cases hN : n = N
    · subst hN
      have hne : ((n : Int) != n) = false := by simp
      by_cases hb : 65536 < n
      · go_enter Try.func59, Try.ntmps59
        go_wp2_with (go_at_call 75; (with_reducible refine HK.mono ?_); rintro e w ⟨rfl, rfl⟩)
        go_ret2
        exact ret_pair (by unfold M.need; rw [if_neg (by omega), if_pos hb]) (by unfold M.needE; rw [if_neg (by omega), if_pos hb])
      · go_enter Try.func59, Try.ntmps59
        go_wp2_with (go_at_call 75; (with_reducible refine HK.mono ?_); rintro e w ⟨rfl, rfl⟩)
        go_ret2
        exact ret_pair (by unfold M.need; rw [if_neg (by omega), if_neg (by omega), if_neg (by omega)]) (by unfold M.needE; rw [if_neg (by omega), if_neg (by omega)])
    · have hne : ((n : Int) != N) = true := by simpa using hN
      go_enter Try.func59, Try.ntmps59
      go_wp2_with (go_at_call 75; (with_reducible refine HK.mono ?_); rintro e w ⟨rfl, rfl⟩)
      go_ret2
      exact ret_pair (by unfold M.need; rw [if_pos (by omega)]) (by unfold M.needE; rw [if_pos (by omega)])
  · by_cases hb : 65536 < n
    · rcases hkk with rfl | rfl | rfl
      · exact absurd rfl h1
      all_goals
        go_enter Try.func59, Try.ntmps59
        go_wp2_with (go_at_call 75; (with_reducible refine HK.mono ?_); rintro e w ⟨rfl, rfl⟩)
        go_ret2
        exact ret_pair (by unfold M.need; rw [if_neg (by omega), if_pos hb]) (by unfold M.needE; rw [if_neg (by omega), if_pos hb])
    · rcases hkk with rfl | rfl | rfl
      · exact absurd rfl h1
      · go_enter Try.func59, Try.ntmps59
        go_wp2_with (go_at_call 75; (with_reducible refine HK.mono ?_); rintro e w ⟨rfl, rfl⟩)
        go_ret2
        exact ret_pair (by unfold M.need; rw [if_neg (by omega), if_neg (by omega), if_neg (by omega)]) (by unfold M.needE; rw [if_neg (by omega), if_neg (by omega)])
      · go_enter Try.func59, Try.ntmps59
        go_wp2_with (first
          | (go_at_call 75; (with_reducible refine HK.mono ?_); rintro e w ⟨rfl, rfl⟩)
          | (go_at_call 86; (with_reducible refine (wordsOf_any _ _ (by omega) (by omega)).mono ?_); rintro e w ⟨rfl, rfl⟩))
        go_ret2
        exact ret_pair (by unfold M.need; rw [if_neg (by omega), if_neg (by omega), if_pos (by omega)]) (by unfold M.needE; rw [if_neg (by omega), if_neg (by omega)])
theorem need_any (s : St) (sh n : Int) (w : World) (h : HpIs w s) : Calls Try.prog 59 #[s.ptr, .int .i64 sh, .int .i64 n] w fun e w' => e = .returned (.tuple #[.int .i64 (s.need sh n), .int .i64 (s.needE sh n)]) ∧ w' = w := by
  unfold St.need St.needE
  by_cases hs : 0 ≤ sh ∧ sh < s.m
  · obtain ⟨k, rfl⟩ := Int.eq_ofNat_of_zero_le hs.1
    unfold St.kind St.len
    rw [if_pos hs, if_pos hs]
    exact need_in s k n w h (by omega)
  · have hk : s.kind sh = 0 := by unfold St.kind; rw [if_neg hs]
    rw [hk]
    exact (need_out s sh n w h hk).mono fun _ _ ⟨he, hw⟩ => ⟨by rw [he]; simp [M.need, M.needE], hw⟩

/-! bits -/
theorem bit_at (x j : Nat) (hx : x < 18446744073709551616) (hj : j < 64) : (bits .and .u64 ((x : Int) / ((2 : Int) ^ j)) 1 == 1) = x.testBit j := by
  have h2 : ((2 : Int) ^ j) = ((2 ^ j : Nat) : Int) := by simp
  have h3 : (x : Int) / ((2 : Int) ^ j) = ((x / 2 ^ j : Nat) : Int) := by rw [h2]; simp
  have h4 : x / 2 ^ j < 18446744073709551616 := Nat.lt_of_le_of_lt (Nat.div_le_self x (2 ^ j)) hx
  rw [h3]
  generalize hq : x / 2 ^ j = q at *
  rw [M.and1 _ (by omega) (by omega), Nat.testBit_eq_decide_div_mod_eq, hq, Bool.eq_iff_iff]
  simp
  omega

theorem has_out (g o : Nat) (i : Int) (w : World) (hi : i < 0 ∨ 65536 ≤ i) : Calls Try.prog 71 #[.pointer (some ⟨g, o, none⟩), .int .i64 i] w fun e w' => e = .returned (.bool false) ∧ w' = w := by
  by_cases h0 : i < 0
  · clear hi
    go_enter Try.func71, Try.ntmps71
    go_wp2
    go_ret
    exact ⟨rfl, rfl⟩
  · have h1 : 65536 ≤ i := by omega
    clear hi
    go_enter Try.func71, Try.ntmps71
    go_wp2
    go_ret
    exact ⟨rfl, rfl⟩
theorem has_in0 (g o : Nat) (i x : Int) (w : World) (h0 : 0 ≤ i) (h1 : i < 65536) (hc : w.cell? ⟨g, o + (i / 64).toNat, none⟩ = some (.int .u64 x)) : Calls Try.prog 71 #[.pointer (some ⟨g, o, none⟩), .int .i64 i] w fun e w' => e = .returned (.bool (bits .and .u64 (x / 2 ^ (i % 64).toNat) 1 == 1)) ∧ w' = w := by
  have q0 : 0 ≤ i / 64 := by omega
  have q1 : i / 64 < 1024 := by omega
  have r0 : 0 ≤ i % 64 := by omega
  have r1 : i % 64 < 64 := by omega
  go_enter Try.func71, Try.ntmps71
  go_wp2
  go_ret
  exact ⟨rfl, rfl⟩
/-- A set of places that stands at an address: its words x. -/
def SetAt (w : World) (g o : Nat) (x : Nat → Nat) : Prop := ∀ k, k < 1024 → w.cell? ⟨g, o + k, none⟩ = some (.int .u64 (x k)) ∧ x k < 18446744073709551616
def M.inSet (x : Nat → Nat) (k : Int) : Bool := decide (0 ≤ k) && decide (k < 65536) && (x (k.toNat / 64)).testBit (k.toNat % 64)
theorem HpIs.set {w : World} {s : St} (h : HpIs w s) : SetAt w s.g 2 s.hx := fun k hk => ⟨h.cx k hk, h.hx_lt k⟩
theorem has_any (g o : Nat) (x : Nat → Nat) (i : Int) (w : World) (h : SetAt w g o x) : Calls Try.prog 71 #[.pointer (some ⟨g, o, none⟩), .int .i64 i] w fun e w' => e = .returned (.bool (M.inSet x i)) ∧ w' = w := by
  unfold M.inSet
  by_cases hi : i < 0 ∨ 65536 ≤ i
  · have : (decide (0 ≤ i) && decide (i < 65536)) = false := by simp; omega
    rw [this]
    exact has_out g o i w hi
  · have : (decide (0 ≤ i) && decide (i < 65536)) = true := by simp; omega
    rw [this]
    have e1 : (i / 64).toNat = i.toNat / 64 := by omega
    have e2 : (i % 64).toNat = i.toNat % 64 := by omega
    obtain ⟨hc, hx⟩ := h (i.toNat / 64) (by omega)
    refine (has_in0 g o i (x (i.toNat / 64)) w (by omega) (by omega) (by rw [e1]; exact hc)).mono fun _ _ ⟨he, hw⟩ => ⟨?_, hw⟩
    rw [he, e2, bit_at _ _ hx (by omega)]; rfl
theorem is_nil (i : Int) (w : World) : Calls Try.prog 91 #[.pointer none, .int .i64 i] w fun e w' => e = .returned (.bool false) ∧ w' = w := by
  go_enter Try.func91, Try.ntmps91
  go_wp2
  go_ret
  exact ⟨rfl, rfl⟩
theorem is_any (s : St) (i : Int) (w : World) (h : HpIs w s) : Calls Try.prog 91 #[s.ptr, .int .i64 i] w fun e w' => e = .returned (.bool (s.is i)) ∧ w' = w := by
  have HH := has_any s.g 2 s.hx i w h.set
  clear h
  go_enter Try.func91, Try.ntmps91
  go_wp2_with (go_at_call 71; (with_reducible refine HH.mono ?_); rintro e w ⟨rfl, rfl⟩)
  go_ret
  exact ⟨rfl, rfl⟩
/-- May w be a field, if heads stand at x? -/
def M.fits (x : Nat → Nat) (v : Int) : Bool := (v % 2 == 1) || M.inSet x (v / 2)
def St.fits (s : St) (v : Int) : Bool := M.fits s.hx v
theorem pfits_any (g o : Nat) (x : Nat → Nat) (v : Int) (w : World) (h : SetAt w g o x) (v0 : 0 ≤ v) (v1 : v < 18446744073709551616) : Calls Try.prog 89 #[.pointer (some ⟨g, o, none⟩), .int .u64 v] w fun e w' => e = .returned (.bool (M.fits x v)) ∧ w' = w := by
  have HH := has_any g o x (v / 2) w h
  have HI := isImm_any v w v0 v1
  have HA := at_any v w v0 v1
  unfold M.fits
  clear h
  by_cases ho : v % 2 = 1
  · have e : (v % 2 == 1) = true := by simpa using ho
    rw [e] at HI ⊢
    clear ho e
    go_enter Try.func89, Try.ntmps89
    go_wp2_with (go_at_call 49; (with_reducible refine HI.mono ?_); rintro e w ⟨rfl, rfl⟩)
    go_ret
    exact ⟨rfl, rfl⟩
  · have e : (v % 2 == 1) = false := by simpa using ho
    rw [e] at HI ⊢
    clear ho e
    go_enter Try.func89, Try.ntmps89
    go_wp2_with (first
      | (go_at_call 49; (with_reducible refine HI.mono ?_); rintro e w ⟨rfl, rfl⟩)
      | (go_at_call 51; (with_reducible refine HA.mono ?_); rintro e w ⟨rfl, rfl⟩)
      | (go_at_call 71; (with_reducible refine HH.mono ?_); rintro e w ⟨rfl, rfl⟩))
    go_ret
    exact ⟨rfl, rfl⟩
theorem fits_nil (v : Int) (w : World) : Calls Try.prog 64 #[.pointer none, .int .u64 v] w fun e w' => e = .returned (.bool false) ∧ w' = w := by
  go_enter Try.func64, Try.ntmps64
  go_wp2
  go_ret
  exact ⟨rfl, rfl⟩
theorem fits_any (s : St) (v : Int) (w : World) (h : HpIs w s) (v0 : 0 ≤ v) (v1 : v < 18446744073709551616) : Calls Try.prog 64 #[s.ptr, .int .u64 v] w fun e w' => e = .returned (.bool (s.fits v)) ∧ w' = w := by
  have HH := pfits_any s.g 2 s.hx v w h.set v0 v1
  clear h
  go_enter Try.func64, Try.ntmps64
  go_wp2_with (go_at_call 89; (with_reducible refine HH.mono ?_); rintro e w ⟨rfl, rfl⟩)
  go_ret
  exact ⟨rfl, rfl⟩
theorem size_nil (w : World) : Calls Try.prog 31 #[.pointer none] w fun e w' => e = .returned (.int .i64 0) ∧ w' = w := by
  go_enter Try.func31, Try.ntmps31
  go_wp2
  go_ret
  exact ⟨rfl, rfl⟩
theorem size_any (s : St) (w : World) (h : HpIs w s) : Calls Try.prog 31 #[s.ptr] w fun e w' => e = .returned (.int .i64 s.n) ∧ w' = w := by
  have c0 := h.c0
  have hn := h.n_le
  clear h
  go_enter Try.func31, Try.ntmps31
  go_wp2
  go_ret
  exact ⟨rfl, rfl⟩
theorem top_nil (w : World) : Calls Try.prog 12 #[.pointer none] w fun e w' => e = .returned (.int .i64 0) ∧ w' = w := by
  go_enter Try.func12, Try.ntmps12
  go_wp2
  go_ret
  exact ⟨rfl, rfl⟩
theorem top_any (s : St) (w : World) (h : HpIs w s) : Calls Try.prog 12 #[s.ptr] w fun e w' => e = .returned (.int .i64 s.top) ∧ w' = w := by
  have c1 := h.c1
  clear h
  go_enter Try.func12, Try.ntmps12
  go_wp2
  go_ret
  exact ⟨rfl, rfl⟩
theorem load_nil (i : Int) (w : World) : Calls Try.prog 14 #[.pointer none, .int .i64 i] w fun e w' => e = .returned (.int .u64 0) ∧ w' = w := by
  by_cases hi : i < 0
  all_goals
    go_enter Try.func14, Try.ntmps14
    go_wp2_with (go_at_call 31; (with_reducible refine (size_nil _).mono ?_); rintro e w ⟨rfl, rfl⟩)
    go_ret
    exact ⟨rfl, rfl⟩
theorem load_out (s : St) (i : Int) (w : World) (h : HpIs w s) (hi : i < 0 ∨ (s.n : Int) ≤ i) : Calls Try.prog 14 #[s.ptr, .int .i64 i] w fun e w' => e = .returned (.int .u64 0) ∧ w' = w := by
  have HS := size_any s w h
  clear h
  by_cases h0 : i < 0
  · clear hi
    go_enter Try.func14, Try.ntmps14
    go_wp2_with (go_at_call 31; (with_reducible refine HS.mono ?_); rintro e w ⟨rfl, rfl⟩)
    go_ret
    exact ⟨rfl, rfl⟩
  · have h1 : (s.n : Int) ≤ i := by omega
    clear hi
    go_enter Try.func14, Try.ntmps14
    go_wp2_with (go_at_call 31; (with_reducible refine HS.mono ?_); rintro e w ⟨rfl, rfl⟩)
    go_ret
    exact ⟨rfl, rfl⟩
theorem load_in (s : St) (k : Nat) (w : World) (h : HpIs w s) (hk : k < s.n) : Calls Try.prog 14 #[s.ptr, .int .i64 k] w fun e w' => e = .returned (.int .u64 (s.ws k)) ∧ w' = w := by
  have HS := size_any s w h
  have c0 := h.c0
  have cw := h.cw k hk
  have hn := h.n_le
  clear h
  go_enter Try.func14, Try.ntmps14
  go_wp2_with (go_at_call 31; (with_reducible refine HS.mono ?_); rintro e w ⟨rfl, rfl⟩)
  go_ret
  exact ⟨rfl, rfl⟩
end Go.Proofs.Ythfkgkddklnnhaa
/- Contracts of layer 2's objects: read, object, field, octet. -/
namespace Go.Proofs.Ythfkgkddklnnhaa
set_option linter.unusedVariables false
open Go.ChangeShapes Go.WideShapes Go.ChangeAt Go.RowKit
open M (W)

def M.sh (x : Int) : Int := M.fld x 2 1048576
def M.ln (x : Int) : Int := M.fld x 2097152 1048576
theorem M.sh_lo (x : Int) : 0 ≤ M.sh x := M.fld_lo _ _ _ (by decide)
theorem M.ln_lo (x : Int) : 0 ≤ M.ln x := M.fld_lo _ _ _ (by decide)
theorem M.sh_hi (x : Int) : M.sh x < 1048576 := M.fld_hi _ _ _ (by decide)
theorem M.ln_hi (x : Int) : M.ln x < 1048576 := M.fld_hi _ _ _ (by decide)

/-- What a word says if it is taken as a head. -/
structure Ob where
  sh : Int
  kind : Int
  n : Int
  need : Int
def Ob.val (o : Ob) : Value := .agg #[.int .i64 o.sh, .int .i64 o.kind, .int .i64 o.n, .int .i64 o.need]
def St.ob (s : St) (x : Int) : Ob := ⟨M.sh x, s.kind (M.sh x), M.ln x, s.need (M.sh x) (M.ln x)⟩
def St.obE (s : St) (x : Int) : Int := s.needE (M.sh x) (M.ln x)

set_option maxHeartbeats 1000000 in
theorem read_ok (s : St) (k : Nat) (top : Int) (w : World) (h : HpIs w s) (hk : k < s.n) (ht : top ≤ 65536) (h0 : -65536 ≤ top) (he : s.obE (s.ws k) = 0) (hn : (s.ob (s.ws k)).need ≤ top - k) :
    Calls Try.prog 90 #[s.ptr, .int .i64 k, .int .i64 top] w fun e w' => e = .returned (.tuple #[(s.ob (s.ws k)).val, .bool true]) ∧ Still w w' := by
  have c0 := h.c0
  have cw := h.cw k hk
  have hg := h.blk.lt
  have hgw := h.words.lt
  have hnn := h.n_le
  have hx := h.ws_lt k
  have HS := fun W => shape_any (s.ws k) W (by omega) (by omega)
  have HL := fun W => len_any (s.ws k) W (by omega) (by omega)
  have l1 := M.sh_lo (s.ws k)
  have l2 := M.ln_lo (s.ws k)
  have HN := fun W (hW : HpIs W s) => need_any s (M.sh (s.ws k)) (M.ln (s.ws k)) W hW
  have HK := fun W (hW : HpIs W s) => kind_any s (M.sh (s.ws k)) W hW
  unfold St.obE at he
  unfold St.ob Ob.val at *
  simp only at hn ⊢
  rw [he] at HN
  change ∀ W, Calls _ _ _ W fun e w' => e = .returned (.int .i64 (M.sh (s.ws k))) ∧ w' = W at HS
  change ∀ W, Calls _ _ _ W fun e w' => e = .returned (.int .i64 (M.ln (s.ws k))) ∧ w' = W at HL
  generalize M.sh (s.ws k) = A at *
  generalize M.ln (s.ws k) = B at *
  generalize s.need A B = D at *
  generalize s.kind A = K at *
  clear he
  go_enter Try.func90, Try.ntmps90
  go_wp2_with fail
  refine (HS _).mono ?_; rintro e w1 ⟨rfl, rfl⟩
  go_wp2_with fail
  refine (HL _).mono ?_; rintro e w1 ⟨rfl, rfl⟩
  go_wp2_with fail
  refine (HN _ ((h.alloc _).alloc _)).mono ?_; rintro e w1 ⟨rfl, rfl⟩
  go_wp2_with fail
  refine (HK _ ((h.alloc _).alloc _)).mono ?_; rintro e w1 ⟨rfl, rfl⟩
  go_wp2_with fail
  refine bodyPost_ret (v := .tuple #[.agg #[.int .i64 A, .int .i64 K, .int .i64 B, .int .i64 D], .bool true]) (by simp [results, Try.results90, go_sem]) rfl ⟨rfl, ?_⟩
  exact ((Turn.refl _ _).alloc _).alloc _

def Ob.none : Value := .agg #[.int .i64 0, .int .i64 0, .int .i64 0, .int .i64 0]
set_option maxHeartbeats 1000000 in
theorem read_bad (s : St) (k : Nat) (top : Int) (w : World) (h : HpIs w s) (hk : k < s.n) (ht : top ≤ 65536) (h0 : -65536 ≤ top) (hb : s.obE (s.ws k) ≠ 0 ∨ top - k < (s.ob (s.ws k)).need) :
    Calls Try.prog 90 #[s.ptr, .int .i64 k, .int .i64 top] w fun e w' => e = .returned (.tuple #[Ob.none, .bool false]) ∧ Still w w' := by
  have c0 := h.c0
  have cw := h.cw k hk
  have hg := h.blk.lt
  have hgw := h.words.lt
  have hnn := h.n_le
  have hx := h.ws_lt k
  have HS := fun W => shape_any (s.ws k) W (by omega) (by omega)
  have HL := fun W => len_any (s.ws k) W (by omega) (by omega)
  have l1 := M.sh_lo (s.ws k)
  have l2 := M.ln_lo (s.ws k)
  have HN := fun W (hW : HpIs W s) => need_any s (M.sh (s.ws k)) (M.ln (s.ws k)) W hW
  unfold St.obE at hb
  unfold St.ob Ob.none at *
  simp only at hb
  change ∀ W, Calls _ _ _ W fun e w' => e = .returned (.int .i64 (M.sh (s.ws k))) ∧ w' = W at HS
  change ∀ W, Calls _ _ _ W fun e w' => e = .returned (.int .i64 (M.ln (s.ws k))) ∧ w' = W at HL
  generalize M.sh (s.ws k) = A at *
  generalize M.ln (s.ws k) = B at *
  generalize s.need A B = D at *
  generalize s.needE A B = E at *
  by_cases hE : E = 0
  · subst hE
    have hD : top - k < D := by omega
    clear hb
    go_enter Try.func90, Try.ntmps90
    go_wp2_with fail
    refine (HS _).mono ?_; rintro e w1 ⟨rfl, rfl⟩
    go_wp2_with fail
    refine (HL _).mono ?_; rintro e w1 ⟨rfl, rfl⟩
    go_wp2_with fail
    refine (HN _ ((h.alloc _).alloc _)).mono ?_; rintro e w1 ⟨rfl, rfl⟩
    go_wp2_with fail
    refine bodyPost_ret (v := .tuple #[.agg #[.int .i64 0, .int .i64 0, .int .i64 0, .int .i64 0], .bool false]) (by simp [results, Try.results90, go_sem]) rfl ⟨rfl, ?_⟩
    exact ((Turn.refl _ _).alloc _).alloc _
  · have hz : ((E : Int) != 0) = true := by simpa using hE
    clear hb hE
    go_enter Try.func90, Try.ntmps90
    go_wp2_with fail
    refine (HS _).mono ?_; rintro e w1 ⟨rfl, rfl⟩
    go_wp2_with fail
    refine (HL _).mono ?_; rintro e w1 ⟨rfl, rfl⟩
    go_wp2_with fail
    refine (HN _ ((h.alloc _).alloc _)).mono ?_; rintro e w1 ⟨rfl, rfl⟩
    go_wp2_with fail
    refine bodyPost_ret (v := .tuple #[.agg #[.int .i64 0, .int .i64 0, .int .i64 0, .int .i64 0], .bool false]) (by simp [results, Try.results90, go_sem]) rfl ⟨rfl, ?_⟩
    exact ((Turn.refl _ _).alloc _).alloc _

/-- A block of four cells of the call's own, behind a call that turned nothing. -/
theorem still4 {W w1 : World} {a b c d : Value} {t : TypeId} (ht : Still (W.alloc (.cells #[a, b, c, d] t)) w1) :
    w1.cell? ⟨W.heap.size, 0, none⟩ = some a ∧ w1.cell? ⟨W.heap.size, 1, none⟩ = some b ∧ w1.cell? ⟨W.heap.size, 2, none⟩ = some c ∧ w1.cell? ⟨W.heap.size, 3, none⟩ = some d ∧
      (∀ o, w1.frozen? ⟨W.heap.size, o, none⟩ = false) ∧ W.heap.size < w1.heap.size := by
  have hb := ht.blk (Blk.new W t #[a, b, c, d])
  exact ⟨hb.cell 0, hb.cell 1, hb.cell 2, hb.cell 3, hb.frozen, hb.lt⟩
theorem own_set {S : Nat → Prop} {w w' : World} (h : Turn S w w') (o : Nat) (u : Value) {b : Nat} (hb : w.heap.size ≤ b) : Turn S w (w'.setCell ⟨b, o, none⟩ u) := h.setCell (fun e => absurd e (Nat.not_lt.2 hb)) u
/-- Is what stands at a place read as an object up to top? -/
def St.reads (s : St) (k : Nat) (top : Int) : Bool := decide (s.obE (s.ws k) = 0) && decide ((s.ob (s.ws k)).need ≤ top - k)
theorem object_nil (i : Int) (w : World) : Calls Try.prog 72 #[.pointer none, .int .i64 i] w fun e w' => e = .returned (.tuple #[Ob.none, .bool false]) ∧ Still w w' := by
  unfold Ob.none
  go_enter Try.func72, Try.ntmps72
  go_wp2_with (go_at_call 91; (with_reducible refine (is_nil _ _).mono ?_); rintro e w ⟨rfl, rfl⟩)
  refine bodyPost_ret (v := .tuple #[.agg #[.int .i64 0, .int .i64 0, .int .i64 0, .int .i64 0], .bool false]) (by simp [results, Try.results72, go_sem]) rfl ⟨rfl, ?_⟩
  exact ((Turn.refl _ _).alloc _)
theorem object_no (s : St) (i : Int) (w : World) (h : HpIs w s) (hi : s.is i = false) : Calls Try.prog 72 #[s.ptr, .int .i64 i] w fun e w' => e = .returned (.tuple #[Ob.none, .bool false]) ∧ Still w w' := by
  have HI := fun W (hW : HpIs W s) => is_any s i W hW
  rw [hi] at HI
  unfold Ob.none
  clear hi
  go_enter Try.func72, Try.ntmps72
  go_wp2_with fail
  refine (HI _ (h.alloc _)).mono ?_; rintro e w1 ⟨rfl, rfl⟩
  go_wp2_with fail
  refine bodyPost_ret (v := .tuple #[.agg #[.int .i64 0, .int .i64 0, .int .i64 0, .int .i64 0], .bool false]) (by simp [results, Try.results72, go_sem]) rfl ⟨rfl, ?_⟩
  exact ((Turn.refl _ _).alloc _)
theorem object_ok (s : St) (k : Nat) (w : World) (h : HpIs w s) (hi : s.is k = true) (hk : k < s.n) (hr : s.reads k s.n = true) : Calls Try.prog 72 #[s.ptr, .int .i64 k] w fun e w' => e = .returned (.tuple #[(s.ob (s.ws k)).val, .bool true]) ∧ Still w w' := by
  have HI := fun W (hW : HpIs W s) => is_any s k W hW
  have hnn := h.n_le
  have c0 := h.c0
  have hg := h.blk.lt
  unfold St.reads at hr
  simp only [Bool.and_eq_true, decide_eq_true_eq] at hr
  have HR := fun W (hW : HpIs W s) => read_ok s k s.n W hW hk (by omega) (by omega) hr.1 hr.2
  rw [hi] at HI
  clear hi hr
  unfold Ob.val at *
  generalize s.ob (s.ws k) = o at *
  go_enter Try.func72, Try.ntmps72
  go_wp2_with fail
  refine (HI _ (h.alloc _)).mono ?_; rintro e w1 ⟨rfl, rfl⟩
  go_wp2_with fail
  refine (HR _ (h.alloc _)).mono ?_; rintro e w1 ⟨rfl, ht⟩
  obtain ⟨d0, d1, d2, d3, df, dl⟩ := still4 ht
  have HT := Lib.hid ht; clear ht
  go_wp2_with fail
  refine bodyPost_ret (v := .tuple #[.agg #[.int .i64 o.sh, .int .i64 o.kind, .int .i64 o.n, .int .i64 o.need], .bool true]) (by simp [results, Try.results72, go_sem, d0, d1, d2, d3]) rfl ⟨rfl, ?_⟩
  exact own_set (own_set (own_set (own_set (((Turn.refl _ _).alloc _).trans (Still.turn HT.out)) _ _ (Nat.le_refl _)) _ _ (Nat.le_refl _)) _ _ (Nat.le_refl _)) _ _ (Nat.le_refl _)
theorem object_bad (s : St) (k : Nat) (w : World) (h : HpIs w s) (hi : s.is k = true) (hk : k < s.n) (hr : s.reads k s.n = false) : Calls Try.prog 72 #[s.ptr, .int .i64 k] w fun e w' => e = .returned (.tuple #[Ob.none, .bool false]) ∧ Still w w' := by
  have HI := fun W (hW : HpIs W s) => is_any s k W hW
  have hnn := h.n_le
  have c0 := h.c0
  have hg := h.blk.lt
  unfold St.reads at hr
  simp only [Bool.and_eq_false_iff, decide_eq_false_iff_not] at hr
  have HR := fun W (hW : HpIs W s) => read_bad s k s.n W hW hk (by omega) (by omega) (by omega)
  rw [hi] at HI
  clear hi hr
  unfold Ob.none at *
  go_enter Try.func72, Try.ntmps72
  go_wp2_with fail
  refine (HI _ (h.alloc _)).mono ?_; rintro e w1 ⟨rfl, rfl⟩
  go_wp2_with fail
  refine (HR _ (h.alloc _)).mono ?_; rintro e w1 ⟨rfl, ht⟩
  obtain ⟨d0, d1, d2, d3, df, dl⟩ := still4 ht
  have HT := Lib.hid ht; clear ht
  go_wp2_with fail
  refine bodyPost_ret (v := .tuple #[.agg #[.int .i64 0, .int .i64 0, .int .i64 0, .int .i64 0], .bool false]) (by simp [results, Try.results72, go_sem, d0, d1, d2, d3]) rfl ⟨rfl, ?_⟩
  exact own_set (own_set (own_set (own_set (((Turn.refl _ _).alloc _).trans (Still.turn HT.out)) _ _ (Nat.le_refl _)) _ _ (Nat.le_refl _)) _ _ (Nat.le_refl _)) _ _ (Nat.le_refl _)
end Go.Proofs.Ythfkgkddklnnhaa
/- Layer 2's calls where no object stands: at a nil heap, and at any other place. -/
namespace Go.Proofs.Ythfkgkddklnnhaa
set_option linter.unusedVariables false
open Go.ChangeShapes Go.WideShapes Go.ChangeAt Go.RowKit
open M (W)

/-- What the call 'object' answers where no object stands, in each world that comes of w without a turn. -/
def NoObj (p : Value) (i : Int) (w : World) : Prop := ∀ W, Still w W → Calls Try.prog 72 #[p, .int .i64 i] W fun e w' => e = .returned (.tuple #[Ob.none, .bool false]) ∧ Still W w'
theorem NoObj.nil (i : Int) (w : World) : NoObj (.pointer none) i w := fun W _ => object_nil i W
theorem NoObj.out {s : St} {i : Int} {w : World} (h : HpIs w s) (hi : s.is i = false) : NoObj s.ptr i w := fun W hW => object_no s i W (h.still hW) hi
theorem NoObj.at {p : Value} {i : Int} {w W : World} (h : NoObj p i w) (hW : Still w W) : NoObj p i W := fun W' hW' => h W' (Turn.trans hW hW')
theorem Still.alloc {w w' : World} (h : Still w w') (o : Obj) : Still w (w'.alloc o) := Turn.alloc h o
theorem Still.trans {a b c : World} (h : Still a b) (k : Still b c) : Still a c := Turn.trans h k

theorem shape_no (p : Value) (i : Int) (w : World) (h : NoObj p i w) : Calls Try.prog 40 #[p, .int .i64 i] w fun e w' => e = .returned (.tuple #[.int .i64 0, .int .i64 1]) ∧ Still w w' := by
  have HO := h w (Still.refl w)
  clear h
  unfold Ob.none at HO
  go_enter Try.func40, Try.ntmps40
  go_wp2_with fail
  refine HO.mono ?_; rintro e w1 ⟨rfl, ht⟩
  have HT := Lib.hid ht; clear ht
  go_wp2_with fail
  go_ret2
  exact ⟨rfl, HT.out.alloc _⟩
theorem len_no (p : Value) (i : Int) (w : World) (h : NoObj p i w) : Calls Try.prog 39 #[p, .int .i64 i] w fun e w' => e = .returned (.tuple #[.int .i64 0, .int .i64 1]) ∧ Still w w' := by
  have HO := h w (Still.refl w)
  clear h
  unfold Ob.none at HO
  go_enter Try.func39, Try.ntmps39
  go_wp2_with fail
  refine HO.mono ?_; rintro e w1 ⟨rfl, ht⟩
  have HT := Lib.hid ht; clear ht
  go_wp2_with fail
  go_ret2
  exact ⟨rfl, HT.out.alloc _⟩
theorem field_no (p : Value) (i j : Int) (w : World) (h : NoObj p i w) : Calls Try.prog 63 #[p, .int .i64 i, .int .i64 j] w fun e w' => e = .returned (.pointer none) ∧ Still w w' := by
  have HO := h w (Still.refl w)
  clear h
  unfold Ob.none at HO
  go_enter Try.func63, Try.ntmps63
  go_wp2_with fail
  refine HO.mono ?_; rintro e w1 ⟨rfl, ht⟩
  have HT := Lib.hid ht; clear ht
  go_wp2_with fail
  go_ret
  exact ⟨rfl, HT.out.alloc _⟩
theorem octet_no (p : Value) (i j : Int) (w : World) (h : NoObj p i w) : Calls Try.prog 85 #[p, .int .i64 i, .int .i64 j] w fun e w' => e = .returned (.tuple #[.pointer none, .int .i64 0]) ∧ Still w w' := by
  have HO := h w (Still.refl w)
  clear h
  unfold Ob.none at HO
  go_enter Try.func85, Try.ntmps85
  go_wp2_with fail
  refine HO.mono ?_; rintro e w1 ⟨rfl, ht⟩
  have HT := Lib.hid ht; clear ht
  go_wp2_with fail
  go_ret2
  exact ⟨rfl, HT.out.alloc _⟩

/-- 'field' answers nil. -/
def NoField (p : Value) (i j : Int) (w : World) : Prop := Calls Try.prog 63 #[p, .int .i64 i, .int .i64 j] w fun e w' => e = .returned (.pointer none) ∧ Still w w'
def NoOctet (p : Value) (i j : Int) (w : World) : Prop := Calls Try.prog 85 #[p, .int .i64 i, .int .i64 j] w fun e w' => e = .returned (.tuple #[.pointer none, .int .i64 0]) ∧ Still w w'
theorem get_no (p : Value) (i j : Int) (w : World) (h : NoField p i j w) : Calls Try.prog 43 #[p, .int .i64 i, .int .i64 j] w fun e w' => e = .returned (.tuple #[.int .u64 0, .int .i64 1]) ∧ Still w w' := by
  unfold NoField at h
  go_enter Try.func43, Try.ntmps43
  go_wp2_with fail
  refine h.mono ?_; rintro e w1 ⟨rfl, ht⟩
  have HT := Lib.hid ht; clear ht
  go_wp2_with fail
  go_ret2
  exact ⟨rfl, HT.out⟩
theorem set_no (p : Value) (i j x : Int) (w : World) (h : NoField p i j w) : Calls Try.prog 28 #[p, .int .i64 i, .int .i64 j, .int .u64 x] w fun e w' => e = .returned (.int .i64 1) ∧ Still w w' := by
  unfold NoField at h
  go_enter Try.func28, Try.ntmps28
  go_wp2_with fail
  refine h.mono ?_; rintro e w1 ⟨rfl, ht⟩
  have HT := Lib.hid ht; clear ht
  go_wp2_with fail
  go_ret
  exact ⟨rfl, HT.out⟩
theorem setByte_no (p : Value) (i j x : Int) (w : World) (h : NoOctet p i j w) : Calls Try.prog 57 #[p, .int .i64 i, .int .i64 j, .int .u8 x] w fun e w' => e = .returned (.int .i64 1) ∧ Still w w' := by
  unfold NoOctet at h
  go_enter Try.func57, Try.ntmps57
  go_wp2_with fail
  refine h.mono ?_; rintro e w1 ⟨rfl, ht⟩
  have HT := Lib.hid ht; clear ht
  go_wp2_with fail
  go_ret
  exact ⟨rfl, HT.out⟩
theorem text_no (p : Value) (i : Int) (w : World) (h : NoObj p i w) : Calls Try.prog 52 #[p, .int .i64 i] w fun e w' => e = .returned (.tuple #[.string ByteArray.empty, .int .i64 1]) ∧ Still w w' := by
  have HO := h w (Still.refl w)
  clear h
  unfold Ob.none at HO
  go_enter Try.func52, Try.ntmps52
  go_wp2_with fail
  refine HO.mono ?_; rintro e w1 ⟨rfl, ht⟩
  have HT := Lib.hid ht; clear ht
  go_wp2_with fail
  go_ret2
  exact ⟨rfl, HT.out.alloc _⟩
theorem alloc_nil (sh n : Int) (w : World) : Calls Try.prog 27 #[.pointer none, .int .i64 sh, .int .i64 n] w fun e w' => e = .returned (.tuple #[.int .i64 0, .int .i64 1]) ∧ Still w w' := by
  go_enter Try.func27, Try.ntmps27
  go_wp2_with (go_at_call 59; (with_reducible refine (need_nil _ _ _).mono ?_); rintro e w ⟨rfl, rfl⟩)
  go_ret2
  exact ⟨rfl, Still.refl _⟩
theorem store_nil (i x : Int) (w : World) : Calls Try.prog 9 #[.pointer none, .int .i64 i, .int .u64 x] w fun e w' => e = .returned (.tuple #[]) ∧ w' = w := by
  by_cases hi : i < 0
  all_goals
    go_enter Try.func9, Try.ntmps9
    go_wp2_with (go_at_call 31; (with_reducible refine (size_nil _).mono ?_); rintro e w ⟨rfl, rfl⟩)
    first | go_end0 | refine bodyPost_ret (results_none rfl _ _ _) rfl ?_
    exact ⟨rfl, rfl⟩
theorem close_nil (i : Int) (w : World) : Calls Try.prog 11 #[.pointer none, .int .i64 i] w fun e w' => e = .returned (.int .i64 1) ∧ w' = w := by
  go_enter Try.func11, Try.ntmps11
  go_wp2
  go_ret
  exact ⟨rfl, rfl⟩
theorem objects_nil (w : World) : Calls Try.prog 38 #[.pointer none] w fun e w' => e = .returned (.slice none 0 0) ∧ w' = w := by
  go_enter Try.func38, Try.ntmps38
  go_wp2_with (go_at_call 12; (with_reducible refine (top_nil _).mono ?_); rintro e w ⟨rfl, rfl⟩)
  refine wp_loop_rounds 1 ?_
  rw [rounds_succ]
  go_wp2
  go_outline
  go_ret
  exact ⟨rfl, rfl⟩
end Go.Proofs.Ythfkgkddklnnhaa
