/- What a heap of layer 2 is in memory: its struct, its words, its layouts. -/
import Derived.Test.YteanlncnhncpbaaHWords
import Derived.Test.YteanlncnhncpbaaFrame
import Derived.Deep.OwnRows
namespace Go.Proofs.Yteanlncnhncpbaa
set_option linter.unusedVariables false
open Go.ChangeShapes Go.WideShapes Go.ChangeAt Go.RowKit
open M (W)

/-- A heap's state: the blocks of its struct, its words, its layouts; the words; where heads stand, as words of 64 bits; the layouts. -/
structure St where
  g : Nat
  gw : Nat
  gl : Nat
  n : Nat
  ws : Nat → Nat
  top : Nat
  hx : Nat → Nat
  m : Nat
  lk : Nat → Int
  ln : Nat → Int

namespace St
variable (s : St)
def is (k : Int) : Bool := decide (0 ≤ k) && decide (k < 65536) && (s.hx (k.toNat / 64)).testBit (k.toNat % 64)
def kind (sh : Int) : Int := if 0 ≤ sh ∧ sh < s.m then s.lk sh.toNat else 0
def len (sh : Int) : Int := if 0 ≤ sh ∧ sh < s.m then s.ln sh.toNat else 0
/-- The struct's cells. -/
def cell (i : Nat) : Value :=
  if i = 0 then .slice (some ⟨s.gw, 0, none⟩) s.n s.n else if i = 1 then .int .i64 s.top else if i = 1026 then .slice (some ⟨s.gl, 0, none⟩) s.m s.m else .int .u64 (s.hx (i - 2))
def lay (i : Nat) : Value := .int .i64 (if i % 2 = 0 then s.lk (i / 2) else s.ln (i / 2))
abbrev ptr : Value := .pointer (some ⟨s.g, 0, none⟩)
end St

/-- In the world w stands the heap s. -/
structure HpIs (w : World) (s : St) : Prop where
  blk : w.rowIs s.g 99 1027 s.cell
  words : w.rowIs s.gw 30 s.n (fun i => .int .u64 (s.ws i))
  lays : w.rowIs s.gl 83 (s.m * 2) s.lay
  n_le : s.n ≤ 65536
  m_le : s.m ≤ 512
  top_le : s.top ≤ s.n
  ws_lt : ∀ i, s.ws i < 18446744073709551616
  hx_lt : ∀ i, s.hx i < 18446744073709551616
  kinds : ∀ i, i < s.m → s.lk i = 1 ∨ s.lk i = 2 ∨ s.lk i = 3
  lens : ∀ i, i < s.m → 0 ≤ s.ln i ∧ s.ln i ≤ 65536

namespace HpIs
variable {w w' : World} {s : St}
theorem c0 (h : HpIs w s) : w.cell? ⟨s.g, 0, none⟩ = some (.slice (some ⟨s.gw, 0, none⟩) s.n s.n) := h.blk.cell (by omega)
theorem c1 (h : HpIs w s) : w.cell? ⟨s.g, 1, none⟩ = some (.int .i64 s.top) := h.blk.cell (by omega)
theorem c3 (h : HpIs w s) : w.cell? ⟨s.g, 1026, none⟩ = some (.slice (some ⟨s.gl, 0, none⟩) s.m s.m) := h.blk.cell (by omega)
theorem cx (h : HpIs w s) (k : Nat) (hk : k < 1024) : w.cell? ⟨s.g, 2 + k, none⟩ = some (.int .u64 (s.hx k)) := by
  rw [h.blk.cell (by omega)]; unfold St.cell
  rw [if_neg (by omega), if_neg (by omega), if_neg (by omega)]; simp
theorem cw (h : HpIs w s) (k : Nat) (hk : k < s.n) : w.cell? ⟨s.gw, k, none⟩ = some (.int .u64 (s.ws k)) := h.words.cell hk
theorem ck (h : HpIs w s) (k : Nat) (hk : k < s.m) : w.cell? ⟨s.gl, k * 2, none⟩ = some (.int .i64 (s.lk k)) := by
  rw [h.lays.cell (by omega)]; unfold St.lay
  rw [if_pos (by omega), show k * 2 / 2 = k by omega]
theorem cn (h : HpIs w s) (k : Nat) (hk : k < s.m) : w.cell? ⟨s.gl, k * 2 + 1, none⟩ = some (.int .i64 (s.ln k)) := by
  rw [h.lays.cell (by omega)]; unfold St.lay
  rw [if_neg (by omega), show (k * 2 + 1) / 2 = k by omega]
theorem rowIs_ne {f f' : Nat → Value} {n n' g g' : Nat} {t t' : TypeId} (h : w.rowIs g t n f) (h' : w.rowIs g' t' n' f') (hne : t ≠ t') : g ≠ g' := by
  rintro rfl
  obtain ⟨c, hb, _⟩ := h; obtain ⟨c', hb', _⟩ := h'
  rw [hb] at hb'; injection hb' with hb'; injection hb' with _ e; exact hne e
theorem ne_gw (h : HpIs w s) : s.g ≠ s.gw := rowIs_ne h.blk h.words (by decide)
theorem ne_gl (h : HpIs w s) : s.g ≠ s.gl := rowIs_ne h.blk h.lays (by decide)
theorem ne_wl (h : HpIs w s) : s.gw ≠ s.gl := rowIs_ne h.words h.lays (by decide)
theorem drewN (h : HpIs w s) (k : Nat) : HpIs (w.drewN k) s := { h with blk := h.blk, words := h.words, lays := h.lays }
theorem alloc (h : HpIs w s) (o : Obj) : HpIs (w.alloc o) s := { h with blk := h.blk.alloc o, words := h.words.alloc o, lays := h.lays.alloc o }
theorem keep {S : Nat → Prop} (h : HpIs w s) (t : Turn S w w') (h1 : ¬ S s.g) (h2 : ¬ S s.gw) (h3 : ¬ S s.gl) : HpIs w' s :=
  { h with blk := h.blk.of_block (t.block _ h.blk.lt h1), words := h.words.of_block (t.block _ h.words.lt h2), lays := h.lays.of_block (t.block _ h.lays.lt h3) }
theorem still (h : HpIs w s) (t : Still w w') : HpIs w' s := h.keep t (fun e => e) (fun e => e) (fun e => e)
end HpIs

theorem kind_nil (sh : Int) (w : World) : Calls Try.prog 90 #[.pointer none, .int .i64 sh] w fun e w' => e = .returned (.int .i64 0) ∧ w' = w := by
  go_enter Try.func90, Try.ntmps90
  go_wp2
  go_ret
  exact ⟨rfl, rfl⟩
theorem kind_out (s : St) (sh : Int) (w : World) (h : HpIs w s) (hs : sh < 0 ∨ (s.m : Int) ≤ sh) : Calls Try.prog 90 #[s.ptr, .int .i64 sh] w fun e w' => e = .returned (.int .i64 0) ∧ w' = w := by
  have c3 := h.c3
  have hm := h.m_le
  by_cases h0 : sh < 0
  · go_enter Try.func90, Try.ntmps90
    go_wp2
    go_ret
    exact ⟨rfl, rfl⟩
  · have h1 : (s.m : Int) ≤ sh := by omega
    clear hs h
    go_enter Try.func90, Try.ntmps90
    go_wp2
    go_ret
    exact ⟨rfl, rfl⟩
theorem kind_in (s : St) (k : Nat) (w : World) (h : HpIs w s) (hs : k < s.m) : Calls Try.prog 90 #[s.ptr, .int .i64 k] w fun e w' => e = .returned (.int .i64 (s.lk k)) ∧ w' = w := by
  have c3 := h.c3
  have ck := h.ck k hs
  have hm := h.m_le
  clear h
  go_enter Try.func90, Try.ntmps90
  go_wp2
  go_ret
  exact ⟨rfl, rfl⟩
theorem kind_any (s : St) (sh : Int) (w : World) (h : HpIs w s) : Calls Try.prog 90 #[s.ptr, .int .i64 sh] w fun e w' => e = .returned (.int .i64 (s.kind sh)) ∧ w' = w := by
  unfold St.kind
  by_cases hs : 0 ≤ sh ∧ sh < s.m
  · obtain ⟨k, rfl⟩ := Int.eq_ofNat_of_zero_le hs.1
    rw [if_pos hs]
    exact kind_in s k w h (by omega)
  · rw [if_neg hs]
    exact kind_out s sh w h (by omega)
end Go.Proofs.Yteanlncnhncpbaa
