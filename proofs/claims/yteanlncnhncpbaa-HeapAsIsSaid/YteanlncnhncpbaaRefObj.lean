/- The document's own list of objects in memory: Find, Top, Fits, Get. -/
import Derived.Test.YteanlncnhncpbaaMakes
namespace Go.Proofs.Yteanlncnhncpbaa
set_option linter.unusedVariables false
open Go.ChangeShapes Go.WideShapes Go.ChangeAt Go.RowKit
open M (W)

/-- An object of the document's list; fa, fc, ba, bc: where its two slices lie in memory, and how much they hold. -/
structure RO where
  at_ : Nat
  sh : Nat
  n : Nat
  fs : List Nat
  bs : List Nat
  fa : Option Addr
  fc : Nat
  ba : Option Addr
  bc : Nat
abbrev RO.fv (o : RO) : Value := .slice o.fa o.fs.length o.fc
abbrev RO.bv (o : RO) : Value := .slice o.ba o.bs.length o.bc
def RO.blocks (o : RO) : Option Nat × Option Nat := (o.fv.ownBlock, o.bv.ownBlock)
def RO.cells (o : RO) : List Value := [.int .i64 o.at_, .int .i64 o.sh, .int .i64 o.n, o.fv, o.bv]
/-- The document's heap: its block, its words, its layouts, its list. -/
structure Rf where
  gx : Nat
  n : Nat
  a : Option Addr
  len : Nat
  cap : Nat
  K : Nat → Int
  N : Nat → Int
  lv : Value
  L : List RO
def Rf.cell (x : Rf) (i : Nat) : Value := if i = 0 then .int .i64 x.n else if i = 1 then .slice x.a x.len x.cap else x.lv
abbrev Rf.ptr (x : Rf) : Value := .pointer (some ⟨x.gx, 0, none⟩)
def RO.row (w : World) (B : Nat) (o : RO) : Prop :=
  w.ownsRow B 30 1 o.fv o.fs.length (o.fs.map fun v : Nat => Value.int .u64 (v : Int)) ∧ w.ownsRow B 5 1 o.bv o.bs.length (o.bs.map fun v : Nat => Value.int .u8 (v : Int))
/-- In w stands, from the block B on, the document's heap x. -/
structure RfIs (B : Nat) (w : World) (x : Rf) : Prop where
  base : B ≤ x.gx
  le : B ≤ w.heap.size
  blk : w.rowIs x.gx 46 3 x.cell
  lays : Lays w x.a x.len x.K x.N
  old : ∀ b off, x.a = some ⟨b, off, none⟩ → 0 < x.len → b < B
  row : w.ownsRow B 54 5 x.lv x.L.length (x.L.flatMap RO.cells)
  rows : ∀ o ∈ x.L, o.row w B
  apart : (x.L.map RO.blocks).Pairwise (fun p q => (p.1 = none ∨ p.1 ≠ q.1) ∧ (p.2 = none ∨ p.2 ≠ q.2))
  few : x.L.length ≤ 1000

theorem flat_at : ∀ (L : List RO) (k : Nat) (o : RO), L[k]? = some o → ∀ j, j < 5 → (L.flatMap RO.cells)[k * 5 + j]? = o.cells[j]?
  | [], k, o, h, j, hj => by simp at h
  | p :: L, 0, o, h, j, hj => by
    simp at h; subst h
    rw [List.flatMap_cons, Nat.zero_mul, Nat.zero_add, List.getElem?_append_left (by simpa [RO.cells] using hj)]
  | p :: L, k + 1, o, h, j, hj => by
    rw [List.flatMap_cons, List.getElem?_append_right (by simp [RO.cells]; omega)]
    have e : (k + 1) * 5 + j - p.cells.length = k * 5 + j := by simp [RO.cells]; omega
    rw [e]
    exact flat_at L k o (by simpa using h) j hj
theorem own_keep {w w' : World} {base : Nat} {e : TypeId} {size : Nat} {v : Value} {n : Nat} {xs : List Value} {S : Nat → Prop} (h : w.ownsRow base e size v n xs) (t : Turn S w w') (hs : ∀ k, v.ownBlock = some k → ¬ S k) : w'.ownsRow base e size v n xs := by
  obtain ⟨h1, h2⟩ := h
  refine ⟨h1, ?_⟩
  rcases h2 with h0 | ⟨g, cap, cur, rfl, hb, hg, r⟩
  · exact .inl h0
  · exact .inr ⟨g, cap, cur, rfl, hb, (t.block g (Array.getElem?_eq_some_iff.1 hg).1 (hs g rfl)).trans hg, r⟩
theorem own_type {w : World} {base : Nat} {e t : TypeId} {size g n m : Nat} {v : Value} {xs : List Value} {f : Nat → Value} (h : w.ownsRow base e size v n xs) (hr : w.rowIs g t m f) (hne : e ≠ t) : v.ownBlock ≠ some g := by
  rcases h.2 with ⟨rfl, _⟩ | ⟨g', cap, cur, rfl, _, hg, _⟩
  · simp [Value.ownBlock]
  · intro he
    have : g' = g := by simpa [Value.ownBlock] using he
    subst this
    obtain ⟨c, hc, _⟩ := hr
    rw [hc] at hg; injection hg with hg; injection hg with _ e'; exact hne e'.symm
theorem own_types {w : World} {base base' : Nat} {e e' : TypeId} {size size' n n' : Nat} {v v' : Value} {xs xs' : List Value} (h : w.ownsRow base e size v n xs) (h' : w.ownsRow base' e' size' v' n' xs') (hne : e ≠ e') : v.ownBlock = none ∨ v.ownBlock ≠ v'.ownBlock := by
  rcases h.2 with ⟨rfl, _⟩ | ⟨g, cap, cur, rfl, _, hg, _⟩
  · exact .inl rfl
  · rcases h'.2 with ⟨rfl, _⟩ | ⟨g', cap', cur', rfl, _, hg', _⟩
    · exact .inr (by simp [Value.ownBlock])
    · refine .inr fun he => ?_
      have : g = g' := by simpa [Value.ownBlock] using he
      subst this
      rw [hg] at hg'; injection hg' with hg'; injection hg' with _ e''; exact hne e''

theorem RfIs.keep {B : Nat} {w w' : World} {x : Rf} {S : Nat → Prop} (h : RfIs B w x) (t : Turn S w w') (hB : ∀ k, S k → B ≤ k) (h1 : ¬ S x.gx) (h2 : ∀ k, x.lv.ownBlock = some k → ¬ S k) (h3 : ∀ o ∈ x.L, ∀ k, (o.fv.ownBlock = some k ∨ o.bv.ownBlock = some k) → ¬ S k) : RfIs B w' x :=
  { h with
    le := Nat.le_trans h.le t.size
    blk := h.blk.of_block (t.block _ h.blk.lt h1)
    lays := ⟨fun hl => by
      obtain ⟨b, off, e, hb, hc⟩ := h.lays.at_ hl
      have hbB := h.old b off e hl
      refine ⟨b, off, e, Nat.lt_of_lt_of_le hb t.size, fun j hj => ?_⟩
      have hn : ¬ S b := fun hs => by have := hB b hs; omega
      exact ⟨by rw [t.cell (p := ⟨b, _, none⟩) hb hn]; exact (hc j hj).1, by rw [t.cell (p := ⟨b, _, none⟩) hb hn]; exact (hc j hj).2⟩⟩
    row := own_keep h.row t h2
    rows := fun o ho => ⟨own_keep (h.rows o ho).1 t (fun k hk => h3 o ho k (.inl hk)), own_keep (h.rows o ho).2 t (fun k hk => h3 o ho k (.inr hk))⟩ }
theorem RfIs.still {B : Nat} {w w' : World} {x : Rf} (h : RfIs B w x) (t : Still w w') : RfIs B w' x := h.keep t (fun _ e => e.elim) (fun e => e) (fun _ _ e => e) (fun _ _ _ _ e => e)
theorem RfIs.drewN {B : Nat} {w : World} {x : Rf} (h : RfIs B w x) (k : Nat) : RfIs B (w.drewN k) x := h.still ((Still.refl w).drewN k)

/-- The list's slice: nil, or a row. -/
theorem RfIs.lv_form {B : Nat} {w : World} {x : Rf} (h : RfIs B w x) : (x.lv = .slice none 0 0 ∧ x.L = []) ∨ ∃ g cap, x.lv = .slice (some ⟨g, 0, none⟩) x.L.length cap ∧ g < w.heap.size ∧ B ≤ g ∧ x.L.length ≤ cap ∧ cap ≤ maxLen ∧ (∀ o, w.frozen? ⟨g, o, none⟩ = false) ∧
    ∀ k o, x.L[k]? = some o → w.cell? ⟨g, k * 5, none⟩ = some (.int .i64 o.at_) ∧ w.cell? ⟨g, k * 5 + 1, none⟩ = some (.int .i64 o.sh) ∧ w.cell? ⟨g, k * 5 + 2, none⟩ = some (.int .i64 o.n) ∧ w.cell? ⟨g, k * 5 + 3, none⟩ = some o.fv ∧ w.cell? ⟨g, k * 5 + 4, none⟩ = some o.bv := by
  have hr := h.row
  rcases hr.2 with ⟨h1, h2⟩ | ⟨g, cap, cur, h1, hb, hg, hle, hm, hs, ht⟩
  · exact .inl ⟨h1, List.eq_nil_of_length_eq_zero h2⟩
  · refine .inr ⟨g, cap, h1, (Array.getElem?_eq_some_iff.1 hg).1, hb, hle, hm, fun o => frozen_of_row w g o cur _ hg, fun k o hk => ?_⟩
    rw [h1] at hr
    have hkl : k < x.L.length := (List.getElem?_eq_some_iff.1 hk).1
    have key : ∀ j, j < 5 → w.cell? ⟨g, k * 5 + j, none⟩ = o.cells[j]? := fun j hj => by
      rw [hr.cellAt (k * 5 + j) (by omega)]
      exact flat_at x.L k o hk j hj
    exact ⟨key 0 (by decide), key 1 (by decide), key 2 (by decide), key 3 (by decide), key 4 (by decide)⟩
theorem RfIs.c1 {B : Nat} {w : World} {x : Rf} (h : RfIs B w x) : w.cell? ⟨x.gx, 1, none⟩ = some (.slice x.a x.len x.cap) := h.blk.cell (i := 1) (by omega)
theorem RfIs.c0 {B : Nat} {w : World} {x : Rf} (h : RfIs B w x) : w.cell? ⟨x.gx, 0, none⟩ = some (.int .i64 x.n) := h.blk.cell (i := 0) (by omega)
theorem RfIs.c2 {B : Nat} {w : World} {x : Rf} (h : RfIs B w x) : w.cell? ⟨x.gx, 2, none⟩ = some x.lv := h.blk.cell (i := 2) (by omega)

set_option maxHeartbeats 1000000 in
theorem find_at {B : Nat} (x : Rf) (k : Nat) (o : RO) (i : Int) (w : World) (h : RfIs B w x) (hk : x.L[k]? = some o) (hi : i = o.at_) (hun : ∀ (j : Nat) p, j < k → x.L[j]? = some p → (p.at_ : Int) ≠ i) :
    Calls Try.prog 67 #[x.ptr, .int .i64 i] w fun e w' => e = .returned (.int .i64 k) ∧ Still w w' := by
  have c2 := h.c2
  have hkl : k < x.L.length := (List.getElem?_eq_some_iff.1 hk).1
  have hfew := h.few
  rcases h.lv_form with ⟨_, h0⟩ | ⟨g, cap, h1, hg, hb, hle, hm, hf, hc⟩
  · rw [h0] at hkl; simp at hkl
  rw [h1] at c2
  unfold maxLen at hm
  have HC := Lib.hid hc
  have HUN := Lib.hid hun
  have HK := Lib.hid hk
  have HI := Lib.hid hi
  clear hc hun hk hi h1 hf h
  go_enter Try.func67, Try.ntmps67
  go_wp2_with fail
  go_loopw [12] (fun v wr => ∃ j : Nat, v = .int .i64 j ∧ j ≤ k ∧ Still w wr) (fun v _ => x.L.length - (intOf v).toNat)
  case atStart => exact ⟨0, rfl, by omega, Still.refl _⟩
  case round =>
    obtain ⟨j, rfl, hj, ht⟩ := hrel
    have hjl : j < x.L.length := by omega
    obtain ⟨p, hp⟩ : ∃ p, x.L[j]? = some p := ⟨_, List.getElem?_eq_getElem hjl⟩
    obtain ⟨d0, d1, d2, d3, d4⟩ := HC.out j p hp
    have e0 : wr.cell? ⟨g, j * 5, none⟩ = some (.int .i64 p.at_) := by rw [ht.cell hg]; exact d0
    have e1 : wr.cell? ⟨g, j * 5 + 1, none⟩ = some (.int .i64 p.sh) := by rw [ht.cell hg]; exact d1
    have e2 : wr.cell? ⟨g, j * 5 + 2, none⟩ = some (.int .i64 p.n) := by rw [ht.cell hg]; exact d2
    have e3 : wr.cell? ⟨g, j * 5 + 3, none⟩ = some p.fv := by rw [ht.cell hg]; exact d3
    have e4 : wr.cell? ⟨g, j * 5 + 4, none⟩ = some p.bv := by rw [ht.cell hg]; exact d4
    have hgr : g < wr.heap.size := Nat.lt_of_lt_of_le hg ht.size
    have HT := Lib.hid ht
    clear d0 d1 d2 d3 d4 ht c2
    by_cases hjk : j = k
    · subst hjk
      have hpo : p = o := by have := HK.out; rw [hp] at this; injection this
      have hat : ((p.at_ : Int) == i) = true := by rw [HI.out, hpo]; simp
      clear hpo hp
      go_wp2_with fail
      go_ret
      exact ⟨rfl, HT.out.alloc _⟩
    · have hat : ((p.at_ : Int) == i) = false := by simpa using HUN.out j p (by omega) hp
      clear hp
      go_wp2_with fail
      go_roundw
      case rel => exact ⟨j + 1, by go_num, by omega, HT.out.alloc _⟩
      case measure => simp [intOf]; omega
set_option maxHeartbeats 1000000 in
theorem find_no {B : Nat} (x : Rf) (i : Int) (w : World) (h : RfIs B w x) (hun : ∀ p ∈ x.L, (p.at_ : Int) ≠ i) :
    Calls Try.prog 67 #[x.ptr, .int .i64 i] w fun e w' => e = .returned (.int .i64 (-1)) ∧ Still w w' := by
  have c2 := h.c2
  have hfew := h.few
  rcases h.lv_form with ⟨h1, h0⟩ | ⟨g, cap, h1, hg, hb, hle, hm, hf, hc⟩
  · rw [h1] at c2
    clear h1 h hfew
    go_enter Try.func67, Try.ntmps67
    go_wp2_with fail
    refine wp_loop_rounds 1 ?_
    rw [rounds_succ]
    go_wp2
    go_ret
    exact ⟨rfl, Still.refl _⟩
  rw [h1] at c2
  unfold maxLen at hm
  have HC := Lib.hid hc
  have HUN := Lib.hid hun
  clear hc hun h1 hf h
  go_enter Try.func67, Try.ntmps67
  go_wp2_with fail
  go_loopw [12] (fun v wr => ∃ j : Nat, v = .int .i64 j ∧ j ≤ x.L.length ∧ Still w wr) (fun v _ => x.L.length - (intOf v).toNat)
  case atStart => exact ⟨0, rfl, by omega, Still.refl _⟩
  case round =>
    obtain ⟨j, rfl, hj, ht⟩ := hrel
    by_cases hjl : j < x.L.length
    · obtain ⟨p, hp⟩ : ∃ p, x.L[j]? = some p := ⟨_, List.getElem?_eq_getElem hjl⟩
      obtain ⟨d0, d1, d2, d3, d4⟩ := HC.out j p hp
      have e0 : wr.cell? ⟨g, j * 5, none⟩ = some (.int .i64 p.at_) := by rw [ht.cell hg]; exact d0
      have e1 : wr.cell? ⟨g, j * 5 + 1, none⟩ = some (.int .i64 p.sh) := by rw [ht.cell hg]; exact d1
      have e2 : wr.cell? ⟨g, j * 5 + 2, none⟩ = some (.int .i64 p.n) := by rw [ht.cell hg]; exact d2
      have e3 : wr.cell? ⟨g, j * 5 + 3, none⟩ = some p.fv := by rw [ht.cell hg]; exact d3
      have e4 : wr.cell? ⟨g, j * 5 + 4, none⟩ = some p.bv := by rw [ht.cell hg]; exact d4
      have hgr : g < wr.heap.size := Nat.lt_of_lt_of_le hg ht.size
      have HT := Lib.hid ht
      have hat : ((p.at_ : Int) == i) = false := by simpa using HUN.out p (List.mem_of_getElem? hp)
      clear d0 d1 d2 d3 d4 ht c2 hp
      go_wp2_with fail
      go_roundw
      case rel => exact ⟨j + 1, by go_num, by omega, HT.out.alloc _⟩
      case measure => simp [intOf]; omega
    · have HT := Lib.hid ht
      clear ht
      go_wp2_with fail
      go_ret
      exact ⟨rfl, HT.out⟩
end Go.Proofs.Yteanlncnhncpbaa
