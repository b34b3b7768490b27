/- Lemmas, put together: Frame Append Append2 Math Arith Bits Words Enc Put Get Still Uses Img ImgLen Later. -/
import Derived.Below
import Derived.Laws.Rows
import Derived.Laws.Tables
import Derived.Laws.OwnMore
import Derived.Deep.Draws
import Derived.Maps.AppendAt
import Derived.Deep.RegionLaw
import Derived.IntWalk
import Derived.Test.YtglalgjffkoneaaGreatDoorRows
import Derived.WalkKit
import Derived.ProofKit
import Derived.OpenShut
import Derived.Deep.QuietTactic
import Derived.BigQuiet
import Derived.Lib.Hide
import Derived.Outline
import Derived.Laws.BitsAllLaws
import Derived.Laws.BytesArg
/- Frames: a block that is known whole; what may have turned between two worlds. No program in sight. -/
namespace Go.Proofs.YtglalgjffkoneaaGreatDoor
set_option linter.unusedVariables false
open Go.RowKit

/-- Block g is just the cells cs of element type t, none of them frozen. -/
def Blk (w : World) (g : Nat) (t : TypeId) (cs : Array Value) : Prop := w.heap[g]? = some (.cells cs t (0, 0))

/-- From w to w' no block that was there has turned but those of S. -/
structure Turn (S : Nat → Prop) (w w' : World) : Prop where
  os : w'.os = w.os
  tape : w'.tape = w.tape
  output : w'.output = w.output
  size : w.heap.size ≤ w'.heap.size
  block : ∀ k, k < w.heap.size → ¬ S k → w'.heap[k]? = w.heap[k]?

/-- Nothing turns. -/
def Still (w w' : World) : Prop := Turn (fun _ => False) w w'

section
variable {w w' w'' : World} {g : Nat} {t : TypeId} {cs : Array Value} {S T : Nat → Prop}

theorem Blk.lt (h : Blk w g t cs) : g < w.heap.size := (Array.getElem?_eq_some_iff.1 h).1
theorem Blk.cell (h : Blk w g t cs) (i : Nat) : w.cell? ⟨g, i, none⟩ = cs[i]? := cell_of_row w g i cs t (0, 0) h
theorem Blk.frozen (h : Blk w g t cs) (i : Nat) : w.frozen? ⟨g, i, none⟩ = false := frozen_of_row w g i cs t h
theorem Blk.new (w : World) (t : TypeId) (cs : Array Value) : Blk (w.alloc (.cells cs t)) w.heap.size t cs := heap_alloc_new w _
theorem Blk.drewN (h : Blk w g t cs) (n : Nat) : Blk (w.drewN n) g t cs := h
theorem Blk.alloc (h : Blk w g t cs) (o : Obj) : Blk (w.alloc o) g t cs := (Below.heap_alloc w o g h.lt).trans h
theorem Blk.set (h : Blk w g t cs) (i : Nat) (u : Value) : Blk (w.setCell ⟨g, i, none⟩ u) g t (cs.setIfInBounds i u) := by
  unfold Blk at h ⊢
  simp [World.setCell, Array.getElem?_modify, h]
theorem Blk.far (h : Blk w g t cs) {p : Addr} (hp : g ≠ p.block) (u : Value) : Blk (w.setCell p u) g t cs := (Below.heap_setCell w p u g hp).trans h
theorem Blk.keep (h : Blk w g t cs) (hb : Turn S w w') (hg : ¬ S g) : Blk w' g t cs := (hb.block g h.lt hg).trans h
theorem Blk.row (h : Blk w g t cs) (cs' : Array Value) : Blk (w.setRow g cs') g t cs' := setRow_heap w g cs cs' t (0, 0) h
theorem Blk.inj {t' : TypeId} {cs' : Array Value} (h : Blk w g t cs) (h' : Blk w g t' cs') : t = t' ∧ cs = cs' := by
  unfold Blk at h h'; rw [h] at h'; injection h' with h'; injection h' with a b; exact ⟨b, a⟩
theorem Blk.ne {g' : Nat} {t' : TypeId} {cs' : Array Value} (h : Blk w g t cs) (h' : Blk w g' t' cs') (hne : t ≠ t') : g ≠ g' := by
  rintro rfl; exact hne (h.inj h').1

theorem Turn.refl (S : Nat → Prop) (w : World) : Turn S w w := ⟨rfl, rfl, rfl, Nat.le_refl _, fun _ _ _ => rfl⟩
theorem Turn.trans (h : Turn S w w') (k : Turn S w' w'') : Turn S w w'' :=
  ⟨k.os.trans h.os, k.tape.trans h.tape, k.output.trans h.output, Nat.le_trans h.size k.size, fun i hi hs => (k.block i (Nat.lt_of_lt_of_le hi h.size) hs).trans (h.block i hi hs)⟩
theorem Turn.mono (h : Turn S w w') (hs : ∀ k, k < w.heap.size → S k → T k) : Turn T w w' :=
  ⟨h.os, h.tape, h.output, h.size, fun k hk hn => h.block k hk (fun e => hn (hs k hk e))⟩
theorem Turn.drewN (h : Turn S w w') (n : Nat) : Turn S w (w'.drewN n) := ⟨h.os, h.tape, h.output, h.size, h.block⟩
theorem Turn.drew (h : Turn S w w') : Turn S w w'.drew := ⟨h.os, h.tape, h.output, h.size, h.block⟩
theorem Turn.alloc (h : Turn S w w') (o : Obj) : Turn S w (w'.alloc o) :=
  ⟨h.os, h.tape, h.output, Nat.le_trans h.size (by simp), fun k hk hn => (Below.heap_alloc _ _ _ (Nat.lt_of_lt_of_le hk h.size)).trans (h.block k hk hn)⟩
/-- A store into a block that may turn, or into a new one. -/
theorem Turn.setCell (h : Turn S w w') {p : Addr} (hp : p.block < w.heap.size → S p.block) (u : Value) : Turn S w (w'.setCell p u) :=
  ⟨h.os, h.tape, h.output, Nat.le_trans h.size (by simp), fun k hk hn => (Below.heap_setCell _ _ _ _ (fun e => hn (by subst e; exact hp hk))).trans (h.block k hk hn)⟩
theorem Turn.setRow (h : Turn S w w') {b : Nat} (hp : b < w.heap.size → S b) (c : Array Value) : Turn S w (w'.setRow b c) :=
  ⟨h.os, h.tape, h.output, Nat.le_trans h.size (by simp), fun k hk hn => by
    rw [← h.block k hk hn]
    simp only [World.setRow, Array.getElem?_modify]
    rw [if_neg (fun e => hn (by subst e; exact hp hk))]⟩
theorem Turn.grown (h : Turn S w w') {row : Option Nat} (hg : w'.grownBy w'' row) (hr : ∀ k, row = some k → k < w.heap.size → S k) : Turn S w w'' :=
  ⟨hg.os.trans h.os, hg.tape.trans h.tape, hg.output.trans h.output, Nat.le_trans h.size hg.size, fun k hk hn => by
    rw [← h.block k hk hn]
    exact hg.block k (Nat.lt_of_lt_of_le hk h.size) (fun e => hn (hr k e.symm hk))⟩
theorem Turn.below {B : Nat} (h : Turn S w w') (hB : B ≤ w.heap.size) (hs : ∀ k, S k → B ≤ k) : Below B w w' :=
  ⟨h.os, h.tape, h.output, h.size, fun k hk => h.block k (Nat.lt_of_lt_of_le hk hB) (fun e => by have := hs k e; omega)⟩
theorem Turn.of_below {B : Nat} (h : Below B w w') (hs : ∀ k, k < w.heap.size → B ≤ k → S k) : Turn S w w' :=
  ⟨h.os, h.tape, h.output, h.size, fun k hk hn => h.block k (by
    rcases Nat.lt_or_ge k B with hb | hb
    · exact hb
    · exact absurd (hs k hk hb) hn)⟩
theorem Turn.cell (h : Turn S w w') {p : Addr} (hp : p.block < w.heap.size) (hn : ¬ S p.block) : w'.cell? p = w.cell? p := World.cell?_of_block (w := w) (h.block p.block hp hn)
theorem Turn.frozen (h : Turn S w w') {p : Addr} (hp : p.block < w.heap.size) (hn : ¬ S p.block) : w'.frozen? p = w.frozen? p := World.frozen?_of_block (w := w) (h.block p.block hp hn)

theorem Still.refl (w : World) : Still w w := Turn.refl _ w
theorem Still.blk (h : Still w w') (hb : Blk w g t cs) : Blk w' g t cs := hb.keep h (fun e => e)
theorem Still.turn (h : Still w w') : Turn S w w' := Turn.mono h fun _ _ e => e.elim
theorem Still.below (h : Still w w') : Below w.heap.size w w' := Turn.below h (Nat.le_refl _) fun _ e => e.elim
theorem Still.cell (h : Still w w') {p : Addr} (hp : p.block < w.heap.size) : w'.cell? p = w.cell? p := Turn.cell h hp (fun e => e)
theorem below_drewN {B : Nat} {a w : World} (h : Below B a w) (n : Nat) : Below B a (w.drewN n) := ⟨h.os, h.tape, h.output, h.size, h.block⟩
end
end Go.Proofs.YtglalgjffkoneaaGreatDoor
/- append onto a row of the call's own, its form told: in a plain region and in one that draws. No program in sight. -/
namespace Go.Proofs.YtglalgjffkoneaaGreatDoor
set_option linter.unusedVariables false
open Go.RowKit
variable {P : Program}

theorem run_append_form (w : World) (base : Nat) (t ty e : TypeId) (size bytes : Nat) (z : Value) (ht : P.underlying t = some (.slice e)) (hi : (P.info? e).map (fun i => (i.zero, i.size, i.bytes)) = some (some z, size, bytes))
    (hzs : z.cells.size = size) (hsz : 0 < size) (a : Option Addr) (n c : Nat) (xs : List Value) (hown : w.ownsRow base e size (.slice a n c) n xs)
    (ad : Addr) (m c' : Nat) (news : List Value) (hl : news.length = m * size) (hnews : ∀ j u, news[j]? = some u → w.cell? (ad.add j) = some u) (h1 : ∀ u ∈ news, u.oneCell' = true) (hm : 0 < m)
    (h63 : n + m ≤ maxLen) (hbytes : (n + m) * bytes ≤ 140737488355328) (hbase : base ≤ w.heap.size) :
    ∃ g cap w', (Builtin.append_ #[t, t] ty #[.slice a n c, .slice (some ad) m c']).run P w = .ok (.slice (some ⟨g, 0, none⟩) (n + m) cap) w' ∧ w'.ownsRow base e size (.slice (some ⟨g, 0, none⟩) (n + m) cap) (n + m) (xs ++ news) ∧
      Turn (fun k => (Value.slice a n c).ownBlock = some k) w w' ∧ ((Value.slice a n c).ownBlock = some g ∨ w.heap.size ≤ g) := by
  obtain ⟨i, hi', hzz⟩ := Option.map_eq_some_iff.1 hi
  simp only [Prod.mk.injEq] at hzz
  obtain ⟨hz, hs, hb⟩ := hzz
  obtain ⟨v', w', hrun, h2, h3, _, h5⟩ := run_append_own_at (P := P) w base t ty e i z size bytes ht hi' hz hs hb hzs hsz (.slice a n c) n xs hown ad m c' news hl hnews h1 h63 hbytes hbase
  have h2' := h2
  rcases h2.2 with ⟨_, h0⟩ | ⟨g, cap, cur, rfl, _⟩
  · omega
  · refine ⟨g, cap, w', hrun, h2', ?_, ?_⟩
    · exact (Turn.refl (fun k => (Value.slice a n c).ownBlock = some k) w).grown h3 (fun k hk _ => hk)
    · rcases h5 with h5 | h5
      · exact .inl h5.symm
      · right
        have : g = w.heap.size := by simpa [Value.ownBlock] using h5
        omega
theorem wpList_append_form {w : World} {ops : Array Oper} {rest : List Oper} {o : Oper} {act : Act} {Q : Exit → Act → World → Prop} (hgd : o.guard = none) (s x : Operand) (t : TypeId)
    (ho : o.op = .call { callee := .builtin .append, args := #[s, x], argTypes := #[t, t] })
    (base : Nat) (e : TypeId) (size bytes : Nat) (z : Value) (ht : P.underlying t = some (.slice e)) (hi : (P.info? e).map (fun i => (i.zero, i.size, i.bytes)) = some (some z, size, bytes))
    (hzs : z.cells.size = size) (hsz : 0 < size) (a : Option Addr) (n c : Nat) (xs : List Value) (hs : act.eval s = .slice a n c) (hown : w.ownsRow base e size (.slice a n c) n xs)
    (ad : Addr) (m c' : Nat) (news : List Value) (hx : act.eval x = .slice (some ad) m c') (hl : news.length = m * size) (hnews : ∀ j u, news[j]? = some u → w.cell? (ad.add j) = some u) (h1 : ∀ u ∈ news, u.oneCell' = true) (hm : 0 < m)
    (h63 : n + m ≤ maxLen) (hbytes : (n + m) * bytes ≤ 140737488355328) (hbase : base ≤ w.heap.size)
    (h : ∀ g cap w', Hid (w'.ownsRow base e size (.slice (some ⟨g, 0, none⟩) (n + m) cap) (n + m) (xs ++ news)) → Hid (Turn (fun k => (Value.slice a n c).ownBlock = some k) w w') → Hid ((Value.slice a n c).ownBlock = some g ∨ w.heap.size ≤ g) →
      wpList P ops Q rest (act.put o.dst (.slice (some ⟨g, 0, none⟩) (n + m) cap)) w') : wpList P ops Q (o :: rest) act w := by
  obtain ⟨g, cap, w', hrun, h2, h3, h4⟩ := run_append_form (P := P) w base t o.type e size bytes z ht hi hzs hsz a n c xs hown ad m c' news hl hnews h1 hm h63 hbytes hbase
  refine wpList_plain hgd fun K hK => ?_
  unfold Oper.wp
  simp [execOp, ho, resolve, invoke, builtin, hs, hx, hrun, Result.andThen]
  exact hK _ _ (h g cap w' h2 h3 h4)
theorem step_append_form {w : World} {ops : Array Oper} {o : Oper} {act : Act} {K : Act → World → Prop} {Q : Exit → Act → World → Prop} {E : Prop} (hgd : o.guard = none) (s x : Operand) (t : TypeId)
    (ho : o.op = .call { callee := .builtin .append, args := #[s, x], argTypes := #[t, t] })
    (base : Nat) (e : TypeId) (size bytes : Nat) (z : Value) (ht : P.underlying t = some (.slice e)) (hi : (P.info? e).map (fun i => (i.zero, i.size, i.bytes)) = some (some z, size, bytes))
    (hzs : z.cells.size = size) (hsz : 0 < size) (a : Option Addr) (n c : Nat) (xs : List Value) (hs : act.eval s = .slice a n c) (hown : w.ownsRow base e size (.slice a n c) n xs)
    (ad : Addr) (m c' : Nat) (news : List Value) (hx : act.eval x = .slice (some ad) m c') (hl : news.length = m * size) (hnews : ∀ j u, news[j]? = some u → w.cell? (ad.add j) = some u) (h1 : ∀ u ∈ news, u.oneCell' = true) (hm : 0 < m)
    (h63 : n + m ≤ maxLen) (hbytes : (n + m) * bytes ≤ 140737488355328) (hbase : base ≤ w.heap.size)
    (h : ∀ g cap w', Hid (w'.ownsRow base e size (.slice (some ⟨g, 0, none⟩) (n + m) cap) (n + m) (xs ++ news)) → Hid (Turn (fun k => (Value.slice a n c).ownBlock = some k) w w') → Hid ((Value.slice a n c).ownBlock = some g ∨ w.heap.size ≤ g) →
      K (act.put o.dst (.slice (some ⟨g, 0, none⟩) (n + m) cap)) w') : if Region.wanted o (yielded ops act.tmps) = true then Oper.wp P o act w K Q else E := by
  have hw : Region.wanted o (yielded ops act.tmps) = true := by simp [Region.wanted, hgd]
  rw [if_pos hw]
  obtain ⟨g, cap, w', hrun, h2, h3, h4⟩ := run_append_form (P := P) w base t o.type e size bytes z ht hi hzs hsz a n c xs hown ad m c' news hl hnews h1 hm h63 hbytes hbase
  unfold Oper.wp
  simp [execOp, ho, resolve, invoke, builtin, hs, hx, hrun, Result.andThen]
  exact h g cap w' h2 h3 h4
end Go.Proofs.YtglalgjffkoneaaGreatDoor
/- append of one row of the call's own, or of an older one, onto another; also of none. No program in sight. -/
namespace Go.Proofs.YtglalgjffkoneaaGreatDoor
set_option linter.unusedVariables false
open Go.RowKit
variable {P : Program}

theorem run_append_zero (w : World) (t ty e : TypeId) (i : TypeInfo) (ht : P.underlying t = some (.slice e)) (hi : P.info? e = some i) (a : Option Addr) (n c : Nat) (h : n ≤ c) (x : Option Addr) (c' : Nat) :
    (Builtin.append_ #[t, t] ty #[.slice a n c, .slice x 0 c']).run P w = .ok (.slice a n c) w := by
  cases a <;> cases x <;> simp [Builtin.append_, run_underlying ht, sizeOf, typeInfo, hi, Builtin.lenOf, Builtin.firstCells, loadCells, loadCellsFrom, h, storeCells]
theorem own_le {w : World} {base : Nat} {e : TypeId} {size : Nat} {a : Option Addr} {n c m : Nat} {xs : List Value} (h : w.ownsRow base e size (.slice a n c) m xs) : n ≤ c ∧ c ≤ maxLen ∧ n = m := by
  rcases h.2 with ⟨h1, rfl⟩ | ⟨g, cap, cur, h1, _, _, h2, h3, _, _⟩
  · injection h1 with _ h1 h2; subst h1; subst h2; exact ⟨Nat.le_refl _, by unfold maxLen; omega, rfl⟩
  · injection h1 with _ h1 h4; subst h4; exact ⟨by omega, h3, h1⟩
theorem run_append_row (w : World) (base : Nat) (t ty e : TypeId) (size bytes : Nat) (z : Value) (ht : P.underlying t = some (.slice e)) (hi : (P.info? e).map (fun i => (i.zero, i.size, i.bytes)) = some (some z, size, bytes))
    (hzs : z.cells.size = size) (hsz : 0 < size) (a : Option Addr) (n c : Nat) (xs : List Value) (hown : w.ownsRow base e size (.slice a n c) n xs)
    (base' : Nat) (ad : Option Addr) (m c' : Nat) (news : List Value) (hsrc : w.ownsRow base' e size (.slice ad m c') m news) (h1 : ∀ u ∈ news, u.oneCell' = true)
    (h63 : n + m ≤ maxLen) (hbytes : (n + m) * bytes ≤ 140737488355328) (hbase : base ≤ w.heap.size) :
    ∃ a' cap w', (Builtin.append_ #[t, t] ty #[.slice a n c, .slice ad m c']).run P w = .ok (.slice a' (n + m) cap) w' ∧ w'.ownsRow base e size (.slice a' (n + m) cap) (n + m) (xs ++ news) ∧
      Turn (fun k => (Value.slice a n c).ownBlock = some k) w w' ∧ ((Value.slice a' (n + m) cap).ownBlock = (Value.slice a n c).ownBlock ∨ ∃ g, a' = some ⟨g, 0, none⟩ ∧ w.heap.size ≤ g) := by
  rcases Nat.eq_zero_or_pos m with rfl | hm
  · obtain ⟨i, hi', hzz⟩ := Option.map_eq_some_iff.1 hi
    have hn : news = [] := List.eq_nil_of_length_eq_zero (by simpa using hsrc.1)
    subst hn
    refine ⟨a, c, w, run_append_zero w t ty e i ht hi' a n c (own_le hown).1 ad c', by simpa using hown, Turn.refl _ _, .inl rfl⟩
  · have hcells := hsrc
    rcases hsrc.2 with ⟨_, h0⟩ | ⟨g, cap, cur, h, _⟩
    · omega
    · injection h with h2 _ h3
      subst h2; subst h3
      obtain ⟨g', cap', w', r1, r2, r3, r4⟩ := run_append_form (P := P) w base t ty e size bytes z ht hi hzs hsz a n c xs hown ⟨g, 0, none⟩ m c' news hsrc.1 (hcells.cells (g := g) rfl) h1 hm h63 hbytes hbase
      refine ⟨_, cap', w', r1, r2, r3, ?_⟩
      rcases r4 with r4 | r4
      · exact .inl (by rw [r4]; simp [Value.ownBlock])
      · exact .inr ⟨g', rfl, r4⟩
theorem wpList_append_row {w : World} {ops : Array Oper} {rest : List Oper} {o : Oper} {act : Act} {Q : Exit → Act → World → Prop} (hgd : o.guard = none) (s x : Operand) (t : TypeId)
    (ho : o.op = .call { callee := .builtin .append, args := #[s, x], argTypes := #[t, t] })
    (base : Nat) (e : TypeId) (size bytes : Nat) (z : Value) (ht : P.underlying t = some (.slice e)) (hi : (P.info? e).map (fun i => (i.zero, i.size, i.bytes)) = some (some z, size, bytes))
    (hzs : z.cells.size = size) (hsz : 0 < size) (a : Option Addr) (n c : Nat) (xs : List Value) (hs : act.eval s = .slice a n c) (hown : w.ownsRow base e size (.slice a n c) n xs)
    (base' : Nat) (ad : Option Addr) (m c' : Nat) (news : List Value) (hx : act.eval x = .slice ad m c') (hsrc : w.ownsRow base' e size (.slice ad m c') m news) (h1 : ∀ u ∈ news, u.oneCell' = true)
    (h63 : n + m ≤ maxLen) (hbytes : (n + m) * bytes ≤ 140737488355328) (hbase : base ≤ w.heap.size)
    (h : ∀ a' cap w', Hid (w'.ownsRow base e size (.slice a' (n + m) cap) (n + m) (xs ++ news)) → Hid (Turn (fun k => (Value.slice a n c).ownBlock = some k) w w') → Hid ((Value.slice a' (n + m) cap).ownBlock = (Value.slice a n c).ownBlock ∨ ∃ g, a' = some ⟨g, 0, none⟩ ∧ w.heap.size ≤ g) →
      wpList P ops Q rest (act.put o.dst (.slice a' (n + m) cap)) w') : wpList P ops Q (o :: rest) act w := by
  obtain ⟨a', cap, w', hrun, h2, h3, h4⟩ := run_append_row (P := P) w base t o.type e size bytes z ht hi hzs hsz a n c xs hown base' ad m c' news hsrc h1 h63 hbytes hbase
  refine wpList_plain hgd fun K hK => ?_
  unfold Oper.wp
  simp [execOp, ho, resolve, invoke, builtin, hs, hx, hrun, Result.andThen]
  exact hK _ _ (h a' cap w' h2 h3 h4)
end Go.Proofs.YtglalgjffkoneaaGreatDoor
/- Plain arithmetic for layer 1 (word): numbers of 63 bits, quotients rounded down, parts of a word. No program in sight. -/
namespace Go.Proofs.YtglalgjffkoneaaGreatDoor.M
set_option linter.unusedVariables false
open Go.RowKit

/-- The number of 63 bits that differs from n by a multiple of 2^63. -/
def W (n : Int) : Int := (n + 4611686018427387904) % 9223372036854775808 - 4611686018427387904

theorem W_lo (n : Int) : -4611686018427387904 ≤ W n := by unfold W; omega
theorem W_hi (n : Int) : W n ≤ 4611686018427387903 := by unfold W; omega
theorem W_id {n : Int} (h0 : -4611686018427387904 ≤ n) (h1 : n ≤ 4611686018427387903) : W n = n := by unfold W; omega
theorem W_ex (n : Int) : ∃ k, W n = n + 9223372036854775808 * k := ⟨-((n + 4611686018427387904) / 9223372036854775808), by unfold W; omega⟩
theorem W_eq {a b : Int} (k : Int) (h : a = b + 9223372036854775808 * k) : W a = W b := by unfold W; omega
theorem wrap64_ex (n : Int) : ∃ k, wrap64 n = n + 9223372036854775808 * k := ⟨-(2 * ((n + 9223372036854775808) / 18446744073709551616)), by unfold wrap64; omega⟩
theorem W_wrap64 (n : Int) : W (wrap64 n) = W n := by obtain ⟨k, h⟩ := wrap64_ex n; exact W_eq k h
theorem W_W (n : Int) : W (W n) = W n := W_id (W_lo n) (W_hi n)
theorem shl_shr (n : Int) : wrap64 (n * 2) / 2 = W n := by unfold wrap64 W; omega

theorem W_add_l (a b : Int) : W (W a + b) = W (a + b) := by obtain ⟨k, h⟩ := W_ex a; rw [h]; exact W_eq k (by omega)
theorem W_add_r (a b : Int) : W (a + W b) = W (a + b) := by obtain ⟨k, h⟩ := W_ex b; rw [h]; exact W_eq k (by omega)
theorem W_mul_l (a b : Int) : W (W a * b) = W (a * b) := by
  obtain ⟨k, h⟩ := W_ex a; rw [h]; exact W_eq (k * b) (by grind)
theorem W_mul_r (a b : Int) : W (a * W b) = W (a * b) := by
  obtain ⟨k, h⟩ := W_ex b; rw [h]; exact W_eq (a * k) (by grind)
theorem W_neg (a : Int) : W (-W a) = W (-a) := by obtain ⟨k, h⟩ := W_ex a; rw [h]; exact W_eq (-k) (by omega)
theorem W_sub (a b : Int) : W (a + W (-W b)) = W (a - b) := by rw [W_neg, W_add_r]; congr 1

theorem ring_assoc_add (a b c : Int) : W (W (a + b) + c) = W (a + W (b + c)) := by rw [W_add_l, W_add_r, Int.add_assoc]
theorem ring_assoc_mul (a b c : Int) : W (W (a * b) * c) = W (a * W (b * c)) := by rw [W_mul_l, W_mul_r, Int.mul_assoc]
theorem ring_dist (a b c : Int) : W (a * W (b + c)) = W (W (a * b) + W (a * c)) := by rw [W_mul_r, W_add_l, W_add_r, Int.mul_add]
theorem ring_back (a b : Int) : W (W (a + b) - b) = W a := by
  have h := W_add_l (a + b) (-b)
  rw [show W (a + b) - b = W (a + b) + -b from by omega, h]; congr 1; omega

/-! quotients rounded down -/
/-- Is Go's quotient, which is rounded towards 0, above the one that is rounded down? -/
def dd (a b : Int) : Bool := a.tmod b != 0 && (decide (a.tmod b < 0) != decide (b < 0))
def dq (a b : Int) : Int := if dd a b then a.tdiv b - 1 else a.tdiv b
def dr (a b : Int) : Int := if dd a b then a.tmod b + b else a.tmod b
theorem tmod_bd (a b : Int) (hb : b ≠ 0) : (0 < b → -b < a.tmod b ∧ a.tmod b < b) ∧ (b < 0 → b < a.tmod b ∧ a.tmod b < -b) := by
  have h1 := Int.tmod_lt_of_pos a (b := b)
  have h2 := Int.lt_tmod_of_pos a (b := b)
  have h3 := Int.tmod_lt_of_pos a (b := -b)
  have h4 := Int.lt_tmod_of_pos a (b := -b)
  rw [Int.tmod_neg] at h3 h4
  exact ⟨fun h => ⟨h2 h, h1 h⟩, fun h => ⟨by have := h4 (by omega); omega, h3 (by omega)⟩⟩
theorem dq_dr (a b : Int) : dq a b * b + dr a b = a := by
  have h := Int.tmod_add_mul_tdiv a b
  unfold dq dr
  split <;> grind
theorem dr_pos (a b : Int) (hb : 0 < b) : 0 ≤ dr a b ∧ dr a b < b := by
  have h := (tmod_bd a b (by omega)).1 hb
  unfold dr dd
  by_cases h0 : a.tmod b < 0
  · have e : decide (b < 0) = false := by simp; omega
    have e2 : (a.tmod b != 0) = true := by simp; omega
    simp [h0, e, e2]; omega
  · have e : decide (b < 0) = false := by simp; omega
    simp [h0, e]; omega
theorem dr_neg (a b : Int) (hb : b < 0) : dr a b ≤ 0 ∧ b < dr a b := by
  have h := (tmod_bd a b (by omega)).2 hb
  unfold dr dd
  by_cases h0 : a.tmod b < 0
  · simp [h0, hb]; omega
  · by_cases h1 : a.tmod b = 0
    · simp [h1, hb]
    · simp [h0, h1, hb]; omega
theorem tmod_i64 (a b : Int) (hb : b ≠ 0) (hb0 : -9223372036854775808 ≤ b) (hb1 : b ≤ 9223372036854775807) : -9223372036854775808 ≤ a.tmod b ∧ a.tmod b ≤ 9223372036854775807 := by
  have h := tmod_bd a b hb
  rcases Int.lt_or_gt_of_ne hb with h0 | h0
  · have := h.2 h0; omega
  · have := h.1 h0; omega
/-- a - q * b, all wrapped, is what is left. -/
theorem rest64 (a b : Int) (hb : b ≠ 0) (hb0 : -9223372036854775808 ≤ b) (hb1 : b ≤ 9223372036854775807) : wrap64 (a - wrap64 (wrap64 (a.tdiv b) * b)) = a.tmod b := by
  have h := Int.tmod_add_mul_tdiv a b
  have hr := tmod_i64 a b hb hb0 hb1
  obtain ⟨k, hk⟩ : ∃ k, wrap64 (a.tdiv b) = a.tdiv b + 18446744073709551616 * k := ⟨-((a.tdiv b + 9223372036854775808) / 18446744073709551616), by unfold wrap64; omega⟩
  obtain ⟨j, hj⟩ : ∃ j, wrap64 (wrap64 (a.tdiv b) * b) = wrap64 (a.tdiv b) * b + 18446744073709551616 * j := ⟨-((wrap64 (a.tdiv b) * b + 9223372036854775808) / 18446744073709551616), by generalize wrap64 (a.tdiv b) * b = x; unfold wrap64; omega⟩
  rw [hj, hk]
  have e : a - ((a.tdiv b + 18446744073709551616 * k) * b + 18446744073709551616 * j) = a.tmod b + 18446744073709551616 * (-(k * b) - j) := by grind
  rw [e]
  generalize -(k * b) - j = m
  unfold wrap64; omega
theorem dr_i64 (a b : Int) (hb : b ≠ 0) (hb0 : -9223372036854775808 ≤ b) (hb1 : b ≤ 9223372036854775807) : wrap64 (dr a b) = dr a b := by
  rcases Int.lt_or_gt_of_ne hb with h0 | h0
  · have := dr_neg a b h0; unfold wrap64; omega
  · have := dr_pos a b h0; unfold wrap64; omega
theorem W_dq (a b : Int) : W (wrap64 (wrap64 (a.tdiv b) - 1)) = W (a.tdiv b - 1) := by
  rw [W_wrap64]; obtain ⟨k, h⟩ := wrap64_ex (a.tdiv b); rw [h]; exact W_eq k (by omega)

theorem W_dq' (a b : Int) : W (wrap64 (a.tdiv b) - 1) = W (a.tdiv b - 1) := by rw [← W_dq, W_wrap64]
theorem dd_y {a b : Int} (h0 : ¬ a.tmod b = 0) (h : (!decide (a.tmod b < 0) == decide (b < 0)) = true) : dd a b = true := by
  unfold dd; revert h; cases decide (a.tmod b < 0) <;> cases decide (b < 0) <;> simp [h0]
theorem dd_n {a b : Int} (h : (a.tmod b != 0) = false ∨ (!decide (a.tmod b < 0) == decide (b < 0)) = false) : dd a b = false := by
  unfold dd
  rcases h with h | h
  · rw [h]; rfl
  · revert h; cases decide (a.tmod b < 0) <;> cases decide (b < 0) <;> simp
theorem dd_z {a b : Int} (h : a.tmod b = 0) : dd a b = false := by unfold dd; simp [h]

theorem prod_even {x y o : Int} (h : y % 2 = 0) : W (o + W (x + x) * (y / 2)) = W (o + x * y) := by
  rw [← W_add_r, W_mul_l, W_add_r]
  have : y = 2 * (y / 2) := by omega
  congr 1; generalize y / 2 = z at *; subst this; grind
theorem prod_odd {x y o : Int} (h : y % 2 = 1) : W (W (o + x) + W (x + x) * (y / 2)) = W (o + x * y) := by
  rw [W_add_l, ← W_add_r, W_mul_l, W_add_r]
  have : y = 2 * (y / 2) + 1 := by omega
  congr 1; generalize y / 2 = z at *; subst this; grind
theorem prodn_even {x y o : Int} (h : y % 2 = 0) (ht : y.tdiv 2 = -(-y / 2)) : W (-o + W (x + x) * (y.tdiv 2)) = W (-o + x * y) := by
  rw [← W_add_r, W_mul_l, W_add_r]
  have : y = 2 * y.tdiv 2 := by omega
  congr 1; generalize y.tdiv 2 = z at *; subst this; grind
theorem prodn_odd {x y o : Int} (h : y % 2 = 1) (ht : y.tdiv 2 = -(-y / 2)) : W (-W (o + x) + W (x + x) * (y.tdiv 2)) = W (-o + x * y) := by
  rw [← W_add_r, W_mul_l, W_add_r, ← W_add_l, W_neg, W_add_l]
  have : y = 2 * y.tdiv 2 - 1 := by omega
  congr 1; generalize y.tdiv 2 = z at *; subst this; grind
theorem tdiv2_neg {y : Int} (h : y ≤ 0) : y.tdiv 2 = -(-y / 2) ∧ y.tmod 2 = -(y % 2) := by
  obtain ⟨z, rfl⟩ : ∃ z, y = -z := ⟨-y, by omega⟩
  rw [Int.neg_tdiv, Int.neg_tmod, Int.tdiv_eq_ediv_of_nonneg (by omega), Int.tmod_eq_emod_of_nonneg (by omega)]
  constructor <;> omega

/-- A place as a pointer. -/
def ptr (n : Int) : Int := 2 * n % 18446744073709551616
theorem ptr_lo (n : Int) : 0 ≤ ptr n := by unfold ptr; omega
theorem ptr_hi (n : Int) : ptr n < 18446744073709551616 := by unfold ptr; omega
theorem ptr_even (n : Int) : (ptr n % 2 == 1) = false := by unfold ptr; have h : 2 * n % 18446744073709551616 % 2 = 0 := by omega
                                                            rw [h]; rfl

/-! powers of two -/
theorem pow_step (k : Nat) : (2 : Int) ^ k * 2 = 2 ^ (k + 1) := (Int.pow_succ 2 k).symm
end Go.Proofs.YtglalgjffkoneaaGreatDoor.M
/- Contracts of layer 1's reckonings: word.Wrap, Add, Sub, Mul, Div, Mod, and the document's own Wrap, Sum, Product, Div. -/
namespace Go.Proofs.YtglalgjffkoneaaGreatDoor
set_option linter.unusedVariables false
open Go.ChangeShapes Go.WideShapes Go.ChangeAt Go.RowKit
open M (W)

theorem ret_int {k : IntKind} {a b : Int} (h : a = b) : Ending.returned (.int k a) = .returned (.int k b) := by rw [h]

theorem wrap_any (n : Int) (w : World) : Calls Tryz.prog 128 #[.int .i64 n] w fun e w' => e = .returned (.int .i64 (W n)) ∧ w' = w := by
  go_enter Tryz.func128, Tryz.ntmps128
  go_wp2
  go_ret

  exact ⟨ret_int (by rw [← M.shl_shr]), rfl⟩

theorem refWrap_any (n : Int) (w : World) (h0 : -9223372036854775808 ≤ n) (h1 : n ≤ 9223372036854775807) :
    Calls Tryz.prog 141 #[.int .i64 n] w fun e w' => e = .returned (.int .i64 (W n)) ∧ w' = w := by
  go_enter Tryz.func141, Tryz.ntmps141
  go_wp2
  go_loop [0] (fun v => ∃ m : Int, v = .int .i64 m ∧ -9223372036854775808 ≤ m ∧ m ≤ 9223372036854775807 ∧ W m = W n) (fun v => (intOf v + 9223372036854775808).toNat)
  case atStart => exact ⟨n, rfl, h0, h1, rfl⟩
  case round =>
    obtain ⟨m, rfl, m0, m1, hm⟩ := hrel
    have HM := Lib.hid hm; clear hm
    by_cases hc : 4611686018427387904 ≤ m
    · go_wp2
      go_round
      case rel => exact ⟨_, rfl, by omega, by omega, by rw [← HM.out]; exact M.W_eq (-1) (by omega)⟩
      case measure => simp [intOf]; omega
    · go_wp2
      go_loop [0] (fun v => ∃ m : Int, v = .int .i64 m ∧ -9223372036854775808 ≤ m ∧ m < 4611686018427387904 ∧ W m = W n) (fun v => (9223372036854775808 - intOf v).toNat)
      case atStart => exact ⟨m, rfl, m0, by omega, HM.out⟩
      case round =>
        clear HM hc m0 m1
        obtain ⟨j, rfl, j0, j1, hj⟩ := hrel
        have HJ := Lib.hid hj; clear hj
        by_cases hd : j < -4611686018427387904
        · go_wp2
          go_round
          case rel => exact ⟨_, rfl, by omega, by omega, by rw [← HJ.out]; exact M.W_eq 1 (by omega)⟩
          case measure => simp [intOf]; omega
        · go_wp2
          go_ret
          exact ⟨ret_int (by rw [← HJ.out, M.W_id (by omega) (by omega)]), rfl⟩

theorem refWrap_w (x : Int) (w : World) : Calls Tryz.prog 141 #[.int .i64 (wrap64 x)] w fun e w' => e = .returned (.int .i64 (W x)) ∧ w' = w :=
  (refWrap_any (wrap64 x) w (by unfold wrap64; omega) (by unfold wrap64; omega)).mono fun _ _ ⟨h1, h2⟩ => ⟨by rw [h1, M.W_wrap64], h2⟩
end Go.Proofs.YtglalgjffkoneaaGreatDoor
/- Parts of a word of 64 bits: masks, shifts and joins as quotients, rests and sums. No program in sight. -/
namespace Go.Proofs.YtglalgjffkoneaaGreatDoor.M
set_option linter.unusedVariables false
open Go.RowKit

theorem split3 (h s k : Nat) : h = 2 ^ (s + k) * (h / 2 ^ (s + k)) + (2 ^ s * (h / 2 ^ s % 2 ^ k) + h % 2 ^ s) := by
  have h1 := Nat.div_add_mod h (2 ^ s)
  have h2 := Nat.div_add_mod (h / 2 ^ s) (2 ^ k)
  rw [Nat.div_div_eq_div_mul, ← Nat.pow_add] at h2
  have h3 : 2 ^ (s + k) * (h / 2 ^ (s + k)) = 2 ^ s * (2 ^ k * (h / 2 ^ (s + k))) := by rw [Nat.pow_add, Nat.mul_assoc]
  rw [h3, ← Nat.add_assoc, ← Nat.mul_add, h2, h1]

theorem lo_lt (m l s k : Nat) (hm : m < 2 ^ k) (hl : l < 2 ^ s) : 2 ^ s * m + l < 2 ^ (s + k) := by
  have : 2 ^ s * (m + 1) ≤ 2 ^ s * 2 ^ k := Nat.mul_le_mul_left _ hm
  rw [Nat.pow_add]; rw [Nat.mul_add] at this; omega

theorem with_nat (h s k m : Nat) (hk : s + k ≤ 64) (hm : m < 2 ^ k) (hh : h < 2 ^ 64) :
    (h &&& (2 ^ 64 - ((2 ^ k - 1) * 2 ^ s + 1))) ||| (2 ^ s * m) = h - 2 ^ s * (h / 2 ^ s % 2 ^ k) + 2 ^ s * m := by
  have hs := split3 h s k
  have hl : h % 2 ^ s < 2 ^ s := Nat.mod_lt _ (Nat.two_pow_pos s)
  have hmid : h / 2 ^ s % 2 ^ k < 2 ^ k := Nat.mod_lt _ (Nat.two_pow_pos k)
  have hr : h - 2 ^ s * (h / 2 ^ s % 2 ^ k) + 2 ^ s * m = 2 ^ (s + k) * (h / 2 ^ (s + k)) + (2 ^ s * m + h % 2 ^ s) := by omega
  have hmask : (2 ^ k - 1) * 2 ^ s < 2 ^ 64 := by
    have h1 : (2 ^ k - 1) * 2 ^ s < 2 ^ k * 2 ^ s := Nat.mul_lt_mul_of_pos_right (Nat.sub_lt (Nat.two_pow_pos k) (by decide)) (Nat.two_pow_pos s)
    rw [← Nat.pow_add] at h1
    exact Nat.lt_of_lt_of_le h1 (Nat.pow_le_pow_right (by decide) (by omega))
  rw [hr]
  apply Nat.eq_of_testBit_eq
  intro j
  rw [Nat.testBit_or, Nat.testBit_and, Nat.testBit_two_pow_sub_succ hmask, Nat.testBit_two_pow_mul, Nat.testBit_mul_two_pow, Nat.testBit_two_pow_sub_one,
    Nat.testBit_two_pow_mul_add _ (lo_lt _ _ _ _ hm hl), Nat.testBit_two_pow_mul_add _ hl]
  have hb : h.testBit j = if j < s + k then (if j < s then (h % 2 ^ s).testBit j else (h / 2 ^ s % 2 ^ k).testBit (j - s)) else (h / 2 ^ (s + k)).testBit (j - (s + k)) := by
    conv => lhs; rw [hs]
    rw [Nat.testBit_two_pow_mul_add _ (lo_lt _ _ _ _ hmid hl), Nat.testBit_two_pow_mul_add _ hl]
  by_cases h1 : j < s
  · have a1 : ¬ s ≤ j := by omega
    have a2 : j < s + k := by omega
    have a3 : j < 64 := by omega
    rw [hb, if_pos a2, if_pos h1, if_pos a2, if_pos h1]; simp [a1, a3]
  · have a1 : s ≤ j := by omega
    by_cases h2 : j < s + k
    · have a2 : j - s < k := by omega
      have a3 : j < 64 := by omega
      simp [h1, h2, a1, a2, a3]
    · have a2 : ¬ j - s < k := by omega
      have a3 : m.testBit (j - s) = false := Nat.testBit_lt_two_pow (Nat.lt_of_lt_of_le hm (Nat.pow_le_pow_right (by decide) (by omega)))
      by_cases a4 : j < 64
      · rw [hb]; simp [h2, a1, a2, a3, a4]
      · have a5 : h.testBit j = false := Nat.testBit_lt_two_pow (Nat.lt_of_lt_of_le hh (Nat.pow_le_pow_right (by decide) (by omega)))
        have a6 := a5; rw [hb] at a6; simp [h2] at a6
        simp [h2, a1, a2, a3, a4, a6]

theorem wraps_u64 (n : Int) (h₀ : 0 ≤ n) (h₁ : n < 2 ^ 64) : IntKind.u64.wrap n = n := by rw [IntKind.wrap_u64]; omega
theorem u64_lt (n : Int) : IntKind.u64.wrap n < 18446744073709551616 := by rw [IntKind.wrap_u64]; omega
theorem u64_nn (n : Int) : 0 ≤ IntKind.u64.wrap n := by rw [IntKind.wrap_u64]; omega
theorem and20 (x : Int) (h0 : 0 ≤ x) (h1 : x < 18446744073709551616) : bits .and .u64 x 1048575 = x % 1048576 :=
  bits_mask .u64 64 (by decide) wraps_u64 20 (by decide) x h0 (by omega)
theorem and1 (x : Int) (h0 : 0 ≤ x) (h1 : x < 18446744073709551616) : bits .and .u64 x 1 = x % 2 :=
  bits_mask .u64 64 (by decide) wraps_u64 1 (by decide) x h0 (by omega)
theorem or1 (x : Int) (h0 : 0 ≤ x) (h1 : x < 18446744073709551616) (h2 : x % 2 = 0) : bits .or .u64 x 1 = x + 1 :=
  bits_join .u64 64 (by decide) wraps_u64 1 x 1 h0 (by simpa using h2) (by omega) (by decide) (by decide) (by decide)

/-- A field of h, and h with another one in its place. -/
def fld (h s k : Int) : Int := h / s % k
def put (h s k m : Int) : Int := h - s * (h / s % k) + s * (m % k)

theorem with_int (h m : Int) (s k : Nat) (hk : s + k ≤ 64) (h0 : 0 ≤ h) (h1 : h < 18446744073709551616) :
    bits .or .u64 (bits .andNot .u64 h (((2 ^ k - 1) * 2 ^ s : Nat) : Int)) (((2 ^ s : Nat) : Int) * (m % ((2 ^ k : Nat) : Int))) = put h ((2 ^ s : Nat) : Int) ((2 ^ k : Nat) : Int) m := by
  obtain ⟨H, rfl⟩ := Int.eq_ofNat_of_zero_le h0
  have hkp : 0 < 2 ^ k := Nat.two_pow_pos k
  obtain ⟨M, hM⟩ := Int.eq_ofNat_of_zero_le (Int.emod_nonneg m (b := ((2 ^ k : Nat) : Int)) (by omega))
  have hM2 : M < 2 ^ k := by have := Int.emod_lt_of_pos m (b := ((2 ^ k : Nat) : Int)) (by omega); omega
  have hmask : (2 ^ k - 1) * 2 ^ s < 2 ^ 64 := by
    have h1 : (2 ^ k - 1) * 2 ^ s < 2 ^ k * 2 ^ s := Nat.mul_lt_mul_of_pos_right (Nat.sub_lt (Nat.two_pow_pos k) (by decide)) (Nat.two_pow_pos s)
    rw [← Nat.pow_add] at h1
    exact Nat.lt_of_lt_of_le h1 (Nat.pow_le_pow_right (by decide) (by omega))
  have hfin := with_nat H s k M hk hM2 (by omega)
  have hsm : 2 ^ s * M < 2 ^ 64 := by
    have := lo_lt M 0 s k hM2 (Nat.two_pow_pos s)
    exact Nat.lt_of_lt_of_le this (Nat.pow_le_pow_right (by decide) hk)
  have hle : 2 ^ s * (H / 2 ^ s % 2 ^ k) ≤ H := by have := split3 H s k; omega
  rw [hM, u64_andNot_nat H _ (by omega) (by omega)]
  have e1 : ((2 ^ s : Nat) : Int) * (M : Int) = ((2 ^ s * M : Nat) : Int) := by simp
  have e2 : 18446744073709551615 - (2 ^ k - 1) * 2 ^ s = 2 ^ 64 - ((2 ^ k - 1) * 2 ^ s + 1) := by omega
  rw [e1, u64_or_nat _ _ (by have := Nat.and_le_left (n := H) (m := 18446744073709551615 - (2 ^ k - 1) * 2 ^ s); omega) (by omega), e2, hfin]
  unfold put
  rw [hM, Int.natCast_add, Int.natCast_sub hle]
  simp

theorem fld_lo (h s k : Int) (hk : 0 < k) : 0 ≤ fld h s k := Int.emod_nonneg _ (by omega)
theorem fld_hi (h s k : Int) (hk : 0 < k) : fld h s k < k := Int.emod_lt_of_pos _ hk
theorem and20s (x : Int) : bits .and .i64 x 1048575 = x % 1048576 := by
  show IntKind.i64.wrap ((BitVec.ofInt 64 x &&& BitVec.ofInt 64 1048575).toNat : Int) = _
  have h1 : (BitVec.ofInt 64 x).toNat = (x % 18446744073709551616).toNat := by simp [BitVec.toNat_ofInt]
  have h2 : (BitVec.ofInt 64 1048575).toNat = 2 ^ 20 - 1 := by decide
  rw [BitVec.toNat_and, h1, h2, Nat.and_two_pow_sub_one_eq_mod, IntKind.wrap_i64]
  omega
/-- A head with all its parts. -/
def hd (a n o k : Int) : Int := 1 + 2 * (a % 1048576) + 2097152 * (n % 1048576) + 2199023255552 * (o % 2) + 4398046511104 * (k % 1048576)
theorem hd_lo (a n o k : Int) : 0 ≤ hd a n o k := by unfold hd; omega
theorem hd_hi (a n o k : Int) : hd a n o k < 18446744073709551616 := by unfold hd; omega
theorem hd_head (a n : Int) : put (put 1 2 1048576 a) 2097152 1048576 n = hd a n 0 0 := by unfold put hd; omega
theorem hd_mark (a n o k p : Int) : put (hd a n o k) 2199023255552 2 p = hd a n p k := by unfold put hd; omega
theorem hd_turn (a n o k j : Int) : put (hd a n o k) 4398046511104 1048576 j = hd a n o j := by unfold put hd; omega
theorem hd_shape (a n o k : Int) : fld (hd a n o k) 2 1048576 = a % 1048576 := by unfold fld hd; omega
theorem hd_len (a n o k : Int) : fld (hd a n o k) 2097152 1048576 = n % 1048576 := by unfold fld hd; omega
theorem hd_marked (a n o k : Int) : fld (hd a n o k) 2199023255552 2 = o % 2 := by unfold fld hd; omega
theorem hd_turned (a n o k : Int) : fld (hd a n o k) 4398046511104 1048576 = k % 1048576 := by unfold fld hd; omega
theorem hd_odd (a n o k : Int) : hd a n o k % 2 = 1 := by unfold hd; omega
theorem put_wrap (h k : Int) : put h 4398046511104 1048576 (IntKind.u64.wrap k) = put h 4398046511104 1048576 k := by rw [IntKind.wrap_u64]; unfold put; omega

def pw (n : Nat) : Nat := 2 ^ n
theorem pw_succ (n : Nat) : pw (n + 1) = pw n * 2 := Nat.pow_succ ..
theorem pw_lt (n : Nat) (h : n < 64) : pw n < 18446744073709551616 := Nat.pow_lt_pow_right (m := n) (n := 64) (by decide) h

theorem mark_on_nat (h s : Nat) (hs : s < 64) (hh : h < 2 ^ 64) : h ||| 2 ^ s = h - 2 ^ s * (h / 2 ^ s % 2) + 2 ^ s := by
  have e := with_nat h s 1 1 (by omega) (by decide) hh
  simp only [Nat.mul_one, Nat.pow_one] at e
  rw [← e]
  have hp : 2 ^ s < 2 ^ 64 := Nat.pow_lt_pow_right (by decide) hs
  apply Nat.eq_of_testBit_eq
  intro j
  rw [Nat.testBit_or, Nat.testBit_or, Nat.testBit_and, Nat.testBit_two_pow_sub_succ (by omega)]
  have e1 : (2 - 1) * 2 ^ s = 2 ^ s := by omega
  rw [e1]
  by_cases h1 : j < 64
  · cases h.testBit j <;> cases (2 ^ s).testBit j <;> simp [h1]
  · have a5 : h.testBit j = false := Nat.testBit_lt_two_pow (Nat.lt_of_lt_of_le hh (Nat.pow_le_pow_right (by decide) (by omega)))
    rw [a5]; simp
theorem mark_on_int (h : Int) (h0 : 0 ≤ h) (h1 : h < 18446744073709551616) : bits .or .u64 h 2199023255552 = put h 2199023255552 2 1 := by
  obtain ⟨H, rfl⟩ := Int.eq_ofNat_of_zero_le h0
  have e := u64_or_nat H 2199023255552 (by omega) (by omega)
  have e2 := mark_on_nat H 41 (by decide) (by omega)
  simp only [Nat.reducePow] at e2
  rw [e2] at e
  have e3 : (2199023255552 : Int) = ((2199023255552 : Nat) : Int) := rfl
  rw [e3, e]
  unfold put
  omega
theorem mark_off_int (h : Int) (h0 : 0 ≤ h) (h1 : h < 18446744073709551616) : bits .andNot .u64 h 2199023255552 = put h 2199023255552 2 0 := by
  obtain ⟨H, rfl⟩ := Int.eq_ofNat_of_zero_le h0
  have e := u64_andNot_nat H 2199023255552 (by omega) (by omega)
  have e2 := with_nat H 41 1 0 (by decide) (by decide) (by omega)
  simp only [Nat.reducePow, Nat.reduceSub, Nat.reduceMul, Nat.mul_zero, Nat.or_zero, Nat.reduceAdd] at e2
  have e3 : (2199023255552 : Int) = ((2199023255552 : Nat) : Int) := rfl
  rw [e3, e]
  simp only [Nat.reduceSub]
  rw [e2]
  unfold put
  omega
end Go.Proofs.YtglalgjffkoneaaGreatDoor.M
/- Contracts of layer 1's words and heads, and of the document's own ones. -/
namespace Go.Proofs.YtglalgjffkoneaaGreatDoor
set_option linter.unusedVariables false
open Go.ChangeShapes Go.WideShapes Go.ChangeAt Go.RowKit
open M (W)

theorem ret_u {k : IntKind} {a b : Int} {w : World} (h : a = b) : Ending.returned (.int k a) = .returned (.int k b) ∧ w = w := ⟨by rw [h], rfl⟩
theorem ret_b {a b : Bool} {w : World} (h : a = b) : Ending.returned (.bool a) = .returned (.bool b) ∧ w = w := ⟨by rw [h], rfl⟩

theorem ptr_wrap (n : Int) : IntKind.u64.wrap (IntKind.u64.wrap n * 2) = M.ptr n := by rw [IntKind.wrap_u64, IntKind.wrap_u64]; unfold M.ptr; omega
/-! heads, all parts told -/
end Go.Proofs.YtglalgjffkoneaaGreatDoor
/- Numbers as bytes: groups of seven bits. No program in sight. -/
namespace Go.Proofs.YtglalgjffkoneaaGreatDoor.M
set_option linter.unusedVariables false
open Go.RowKit

/-- The bytes of a number: groups of seven bits, the lowest first, 128 added to all but the last. -/
def enc (x : Nat) : List Int := if x ≤ 127 then [(x : Int)] else ((x % 128 + 128 : Nat) : Int) :: enc (x / 128)
termination_by x
decreasing_by omega

theorem enc_small {x : Nat} (h : x ≤ 127) : enc x = [(x : Int)] := by rw [enc, if_pos h]
theorem enc_big {x : Nat} (h : ¬ x ≤ 127) : enc x = ((x % 128 + 128 : Nat) : Int) :: enc (x / 128) := by rw [enc, if_neg h]
theorem enc_len : ∀ (k x : Nat), x < 128 ^ (k + 1) → (enc x).length ≤ k + 1
  | 0, x, h => by rw [enc_small (by simpa using Nat.le_of_lt_succ h)]; simp
  | k + 1, x, h => by
    by_cases hx : x ≤ 127
    · rw [enc_small hx]; simp
    · rw [enc_big hx]
      have := enc_len k (x / 128) (by rw [Nat.pow_succ] at h; omega)
      simp; omega
theorem enc_len10 {x : Nat} (h : x < 18446744073709551616) : (enc x).length ≤ 10 := enc_len 9 x (Nat.lt_of_lt_of_le h (by decide))
theorem enc_pos (x : Nat) : 0 < (enc x).length := by
  by_cases h : x ≤ 127
  · rw [enc_small h]; simp
  · rw [enc_big h]; simp

theorem enc_bd : ∀ (x : Nat), ∀ c ∈ enc x, 0 ≤ c ∧ c ≤ 255 := by
  intro x
  induction x using Nat.strongRecOn with
  | _ x ih =>
    intro c hc
    by_cases h : x ≤ 127
    · rw [enc_small h] at hc; simp at hc; omega
    · rw [enc_big h, List.mem_cons] at hc
      rcases hc with rfl | hc
      · omega
      · exact ih (x / 128) (by omega) c hc

/-- A number from bytes. -/
def val : List Int → Nat
  | [] => 0
  | c :: r => c.toNat % 128 + 128 * val r
theorem val_enc : ∀ x, val (enc x) = x := by
  intro x
  induction x using Nat.strongRecOn with
  | _ x ih =>
    by_cases h : x ≤ 127
    · rw [enc_small h]; simp [val]; omega
    · rw [enc_big h]
      have := ih (x / 128) (by omega)
      simp only [val, this]; omega

/-- Where the first byte stands, of the first f ones, behind which there are no more. -/
def stop : Nat → List Int → Option Nat
  | 0, _ => none
  | _ + 1, [] => none
  | f + 1, c :: r => if c < 128 then some 0 else (stop f r).map (· + 1)

/-- The bytes up to there are the shortest ones, and of 64 bits. -/
def fits (p : List Int) : Bool := (decide (p.length ≤ 1) || p.getLast? != some 0) && (decide (p.length ≤ 9) || decide (p.getLast?.getD 0 ≤ 1))

/-- What Get tells: the number, and of how many bytes. -/
def got (l : List Int) : Option (Nat × Nat) := match stop 10 l with
  | none => none
  | some i => if fits (l.take (i + 1)) then some (val (l.take (i + 1)), i + 1) else none

def zig (n : Int) : Nat := if 0 ≤ n then (2 * n).toNat else (-2 * n - 1).toNat
def zag (x : Nat) : Int := if x % 2 = 0 then (x / 2 : Nat) else -((x / 2 : Nat) : Int) - 1
theorem zag_zig (n : Int) : zag (zig n) = n := by unfold zag zig; split <;> split <;> omega
theorem zig_zag (x : Nat) : zig (zag x) = x := by unfold zag zig; split <;> split <;> omega
theorem zig_lt {n : Int} (h0 : -9223372036854775808 ≤ n) (h1 : n ≤ 9223372036854775807) : zig n < 18446744073709551616 := by unfold zig; split <;> omega
theorem zag_bd {x : Nat} (h : x < 18446744073709551616) : -9223372036854775808 ≤ zag x ∧ zag x ≤ 9223372036854775807 := by unfold zag; split <;> omega
theorem zig_inj {a b : Int} (h : zig a = zig b) : a = b := by rw [← zag_zig a, h, zag_zig]
theorem enc_inj {a b : Nat} (h : enc a = enc b) : a = b := by rw [← val_enc a, h, val_enc]

/-! the bytes of a number, read -/
theorem stop_enc : ∀ (x : Nat) (f : Nat) (r : List Int), (enc x).length ≤ f → stop f (enc x ++ r) = some ((enc x).length - 1) := by
  intro x
  induction x using Nat.strongRecOn with
  | _ x ih =>
    intro f r hf
    by_cases h : x ≤ 127
    · rw [enc_small h] at hf ⊢
      obtain ⟨g, rfl⟩ : ∃ g, f = g + 1 := ⟨f - 1, by simp at hf; omega⟩
      simp [stop]; omega
    · rw [enc_big h] at hf ⊢
      obtain ⟨g, rfl⟩ : ∃ g, f = g + 1 := ⟨f - 1, by simp at hf; omega⟩
      have hp := enc_pos (x / 128)
      have := ih (x / 128) (by omega) g r (by simpa using hf)
      have hc : ¬ (((x % 128 + 128 : Nat) : Int) < 128) := by omega
      rw [List.cons_append, stop, if_neg hc, this]
      simp; omega
theorem last_enc (x : Nat) : ∃ c : Nat, (enc x).getLast? = some (c : Int) ∧ c ≤ 127 ∧ (1 < (enc x).length → c ≠ 0) ∧ c * 128 ^ ((enc x).length - 1) ≤ x := by
  induction x using Nat.strongRecOn with
  | _ x ih =>
    by_cases h : x ≤ 127
    · rw [enc_small h]; exact ⟨x, by simp, h, by simp, by simp⟩
    · rw [enc_big h]
      obtain ⟨c, h1, h2, h3, h4⟩ := ih (x / 128) (by omega)
      have hp := enc_pos (x / 128)
      refine ⟨c, ?_, h2, fun _ => ?_, ?_⟩
      · rw [List.getLast?_cons, h1]; rfl
      · by_cases h5 : 1 < (enc (x / 128)).length
        · exact h3 h5
        · have h6 : x / 128 ≤ 127 := by
            apply Classical.byContradiction; intro h7
            rw [enc_big h7] at h5
            have := enc_pos (x / 128 / 128)
            rw [List.length_cons] at h5; omega
          rw [enc_small h6] at h1
          simp at h1; omega
      · have e : (((x % 128 + 128 : Nat) : Int) :: enc (x / 128)).length - 1 = ((enc (x / 128)).length - 1) + 1 := by simp; omega
        rw [e, Nat.pow_succ, ← Nat.mul_assoc]
        omega
theorem fits_enc {x : Nat} (h : x < 18446744073709551616) : fits (enc x) = true := by
  obtain ⟨c, h1, h2, h3, h4⟩ := last_enc x
  have hl := enc_len10 h
  unfold fits
  rw [h1]
  by_cases h5 : 1 < (enc x).length
  · have h6 := h3 h5
    by_cases h7 : (enc x).length ≤ 9
    · simp [h7]; omega
    · have h8 : (enc x).length - 1 = 9 := by omega
      rw [h8] at h4
      have : c ≤ 1 := by
        have e : (128 : Nat) ^ 9 = 9223372036854775808 := by decide
        rw [e] at h4; omega
      simp; omega
  · simp; omega
theorem got_enc {x : Nat} (h : x < 18446744073709551616) (r : List Int) : got (enc x ++ r) = some (x, (enc x).length) := by
  have hp := enc_pos x
  have e : (enc x).length - 1 + 1 = (enc x).length := by omega
  unfold got
  rw [stop_enc x 10 r (enc_len10 h)]
  simp only [e]
  rw [List.take_append_of_le_length (Nat.le_refl _), List.take_length, if_pos (fits_enc h), val_enc]

/-! bytes that are fit are those of their number -/
/-- All but the last say that more follow, the last one doesn't. -/
def form : List Int → Prop
  | [] => False
  | [c] => 0 ≤ c ∧ c < 128
  | c :: d :: r => 128 ≤ c ∧ c ≤ 255 ∧ form (d :: r)
theorem enc_val : ∀ p : List Int, form p → (p.length ≤ 1 ∨ p.getLast? ≠ some 0) → enc (val p) = p
  | [], h, _ => h.elim
  | [c], h, _ => by
    simp only [form] at h
    have e : val [c] = c.toNat := by simp [val]; omega
    rw [e, enc_small (by omega)]; simp; omega
  | c :: d :: r, h, hl => by
    obtain ⟨h1, h2, h3⟩ := h
    have hl' : (d :: r).getLast? ≠ some 0 := by
      rcases hl with hl | hl
      · simp at hl
      · rw [List.getLast?_cons] at hl
        intro e; rw [e] at hl; simp at hl
    have ih := enc_val (d :: r) h3 (.inr hl')
    have hv : 0 < val (d :: r) := by
      apply Nat.pos_of_ne_zero; intro e
      rw [e, enc_small (by omega)] at ih
      rw [← ih] at hl'; simp at hl'
    have e : val (c :: d :: r) = c.toNat % 128 + 128 * val (d :: r) := rfl
    rw [e, enc_big (by omega)]
    have e1 : (c.toNat % 128 + 128 * val (d :: r)) / 128 = val (d :: r) := by omega
    rw [e1, ih]
    congr 1; omega
theorem val_lt : ∀ p : List Int, val p < 128 ^ p.length
  | [] => by simp [val]
  | c :: r => by
    have := val_lt r
    simp only [val, List.length_cons, Nat.pow_succ]; omega
theorem val_append : ∀ (p : List Int) (c : Int), val (p ++ [c]) = val p + c.toNat % 128 * 128 ^ p.length
  | [], c => by simp [val]
  | d :: r, c => by
    have := val_append r c
    simp only [List.cons_append, val, this, List.length_cons, Nat.pow_succ, Nat.mul_add]
    have e : 128 * (c.toNat % 128 * 128 ^ r.length) = c.toNat % 128 * (128 ^ r.length * 128) := by rw [← Nat.mul_assoc, Nat.mul_comm 128, Nat.mul_assoc]; congr 1; exact Nat.mul_comm ..
    omega

/-! reading, byte by byte -/
def all8 (p : List Int) : Prop := ∀ c ∈ p, 128 ≤ c ∧ c ≤ 255
theorem stop_at : ∀ (p : List Int) (f : Nat) (c : Int) (r : List Int), all8 p → p.length < f → c < 128 → stop f (p ++ c :: r) = some p.length
  | [], f, c, r, _, hf, hc => by
    obtain ⟨g, rfl⟩ : ∃ g, f = g + 1 := ⟨f - 1, by simp at hf; omega⟩
    simp [stop, hc]
  | d :: p, f, c, r, hp, hf, hc => by
    obtain ⟨g, rfl⟩ : ∃ g, f = g + 1 := ⟨f - 1, by simp at hf; omega⟩
    have hd := hp d (by simp)
    have := stop_at p g c r (fun x hx => hp x (by simp [hx])) (by simpa using hf) hc
    rw [List.cons_append, stop, if_neg (by omega), this]; simp
theorem stop_none : ∀ (p : List Int) (f : Nat) (r : List Int), all8 p → (p.length = f ∨ r = []) → stop f (p ++ r) = none
  | [], f, r, _, h => by
    rcases h with h | h
    · simp at h; subst h; simp [stop]
    · subst h; cases f <;> simp [stop]
  | d :: p, f, r, hp, h => by
    cases f with
    | zero => simp [stop]
    | succ g =>
      have hd := hp d (by simp)
      have := stop_none p g r (fun x hx => hp x (by simp [hx])) (by rcases h with h | h; · left; simpa using h
                                                                    · right; exact h)
      rw [List.cons_append, stop, if_neg (by omega), this]; rfl
theorem form_snoc : ∀ (p : List Int) (c : Int), all8 p → 0 ≤ c → c < 128 → form (p ++ [c])
  | [], c, _, h0, h1 => ⟨h0, h1⟩
  | [d], c, hp, h0, h1 => by have := hp d (by simp); exact ⟨this.1, this.2, h0, h1⟩
  | d :: e :: p, c, hp, h0, h1 => by
    have := hp d (by simp)
    exact ⟨this.1, this.2, form_snoc (e :: p) c (fun x hx => hp x (by simp [hx])) h0 h1⟩
theorem fits_snoc (p : List Int) (c : Int) : fits (p ++ [c]) = ((decide (p.length = 0) || c != 0) && (decide (p.length < 9) || decide (c ≤ 1))) := by
  unfold fits
  have e1 : (p ++ [c]).getLast? = some c := by simp
  have e2 : (p ++ [c]).length = p.length + 1 := by simp
  have e3 : decide (p.length + 1 ≤ 1) = decide (p.length = 0) := by congr 1; simp
  have e4 : decide (p.length + 1 ≤ 9) = decide (p.length < 9) := by congr 1
  have e5 : (some c != some (0 : Int)) = (c != 0) := by simp [bne]
  rw [e1, e2, e3, e4, e5]; rfl
theorem fits_lt {p : List Int} {c : Int} (hp : p.length ≤ 9) (hc0 : 0 ≤ c) (h : fits (p ++ [c]) = true) : val (p ++ [c]) < 18446744073709551616 := by
  rw [fits_snoc] at h
  rw [val_append]
  have hv := val_lt p
  by_cases h9 : p.length < 9
  · have h1 := val_lt (p ++ [c])
    rw [val_append] at h1
    have h2 : 128 ^ (p ++ [c]).length ≤ 128 ^ 9 := Nat.pow_le_pow_right (by decide) (by simp; omega)
    have e : (128 : Nat) ^ 9 = 9223372036854775808 := by decide
    omega
  · have h10 : p.length = 9 := by omega
    have hc : c ≤ 1 := by simp [h10] at h; exact h.2
    rw [h10] at hv ⊢
    have e : (128 : Nat) ^ 9 = 9223372036854775808 := by decide
    rw [e] at hv ⊢
    have : c.toNat % 128 ≤ 1 := by omega
    have : c.toNat % 128 * 9223372036854775808 ≤ 1 * 9223372036854775808 := Nat.mul_le_mul_right _ this
    omega
theorem fits_iff {p : List Int} {c : Int} (h8 : all8 p) (hp : p.length ≤ 9) (hc0 : 0 ≤ c) (hc : c < 128) :
    fits (p ++ [c]) = true ↔ enc (val (p ++ [c]) % 18446744073709551616) = p ++ [c] := by
  constructor
  · intro h
    rw [Nat.mod_eq_of_lt (fits_lt hp hc0 h)]
    refine enc_val _ (form_snoc p c h8 hc0 hc) ?_
    rw [fits_snoc] at h
    simp at h
    rcases h.1 with h1 | h1
    · left; simp [h1]
    · right; simp [h1]
  · intro h
    have := fits_enc (x := val (p ++ [c]) % 18446744073709551616) (Nat.mod_lt _ (by decide))
    rwa [h] at this
theorem got_yes {p : List Int} {c : Int} {r : List Int} (h8 : all8 p) (hp : p.length ≤ 9) (hc : c < 128) (hf : fits (p ++ [c]) = true) : got (p ++ c :: r) = some (val (p ++ [c]), p.length + 1) := by
  have e : (p ++ c :: r).take (p.length + 1) = p ++ [c] := by rw [List.take_append]; simp [List.take_of_length_le]
  unfold got
  rw [stop_at p 10 c r h8 (by omega) hc]
  simp only [e]; rw [if_pos hf]
theorem got_no {p : List Int} {c : Int} {r : List Int} (h8 : all8 p) (hp : p.length ≤ 9) (hc : c < 128) (hf : fits (p ++ [c]) = false) : got (p ++ c :: r) = none := by
  have e : (p ++ c :: r).take (p.length + 1) = p ++ [c] := by rw [List.take_append]; simp [List.take_of_length_le]
  unfold got
  rw [stop_at p 10 c r h8 (by omega) hc]
  simp only [e]; rw [if_neg (by simp [hf])]
theorem got_end {p r : List Int} (h8 : all8 p) (h : p.length = 10 ∨ r = []) : got (p ++ r) = none := by
  unfold got; rw [stop_none p 10 r h8 h]

/-! the folds -/
theorem xor0 (a : Nat) (h : a < 18446744073709551616) : bits .xor .u64 (a : Int) 0 = a := by
  have := u64_xor_nat a 0 h (by decide); simpa using this
theorem xorAll (a : Nat) (h : a < 18446744073709551616) : bits .xor .u64 (a : Int) 18446744073709551615 = 18446744073709551615 - (a : Int) := by
  show IntKind.u64.wrap ((BitVec.ofInt 64 (a : Int) ^^^ BitVec.ofInt 64 18446744073709551615).toNat : Int) = _
  have h1 : BitVec.ofInt 64 18446744073709551615 = BitVec.allOnes 64 := by decide
  rw [h1, BitVec.xor_allOnes, BitVec.toNat_not, ofInt_u64 a h, IntKind.wrap_u64]
  omega
theorem xori0 (a : Nat) (h : a < 9223372036854775808) : bits .xor .i64 (a : Int) 0 = a := by
  show IntKind.i64.wrap ((BitVec.ofInt 64 (a : Int) ^^^ BitVec.ofInt 64 0).toNat : Int) = _
  have h1 : BitVec.ofInt 64 0 = 0#64 := by decide
  rw [h1, BitVec.xor_zero, ofInt_u64 a (by omega), IntKind.wrap_i64]
  omega
theorem xori1 (a : Nat) (h : a < 9223372036854775808) : bits .xor .i64 (a : Int) (-1) = -(a : Int) - 1 := by
  show IntKind.i64.wrap ((BitVec.ofInt 64 (a : Int) ^^^ BitVec.ofInt 64 (-1)).toNat : Int) = _
  have h1 : BitVec.ofInt 64 (-1) = BitVec.allOnes 64 := by decide
  rw [h1, BitVec.xor_allOnes, BitVec.toNat_not, ofInt_u64 a (by omega), IntKind.wrap_i64]
  omega
theorem fold_p {n : Int} (h0 : 0 ≤ n) (h1 : n ≤ 9223372036854775807) : bits .xor .u64 (n * 2) (n / 9223372036854775808) = zig n := by
  have e : n / 9223372036854775808 = 0 := by omega
  obtain ⟨a, ha⟩ := Int.eq_ofNat_of_zero_le (show 0 ≤ n * 2 by omega)
  rw [e, ha, xor0 a (by omega)]
  unfold zig; rw [if_pos h0]; omega
theorem fold_n {n : Int} (h0 : n < 0) (h1 : -9223372036854775808 ≤ n) : bits .xor .u64 (IntKind.u64.wrap (IntKind.u64.wrap n * 2)) (IntKind.u64.wrap (n / 9223372036854775808)) = zig n := by
  have e : n / 9223372036854775808 = -1 := by omega
  have e1 : IntKind.u64.wrap (-1) = 18446744073709551615 := by rw [IntKind.wrap_u64]; decide
  have e2 : IntKind.u64.wrap (IntKind.u64.wrap n * 2) = n * 2 + 18446744073709551616 := by rw [IntKind.wrap_u64, IntKind.wrap_u64]; omega
  obtain ⟨a, ha⟩ := Int.eq_ofNat_of_zero_le (show 0 ≤ n * 2 + 18446744073709551616 by omega)
  rw [e, e1, e2, ha, xorAll a (by omega)]
  unfold zig; rw [if_neg (by omega)]; omega
theorem unfold_u (u : Nat) (h : u < 18446744073709551616) : bits .xor .i64 ((u : Int) / 2) (wrap64 (-wrap64 (bits .and .u64 (u : Int) 1))) = zag u := by
  have e : bits .and .u64 (u : Int) 1 = (u : Int) % 2 := and1 _ (by omega) (by omega)
  have e2 : (u : Int) / 2 = ((u / 2 : Nat) : Int) := by simp
  rw [e, e2]
  unfold zag
  by_cases hu : u % 2 = 0
  · have e3 : wrap64 (-wrap64 ((u : Int) % 2)) = 0 := by unfold wrap64; omega
    rw [e3, xori0 _ (by omega), if_pos hu]
  · have e3 : wrap64 (-wrap64 ((u : Int) % 2)) = -1 := by unfold wrap64; omega
    rw [e3, xori1 _ (by omega), if_neg hu]
/-- One more group behind s bits. -/
theorem or_group (v c k : Nat) (hv : v < 128 ^ k) (hk : k ≤ 9) : bits .or .u64 (v : Int) (IntKind.u64.wrap ((c : Int) * ((2 ^ (7 * k) : Nat) : Int))) = (((v + c * 128 ^ k) % 18446744073709551616 : Nat) : Int) := by
  have e7 : (2 : Nat) ^ (7 * k) = 128 ^ k := by rw [Nat.pow_mul]
  have hkp : (128 : Nat) ^ k ≤ 128 ^ 9 := Nat.pow_le_pow_right (by decide) hk
  have e9 : (128 : Nat) ^ 9 = 9223372036854775808 := by decide
  obtain ⟨j, hj⟩ : ∃ j, 18446744073709551616 = 128 ^ k * j := by
    have e : 7 * k + (64 - 7 * k) = 64 := by omega
    have e64 : (18446744073709551616 : Nat) = 2 ^ 64 := by decide
    exact ⟨2 ^ (64 - 7 * k), by rw [← e7, ← Nat.pow_add, e, e64]⟩
  have hpos : 0 < 128 ^ k := Nat.pow_pos (by decide)
  have e1 : IntKind.u64.wrap ((c : Int) * ((2 ^ (7 * k) : Nat) : Int)) = ((128 ^ k * (c % j) : Nat) : Int) := by
    rw [IntKind.wrap_u64, e7, Nat.mul_comm (128 ^ k), ← Nat.mul_mod_mul_right, Nat.mul_comm j, ← hj]
    simp
  have hjpos : 0 < j := by apply Nat.pos_of_ne_zero; intro h; subst h; simp at hj
  have hcj : c % j < j := Nat.mod_lt _ hjpos
  have hlt : v + 128 ^ k * (c % j) < 18446744073709551616 := by
    rw [hj]
    have : 128 ^ k * (c % j + 1) ≤ 128 ^ k * j := Nat.mul_le_mul_left _ hcj
    rw [Nat.mul_add] at this; omega
  rw [e1, u64_or_nat v _ (by omega) (by omega), Nat.or_comm]
  have e2 : 128 ^ k * (c % j) ||| v = 128 ^ k * (c % j) + v := by
    rw [← e7] at hv ⊢
    exact (Nat.two_pow_add_eq_or_of_lt hv _).symm
  rw [e2]
  congr 1
  rw [Nat.add_comm (128 ^ k * (c % j)), ← Nat.mod_eq_of_lt hlt]
  have e3 : c * 128 ^ k = 128 ^ k * (c % j) + 18446744073709551616 * (c / j) := by
    have h := Nat.mod_add_div c j
    conv => lhs; rw [← h]
    rw [hj, Nat.add_mul, Nat.mul_comm (c % j), Nat.mul_comm (j * (c / j)), Nat.mul_assoc]
  rw [e3, ← Nat.add_assoc, Nat.add_mul_mod_self_left]
end Go.Proofs.YtglalgjffkoneaaGreatDoor.M
/- Contracts of layer 1's bytes: word.Put and the document's own Put. -/
namespace Go.Proofs.YtglalgjffkoneaaGreatDoor
set_option linter.unusedVariables false
set_option maxRecDepth 100000
open Go.ChangeShapes Go.WideShapes Go.ChangeAt Go.RowKit
open M (W)

theorem infoU8 : (Tryz.prog.info? 5).map (fun i => (i.zero, i.size, i.bytes)) = some (some (.int .u8 0), 1, 1) := by kernel_rfl

theorem and127 (x : Int) (h0 : 0 ≤ x) (h1 : x < 18446744073709551616) : bits .and .u64 x 127 = x % 128 :=
  bits_mask .u64 64 (by decide) M.wraps_u64 7 (by decide) x h0 (by omega)
theorem or128 (x : Int) (h0 : 0 ≤ x) (h1 : x < 128) : bits .or .u64 x 128 = x + 128 := by
  obtain ⟨a, rfl⟩ := Int.eq_ofNat_of_zero_le h0
  have e := u64_or_nat a 128 (by omega) (by decide)
  have e2 := Nat.two_pow_add_eq_or_of_lt (i := 7) (b := a) (by omega) 1
  rw [Nat.or_comm] at e2
  simp only [Nat.reducePow, Nat.mul_one] at e2
  rw [← e2] at e
  have e3 : (128 : Int) = ((128 : Nat) : Int) := rfl
  rw [e3, e]; simp; omega
theorem group_u8 (x : Nat) (h : x < 18446744073709551616) : bits .or .u64 (bits .and .u64 (x : Int) 127) 128 % 256 = (x : Int) % 128 + 128 := by
  rw [and127 _ (by omega) (by omega), or128 _ (by omega) (by omega)]; omega

end Go.Proofs.YtglalgjffkoneaaGreatDoor
/- Contracts of layer 1's bytes: word.Get and the document's own Get. -/
namespace Go.Proofs.YtglalgjffkoneaaGreatDoor
set_option linter.unusedVariables false
set_option maxRecDepth 100000
open Go.ChangeShapes Go.WideShapes Go.ChangeAt Go.RowKit
open M (W)

/-- What Get answers: the number, where it ends, and true; or nothing. -/
def getRes (L : List Int) (i : Int) : Value :=
  if i < 0 ∨ (L.length : Int) ≤ i then .tuple #[.int .i64 0, .int .i64 0, .bool false]
  else match M.got (L.drop i.toNat) with
    | none => .tuple #[.int .i64 0, .int .i64 0, .bool false]
    | some (x, k) => .tuple #[.int .i64 (M.zag x), .int .i64 (i + k), .bool true]
theorem getRes_neg {L : List Int} {i : Int} (h : i < 0) : getRes L i = .tuple #[.int .i64 0, .int .i64 0, .bool false] := by unfold getRes; rw [if_pos (.inl h)]
theorem getRes_far {L : List Int} {i : Int} (h : (L.length : Int) ≤ i) : getRes L i = .tuple #[.int .i64 0, .int .i64 0, .bool false] := by unfold getRes; rw [if_pos (.inr h)]
theorem getRes_none {L : List Int} {k : Nat} (h : k < L.length) (hg : M.got (L.drop k) = none) : getRes L k = .tuple #[.int .i64 0, .int .i64 0, .bool false] := by
  unfold getRes; rw [if_neg (by omega)]; simp [hg]
theorem getRes_some {L : List Int} {k x n : Nat} (h : k < L.length) (hg : M.got (L.drop k) = some (x, n)) : getRes L k = .tuple #[.int .i64 (M.zag x), .int .i64 ((k : Int) + n), .bool true] := by
  unfold getRes; rw [if_neg (by omega)]; simp [hg]

/-- The i-th byte behind k, and what lies ahead of it. -/
theorem at_byte {L : List Int} {k i : Nat} (h : k + i < L.length) : ∃ (p r : List Int) (c : Int), L.drop k = p ++ c :: r ∧ p = (L.drop k).take i ∧ p.length = i ∧ c = L.getD (k + i) 0 ∧ c ∈ L ∧ p ++ [c] = (L.drop k).take (i + 1) := by
  have hd : i < (L.drop k).length := by simp; omega
  have e : (L.drop k)[i] = L[k + i] := by simp
  refine ⟨(L.drop k).take i, (L.drop k).drop (i + 1), L[k + i], ?_, rfl, by simp; omega, by simp [List.getD, h], List.getElem_mem _, ?_⟩
  · rw [← e, List.getElem_cons_drop, List.take_append_drop]
  · rw [← e, List.take_succ_eq_append_getElem hd]
theorem or_step {p : List Int} {c : Int} {i : Nat} (hp : p.length = i) (hi : i ≤ 9) (c0 : 0 ≤ c) :
    bits .or .u64 (M.val p : Int) (IntKind.u64.wrap (c % 128 * 2 ^ (7 * i))) = ((M.val (p ++ [c]) % 18446744073709551616 : Nat) : Int) := by
  have hv : M.val p < 128 ^ i := by rw [← hp]; exact M.val_lt p
  have h := M.or_group (M.val p) (c.toNat % 128) i hv hi
  have e : ((c.toNat % 128 : Nat) : Int) * ((2 ^ (7 * i) : Nat) : Int) = c % 128 * 2 ^ (7 * i) := by
    have : ((c.toNat % 128 : Nat) : Int) = c % 128 := by omega
    rw [this]; simp
  rw [e] at h
  rw [h, M.val_append, hp]
theorem all8_snoc {p : List Int} {c : Int} (h : M.all8 p) (h0 : 128 ≤ c) (h1 : c ≤ 255) : M.all8 (p ++ [c]) := by
  intro x hx; rw [List.mem_append] at hx
  rcases hx with hx | hx
  · exact h x hx
  · simp at hx; omega
set_option maxRecDepth 100000 in
theorem and128 {c : Int} (h0 : 0 ≤ c) (h1 : c ≤ 255) : bits .and .u8 c 128 = if 128 ≤ c then 128 else 0 := by
  obtain ⟨a, rfl⟩ := Int.eq_ofNat_of_zero_le h0
  have : ∀ a : Fin 256, bits .and .u8 ((a.val : Nat) : Int) 128 = if 128 ≤ ((a.val : Nat) : Int) then 128 else 0 := by decide
  exact this ⟨a, by omega⟩
set_option maxRecDepth 100000 in
theorem and127u8 {c : Int} (h0 : 0 ≤ c) (h1 : c ≤ 255) : bits .and .u8 c 127 = c % 128 := by
  obtain ⟨a, rfl⟩ := Int.eq_ofNat_of_zero_le h0
  have : ∀ a : Fin 256, bits .and .u8 ((a.val : Nat) : Int) 127 = ((a.val : Nat) : Int) % 128 := by decide
  exact this ⟨a, by omega⟩
end Go.Proofs.YtglalgjffkoneaaGreatDoor
/- What is still, and what stays of an own row. -/
namespace Go.Proofs.YtglalgjffkoneaaGreatDoor
set_option linter.unusedVariables false
open Go.ChangeShapes Go.WideShapes Go.ChangeAt Go.RowKit
theorem Still.alloc {w w' : World} (h : Still w w') (o : Obj) : Still w (w'.alloc o) := Turn.alloc h o
theorem Still.trans {a b c : World} (h : Still a b) (k : Still b c) : Still a c := Turn.trans h k
theorem own_keep {w w' : World} {base : Nat} {e : TypeId} {size : Nat} {v : Value} {n : Nat} {xs : List Value} {S : Nat → Prop} (h : w.ownsRow base e size v n xs) (t : Turn S w w') (hs : ∀ k, v.ownBlock = some k → ¬ S k) : w'.ownsRow base e size v n xs := by
  obtain ⟨h1, h2⟩ := h
  refine ⟨h1, ?_⟩
  rcases h2 with h0 | ⟨g, cap, cur, rfl, hb, hg, r⟩
  · exact .inl h0
  · exact .inr ⟨g, cap, cur, rfl, hb, (t.block g (Array.getElem?_eq_some_iff.1 hg).1 (hs g rfl)).trans hg, r⟩
theorem own_blk {w : World} {base : Nat} {e t : TypeId} {size g n : Nat} {v : Value} {xs : List Value} {cs : Array Value} (h : w.ownsRow base e size v n xs) (hr : Blk w g t cs) (hne : e ≠ t) : v.ownBlock ≠ some g := by
  rcases h.2 with ⟨rfl, _⟩ | ⟨g', cap, cur, rfl, _, hg, _⟩
  · simp [Value.ownBlock]
  · intro he
    have : g' = g := by simpa [Value.ownBlock] using he
    subst this
    unfold Blk at hr
    rw [hr] at hg; injection hg with hg; injection hg with _ e'; exact hne e'.symm
theorem own_form {w : World} {B : Nat} {e : TypeId} {a : Option Addr} {n c : Nat} {xs : List Value} (h : w.ownsRow B e 1 (.slice a n c) n xs) (hn : 0 < n) : ∃ g, a = some ⟨g, 0, none⟩ ∧ g < w.heap.size ∧ n ≤ c ∧ c ≤ maxLen ∧ (∀ j v, xs[j]? = some v → w.cell? ⟨g, j, none⟩ = some v) ∧ ∀ j, w.frozen? ⟨g, j, none⟩ = false := by
  have hh := h
  rcases h.2 with ⟨h1, h2⟩ | ⟨g, cap, cur, h1, hb, hg, hle, hm, _⟩
  · omega
  · injection h1 with h1 h2 h3
    subst h1 h3
    refine ⟨g, rfl, (Array.getElem?_eq_some_iff.1 hg).1, hle, hm, fun j v hj => ?_, fun j => frozen_of_row w g j cur _ hg⟩
    have hl := hh.1
    rw [hh.cellAt j (by have := (List.getElem?_eq_some_iff.1 hj).1; omega)]
    exact hj
theorem own_later {w w' : World} {base : Nat} {e : TypeId} {size : Nat} {v : Value} {n : Nat} {xs : List Value} (h : w.ownsRow base e size v n xs) (hb : Below w.heap.size w w') : w'.ownsRow base e size v n xs := by
  obtain ⟨hl, h⟩ := h
  refine ⟨hl, ?_⟩
  rcases h with ⟨rfl, rfl⟩ | ⟨g, cap, cur, rfl, h0, hg, h1, h2, h3, h4⟩
  · exact .inl ⟨rfl, rfl⟩
  · have hlt : g < w.heap.size := by
      rcases Nat.lt_or_ge g w.heap.size with h | h
      · exact h
      · rw [Array.getElem?_eq_none h] at hg; simp at hg
    exact .inr ⟨g, cap, cur, rfl, h0, by rw [hb.block g hlt]; exact hg, h1, h2, h3, h4⟩
end Go.Proofs.YtglalgjffkoneaaGreatDoor
/- Which fields an instruction uses. -/
namespace Go.Proofs.YtglalgjffkoneaaGreatDoor
set_option linter.unusedVariables false
open Go.ChangeShapes Go.WideShapes Go.ChangeAt Go.RowKit
open M (W)
def M.uses (op : Int) : ByteArray := match op with
  | 1 => ⟨#[68, 78]⟩
  | 2 => ⟨#[68, 65, 108]⟩
  | 3 => ⟨#[68, 65]⟩
  | 4 => ⟨#[68, 65, 66, 78]⟩
  | 5 => ⟨#[68, 65, 76, 108]⟩
  | 6 => ⟨#[68, 65, 66]⟩
  | 7 => ⟨#[65, 66, 67]⟩
  | 8 => ⟨#[68, 65, 66, 67, 108]⟩
  | 9 => ⟨#[68, 65, 66]⟩
  | 10 => ⟨#[65, 66, 67]⟩
  | 11 => ⟨#[68, 65]⟩
  | 12 => ⟨#[68, 65, 66]⟩
  | 13 => ⟨#[68, 65, 66, 108]⟩
  | 14 => ⟨#[68, 65, 66]⟩
  | 15 => ⟨#[68]⟩
  | 16 => ⟨#[65]⟩
  | 17 => ⟨#[68, 65, 66, 67, 76, 108]⟩
  | 18 => ⟨#[65]⟩
  | 19 => ⟨#[65, 66, 67]⟩
  | 20 => ⟨#[65, 76, 77, 66]⟩
  | 21 => ⟨#[65, 76]⟩
  | 22 => ⟨#[65]⟩
  | 23 => ⟨#[65]⟩
  | _ => ⟨#[]⟩
theorem uses_out {op : Int} (h : op < 1 ∨ 23 < op) : M.uses op = ⟨#[]⟩ := by
  unfold M.uses
  split <;> first | rfl | omega
set_option maxRecDepth 100000 in
set_option maxHeartbeats 8000000 in
theorem uses_any (op : Int) (w : World) : Calls Tryz.prog 115 #[.int .i64 op] w fun e w' => e = .returned (.string (M.uses op)) ∧ w' = w := by
  by_cases h : op < 1 ∨ 23 < op
  · rw [uses_out h]
    have hk : ∀ i : Int, 1 ≤ i → i ≤ 23 → (op == i) = false := fun i h1 h2 => beq_eq_false_iff_ne.2 (by omega)
    have e1 : (op == 1) = false := hk 1 (by decide) (by decide)
    have e2 : (op == 2) = false := hk 2 (by decide) (by decide)
    have e3 : (op == 3) = false := hk 3 (by decide) (by decide)
    have e4 : (op == 4) = false := hk 4 (by decide) (by decide)
    have e5 : (op == 5) = false := hk 5 (by decide) (by decide)
    have e6 : (op == 6) = false := hk 6 (by decide) (by decide)
    have e7 : (op == 7) = false := hk 7 (by decide) (by decide)
    have e8 : (op == 8) = false := hk 8 (by decide) (by decide)
    have e9 : (op == 9) = false := hk 9 (by decide) (by decide)
    have e10 : (op == 10) = false := hk 10 (by decide) (by decide)
    have e11 : (op == 11) = false := hk 11 (by decide) (by decide)
    have e12 : (op == 12) = false := hk 12 (by decide) (by decide)
    have e13 : (op == 13) = false := hk 13 (by decide) (by decide)
    have e14 : (op == 14) = false := hk 14 (by decide) (by decide)
    have e15 : (op == 15) = false := hk 15 (by decide) (by decide)
    have e16 : (op == 16) = false := hk 16 (by decide) (by decide)
    have e17 : (op == 17) = false := hk 17 (by decide) (by decide)
    have e18 : (op == 18) = false := hk 18 (by decide) (by decide)
    have e19 : (op == 19) = false := hk 19 (by decide) (by decide)
    have e20 : (op == 20) = false := hk 20 (by decide) (by decide)
    have e21 : (op == 21) = false := hk 21 (by decide) (by decide)
    have e22 : (op == 22) = false := hk 22 (by decide) (by decide)
    have e23 : (op == 23) = false := hk 23 (by decide) (by decide)
    clear hk h
    go_enter Tryz.func115, Tryz.ntmps115
    go_wp2_with fail
    go_ret
    exact ⟨rfl, rfl⟩
  · have hc : op = 1 ∨ op = 2 ∨ op = 3 ∨ op = 4 ∨ op = 5 ∨ op = 6 ∨ op = 7 ∨ op = 8 ∨ op = 9 ∨ op = 10 ∨ op = 11 ∨ op = 12 ∨ op = 13 ∨ op = 14 ∨ op = 15 ∨ op = 16 ∨ op = 17 ∨ op = 18 ∨ op = 19 ∨ op = 20 ∨ op = 21 ∨ op = 22 ∨ op = 23 := by omega
    clear h
    rcases hc with rfl | rfl | rfl | rfl | rfl | rfl | rfl | rfl | rfl | rfl | rfl | rfl | rfl | rfl | rfl | rfl | rfl | rfl | rfl | rfl | rfl | rfl | rfl
    all_goals
      go_enter Tryz.func115, Tryz.ntmps115
      go_wp2_with fail
      go_ret
      exact ⟨rfl, rfl⟩
set_option maxRecDepth 100000 in
set_option maxHeartbeats 8000000 in
theorem refUses_any (op : Int) (w : World) : Calls Tryz.prog 78 #[.int .i64 op] w fun e w' => e = .returned (.string (M.uses op)) ∧ Still w w' := by
  by_cases h : op < 0 ∨ 23 < op
  · rw [uses_out (by omega)]
    by_cases h0 : op < 0
    · have x0 : decide (op < 0) = true := decide_eq_true h0
      go_enter Tryz.func78, Tryz.ntmps78
      go_wp2_with fail
      go_ret
      exact ⟨rfl, (Still.refl w).alloc _⟩
    · have x1 : decide (op < 0) = false := decide_eq_false h0
      have x2 : decide (op < 24) = false := decide_eq_false (by omega)
      have x3 : ¬ op < 24 := by omega
      clear h
      go_enter Tryz.func78, Tryz.ntmps78
      go_wp2_with fail
      go_ret
      exact ⟨rfl, (Still.refl w).alloc _⟩
  · have hc : op = 0 ∨ op = 1 ∨ op = 2 ∨ op = 3 ∨ op = 4 ∨ op = 5 ∨ op = 6 ∨ op = 7 ∨ op = 8 ∨ op = 9 ∨ op = 10 ∨ op = 11 ∨ op = 12 ∨ op = 13 ∨ op = 14 ∨ op = 15 ∨ op = 16 ∨ op = 17 ∨ op = 18 ∨ op = 19 ∨ op = 20 ∨ op = 21 ∨ op = 22 ∨ op = 23 := by omega
    clear h
    rcases hc with rfl | rfl | rfl | rfl | rfl | rfl | rfl | rfl | rfl | rfl | rfl | rfl | rfl | rfl | rfl | rfl | rfl | rfl | rfl | rfl | rfl | rfl | rfl | rfl
    all_goals
      go_enter Tryz.func78, Tryz.ntmps78
      go_wp2_with fail
      go_ret
      exact ⟨rfl, (Still.refl w).alloc _⟩
end Go.Proofs.YtglalgjffkoneaaGreatDoor
/- Images as lists: their parts, how many there may be, their bytes; where they lie. -/
namespace Go.Proofs.YtglalgjffkoneaaGreatDoor
set_option linter.unusedVariables false
open Go.ChangeShapes Go.WideShapes Go.ChangeAt Go.RowKit
namespace M
structure Ty where
  imm : Bool
  shapes : List Int
structure Sh where
  kind : Int
  fields : List Int
  name : ByteArray
structure Ins where
  op : Int
  d : Int
  a : Int
  b : Int
  c : Int
  n : Int
  l : List Int
  m : List Int
  v : List Int
structure Bk where
  inn : List Int
  code : List Ins
structure Fn where
  params : List Int
  result : Int
  slots : Int
  blocks : List Bk
structure Img where
  types : List Ty
  shapes : List Sh
  strings : List ByteArray
  names : List ByteArray
  funcs : List Fn
  main : Int
  exn : Int
/-- The bytes of a text as numbers. -/
def chars (s : ByteArray) : List Int := s.data.toList.map fun c => (c.toNat : Int)
theorem chars_len (s : ByteArray) : (chars s).length = s.size := by
  unfold chars
  rw [List.length_map, Array.length_toList]
  rfl
/-- A number; many things; numbers; a text. -/
def num (n : Int) : List Int := enc (zig n)
def many {α : Type} (f : α → List Int) (l : List α) : List Int := num l.length ++ l.flatMap f
def nums (l : List Int) : List Int := many num l
def text (s : ByteArray) : List Int := num s.size ++ chars s
def bTy (t : Ty) : List Int := num (if t.imm then 1 else 0) ++ nums t.shapes
def bSh (s : Sh) : List Int := num s.kind ++ nums s.fields ++ text s.name
def field (x : Ins) (c : UInt8) : List Int :=
  if c = 68 then num x.d else if c = 65 then num x.a else if c = 66 then num x.b else if c = 67 then num x.c else if c = 78 then num x.n
  else if c = 76 then nums x.l else if c = 77 then nums x.m else nums x.v
def bIns (x : Ins) : List Int := num x.op ++ (uses x.op).data.toList.flatMap (field x)
def bBk (b : Bk) : List Int := nums b.inn ++ many bIns b.code
def bFn (f : Fn) : List Int := nums f.params ++ num f.result ++ num f.slots ++ many bBk f.blocks
def bImg (m : Img) : List Int := many bTy m.types ++ many bSh m.shapes ++ many text m.strings ++ many text m.names ++ many bFn m.funcs ++ num m.main ++ num m.exn
/-- How many instructions. -/
def size (m : Img) : Nat := (m.funcs.map fun f => (f.blocks.map fun b => b.code.length).sum).sum
/-- What an image weighs, as the law counts it: a list at a time. -/
def wTy (t : Ty) : Nat := t.shapes.length
def wSh (s : Sh) : Nat := s.fields.length + s.name.size
def wIns (x : Ins) : Nat := x.l.length + x.m.length + x.v.length
def wBk (b : Bk) : Nat := b.inn.length + b.code.length + (b.code.map wIns).sum
def wFn (f : Fn) : Nat := f.params.length + f.blocks.length + (f.blocks.map wBk).sum
def wImg (m : Img) : Nat := m.types.length + m.shapes.length + m.strings.length + m.names.length + m.funcs.length + (m.types.map wTy).sum + (m.shapes.map wSh).sum + (m.strings.map ByteArray.size).sum + (m.names.map ByteArray.size).sum + (m.funcs.map wFn).sum
/-- What is too great. -/
def bigTy (t : Ty) : Bool := decide (512 < t.shapes.length)
def bigSh (s : Sh) : Bool := decide (200 < s.fields.length) || decide (16384 < s.name.size)
def bigTx (s : ByteArray) : Bool := decide (16384 < s.size)
def bigIns (x : Ins) : Bool := decide (1024 < x.l.length) || decide (1024 < x.m.length) || decide (200 < x.v.length)
def bigBk (b : Bk) : Bool := decide (200 < b.inn.length)
def bigFn (f : Fn) : Bool := decide (200 < f.slots) || decide (200 < f.params.length) || decide (2000 < f.blocks.length) || f.blocks.any bigBk
def anyIns (p : Ins → Bool) (m : Img) : Bool := m.funcs.any fun f => f.blocks.any fun b => b.code.any p
def big (m : Img) : Bool :=
  decide (1024 < m.types.length) || decide (512 < m.shapes.length) || decide (256 < m.strings.length) || decide (256 < m.names.length) || decide (1024 < m.funcs.length) ||
  m.types.any bigTy || m.shapes.any bigSh || m.strings.any bigTx || m.names.any bigTx || m.funcs.any bigFn || decide (20000 < size m) || anyIns bigIns m
end M

def In64 (n : Int) : Prop := -9223372036854775808 ≤ n ∧ n ≤ 9223372036854775807
/-- n things of k cells each lie from a on, in a block below B: each as P says of its cells. -/
structure Lies {α : Type} (B : Nat) (w : World) (k : Nat) (P : List Value → α → Prop) (a : Option Addr) (n : Nat) (xs : List α) : Prop where
  len : xs.length = n
  at_ : 0 < n → ∃ b off, a = some ⟨b, off, none⟩ ∧ b < B ∧ ∀ i x, xs[i]? = some x → ∃ cs : List Value, cs.length = k ∧ P cs x ∧ ∀ j, j < k → w.cell? ⟨b, off + i * k + j, none⟩ = cs[j]?
def IntIs (cs : List Value) (z : Int) : Prop := cs = [.int .i64 z] ∧ In64 z
def TxIs (cs : List Value) (s : ByteArray) : Prop := cs = [.string s] ∧ s.size ≤ maxLen
def Ints (B : Nat) (w : World) (a : Option Addr) (n : Nat) (xs : List Int) : Prop := Lies B w 1 IntIs a n xs
def Txts (B : Nat) (w : World) (a : Option Addr) (n : Nat) (xs : List ByteArray) : Prop := Lies B w 1 TxIs a n xs
def TyIs (B : Nat) (w : World) (cs : List Value) (t : M.Ty) : Prop := ∃ a n c, cs = [.bool t.imm, .slice a n c] ∧ n ≤ maxLen ∧ Ints B w a n t.shapes
def ShIs (B : Nat) (w : World) (cs : List Value) (s : M.Sh) : Prop := ∃ a n c, cs = [.int .i64 s.kind, .slice a n c, .string s.name] ∧ n ≤ maxLen ∧ In64 s.kind ∧ s.name.size ≤ maxLen ∧ Ints B w a n s.fields
def InsIs (B : Nat) (w : World) (cs : List Value) (x : M.Ins) : Prop := ∃ la ln lc ma mn mc va vn vc, cs = [.int .i64 x.op, .int .i64 x.d, .int .i64 x.a, .int .i64 x.b, .int .i64 x.c, .int .i64 x.n, .slice la ln lc, .slice ma mn mc, .slice va vn vc] ∧
  ln ≤ maxLen ∧ mn ≤ maxLen ∧ vn ≤ maxLen ∧ (In64 x.op ∧ In64 x.d ∧ In64 x.a ∧ In64 x.b ∧ In64 x.c ∧ In64 x.n) ∧ Ints B w la ln x.l ∧ Ints B w ma mn x.m ∧ Ints B w va vn x.v
def BkIs (B : Nat) (w : World) (cs : List Value) (x : M.Bk) : Prop := ∃ ia inn ic ca cn cc, cs = [.slice ia inn ic, .slice ca cn cc] ∧ inn ≤ maxLen ∧ cn ≤ maxLen ∧ Ints B w ia inn x.inn ∧ Lies B w 9 (InsIs B w) ca cn x.code
def FnIs (B : Nat) (w : World) (cs : List Value) (x : M.Fn) : Prop := ∃ pa pn pc ba bn bc, cs = [.slice pa pn pc, .int .i64 x.result, .int .i64 x.slots, .slice ba bn bc] ∧ pn ≤ maxLen ∧ bn ≤ maxLen ∧ In64 x.result ∧ In64 x.slots ∧ Ints B w pa pn x.params ∧ Lies B w 2 (BkIs B w) ba bn x.blocks
structure ImgV where
  ta : Option Addr
  tn : Nat
  tc : Nat
  sa : Option Addr
  sn : Nat
  sc : Nat
  xa : Option Addr
  xn : Nat
  xc : Nat
  na : Option Addr
  nn : Nat
  nc : Nat
  fa : Option Addr
  fn : Nat
  fc : Nat
  main : Int
  exn : Int
abbrev ImgV.cells (v : ImgV) : Array Value := #[.slice v.ta v.tn v.tc, .slice v.sa v.sn v.sc, .slice v.xa v.xn v.xc, .slice v.na v.nn v.nc, .slice v.fa v.fn v.fc, .int .i64 v.main, .int .i64 v.exn]
structure ImgIs (B : Nat) (w : World) (v : ImgV) (m : M.Img) : Prop where
  main : v.main = m.main
  exn : v.exn = m.exn
  in_main : In64 m.main
  in_exn : In64 m.exn
  le : v.tn ≤ maxLen ∧ v.sn ≤ maxLen ∧ v.xn ≤ maxLen ∧ v.nn ≤ maxLen ∧ v.fn ≤ maxLen
  types : Lies B w 2 (TyIs B w) v.ta v.tn m.types
  shapes : Lies B w 3 (ShIs B w) v.sa v.sn m.shapes
  strings : Txts B w v.xa v.xn m.strings
  names : Txts B w v.na v.nn m.names
  funcs : Lies B w 4 (FnIs B w) v.fa v.fn m.funcs

theorem Lies.keep {α : Type} {B k : Nat} {w w' : World} {P Q : List Value → α → Prop} {a : Option Addr} {n : Nat} {xs : List α} (h : Lies B w k P a n xs) (hb : Below B w w') (hl : B ≤ w.heap.size) (hq : ∀ cs x, x ∈ xs → P cs x → Q cs x) : Lies B w' k Q a n xs :=
  ⟨h.len, fun hn => by
    obtain ⟨b, off, ha, hB, hx⟩ := h.at_ hn
    refine ⟨b, off, ha, hB, fun i x hi => ?_⟩
    obtain ⟨cs, h1, h2, h3⟩ := hx i x hi
    exact ⟨cs, h1, hq cs x (List.mem_of_getElem? hi) h2, fun j hj => by rw [← h3 j hj]; exact World.cell?_of_block (w := w) (hb.block b hB)⟩⟩
theorem Ints.keep {B : Nat} {w w' : World} {a : Option Addr} {n : Nat} {xs : List Int} (h : Ints B w a n xs) (hb : Below B w w') (hl : B ≤ w.heap.size) : Ints B w' a n xs := Lies.keep h hb hl fun _ _ _ h => h
theorem Txts.keep {B : Nat} {w w' : World} {a : Option Addr} {n : Nat} {xs : List ByteArray} (h : Txts B w a n xs) (hb : Below B w w') (hl : B ≤ w.heap.size) : Txts B w' a n xs := Lies.keep h hb hl fun _ _ _ h => h
theorem TyIs.keep {B : Nat} {w w' : World} {cs : List Value} {x : M.Ty} (h : TyIs B w cs x) (hb : Below B w w') (hl : B ≤ w.heap.size) : TyIs B w' cs x := by
  obtain ⟨a, n, c, h1, h2, h3⟩ := h
  exact ⟨a, n, c, h1, h2, h3.keep hb hl⟩
theorem ShIs.keep {B : Nat} {w w' : World} {cs : List Value} {x : M.Sh} (h : ShIs B w cs x) (hb : Below B w w') (hl : B ≤ w.heap.size) : ShIs B w' cs x := by
  obtain ⟨a, n, c, h1, h2, h3, h4, h5⟩ := h
  exact ⟨a, n, c, h1, h2, h3, h4, h5.keep hb hl⟩
theorem InsIs.keep {B : Nat} {w w' : World} {cs : List Value} {x : M.Ins} (h : InsIs B w cs x) (hb : Below B w w') (hl : B ≤ w.heap.size) : InsIs B w' cs x := by
  obtain ⟨la, ln, lc, ma, mn, mc, va, vn, vc, h1, h2, h3, h4, h5, h6, h7, h8⟩ := h
  exact ⟨la, ln, lc, ma, mn, mc, va, vn, vc, h1, h2, h3, h4, h5, h6.keep hb hl, h7.keep hb hl, h8.keep hb hl⟩
theorem BkIs.keep {B : Nat} {w w' : World} {cs : List Value} {x : M.Bk} (h : BkIs B w cs x) (hb : Below B w w') (hl : B ≤ w.heap.size) : BkIs B w' cs x := by
  obtain ⟨ia, inn, ic, ca, cn, cc, h1, h2, h3, h4, h5⟩ := h
  exact ⟨ia, inn, ic, ca, cn, cc, h1, h2, h3, h4.keep hb hl, h5.keep hb hl fun _ _ _ h => h.keep hb hl⟩
theorem FnIs.keep {B : Nat} {w w' : World} {cs : List Value} {x : M.Fn} (h : FnIs B w cs x) (hb : Below B w w') (hl : B ≤ w.heap.size) : FnIs B w' cs x := by
  obtain ⟨pa, pn, pc, ba, bn, bc, h1, h2, h3, h4, h5, h6, h7⟩ := h
  exact ⟨pa, pn, pc, ba, bn, bc, h1, h2, h3, h4, h5, h6.keep hb hl, h7.keep hb hl fun _ _ _ h => h.keep hb hl⟩
theorem ImgIs.keep {B : Nat} {w w' : World} {v : ImgV} {m : M.Img} (h : ImgIs B w v m) (hb : Below B w w') (hl : B ≤ w.heap.size) : ImgIs B w' v m :=
  ⟨h.main, h.exn, h.in_main, h.in_exn, h.le, h.types.keep hb hl fun _ _ _ h => h.keep hb hl, h.shapes.keep hb hl fun _ _ _ h => h.keep hb hl, h.strings.keep hb hl, h.names.keep hb hl, h.funcs.keep hb hl fun _ _ _ h => h.keep hb hl⟩
/-- What lies at i. -/
theorem Lies.here {α : Type} {B k : Nat} {w : World} {P : List Value → α → Prop} {a : Option Addr} {n : Nat} {xs : List α} (h : Lies B w k P a n xs) {i : Nat} (hi : i < n) :
    ∃ b off x cs, a = some ⟨b, off, none⟩ ∧ b < B ∧ xs[i]? = some x ∧ cs.length = k ∧ P cs x ∧ ∀ j, j < k → w.cell? ⟨b, off + i * k + j, none⟩ = cs[j]? := by
  obtain ⟨b, off, ha, hB, hx⟩ := h.at_ (by omega)
  have hil : i < xs.length := by rw [h.len]; exact hi
  obtain ⟨cs, h1, h2, h3⟩ := hx i _ (List.getElem?_eq_getElem hil)
  exact ⟨b, off, _, cs, ha, hB, List.getElem?_eq_getElem hil, h1, h2, h3⟩
theorem cells1 {α : Type} : ∀ (l : List α), l.length = 1 → ∃ a, l = [a]
  | [a], _ => ⟨a, rfl⟩
theorem cells2 {α : Type} : ∀ (l : List α), l.length = 2 → ∃ a b, l = [a, b]
  | [a, b], _ => ⟨a, b, rfl⟩
theorem cells3 {α : Type} : ∀ (l : List α), l.length = 3 → ∃ a b c, l = [a, b, c]
  | [a, b, c], _ => ⟨a, b, c, rfl⟩
theorem cells4 {α : Type} : ∀ (l : List α), l.length = 4 → ∃ a b c d, l = [a, b, c, d]
  | [a, b, c, d], _ => ⟨a, b, c, d, rfl⟩
theorem cells7 {α : Type} : ∀ (l : List α), l.length = 7 → ∃ a b c d e f g, l = [a, b, c, d, e, f, g]
  | [a, b, c, d, e, f, g], _ => ⟨a, b, c, d, e, f, g, rfl⟩
theorem cells9 {α : Type} : ∀ (l : List α), l.length = 9 → ∃ a b c d e f g h i, l = [a, b, c, d, e, f, g, h, i]
  | [a, b, c, d, e, f, g, h, i], _ => ⟨a, b, c, d, e, f, g, h, i, rfl⟩
end Go.Proofs.YtglalgjffkoneaaGreatDoor
/- How long an image's bytes are. No program in sight. -/
namespace Go.Proofs.YtglalgjffkoneaaGreatDoor
set_option linter.unusedVariables false
open Go.ChangeShapes Go.WideShapes Go.ChangeAt Go.RowKit
theorem Lies.all {α : Type} {B k : Nat} {w : World} {P : List Value → α → Prop} {a : Option Addr} {n : Nat} {xs : List α} (h : Lies B w k P a n xs) (x : α) (hx : x ∈ xs) : ∃ cs, P cs x := by
  obtain ⟨i, hi, rfl⟩ := List.getElem_of_mem hx
  obtain ⟨b, off, _, _, hh⟩ := h.at_ (by have := h.len; omega)
  obtain ⟨cs, _, h2, _⟩ := hh i _ (List.getElem?_eq_getElem hi)
  exact ⟨cs, h2⟩
namespace M
theorem num_len {n : Int} (h : In64 n) : (num n).length ≤ 10 := enc_len10 (zig_lt h.1 h.2)
theorem num_nat {n : Nat} (h : n ≤ maxLen) : In64 (n : Int) := by unfold maxLen at h; unfold In64; omega
theorem flat_len {α : Type} (f : α → List Int) (g : α → Nat) : ∀ (l : List α), (∀ x ∈ l, (f x).length ≤ g x) → (l.flatMap f).length ≤ (l.map g).sum
  | [], _ => by simp
  | x :: l, h => by
    have h1 := h x (by simp)
    have h2 := flat_len f g l (fun y hy => h y (by simp [hy]))
    simp only [List.flatMap_cons, List.length_append, List.map_cons, List.sum_cons]
    omega
theorem many_len {α : Type} (f : α → List Int) (g : α → Nat) (l : List α) (hl : l.length ≤ maxLen) (h : ∀ x ∈ l, (f x).length ≤ g x) : (many f l).length ≤ 10 + (l.map g).sum := by
  unfold many
  have h1 := num_len (num_nat hl)
  have h2 := flat_len f g l h
  simp only [List.length_append]
  omega
theorem sum_lin {α : Type} (f g : α → Nat) (a b : Nat) : ∀ (l : List α), (∀ x ∈ l, f x ≤ a + b * g x) → (l.map f).sum ≤ a * l.length + b * (l.map g).sum
  | [], _ => by simp
  | x :: l, h => by
    have h1 := h x (by simp)
    have h2 := sum_lin f g a b l (fun y hy => h y (by simp [hy]))
    simp only [List.map_cons, List.sum_cons, List.length_cons, Nat.mul_add]
    omega
theorem nums_len (l : List Int) (hl : l.length ≤ maxLen) (h : ∀ x ∈ l, In64 x) : (nums l).length ≤ 10 + 10 * l.length := by
  have := many_len num (fun _ => 10) l hl (fun x hx => num_len (h x hx))
  unfold nums
  have h2 : (l.map fun _ => 10).sum = 10 * l.length := by
    clear this h hl
    induction l with
    | nil => rfl
    | cons x l ih => simp only [List.map_cons, List.sum_cons, List.length_cons, ih]; omega
  omega
theorem text_len (s : ByteArray) (h : s.size ≤ maxLen) : (text s).length ≤ 10 + s.size := by
  unfold text
  have := num_len (num_nat h)
  rw [List.length_append, chars_len]
  omega
end M
theorem Ints.in64 {B : Nat} {w : World} {a : Option Addr} {n : Nat} {xs : List Int} (h : Ints B w a n xs) (x : Int) (hx : x ∈ xs) : In64 x := by
  obtain ⟨cs, h⟩ := h.all x hx
  exact h.2
theorem Ints.nums_len {B : Nat} {w : World} {a : Option Addr} {n : Nat} {xs : List Int} (h : Ints B w a n xs) (hn : n ≤ maxLen) : (M.nums xs).length ≤ 10 + 10 * xs.length :=
  M.nums_len xs (by have := h.len; omega) h.in64
theorem TyIs.len {B : Nat} {w : World} {cs : List Value} {x : M.Ty} (h : TyIs B w cs x) : (M.bTy x).length ≤ 30 + 10 * M.wTy x := by
  obtain ⟨a, n, c, rfl, h2, h3⟩ := h
  have h4 := h3.nums_len h2
  have h5 := M.num_len (n := if x.imm then 1 else 0) (by split <;> constructor <;> decide)
  unfold M.bTy M.wTy
  rw [List.length_append]
  omega
theorem ShIs.len {B : Nat} {w : World} {cs : List Value} {x : M.Sh} (h : ShIs B w cs x) : (M.bSh x).length ≤ 30 + 10 * M.wSh x := by
  obtain ⟨a, n, c, rfl, h2, h3, h4, h5⟩ := h
  have h6 := h5.nums_len h2
  have h7 := M.num_len h3
  have h8 := M.text_len _ h4
  unfold M.bSh M.wSh
  rw [List.length_append, List.length_append]
  omega
theorem uses_len (op : Int) : (M.uses op).data.toList.length ≤ 6 := by
  unfold M.uses
  split <;> decide
theorem InsIs.field_len {B : Nat} {w : World} {cs : List Value} {x : M.Ins} (h : InsIs B w cs x) (c : UInt8) : (M.field x c).length ≤ 10 + 10 * M.wIns x := by
  obtain ⟨la, ln, lc, ma, mn, mc, va, vn, vc, rfl, h2, h3, h4, ⟨h5, h6, h7, h8, h9, h10⟩, h11, h12, h13⟩ := h
  have k1 := M.num_len h6
  have k2 := M.num_len h7
  have k3 := M.num_len h8
  have k4 := M.num_len h9
  have k5 := M.num_len h10
  have k6 := h11.nums_len h2
  have k7 := h12.nums_len h3
  have k8 := h13.nums_len h4
  unfold M.field M.wIns
  repeat' split
  all_goals omega
theorem InsIs.len {B : Nat} {w : World} {cs : List Value} {x : M.Ins} (h : InsIs B w cs x) : (M.bIns x).length ≤ 70 + 60 * M.wIns x := by
  have h1 := M.flat_len (M.field x) (fun _ => 10 + 10 * M.wIns x) (M.uses x.op).data.toList (fun c _ => h.field_len c)
  have h2 := uses_len x.op
  have h3 : ∀ (l : List UInt8) (k : Nat), (l.map fun _ => k).sum = k * l.length := by
    intro l k
    induction l with
    | nil => simp
    | cons a l ih => simp only [List.map_cons, List.sum_cons, List.length_cons, ih, Nat.mul_add]; omega
  rw [h3] at h1
  obtain ⟨la, ln, lc, ma, mn, mc, va, vn, vc, _, _, _, _, ⟨h5, _⟩, _⟩ := h
  have h4 := M.num_len h5
  unfold M.bIns
  rw [List.length_append]
  have := Nat.mul_le_mul_left (10 + 10 * M.wIns x) h2
  omega
theorem BkIs.len {B : Nat} {w : World} {cs : List Value} {x : M.Bk} (h : BkIs B w cs x) : (M.bBk x).length ≤ 30 + 80 * M.wBk x := by
  obtain ⟨ia, inn, ic, ca, cn, cc, rfl, h2, h3, h4, h5⟩ := h
  have k1 := h4.nums_len h2
  have k2 := M.many_len M.bIns (fun x => (M.bIns x).length) x.code (by have := h5.len; omega) (fun _ _ => Nat.le_refl _)
  have k3 := M.sum_lin (fun x => (M.bIns x).length) M.wIns 70 60 x.code (fun y hy => by
    obtain ⟨cs, h⟩ := h5.all y hy
    exact h.len)
  unfold M.bBk M.wBk
  rw [List.length_append]
  omega
theorem FnIs.len {B : Nat} {w : World} {cs : List Value} {x : M.Fn} (h : FnIs B w cs x) : (M.bFn x).length ≤ 60 + 120 * M.wFn x := by
  obtain ⟨pa, pn, pc, ba, bn, bc, rfl, h2, h3, h4, h5, h6, h7⟩ := h
  have k1 := h6.nums_len h2
  have k2 := M.many_len M.bBk (fun x => (M.bBk x).length) x.blocks (by have := h7.len; omega) (fun _ _ => Nat.le_refl _)
  have k3 := M.sum_lin (fun x => (M.bBk x).length) M.wBk 30 80 x.blocks (fun y hy => by
    obtain ⟨cs, h⟩ := h7.all y hy
    exact h.len)
  have k4 := M.num_len h4
  have k5 := M.num_len h5
  unfold M.bFn M.wFn
  rw [List.length_append, List.length_append, List.length_append]
  omega
theorem ImgIs.len {B : Nat} {w : World} {v : ImgV} {m : M.Img} (h : ImgIs B w v m) : (M.bImg m).length ≤ 100 + 200 * M.wImg m := by
  obtain ⟨l1, l2, l3, l4, l5⟩ := h.le
  have t1 := M.many_len M.bTy (fun x => (M.bTy x).length) m.types (by have := h.types.len; omega) (fun _ _ => Nat.le_refl _)
  have t2 := M.sum_lin (fun x => (M.bTy x).length) M.wTy 30 10 m.types (fun y hy => by obtain ⟨cs, h⟩ := h.types.all y hy; exact h.len)
  have s1 := M.many_len M.bSh (fun x => (M.bSh x).length) m.shapes (by have := h.shapes.len; omega) (fun _ _ => Nat.le_refl _)
  have s2 := M.sum_lin (fun x => (M.bSh x).length) M.wSh 30 10 m.shapes (fun y hy => by obtain ⟨cs, h⟩ := h.shapes.all y hy; exact h.len)
  have x1 := M.many_len M.text (fun x => (M.text x).length) m.strings (by have := h.strings.len; omega) (fun _ _ => Nat.le_refl _)
  have x2 := M.sum_lin (fun x => (M.text x).length) ByteArray.size 10 1 m.strings (fun y hy => by obtain ⟨cs, _, h⟩ := h.strings.all y hy; have := M.text_len _ h; omega)
  have n1 := M.many_len M.text (fun x => (M.text x).length) m.names (by have := h.names.len; omega) (fun _ _ => Nat.le_refl _)
  have n2 := M.sum_lin (fun x => (M.text x).length) ByteArray.size 10 1 m.names (fun y hy => by obtain ⟨cs, _, h⟩ := h.names.all y hy; have := M.text_len _ h; omega)
  have f1 := M.many_len M.bFn (fun x => (M.bFn x).length) m.funcs (by have := h.funcs.len; omega) (fun _ _ => Nat.le_refl _)
  have f2 := M.sum_lin (fun x => (M.bFn x).length) M.wFn 60 120 m.funcs (fun y hy => by obtain ⟨cs, h⟩ := h.funcs.all y hy; exact h.len)
  have m1 := M.num_len h.in_main
  have e1 := M.num_len h.in_exn
  unfold M.bImg M.wImg
  simp only [List.length_append]
  omega
end Go.Proofs.YtglalgjffkoneaaGreatDoor
/- Images in every later world; bytes of the call's own as a text. -/
namespace Go.Proofs.YtglalgjffkoneaaGreatDoor
set_option linter.unusedVariables false
set_option linter.unusedSimpArgs false
open Go.ChangeShapes Go.WideShapes Go.ChangeAt Go.RowKit
open M (W)
theorem Lies.up {α : Type} {B C k : Nat} {w : World} {P Q : List Value → α → Prop} {a : Option Addr} {n : Nat} {xs : List α} (h : Lies B w k P a n xs) (hb : B ≤ C) (hq : ∀ cs x, P cs x → Q cs x) : Lies C w k Q a n xs :=
  ⟨h.len, fun hn => by
    obtain ⟨b, off, ha, hB, hx⟩ := h.at_ hn
    refine ⟨b, off, ha, by omega, fun i x hi => ?_⟩
    obtain ⟨cs, h1, h2, h3⟩ := hx i x hi
    exact ⟨cs, h1, hq cs x h2, h3⟩⟩
theorem Ints.up {B C : Nat} {w : World} {a : Option Addr} {n : Nat} {xs : List Int} (h : Ints B w a n xs) (hb : B ≤ C) : Ints C w a n xs := Lies.up h hb fun _ _ h => h
theorem TyIs.up {B C : Nat} {w : World} {cs : List Value} {x : M.Ty} (h : TyIs B w cs x) (hb : B ≤ C) : TyIs C w cs x := by
  obtain ⟨a, n, c, h1, h2, h3⟩ := h
  exact ⟨a, n, c, h1, h2, h3.up hb⟩
theorem ShIs.up {B C : Nat} {w : World} {cs : List Value} {x : M.Sh} (h : ShIs B w cs x) (hb : B ≤ C) : ShIs C w cs x := by
  obtain ⟨a, n, c, h1, h2, h3, h4, h5⟩ := h
  exact ⟨a, n, c, h1, h2, h3, h4, h5.up hb⟩
theorem InsIs.up {B C : Nat} {w : World} {cs : List Value} {x : M.Ins} (h : InsIs B w cs x) (hb : B ≤ C) : InsIs C w cs x := by
  obtain ⟨la, ln, lc, ma, mn, mc, va, vn, vc, h1, h2, h3, h4, h5, h6, h7, h8⟩ := h
  exact ⟨la, ln, lc, ma, mn, mc, va, vn, vc, h1, h2, h3, h4, h5, h6.up hb, h7.up hb, h8.up hb⟩
theorem BkIs.up {B C : Nat} {w : World} {cs : List Value} {x : M.Bk} (h : BkIs B w cs x) (hb : B ≤ C) : BkIs C w cs x := by
  obtain ⟨ia, inn, ic, ca, cn, cc, h1, h2, h3, h4, h5⟩ := h
  exact ⟨ia, inn, ic, ca, cn, cc, h1, h2, h3, h4.up hb, h5.up hb fun _ _ h => h.up hb⟩
theorem FnIs.up {B C : Nat} {w : World} {cs : List Value} {x : M.Fn} (h : FnIs B w cs x) (hb : B ≤ C) : FnIs C w cs x := by
  obtain ⟨pa, pn, pc, ba, bn, bc, h1, h2, h3, h4, h5, h6, h7⟩ := h
  exact ⟨pa, pn, pc, ba, bn, bc, h1, h2, h3, h4, h5, h6.up hb, h7.up hb fun _ _ h => h.up hb⟩
theorem ImgIs.up {B C : Nat} {w : World} {v : ImgV} {m : M.Img} (h : ImgIs B w v m) (hb : B ≤ C) : ImgIs C w v m :=
  ⟨h.main, h.exn, h.in_main, h.in_exn, h.le, h.types.up hb fun _ _ h => h.up hb, h.shapes.up hb fun _ _ h => h.up hb, h.strings.up hb fun _ _ h => h, h.names.up hb fun _ _ h => h, h.funcs.up hb fun _ _ h => h.up hb⟩
/-- An image in every later world. -/
theorem ImgIs.later {w W : World} {v : ImgV} {m : M.Img} (h : ImgIs w.heap.size w v m) (hb : Below w.heap.size w W) : ImgIs W.heap.size W v m := (h.keep hb (Nat.le_refl _)).up hb.size
theorem Below.blk {w W : World} {g : Nat} {t : TypeId} {cs : Array Value} (h : Below w.heap.size w W) (hb : Blk w g t cs) : Blk W g t cs := (h.block g hb.lt).trans hb
theorem below_next {w a b : World} (h : Below w.heap.size w a) (k : Below a.heap.size a b) : Below w.heap.size w b := h.trans (k.mono h.size)
end Go.Proofs.YtglalgjffkoneaaGreatDoor
