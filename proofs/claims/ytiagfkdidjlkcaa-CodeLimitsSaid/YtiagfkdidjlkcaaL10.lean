/- Lemmas, put together: RefNum RefText. -/
import Derived.Test.YtiagfkdidjlkcaaL07
import Derived.Test.YtiagfkdidjlkcaaWrText
import Derived.ArgAppend
import Derived.Lib.SmallJoins
/- The document's numbers, lists and texts, one behind the other. -/
namespace Go.Proofs.Ytiagfkdidjlkcaa
set_option linter.unusedVariables false
open Go.ChangeShapes Go.WideShapes Go.ChangeAt Go.RowKit
open M (W)
/-- A row of bytes of the call's own. -/
def Holds8 (B : Nat) (w : World) (v : Value) (xs : List Int) : Prop := ∃ a c, v = .slice a xs.length c ∧ w.ownsRow B 5 1 v xs.length (xs.map (Value.int .u8))
/-- From w to w' a row grew, the value v into v'; all else stands. -/
structure Grew (B : Nat) (w w' : World) (v v' : Value) : Prop where
  below : Below B w w'
  turn : Turn (fun k => v.ownBlock = some k) w w'
  own : ∀ b, v'.ownBlock = some b → v.ownBlock = some b ∨ w.heap.size ≤ b
theorem Grew.refl (B : Nat) (w : World) (v : Value) : Grew B w w v v := ⟨Below.refl _ _, Turn.refl _ _, fun b h => .inl h⟩
theorem Grew.trans {B : Nat} {w w1 w2 : World} {v v1 v2 : Value} (h : Grew B w w1 v v1) (k : Grew B w1 w2 v1 v2) : Grew B w w2 v v2 :=
  ⟨h.below.trans k.below, ⟨k.turn.os.trans h.turn.os, k.turn.tape.trans h.turn.tape, k.turn.output.trans h.turn.output, Nat.le_trans h.turn.size k.turn.size, fun b hb hn => by
    have hn1 : ¬ v1.ownBlock = some b := fun e => by
      rcases h.own b e with e | e
      · exact hn e
      · omega
    exact (k.turn.block b (Nat.lt_of_lt_of_le hb h.turn.size) hn1).trans (h.turn.block b hb hn)⟩, fun b hb => by
    rcases k.own b hb with e | e
    · exact h.own b e
    · exact .inr (Nat.le_trans h.turn.size e)⟩
theorem Grew.of_still {B : Nat} {w w' : World} (v : Value) (t : Still w w') (hB : B ≤ w.heap.size) : Grew B w w' v v := ⟨(Still.below t).mono hB, Still.turn t, fun b h => .inl h⟩
theorem Holds8.keep {B : Nat} {w w' : World} {v : Value} {xs : List Int} (h : Holds8 B w v xs) (t : Still w w') : Holds8 B w' v xs := by
  obtain ⟨a, c, rfl, ho⟩ := h
  exact ⟨a, c, rfl, own_keep ho t (fun _ _ e => e)⟩
theorem Holds8.not_blk {B g : Nat} {w : World} {v : Value} {xs : List Int} {t : TypeId} {cs : Array Value} (h : Holds8 B w v xs) (hb : Blk w g t cs) (hne : 5 ≠ t) : ¬ v.ownBlock = some g := by
  obtain ⟨a, c, rfl, ho⟩ := h
  exact own_blk ho hb hne
theorem Grew.blk {B g : Nat} {w w' : World} {v v' : Value} {xs : List Int} {t : TypeId} {cs : Array Value} (k : Grew B w w' v v') (h : Holds8 B w v xs) (hb : Blk w g t cs) (hne : 5 ≠ t) : Blk w' g t cs :=
  hb.keep k.turn (h.not_blk hb hne)
end Go.Proofs.Ytiagfkdidjlkcaa
/- The document's texts. -/
namespace Go.Proofs.Ytiagfkdidjlkcaa
set_option linter.unusedVariables false
open Go.ChangeShapes Go.WideShapes Go.ChangeAt Go.RowKit
open M (W)
theorem wpList_append_zero {P : Program} {w : World} {ops : Array Oper} {rest : List Oper} {o : Oper} {act : Act} {Q : Exit → Act → World → Prop} (hgd : o.guard = none) (s x : Operand) (t : TypeId)
    (ho : o.op = .call { callee := .builtin .append, args := #[s, x], argTypes := #[t, t] })
    (e : TypeId) (i : TypeInfo) (ht : P.underlying t = some (.slice e)) (hi : P.info? e = some i)
    (a : Option Addr) (n c : Nat) (hs : act.eval s = .slice a n c) (hnc : n ≤ c) (ad : Option Addr) (c' : Nat) (hx : act.eval x = .slice ad 0 c')
    (h : wpList P ops Q rest (act.put o.dst (.slice a n c)) w) : wpList P ops Q (o :: rest) act w := by
  have hrun := run_append_zero (P := P) w t o.type e i ht hi a n c hnc ad c'
  refine wpList_plain hgd fun K hK => ?_
  unfold Oper.wp
  simp [execOp, ho, resolve, invoke, builtin, hs, hx, hrun, Result.andThen]
  exact hK _ _ h
theorem bytesWorld_still (w : World) (e : TypeId) (s : ByteArray) : Still w (Lib.bytesWorld w e s) := by
  refine ⟨rfl, rfl, rfl, by rw [Lib.bytesWorld_size]; omega, fun k hk _ => Lib.bytesWorld_at_old w e s k hk⟩
theorem bytesWorld_chars (w : World) (e : TypeId) (s : ByteArray) (j : Nat) (u : Value) (h : ((M.chars s).map (Value.int .u8))[j]? = some u) : (Lib.bytesWorld w e s).cell? ⟨w.heap.size, j, none⟩ = some u := by
  have hj : j < s.size := by
    have := (List.getElem?_eq_some_iff.1 h).1
    simpa [M.chars_len] using this
  rw [Lib.bytesWorld_cell w e s j hj, ← h]
  have hj2 : j < s.data.toList.length := by rw [Array.length_toList]; exact hj
  unfold M.chars
  rw [List.map_map, List.getElem?_map, List.getElem?_eq_getElem hj2]
  simp [List.getD, List.getElem?_eq_getElem hj2]
end Go.Proofs.Ytiagfkdidjlkcaa
