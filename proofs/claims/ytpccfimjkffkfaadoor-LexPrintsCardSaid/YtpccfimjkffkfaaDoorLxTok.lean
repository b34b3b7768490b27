/- A token's box, as a named result. -/
import Derived.Test.YtpccfimjkffkfaaDoorLxSk
import Derived.Shelf.Abstract
import Derived.Laws.ResultCell
namespace Go.Proofs.YtpccfimjkffkfaaDoor
set_option linter.unusedVariables false
set_option linter.unusedSimpArgs false
open Go.ChangeShapes Go.WideShapes Go.ChangeAt Go.RowKit
theorem results_row_tmp {P : Program} {fn : Func} {p u : Tmp} {ty : TypeId} (h : fn.results = #[.cell p ty, .tmp u]) (tmps : Array Value) (w : World) (g : Nat) (t : TypeId) (cs : Array Value) (fr : Nat × Nat) (d : TypeDesc)
    (hp : tmps.getD p undef = .pointer (some ⟨g, 0, none⟩)) (hg : w.heap[g]? = some (.cells cs t fr))
    (hu : P.underlying ty = some d) (hd : (match d with | .struct _ | .array _ _ => true | _ => false) = true) (hi : (P.info? ty).map (·.size) = some cs.size) :
    (results fn tmps).run P w = .ok (.tuple #[.agg cs, tmps.getD u undef]) w := by
  rw [results_cell_tmp h, hp]
  simp [asAddr, run_loadVar_row w g t ty cs fr d hg hu hd hi]
/-- A token's four cells. -/
def tokC (kind at_ : Int) (text : ByteArray) (n : Int) : Array Value := #[.int .i64 kind, .int .i64 at_, .string text, .int .i64 n]
theorem tokBox {w : World} {b : Nat} {x0 x1 x2 x3 : Value} (h : Blk w b 31 #[x0, x1, x2, x3]) : b < w.heap.size ∧ w.cell? ⟨b, 0, none⟩ = some x0 ∧ w.cell? ⟨b, 1, none⟩ = some x1 ∧ w.cell? ⟨b, 2, none⟩ = some x2 ∧ w.cell? ⟨b, 3, none⟩ = some x3 ∧ w.frozen? ⟨b, 0, none⟩ = false ∧ w.frozen? ⟨b, 1, none⟩ = false ∧ w.frozen? ⟨b, 2, none⟩ = false ∧ w.frozen? ⟨b, 3, none⟩ = false :=
  ⟨h.lt, h.cell 0, h.cell 1, h.cell 2, h.cell 3, h.frozen 0, h.frozen 1, h.frozen 2, h.frozen 3⟩
theorem tokPut {w : World} {b : Nat} {x0 x1 x2 x3 : Value} (h : Blk w b 31 #[x0, x1, x2, x3]) (y0 y1 y2 y3 : Value) : Blk ((((w.setCell ⟨b, 0, none⟩ y0).setCell ⟨b, 1, none⟩ y1).setCell ⟨b, 2, none⟩ y2).setCell ⟨b, 3, none⟩ y3) b 31 #[y0, y1, y2, y3] := by
  have := (((h.set 0 y0).set 1 y1).set 2 y2).set 3 y3
  simpa using this
theorem tokTurn {S : Nat → Prop} {w w' : World} {b : Nat} (h : Turn S w w') (hb : w.heap.size ≤ b) (y0 y1 y2 y3 : Value) : Turn S w ((((w'.setCell ⟨b, 0, none⟩ y0).setCell ⟨b, 1, none⟩ y1).setCell ⟨b, 2, none⟩ y2).setCell ⟨b, 3, none⟩ y3) :=
  (((h.setCell (p := ⟨b, 0, none⟩) (fun e => absurd e (Nat.not_lt.2 hb)) _).setCell (p := ⟨b, 1, none⟩) (fun e => absurd e (Nat.not_lt.2 hb)) _).setCell (p := ⟨b, 2, none⟩) (fun e => absurd e (Nat.not_lt.2 hb)) _).setCell (p := ⟨b, 3, none⟩) (fun e => absurd e (Nat.not_lt.2 hb)) _
theorem tokRdr {w : World} {g : Nat} {s : ByteArray} {k mb b : Nat} (h : Rdr w g s k mb) (hb : g ≠ b) (y0 y1 y2 y3 : Value) : Rdr ((((w.setCell ⟨b, 0, none⟩ y0).setCell ⟨b, 1, none⟩ y1).setCell ⟨b, 2, none⟩ y2).setCell ⟨b, 3, none⟩ y3) g s k mb :=
  ⟨(((h.blk.far (p := ⟨b, 0, none⟩) hb _).far (p := ⟨b, 1, none⟩) hb _).far (p := ⟨b, 2, none⟩) hb _).far (p := ⟨b, 3, none⟩) hb _, h.le, h.few⟩
theorem tok_size : (Tryd.prog.info? 31).map (·.size) = some 4 := by kernel_rfl
theorem enters_digit : ∀ args W, (callFunc 46 args).run Tryd.prog W = .ok (.enter 46 args) W := enters_of Tryd.func46 (by kernel_rfl) rfl
theorem enters_name : ∀ args W, (callFunc 60 args).run Tryd.prog W = .ok (.enter 60 args) W := enters_of Tryd.func60 (by kernel_rfl) rfl
end Go.Proofs.YtpccfimjkffkfaaDoor
