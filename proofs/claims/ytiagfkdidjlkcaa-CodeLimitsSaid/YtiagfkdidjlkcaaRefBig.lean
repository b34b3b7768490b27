/- The document's own big and Check of any image. -/
import Derived.Test.YtiagfkdidjlkcaaL08
import Derived.Test.YtiagfkdidjlkcaaL06
namespace Go.Proofs.Ytiagfkdidjlkcaa
set_option linter.unusedVariables false
set_option linter.unusedSimpArgs false
open Go.ChangeShapes Go.WideShapes Go.ChangeAt Go.RowKit
open M (W)
/-- A call that only reads: what stands, and the image's box. -/
structure Seen (w : World) (CS : Array Value) (W : World) : Prop where
  still : Still w W
  box : Blk W w.heap.size 27 CS
theorem Seen.next {w W W' : World} {CS : Array Value} (h : Seen w CS W) (t : Still W W') : Seen w CS W' := ⟨h.still.trans t, t.blk h.box⟩
def M.bigC (f : M.Fn) : Bool := f.blocks.any fun b => b.code.any M.bigIns
end Go.Proofs.Ytiagfkdidjlkcaa
