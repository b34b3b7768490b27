/-
  No cell of these rows narrows 'for every input' (looked for: loops, veiled, ifaces, maps, wideKeys, modest, calm, conditions, laid).
  DERIVED. THE GIVEN ROWS OF THIS SEAT. 10 by the template 'for every input the law returns true; each argument reads behind the call as it read before'; 0 by the template 'total and deterministic' (their statements: YtmbdacfdefoknaaTotals.lean).
  GIVEN WITH THE SEED: the statements are not yours to turn. If you find one false, say at which input.
  Laid BY PROGRAM, IN A SANDBOX (cutbox-rows.mjs): the forced cells as the released guide's own fill.sh prints them over the translation 5a0d3de822ab7f29… (all of the seat's roots in one cut). By AI agents, Wed Nov 11 2026. No macro, syntax, notation, axiom, sorry.
-/
import Derived.Test.YtmbdacfdefoknaaChecked
import GoSem.Claim
import GoSem.ClaimJoined
import GoSem.ClaimMapViews
import Derived.JoinedTies
import Derived.KernelRfl
namespace Go.Proofs.Ytmbdacfdefoknaa
/- THE CELL 'sum', in the pinned program and in every row, IS THE sha256 OF THE DUMP (.gsa) THAT YtmbdacfdefoknaaProg.lean LOADS. Nothing in Lean hashes anything: it is a label: what it is worth is what the hold of that sum in a sandbox is worth. -/
noncomputable def Try.pinned : Pinned := { name := "ytmbdacfdefoknaa", sum := "5a0d3de822ab7f29c264feaf3fa20845a5ac805c49f3d236222150324101dff5", checked := Try.checked }
namespace Rows
def none {H : Type} : Left H := { results := [], args := [] }

/-- 'bellowslaw02.HeapCloses': WHATEVER THE INPUT: true; the input reads as it did. -/
def heapClosesSpec : ChangeSpec := { name := "heapCloses", fn := fun _ => fun
  | [d] => { results := [.lit (.bool true)], args := [d] }
  | _ => none }
def heapClosesRow : OpenClaim := { program := "ytmbdacfdefoknaa", sum := "5a0d3de822ab7f29c264feaf3fa20845a5ac805c49f3d236222150324101dff5", func := "bellows/bellowslaw02.HeapCloses", spec := "heapCloses", unfollowed := true, recurses := true, apart := false }
def HeapClosesSaid : Prop := heapClosesRow.holds Try.pinned (OpenSpec.ofChange heapClosesSpec)

/-- ITS FALSE NEIGHBOUR: 'it returns false'. Refute it at one input. -/
def heapClosesWrong : ChangeSpec := { name := "heapCloses", fn := fun _ => fun
  | [d] => { results := [.lit (.bool false)], args := [d] }
  | _ => none }
def HeapClosesWrongFalsely : Prop := heapClosesRow.holds Try.pinned (OpenSpec.ofChange heapClosesWrong)

/-- 'bellowslaw03.GcCollects': WHATEVER THE INPUT: true; the input reads as it did. -/
def gcCollectsSpec : ChangeSpec := { name := "gcCollects", fn := fun _ => fun
  | [d] => { results := [.lit (.bool true)], args := [d] }
  | _ => none }
def gcCollectsRow : OpenClaim := { program := "ytmbdacfdefoknaa", sum := "5a0d3de822ab7f29c264feaf3fa20845a5ac805c49f3d236222150324101dff5", func := "bellows/bellowslaw03.GcCollects", spec := "gcCollects", unfollowed := true, recurses := true, apart := false }
def GcCollectsSaid : Prop := gcCollectsRow.holds Try.pinned (OpenSpec.ofChange gcCollectsSpec)

/-- ITS FALSE NEIGHBOUR: 'it returns false'. Refute it at one input. -/
def gcCollectsWrong : ChangeSpec := { name := "gcCollects", fn := fun _ => fun
  | [d] => { results := [.lit (.bool false)], args := [d] }
  | _ => none }
def GcCollectsWrongFalsely : Prop := gcCollectsRow.holds Try.pinned (OpenSpec.ofChange gcCollectsWrong)

/-- 'bellowslaw03.GcMarks': WHATEVER THE INPUT: true; the input reads as it did. -/
def gcMarksSpec : ChangeSpec := { name := "gcMarks", fn := fun _ => fun
  | [d] => { results := [.lit (.bool true)], args := [d] }
  | _ => none }
def gcMarksRow : OpenClaim := { program := "ytmbdacfdefoknaa", sum := "5a0d3de822ab7f29c264feaf3fa20845a5ac805c49f3d236222150324101dff5", func := "bellows/bellowslaw03.GcMarks", spec := "gcMarks", unfollowed := true, recurses := true, apart := false }
def GcMarksSaid : Prop := gcMarksRow.holds Try.pinned (OpenSpec.ofChange gcMarksSpec)

/-- ITS FALSE NEIGHBOUR: 'it returns false'. Refute it at one input. -/
def gcMarksWrong : ChangeSpec := { name := "gcMarks", fn := fun _ => fun
  | [d] => { results := [.lit (.bool false)], args := [d] }
  | _ => none }
def GcMarksWrongFalsely : Prop := gcMarksRow.holds Try.pinned (OpenSpec.ofChange gcMarksWrong)

/-- 'bellowslaw03.GcTwice': WHATEVER THE INPUT: true; the input reads as it did. -/
def gcTwiceSpec : ChangeSpec := { name := "gcTwice", fn := fun _ => fun
  | [d] => { results := [.lit (.bool true)], args := [d] }
  | _ => none }
def gcTwiceRow : OpenClaim := { program := "ytmbdacfdefoknaa", sum := "5a0d3de822ab7f29c264feaf3fa20845a5ac805c49f3d236222150324101dff5", func := "bellows/bellowslaw03.GcTwice", spec := "gcTwice", unfollowed := true, recurses := true, apart := false }
def GcTwiceSaid : Prop := gcTwiceRow.holds Try.pinned (OpenSpec.ofChange gcTwiceSpec)

/-- ITS FALSE NEIGHBOUR: 'it returns false'. Refute it at one input. -/
def gcTwiceWrong : ChangeSpec := { name := "gcTwice", fn := fun _ => fun
  | [d] => { results := [.lit (.bool false)], args := [d] }
  | _ => none }
def GcTwiceWrongFalsely : Prop := gcTwiceRow.holds Try.pinned (OpenSpec.ofChange gcTwiceWrong)

/-- 'bellowslaw03.GcSame': WHATEVER THE INPUT: true; the input reads as it did. -/
def gcSameSpec : ChangeSpec := { name := "gcSame", fn := fun _ => fun
  | [d] => { results := [.lit (.bool true)], args := [d] }
  | _ => none }
def gcSameRow : OpenClaim := { program := "ytmbdacfdefoknaa", sum := "5a0d3de822ab7f29c264feaf3fa20845a5ac805c49f3d236222150324101dff5", func := "bellows/bellowslaw03.GcSame", spec := "gcSame", unfollowed := true, recurses := true, apart := false }
def GcSameSaid : Prop := gcSameRow.holds Try.pinned (OpenSpec.ofChange gcSameSpec)

/-- ITS FALSE NEIGHBOUR: 'it returns false'. Refute it at one input. -/
def gcSameWrong : ChangeSpec := { name := "gcSame", fn := fun _ => fun
  | [d] => { results := [.lit (.bool false)], args := [d] }
  | _ => none }
def GcSameWrongFalsely : Prop := gcSameRow.holds Try.pinned (OpenSpec.ofChange gcSameWrong)

/-- 'bellowslaw03.GcOrder': WHATEVER THE INPUT: true; the input reads as it did. -/
def gcOrderSpec : ChangeSpec := { name := "gcOrder", fn := fun _ => fun
  | [d] => { results := [.lit (.bool true)], args := [d] }
  | _ => none }
def gcOrderRow : OpenClaim := { program := "ytmbdacfdefoknaa", sum := "5a0d3de822ab7f29c264feaf3fa20845a5ac805c49f3d236222150324101dff5", func := "bellows/bellowslaw03.GcOrder", spec := "gcOrder", unfollowed := true, recurses := true, apart := false }
def GcOrderSaid : Prop := gcOrderRow.holds Try.pinned (OpenSpec.ofChange gcOrderSpec)

/-- ITS FALSE NEIGHBOUR: 'it returns false'. Refute it at one input. -/
def gcOrderWrong : ChangeSpec := { name := "gcOrder", fn := fun _ => fun
  | [d] => { results := [.lit (.bool false)], args := [d] }
  | _ => none }
def GcOrderWrongFalsely : Prop := gcOrderRow.holds Try.pinned (OpenSpec.ofChange gcOrderWrong)

/-- 'bellowslaw03.GcAll': WHATEVER THE INPUT: true; the input reads as it did. -/
def gcAllSpec : ChangeSpec := { name := "gcAll", fn := fun _ => fun
  | [d] => { results := [.lit (.bool true)], args := [d] }
  | _ => none }
def gcAllRow : OpenClaim := { program := "ytmbdacfdefoknaa", sum := "5a0d3de822ab7f29c264feaf3fa20845a5ac805c49f3d236222150324101dff5", func := "bellows/bellowslaw03.GcAll", spec := "gcAll", unfollowed := true, recurses := true, apart := false }
def GcAllSaid : Prop := gcAllRow.holds Try.pinned (OpenSpec.ofChange gcAllSpec)

/-- ITS FALSE NEIGHBOUR: 'it returns false'. Refute it at one input. -/
def gcAllWrong : ChangeSpec := { name := "gcAll", fn := fun _ => fun
  | [d] => { results := [.lit (.bool false)], args := [d] }
  | _ => none }
def GcAllWrongFalsely : Prop := gcAllRow.holds Try.pinned (OpenSpec.ofChange gcAllWrong)

/-- 'bellowslaw03.GcRoom': WHATEVER THE INPUT: true; the input reads as it did. -/
def gcRoomSpec : ChangeSpec := { name := "gcRoom", fn := fun _ => fun
  | [d1, d2] => { results := [.lit (.bool true)], args := [d1, d2] }
  | _ => none }
def gcRoomRow : OpenClaim := { program := "ytmbdacfdefoknaa", sum := "5a0d3de822ab7f29c264feaf3fa20845a5ac805c49f3d236222150324101dff5", func := "bellows/bellowslaw03.GcRoom", spec := "gcRoom", unfollowed := true, recurses := true, apart := false }
def GcRoomSaid : Prop := gcRoomRow.holds Try.pinned (OpenSpec.ofChange gcRoomSpec)

/-- ITS FALSE NEIGHBOUR: 'it returns false'. Refute it at one input. -/
def gcRoomWrong : ChangeSpec := { name := "gcRoom", fn := fun _ => fun
  | [d1, d2] => { results := [.lit (.bool false)], args := [d1, d2] }
  | _ => none }
def GcRoomWrongFalsely : Prop := gcRoomRow.holds Try.pinned (OpenSpec.ofChange gcRoomWrong)

/-- 'bellowslaw03.GcLong': WHATEVER THE INPUT: true; the input reads as it did. -/
def gcLongSpec : ChangeSpec := { name := "gcLong", fn := fun _ => fun
  | [d1, d2, d3] => { results := [.lit (.bool true)], args := [d1, d2, d3] }
  | _ => none }
def gcLongRow : OpenClaim := { program := "ytmbdacfdefoknaa", sum := "5a0d3de822ab7f29c264feaf3fa20845a5ac805c49f3d236222150324101dff5", func := "bellows/bellowslaw03.GcLong", spec := "gcLong", unfollowed := true, recurses := true, apart := false }
def GcLongSaid : Prop := gcLongRow.holds Try.pinned (OpenSpec.ofChange gcLongSpec)

/-- ITS FALSE NEIGHBOUR: 'it returns false'. Refute it at one input. -/
def gcLongWrong : ChangeSpec := { name := "gcLong", fn := fun _ => fun
  | [d1, d2, d3] => { results := [.lit (.bool false)], args := [d1, d2, d3] }
  | _ => none }
def GcLongWrongFalsely : Prop := gcLongRow.holds Try.pinned (OpenSpec.ofChange gcLongWrong)

/-- 'bellowslaw03.GcNobody': WHATEVER THE INPUT: true; the input reads as it did. -/
def gcNobodySpec : ChangeSpec := { name := "gcNobody", fn := fun _ => fun
  | [d1, d2] => { results := [.lit (.bool true)], args := [d1, d2] }
  | _ => none }
def gcNobodyRow : OpenClaim := { program := "ytmbdacfdefoknaa", sum := "5a0d3de822ab7f29c264feaf3fa20845a5ac805c49f3d236222150324101dff5", func := "bellows/bellowslaw03.GcNobody", spec := "gcNobody", unfollowed := true, recurses := true, apart := false }
def GcNobodySaid : Prop := gcNobodyRow.holds Try.pinned (OpenSpec.ofChange gcNobodySpec)

/-- ITS FALSE NEIGHBOUR: 'it returns false'. Refute it at one input. -/
def gcNobodyWrong : ChangeSpec := { name := "gcNobody", fn := fun _ => fun
  | [d1, d2] => { results := [.lit (.bool false)], args := [d1, d2] }
  | _ => none }
def GcNobodyWrongFalsely : Prop := gcNobodyRow.holds Try.pinned (OpenSpec.ofChange gcNobodyWrong)

/- THE SECOND FORM. 'bulk': how many values and letters a reading holds, each counted each time it is reached (what is shared counts as often as it is met; a slice's spare places count too). A statement '..UptoSaid' is the law's where the arguments, and the package variables that the reading takes, are together of bulk at most 1048576: NARROWER than '..Said'. Prove '..Said' where nothing that the law and all that it calls make is longer than what came in: it says more and counts as full. Else prove '..UptoSaid'. A law counts once. -/
mutual
def uptoBulk {H : Type} : DataW H → Nat
  | .lit (.string bytes) => bytes.length + 1
  | .lit _ => 1
  | .nil => 1
  | .ptr d => uptoBulk d + 1
  | .slice elems spare => uptoBulkAll elems + uptoBulkAll spare + 1
  | .agg parts => uptoBulkAll parts + 1
  | .iface _ d => uptoBulk d + 1
  | .map entries => uptoBulkEntries entries + 1
  | .held _ => 1
def uptoBulkAll {H : Type} : List (DataW H) → Nat
  | [] => 0
  | d :: r => uptoBulk d + uptoBulkAll r
def uptoBulkEntries {H : Type} : List (Lit × DataW H) → Nat
  | [] => 0
  | x :: r => uptoBulkEntry x + uptoBulkEntries r
def uptoBulkEntry {H : Type} : Lit × DataW H → Nat
  | (.string bytes, d) => bytes.length + uptoBulk d + 1
  | (_, d) => uptoBulk d + 1
 end
def uptoSmall : (H : Type) → List (DataW H) → Bool := fun _ ds => decide (uptoBulkAll ds ≤ 1048576)
def OpenSpec.upto (s : _root_.Go.ChangeSpec) : _root_.Go.OpenSpec := { _root_.Go.OpenSpec.ofChange s with cond := some uptoSmall }

/-- 'bellowslaw02.HeapCloses', WHERE WHAT IT READS IS OF BULK AT MOST 1048576: true; the input reads as it did. -/
def heapClosesUptoRow : OpenClaim := { program := "ytmbdacfdefoknaa", sum := "5a0d3de822ab7f29c264feaf3fa20845a5ac805c49f3d236222150324101dff5", func := "bellows/bellowslaw02.HeapCloses", spec := "heapCloses", unfollowed := true, recurses := true, apart := false, narrowed := true }
def HeapClosesUptoSaid : Prop := heapClosesUptoRow.holds Try.pinned (OpenSpec.upto heapClosesSpec)

/-- 'bellowslaw03.GcCollects', WHERE WHAT IT READS IS OF BULK AT MOST 1048576: true; the input reads as it did. -/
def gcCollectsUptoRow : OpenClaim := { program := "ytmbdacfdefoknaa", sum := "5a0d3de822ab7f29c264feaf3fa20845a5ac805c49f3d236222150324101dff5", func := "bellows/bellowslaw03.GcCollects", spec := "gcCollects", unfollowed := true, recurses := true, apart := false, narrowed := true }
def GcCollectsUptoSaid : Prop := gcCollectsUptoRow.holds Try.pinned (OpenSpec.upto gcCollectsSpec)

/-- 'bellowslaw03.GcMarks', WHERE WHAT IT READS IS OF BULK AT MOST 1048576: true; the input reads as it did. -/
def gcMarksUptoRow : OpenClaim := { program := "ytmbdacfdefoknaa", sum := "5a0d3de822ab7f29c264feaf3fa20845a5ac805c49f3d236222150324101dff5", func := "bellows/bellowslaw03.GcMarks", spec := "gcMarks", unfollowed := true, recurses := true, apart := false, narrowed := true }
def GcMarksUptoSaid : Prop := gcMarksUptoRow.holds Try.pinned (OpenSpec.upto gcMarksSpec)

/-- 'bellowslaw03.GcTwice', WHERE WHAT IT READS IS OF BULK AT MOST 1048576: true; the input reads as it did. -/
def gcTwiceUptoRow : OpenClaim := { program := "ytmbdacfdefoknaa", sum := "5a0d3de822ab7f29c264feaf3fa20845a5ac805c49f3d236222150324101dff5", func := "bellows/bellowslaw03.GcTwice", spec := "gcTwice", unfollowed := true, recurses := true, apart := false, narrowed := true }
def GcTwiceUptoSaid : Prop := gcTwiceUptoRow.holds Try.pinned (OpenSpec.upto gcTwiceSpec)

/-- 'bellowslaw03.GcSame', WHERE WHAT IT READS IS OF BULK AT MOST 1048576: true; the input reads as it did. -/
def gcSameUptoRow : OpenClaim := { program := "ytmbdacfdefoknaa", sum := "5a0d3de822ab7f29c264feaf3fa20845a5ac805c49f3d236222150324101dff5", func := "bellows/bellowslaw03.GcSame", spec := "gcSame", unfollowed := true, recurses := true, apart := false, narrowed := true }
def GcSameUptoSaid : Prop := gcSameUptoRow.holds Try.pinned (OpenSpec.upto gcSameSpec)

/-- 'bellowslaw03.GcOrder', WHERE WHAT IT READS IS OF BULK AT MOST 1048576: true; the input reads as it did. -/
def gcOrderUptoRow : OpenClaim := { program := "ytmbdacfdefoknaa", sum := "5a0d3de822ab7f29c264feaf3fa20845a5ac805c49f3d236222150324101dff5", func := "bellows/bellowslaw03.GcOrder", spec := "gcOrder", unfollowed := true, recurses := true, apart := false, narrowed := true }
def GcOrderUptoSaid : Prop := gcOrderUptoRow.holds Try.pinned (OpenSpec.upto gcOrderSpec)

/-- 'bellowslaw03.GcAll', WHERE WHAT IT READS IS OF BULK AT MOST 1048576: true; the input reads as it did. -/
def gcAllUptoRow : OpenClaim := { program := "ytmbdacfdefoknaa", sum := "5a0d3de822ab7f29c264feaf3fa20845a5ac805c49f3d236222150324101dff5", func := "bellows/bellowslaw03.GcAll", spec := "gcAll", unfollowed := true, recurses := true, apart := false, narrowed := true }
def GcAllUptoSaid : Prop := gcAllUptoRow.holds Try.pinned (OpenSpec.upto gcAllSpec)

/-- 'bellowslaw03.GcRoom', WHERE WHAT IT READS IS OF BULK AT MOST 1048576: true; the input reads as it did. -/
def gcRoomUptoRow : OpenClaim := { program := "ytmbdacfdefoknaa", sum := "5a0d3de822ab7f29c264feaf3fa20845a5ac805c49f3d236222150324101dff5", func := "bellows/bellowslaw03.GcRoom", spec := "gcRoom", unfollowed := true, recurses := true, apart := false, narrowed := true }
def GcRoomUptoSaid : Prop := gcRoomUptoRow.holds Try.pinned (OpenSpec.upto gcRoomSpec)

/-- 'bellowslaw03.GcLong', WHERE WHAT IT READS IS OF BULK AT MOST 1048576: true; the input reads as it did. -/
def gcLongUptoRow : OpenClaim := { program := "ytmbdacfdefoknaa", sum := "5a0d3de822ab7f29c264feaf3fa20845a5ac805c49f3d236222150324101dff5", func := "bellows/bellowslaw03.GcLong", spec := "gcLong", unfollowed := true, recurses := true, apart := false, narrowed := true }
def GcLongUptoSaid : Prop := gcLongUptoRow.holds Try.pinned (OpenSpec.upto gcLongSpec)

/-- 'bellowslaw03.GcNobody', WHERE WHAT IT READS IS OF BULK AT MOST 1048576: true; the input reads as it did. -/
def gcNobodyUptoRow : OpenClaim := { program := "ytmbdacfdefoknaa", sum := "5a0d3de822ab7f29c264feaf3fa20845a5ac805c49f3d236222150324101dff5", func := "bellows/bellowslaw03.GcNobody", spec := "gcNobody", unfollowed := true, recurses := true, apart := false, narrowed := true }
def GcNobodyUptoSaid : Prop := gcNobodyUptoRow.holds Try.pinned (OpenSpec.upto gcNobodySpec)

end Rows
end Go.Proofs.Ytmbdacfdefoknaa
