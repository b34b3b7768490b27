/-
  NARROWER THAN 'FOR EVERY INPUT', by the rows' own cells (each row's printed sentence says how): VerifyImages: laid · VerifyInstr: laid · VerifyLive: laid · VerifySwitch: laid · VerifyReturns: laid.
  DERIVED. THE GIVEN ROWS OF THIS SEAT. 5 by the template 'for every input the law returns true; each argument reads behind the call as it read before'; 0 by the template 'total and deterministic' (their statements: YtglalgjffkoneaaGreatDoorTotals.lean).
  GIVEN WITH THE SEED: the statements are not yours to turn. If you find one false, say at which input.
  Laid BY PROGRAM, IN A SANDBOX (cutbox-rows.mjs): the forced cells as the released guide's own fill.sh prints them over the translation be4af3b2939ecb33… (all of the seat's roots in one cut). By AI agents, Wed Nov 11 2026. No macro, syntax, notation, axiom, sorry.
-/
import Derived.Test.YtglalgjffkoneaaGreatDoorChecked
import GoSem.Claim
import GoSem.ClaimJoined
import GoSem.ClaimMapViews
import Derived.JoinedTies
import Derived.KernelRfl
namespace Go.Proofs.YtglalgjffkoneaaGreatDoor
/- THE CELL 'sum', in the pinned program and in every row, IS THE sha256 OF THE DUMP (.gsa) THAT YtglalgjffkoneaaGreatDoorProg.lean LOADS. Nothing in Lean hashes anything: it is a label: what it is worth is what the hold of that sum in a sandbox is worth. -/
noncomputable def Tryz.pinned : Pinned := { name := "ytglalgjffkoneaagreatdoor", sum := "be4af3b2939ecb33ea0e4e727095bb24fa4ad142172de9ed2ca6c1f53338091e", checked := Tryz.checked }
namespace Rows
def none {H : Type} : Left H := { results := [], args := [] }

/- WHAT THE LISTED PACKAGE-LEVEL VARIABLES READ AS WHEN THE CALL BEGINS. Each datum BY PROGRAM (the guide's laid-datum.mjs) off the statement by which the dump's own 'gosem.cut.vars' lays the variable. In a bare row this is a premise. The card (YtglalgjffkoneaaGreatDoorCards.lean) ties it to the program's text. -/
def laid_math_bits_deBruijn64tab {H : Type} : DataW H := .agg [.lit (.int .u8 0), .lit (.int .u8 1), .lit (.int .u8 56), .lit (.int .u8 2), .lit (.int .u8 57), .lit (.int .u8 49), .lit (.int .u8 28), .lit (.int .u8 3), .lit (.int .u8 61), .lit (.int .u8 58), .lit (.int .u8 42), .lit (.int .u8 50), .lit (.int .u8 38), .lit (.int .u8 29), .lit (.int .u8 17), .lit (.int .u8 4), .lit (.int .u8 62), .lit (.int .u8 47), .lit (.int .u8 59), .lit (.int .u8 36), .lit (.int .u8 45), .lit (.int .u8 43), .lit (.int .u8 51), .lit (.int .u8 22), .lit (.int .u8 53), .lit (.int .u8 39), .lit (.int .u8 33), .lit (.int .u8 30), .lit (.int .u8 24), .lit (.int .u8 18), .lit (.int .u8 12), .lit (.int .u8 5), .lit (.int .u8 63), .lit (.int .u8 55), .lit (.int .u8 48), .lit (.int .u8 27), .lit (.int .u8 60), .lit (.int .u8 41), .lit (.int .u8 37), .lit (.int .u8 16), .lit (.int .u8 46), .lit (.int .u8 35), .lit (.int .u8 44), .lit (.int .u8 21), .lit (.int .u8 52), .lit (.int .u8 32), .lit (.int .u8 23), .lit (.int .u8 11), .lit (.int .u8 54), .lit (.int .u8 26), .lit (.int .u8 40), .lit (.int .u8 15), .lit (.int .u8 34), .lit (.int .u8 20), .lit (.int .u8 31), .lit (.int .u8 10), .lit (.int .u8 25), .lit (.int .u8 14), .lit (.int .u8 19), .lit (.int .u8 9), .lit (.int .u8 13), .lit (.int .u8 8), .lit (.int .u8 7), .lit (.int .u8 6)]

/-- 'bellowslaw05.VerifyImages': WHATEVER THE INPUT: true; the input reads as it did. -/
def verifyImagesSpec : ChangeSpec := { name := "verifyImages", fn := fun _ => fun
  | [d] => { results := [.lit (.bool true)], args := [d] }
  | _ => none }
def verifyImagesRow : OpenClaim := { program := "ytglalgjffkoneaagreatdoor", sum := "be4af3b2939ecb33ea0e4e727095bb24fa4ad142172de9ed2ca6c1f53338091e", func := "bellows/bellowslaw05.VerifyImages", spec := "verifyImages", inPlace := ["internal/bytealg.IndexByteString", "internal/bytealg.IndexString"], unfollowed := true, recurses := true, named := ["internal/bytealg.MaxLen", "math/bits.deBruijn64tab"], apart := false, laid := [("math/bits.deBruijn64tab", laid_math_bits_deBruijn64tab)] }
def VerifyImagesSaid : Prop := verifyImagesRow.holds Tryz.pinned (OpenSpec.ofChange verifyImagesSpec)

/-- ITS FALSE NEIGHBOUR: 'it returns false'. Refute it at one input. -/
def verifyImagesWrong : ChangeSpec := { name := "verifyImages", fn := fun _ => fun
  | [d] => { results := [.lit (.bool false)], args := [d] }
  | _ => none }
def VerifyImagesWrongFalsely : Prop := verifyImagesRow.holds Tryz.pinned (OpenSpec.ofChange verifyImagesWrong)

/-- 'bellowslaw05.VerifyInstr': WHATEVER THE INPUT: true; the input reads as it did. -/
def verifyInstrSpec : ChangeSpec := { name := "verifyInstr", fn := fun _ => fun
  | [d1, d2, d3] => { results := [.lit (.bool true)], args := [d1, d2, d3] }
  | _ => none }
def verifyInstrRow : OpenClaim := { program := "ytglalgjffkoneaagreatdoor", sum := "be4af3b2939ecb33ea0e4e727095bb24fa4ad142172de9ed2ca6c1f53338091e", func := "bellows/bellowslaw05.VerifyInstr", spec := "verifyInstr", inPlace := ["internal/bytealg.IndexByteString", "internal/bytealg.IndexString"], unfollowed := true, recurses := true, named := ["internal/bytealg.MaxLen", "math/bits.deBruijn64tab"], apart := false, laid := [("math/bits.deBruijn64tab", laid_math_bits_deBruijn64tab)] }
def VerifyInstrSaid : Prop := verifyInstrRow.holds Tryz.pinned (OpenSpec.ofChange verifyInstrSpec)

/-- ITS FALSE NEIGHBOUR: 'it returns false'. Refute it at one input. -/
def verifyInstrWrong : ChangeSpec := { name := "verifyInstr", fn := fun _ => fun
  | [d1, d2, d3] => { results := [.lit (.bool false)], args := [d1, d2, d3] }
  | _ => none }
def VerifyInstrWrongFalsely : Prop := verifyInstrRow.holds Tryz.pinned (OpenSpec.ofChange verifyInstrWrong)

/-- 'bellowslaw05.VerifyLive': WHATEVER THE INPUT: true; the input reads as it did. -/
def verifyLiveSpec : ChangeSpec := { name := "verifyLive", fn := fun _ => fun
  | [d1, d2] => { results := [.lit (.bool true)], args := [d1, d2] }
  | _ => none }
def verifyLiveRow : OpenClaim := { program := "ytglalgjffkoneaagreatdoor", sum := "be4af3b2939ecb33ea0e4e727095bb24fa4ad142172de9ed2ca6c1f53338091e", func := "bellows/bellowslaw05.VerifyLive", spec := "verifyLive", inPlace := ["internal/bytealg.IndexByteString", "internal/bytealg.IndexString"], unfollowed := true, recurses := true, named := ["internal/bytealg.MaxLen", "math/bits.deBruijn64tab"], apart := false, laid := [("math/bits.deBruijn64tab", laid_math_bits_deBruijn64tab)] }
def VerifyLiveSaid : Prop := verifyLiveRow.holds Tryz.pinned (OpenSpec.ofChange verifyLiveSpec)

/-- ITS FALSE NEIGHBOUR: 'it returns false'. Refute it at one input. -/
def verifyLiveWrong : ChangeSpec := { name := "verifyLive", fn := fun _ => fun
  | [d1, d2] => { results := [.lit (.bool false)], args := [d1, d2] }
  | _ => none }
def VerifyLiveWrongFalsely : Prop := verifyLiveRow.holds Tryz.pinned (OpenSpec.ofChange verifyLiveWrong)

/-- 'bellowslaw05.VerifySwitch': WHATEVER THE INPUT: true; the input reads as it did. -/
def verifySwitchSpec : ChangeSpec := { name := "verifySwitch", fn := fun _ => fun
  | [d1, d2, d3, d4] => { results := [.lit (.bool true)], args := [d1, d2, d3, d4] }
  | _ => none }
def verifySwitchRow : OpenClaim := { program := "ytglalgjffkoneaagreatdoor", sum := "be4af3b2939ecb33ea0e4e727095bb24fa4ad142172de9ed2ca6c1f53338091e", func := "bellows/bellowslaw05.VerifySwitch", spec := "verifySwitch", inPlace := ["internal/bytealg.IndexByteString", "internal/bytealg.IndexString"], unfollowed := true, recurses := true, named := ["internal/bytealg.MaxLen", "math/bits.deBruijn64tab"], apart := false, laid := [("math/bits.deBruijn64tab", laid_math_bits_deBruijn64tab)] }
def VerifySwitchSaid : Prop := verifySwitchRow.holds Tryz.pinned (OpenSpec.ofChange verifySwitchSpec)

/-- ITS FALSE NEIGHBOUR: 'it returns false'. Refute it at one input. -/
def verifySwitchWrong : ChangeSpec := { name := "verifySwitch", fn := fun _ => fun
  | [d1, d2, d3, d4] => { results := [.lit (.bool false)], args := [d1, d2, d3, d4] }
  | _ => none }
def VerifySwitchWrongFalsely : Prop := verifySwitchRow.holds Tryz.pinned (OpenSpec.ofChange verifySwitchWrong)

/-- 'bellowslaw05.VerifyReturns': WHATEVER THE INPUT: true; the input reads as it did. -/
def verifyReturnsSpec : ChangeSpec := { name := "verifyReturns", fn := fun _ => fun
  | [d1, d2] => { results := [.lit (.bool true)], args := [d1, d2] }
  | _ => none }
def verifyReturnsRow : OpenClaim := { program := "ytglalgjffkoneaagreatdoor", sum := "be4af3b2939ecb33ea0e4e727095bb24fa4ad142172de9ed2ca6c1f53338091e", func := "bellows/bellowslaw05.VerifyReturns", spec := "verifyReturns", inPlace := ["internal/bytealg.IndexByteString", "internal/bytealg.IndexString"], unfollowed := true, recurses := true, named := ["internal/bytealg.MaxLen", "math/bits.deBruijn64tab"], apart := false, laid := [("math/bits.deBruijn64tab", laid_math_bits_deBruijn64tab)] }
def VerifyReturnsSaid : Prop := verifyReturnsRow.holds Tryz.pinned (OpenSpec.ofChange verifyReturnsSpec)

/-- ITS FALSE NEIGHBOUR: 'it returns false'. Refute it at one input. -/
def verifyReturnsWrong : ChangeSpec := { name := "verifyReturns", fn := fun _ => fun
  | [d1, d2] => { results := [.lit (.bool false)], args := [d1, d2] }
  | _ => none }
def VerifyReturnsWrongFalsely : Prop := verifyReturnsRow.holds Tryz.pinned (OpenSpec.ofChange verifyReturnsWrong)

/- THE SECOND FORM. 'bulk': how many values and letters a reading holds, each counted each time it is reached (what is shared counts as often as it is met; a slice's spare places count too). A statement '..UptoSaid' is the law's where the arguments, and the package variables that the reading takes, are together of bulk at most 1048576: NARROWER than '..Said'. Prove '..Said' where nothing that the law and all that it calls make is longer than what came in: it says more and counts as full. Else prove '..UptoSaid'. A law counts once. -/
mutual
def uptoBulk {H : Type} : DataW H → Nat
  | .lit (.string bytes) => bytes.length + 1
  | .lit _ => 1
  | .nil => 1
  | .ptr d => uptoBulk d + 1
  | .slice elems spare => uptoBulkAll elems + uptoBulkAll spare + 1
  | .agg parts => uptoBulkAll parts + 1
  | .iface _ d => uptoBulk d + 1
  | .map entries => uptoBulkEntries entries + 1
  | .held _ => 1
def uptoBulkAll {H : Type} : List (DataW H) → Nat
  | [] => 0
  | d :: r => uptoBulk d + uptoBulkAll r
def uptoBulkEntries {H : Type} : List (Lit × DataW H) → Nat
  | [] => 0
  | x :: r => uptoBulkEntry x + uptoBulkEntries r
def uptoBulkEntry {H : Type} : Lit × DataW H → Nat
  | (.string bytes, d) => bytes.length + uptoBulk d + 1
  | (_, d) => uptoBulk d + 1
 end
def uptoSmall : (H : Type) → List (DataW H) → Bool := fun _ ds => decide (uptoBulkAll ds ≤ 1048576)
def OpenSpec.upto (s : _root_.Go.ChangeSpec) : _root_.Go.OpenSpec := { _root_.Go.OpenSpec.ofChange s with cond := some uptoSmall }

/-- 'bellowslaw05.VerifyImages', WHERE WHAT IT READS IS OF BULK AT MOST 1048576: true; the input reads as it did. -/
def verifyImagesUptoRow : OpenClaim := { program := "ytglalgjffkoneaagreatdoor", sum := "be4af3b2939ecb33ea0e4e727095bb24fa4ad142172de9ed2ca6c1f53338091e", func := "bellows/bellowslaw05.VerifyImages", spec := "verifyImages", inPlace := ["internal/bytealg.IndexByteString", "internal/bytealg.IndexString"], unfollowed := true, recurses := true, named := ["internal/bytealg.MaxLen", "math/bits.deBruijn64tab"], apart := false, laid := [("math/bits.deBruijn64tab", laid_math_bits_deBruijn64tab)], narrowed := true }
def VerifyImagesUptoSaid : Prop := verifyImagesUptoRow.holds Tryz.pinned (OpenSpec.upto verifyImagesSpec)

/-- 'bellowslaw05.VerifyInstr', WHERE WHAT IT READS IS OF BULK AT MOST 1048576: true; the input reads as it did. -/
def verifyInstrUptoRow : OpenClaim := { program := "ytglalgjffkoneaagreatdoor", sum := "be4af3b2939ecb33ea0e4e727095bb24fa4ad142172de9ed2ca6c1f53338091e", func := "bellows/bellowslaw05.VerifyInstr", spec := "verifyInstr", inPlace := ["internal/bytealg.IndexByteString", "internal/bytealg.IndexString"], unfollowed := true, recurses := true, named := ["internal/bytealg.MaxLen", "math/bits.deBruijn64tab"], apart := false, laid := [("math/bits.deBruijn64tab", laid_math_bits_deBruijn64tab)], narrowed := true }
def VerifyInstrUptoSaid : Prop := verifyInstrUptoRow.holds Tryz.pinned (OpenSpec.upto verifyInstrSpec)

/-- 'bellowslaw05.VerifyLive', WHERE WHAT IT READS IS OF BULK AT MOST 1048576: true; the input reads as it did. -/
def verifyLiveUptoRow : OpenClaim := { program := "ytglalgjffkoneaagreatdoor", sum := "be4af3b2939ecb33ea0e4e727095bb24fa4ad142172de9ed2ca6c1f53338091e", func := "bellows/bellowslaw05.VerifyLive", spec := "verifyLive", inPlace := ["internal/bytealg.IndexByteString", "internal/bytealg.IndexString"], unfollowed := true, recurses := true, named := ["internal/bytealg.MaxLen", "math/bits.deBruijn64tab"], apart := false, laid := [("math/bits.deBruijn64tab", laid_math_bits_deBruijn64tab)], narrowed := true }
def VerifyLiveUptoSaid : Prop := verifyLiveUptoRow.holds Tryz.pinned (OpenSpec.upto verifyLiveSpec)

/-- 'bellowslaw05.VerifySwitch', WHERE WHAT IT READS IS OF BULK AT MOST 1048576: true; the input reads as it did. -/
def verifySwitchUptoRow : OpenClaim := { program := "ytglalgjffkoneaagreatdoor", sum := "be4af3b2939ecb33ea0e4e727095bb24fa4ad142172de9ed2ca6c1f53338091e", func := "bellows/bellowslaw05.VerifySwitch", spec := "verifySwitch", inPlace := ["internal/bytealg.IndexByteString", "internal/bytealg.IndexString"], unfollowed := true, recurses := true, named := ["internal/bytealg.MaxLen", "math/bits.deBruijn64tab"], apart := false, laid := [("math/bits.deBruijn64tab", laid_math_bits_deBruijn64tab)], narrowed := true }
def VerifySwitchUptoSaid : Prop := verifySwitchUptoRow.holds Tryz.pinned (OpenSpec.upto verifySwitchSpec)

/-- 'bellowslaw05.VerifyReturns', WHERE WHAT IT READS IS OF BULK AT MOST 1048576: true; the input reads as it did. -/
def verifyReturnsUptoRow : OpenClaim := { program := "ytglalgjffkoneaagreatdoor", sum := "be4af3b2939ecb33ea0e4e727095bb24fa4ad142172de9ed2ca6c1f53338091e", func := "bellows/bellowslaw05.VerifyReturns", spec := "verifyReturns", inPlace := ["internal/bytealg.IndexByteString", "internal/bytealg.IndexString"], unfollowed := true, recurses := true, named := ["internal/bytealg.MaxLen", "math/bits.deBruijn64tab"], apart := false, laid := [("math/bits.deBruijn64tab", laid_math_bits_deBruijn64tab)], narrowed := true }
def VerifyReturnsUptoSaid : Prop := verifyReturnsUptoRow.holds Tryz.pinned (OpenSpec.upto verifyReturnsSpec)

end Rows
end Go.Proofs.YtglalgjffkoneaaGreatDoor
