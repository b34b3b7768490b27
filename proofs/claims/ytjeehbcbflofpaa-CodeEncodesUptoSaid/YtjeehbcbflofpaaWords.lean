/- Contracts of layer 1's words and heads, and of the document's own ones. -/
import Derived.Test.YtjeehbcbflofpaaArith
import Derived.Test.YtjeehbcbflofpaaBits
namespace Go.Proofs.Ytjeehbcbflofpaa
set_option linter.unusedVariables false
open Go.ChangeShapes Go.WideShapes Go.ChangeAt Go.RowKit
open M (W)

theorem ret_u {k : IntKind} {a b : Int} {w : World} (h : a = b) : Ending.returned (.int k a) = .returned (.int k b) ∧ w = w := ⟨by rw [h], rfl⟩
theorem ret_b {a b : Bool} {w : World} (h : a = b) : Ending.returned (.bool a) = .returned (.bool b) ∧ w = w := ⟨by rw [h], rfl⟩

theorem ptr_wrap (n : Int) : IntKind.u64.wrap (IntKind.u64.wrap n * 2) = M.ptr n := by rw [IntKind.wrap_u64, IntKind.wrap_u64]; unfold M.ptr; omega
/-! heads, all parts told -/
end Go.Proofs.Ytjeehbcbflofpaa
