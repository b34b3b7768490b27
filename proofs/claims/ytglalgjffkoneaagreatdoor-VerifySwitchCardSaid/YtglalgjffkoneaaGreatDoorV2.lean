/- Lemmas, put together: Vneed Vhas Vn Vbt Vx Vw Vview Vview2 Vrises Vkeep Vfit Vbegin. -/
import Derived.Test.YtglalgjffkoneaaGreatDoorV1
import Derived.Tactics
import Derived.Tactics2
import Derived.Defers
import Derived.Recover
import Derived.WalkSmall
import Derived.Laws.Pointers
import Derived.Lib.TrailingZeros
import Derived.Laws.PanicsMore
import Derived.Test.YtglalgjffkoneaaGreatDoorProg
import Derived.Deep.RegionLaw
import Derived.Deep.MidRow
import Derived.LaidEqlPtr
import Derived.Deep.RegionHeld
import Derived.Laws.OwnMore
import Derived.Shelf.Abstract
/- need: what is thrown where a check fails; holds: whether one comes to its end. -/
namespace Go.Proofs.YtglalgjffkoneaaGreatDoor
set_option linter.unusedVariables false
set_option linter.unusedSimpArgs false
open Go.ChangeShapes Go.WideShapes Go.ChangeAt Go.RowKit
/-- What need throws. -/
def wrongV : Value := .iface 80 (.agg #[])
theorem need_yes (w : World) : Calls Tryz.prog 38 #[.bool true] w fun e w' => e = .returned (.tuple #[]) ∧ w' = w := by
  go_enter Tryz.func38, Tryz.ntmps38
  go_wp2
  go_end0
  exact ⟨rfl, rfl⟩
theorem need_no (w : World) : Calls Tryz.prog 38 #[.bool false] w fun e w' => e = .panicked [{ v := wrongV, recovered := false }] ∧ w' = w := by
  go_enter Tryz.func38, Tryz.ntmps38
  go_wp2
  exact ⟨rfl, rfl, rfl⟩
theorem infoWrong : (Tryz.prog.info? 80).map (·.comparable) = some true := by kernel_rfl
theorem stoodWrong : Tryz.prog.stoodInHeld 80 = false := by kernel_rfl
theorem eqIn_wrong (d : Nat) (w : World) : (Op.equalIn (d + 2) 20 (.iface 80 (.agg #[])) (.iface 80 (.agg #[]))).run Tryz.prog w = .ok true w := by
  obtain ⟨i, hi, hc⟩ := Option.map_eq_some_iff.1 infoWrong
  simp [Op.equalIn, run_underlying Tryz.underlying20, run_underlying Tryz.underlying80, typeInfo, hi, hc, stoodWrong, go_sem]
theorem neq_wrong (w : World) : (binOp .neq 20 (.iface 80 (.agg #[])) (.iface 80 (.agg #[]))).run Tryz.prog w = .ok (.bool false) w := by
  simp only [binOp]
  simp [Op.equal, Op.maxDepth, eqIn_wrong 9998]
theorem catch_idle (w : World) :
    CallsD Tryz.prog 33 #[] .returning w fun e u' w' => e = .returned (.tuple #[]) ∧ u' = .returning ∧ w' = w := by
  refine callsD_of_wpS Tryz.func33 rfl fun c₀ cs hu => ?_
  apply wpS_seq
  apply wpS_region
  simp [wpOpsS, go_sem, recoverD, hu, Tryz.ntmps33, Exit.thenS]
  apply wpS_seq
  apply wpS_region
  simp [wpOpsS, go_sem, Exit.thenS]
  refine wpS_cond (t := false) (by simp [Act.eval, Array.replicate]) ?_
  simp only [Bool.false_eq_true, if_false]
  refine wpS_of_wp (wp_skip ?_)
  cases c₀
  simp_all [bodyPostS, results, Tryz.results33]
set_option maxRecDepth 100000 in
theorem catch_wrong (older : List PanicEntry) (w : World) :
    CallsD Tryz.prog 33 #[] (.panicking ({ v := wrongV, recovered := false } :: older)) w fun e u' w' => e = .returned (.tuple #[]) ∧ u' = .panicking ({ v := wrongV, recovered := true } :: older) ∧ w' = w := by
  refine callsD_of_wpS Tryz.func33 rfl fun c₀ cs hu => ?_
  apply wpS_seq
  apply wpS_region
  simp [wpOpsS, go_sem, recoverD, hu, Tryz.ntmps33, Exit.thenS]
  apply wpS_seq
  apply wpS_region
  have hq := neq_wrong
  simp [wpOpsS, go_sem, Exit.thenS, hq, wrongV]
  refine wpS_cond (t := false) (by simp [Act.eval, Array.replicate]) ?_
  simp only [Bool.false_eq_true, if_false]
  refine wpS_of_wp (wp_skip ?_)
  cases c₀
  simp_all [bodyPostS, results, Tryz.results33, wrongV]
end Go.Proofs.YtglalgjffkoneaaGreatDoor
/- has: is a number that of an element? -/
namespace Go.Proofs.YtglalgjffkoneaaGreatDoor
set_option linter.unusedVariables false
set_option linter.unusedSimpArgs false
open Go.ChangeShapes Go.WideShapes Go.ChangeAt Go.RowKit
def hasB (i : Int) (n : Nat) : Bool := decide (0 ≤ i) && decide (i < n)
theorem hasB_iff (i : Int) (n : Nat) : hasB i n = true ↔ 0 ≤ i ∧ i < n := by unfold hasB; simp
theorem hasTy_any (a : Option Addr) (n c : Nat) (i : Int) (w : World) : Calls Tryz.prog 40 #[.slice a n c, .int .i64 i] w fun e w' => e = .returned (.bool (hasB i n)) ∧ w' = w := by
  by_cases h0 : 0 ≤ i
  · by_cases h1 : i < n
    · have x0 : decide (0 ≤ i) = true := decide_eq_true h0
      have x1 : decide (i < (n : Int)) = true := decide_eq_true h1
      have hb : Hid (hasB i n = true) := (hasB_iff i n).2 ⟨h0, h1⟩
      go_enter Tryz.func40, Tryz.ntmps40
      go_wp2
      go_ret
      exact ⟨by rw [hb.out]; rfl, rfl⟩
    · have x0 : decide (0 ≤ i) = true := decide_eq_true h0
      have x1 : decide (i < (n : Int)) = false := decide_eq_false h1
      have hb : Hid (hasB i n = false) := by
        show _ = _
        unfold hasB; rw [x1, Bool.and_false]
      go_enter Tryz.func40, Tryz.ntmps40
      go_wp2
      go_ret
      exact ⟨by rw [hb.out]; rfl, rfl⟩
  · have x0 : decide (0 ≤ i) = false := decide_eq_false h0
    have hb : Hid (hasB i n = false) := by
      show _ = _
      unfold hasB; rw [x0, Bool.false_and]
    go_enter Tryz.func40, Tryz.ntmps40
    go_wp2
    go_ret
    exact ⟨by rw [hb.out]; rfl, rfl⟩
theorem hasSh_any (a : Option Addr) (n c : Nat) (i : Int) (w : World) : Calls Tryz.prog 41 #[.slice a n c, .int .i64 i] w fun e w' => e = .returned (.bool (hasB i n)) ∧ w' = w := by
  by_cases h0 : 0 ≤ i
  · by_cases h1 : i < n
    · have x0 : decide (0 ≤ i) = true := decide_eq_true h0
      have x1 : decide (i < (n : Int)) = true := decide_eq_true h1
      have hb : Hid (hasB i n = true) := (hasB_iff i n).2 ⟨h0, h1⟩
      go_enter Tryz.func41, Tryz.ntmps41
      go_wp2
      go_ret
      exact ⟨by rw [hb.out]; rfl, rfl⟩
    · have x0 : decide (0 ≤ i) = true := decide_eq_true h0
      have x1 : decide (i < (n : Int)) = false := decide_eq_false h1
      have hb : Hid (hasB i n = false) := by
        show _ = _
        unfold hasB; rw [x1, Bool.and_false]
      go_enter Tryz.func41, Tryz.ntmps41
      go_wp2
      go_ret
      exact ⟨by rw [hb.out]; rfl, rfl⟩
  · have x0 : decide (0 ≤ i) = false := decide_eq_false h0
    have hb : Hid (hasB i n = false) := by
      show _ = _
      unfold hasB; rw [x0, Bool.false_and]
    go_enter Tryz.func41, Tryz.ntmps41
    go_wp2
    go_ret
    exact ⟨by rw [hb.out]; rfl, rfl⟩
theorem hasFn_any (a : Option Addr) (n c : Nat) (i : Int) (w : World) : Calls Tryz.prog 47 #[.slice a n c, .int .i64 i] w fun e w' => e = .returned (.bool (hasB i n)) ∧ w' = w := by
  by_cases h0 : 0 ≤ i
  · by_cases h1 : i < n
    · have x0 : decide (0 ≤ i) = true := decide_eq_true h0
      have x1 : decide (i < (n : Int)) = true := decide_eq_true h1
      have hb : Hid (hasB i n = true) := (hasB_iff i n).2 ⟨h0, h1⟩
      go_enter Tryz.func47, Tryz.ntmps47
      go_wp2
      go_ret
      exact ⟨by rw [hb.out]; rfl, rfl⟩
    · have x0 : decide (0 ≤ i) = true := decide_eq_true h0
      have x1 : decide (i < (n : Int)) = false := decide_eq_false h1
      have hb : Hid (hasB i n = false) := by
        show _ = _
        unfold hasB; rw [x1, Bool.and_false]
      go_enter Tryz.func47, Tryz.ntmps47
      go_wp2
      go_ret
      exact ⟨by rw [hb.out]; rfl, rfl⟩
  · have x0 : decide (0 ≤ i) = false := decide_eq_false h0
    have hb : Hid (hasB i n = false) := by
      show _ = _
      unfold hasB; rw [x0, Bool.false_and]
    go_enter Tryz.func47, Tryz.ntmps47
    go_wp2
    go_ret
    exact ⟨by rw [hb.out]; rfl, rfl⟩
theorem hasWd_any (a : Option Addr) (n c : Nat) (i : Int) (w : World) : Calls Tryz.prog 85 #[.slice a n c, .int .i64 i] w fun e w' => e = .returned (.bool (hasB i n)) ∧ w' = w := by
  by_cases h0 : 0 ≤ i
  · by_cases h1 : i < n
    · have x0 : decide (0 ≤ i) = true := decide_eq_true h0
      have x1 : decide (i < (n : Int)) = true := decide_eq_true h1
      have hb : Hid (hasB i n = true) := (hasB_iff i n).2 ⟨h0, h1⟩
      go_enter Tryz.func85, Tryz.ntmps85
      go_wp2
      go_ret
      exact ⟨by rw [hb.out]; rfl, rfl⟩
    · have x0 : decide (0 ≤ i) = true := decide_eq_true h0
      have x1 : decide (i < (n : Int)) = false := decide_eq_false h1
      have hb : Hid (hasB i n = false) := by
        show _ = _
        unfold hasB; rw [x1, Bool.and_false]
      go_enter Tryz.func85, Tryz.ntmps85
      go_wp2
      go_ret
      exact ⟨by rw [hb.out]; rfl, rfl⟩
  · have x0 : decide (0 ≤ i) = false := decide_eq_false h0
    have hb : Hid (hasB i n = false) := by
      show _ = _
      unfold hasB; rw [x0, Bool.false_and]
    go_enter Tryz.func85, Tryz.ntmps85
    go_wp2
    go_ret
    exact ⟨by rw [hb.out]; rfl, rfl⟩
theorem hasTx_any (a : Option Addr) (n c : Nat) (i : Int) (w : World) : Calls Tryz.prog 129 #[.slice a n c, .int .i64 i] w fun e w' => e = .returned (.bool (hasB i n)) ∧ w' = w := by
  by_cases h0 : 0 ≤ i
  · by_cases h1 : i < n
    · have x0 : decide (0 ≤ i) = true := decide_eq_true h0
      have x1 : decide (i < (n : Int)) = true := decide_eq_true h1
      have hb : Hid (hasB i n = true) := (hasB_iff i n).2 ⟨h0, h1⟩
      go_enter Tryz.func129, Tryz.ntmps129
      go_wp2
      go_ret
      exact ⟨by rw [hb.out]; rfl, rfl⟩
    · have x0 : decide (0 ≤ i) = true := decide_eq_true h0
      have x1 : decide (i < (n : Int)) = false := decide_eq_false h1
      have hb : Hid (hasB i n = false) := by
        show _ = _
        unfold hasB; rw [x1, Bool.and_false]
      go_enter Tryz.func129, Tryz.ntmps129
      go_wp2
      go_ret
      exact ⟨by rw [hb.out]; rfl, rfl⟩
  · have x0 : decide (0 ≤ i) = false := decide_eq_false h0
    have hb : Hid (hasB i n = false) := by
      show _ = _
      unfold hasB; rw [x0, Bool.false_and]
    go_enter Tryz.func129, Tryz.ntmps129
    go_wp2
    go_ret
    exact ⟨by rw [hb.out]; rfl, rfl⟩
theorem hasBk_any (a : Option Addr) (n c : Nat) (i : Int) (w : World) : Calls Tryz.prog 157 #[.slice a n c, .int .i64 i] w fun e w' => e = .returned (.bool (hasB i n)) ∧ w' = w := by
  by_cases h0 : 0 ≤ i
  · by_cases h1 : i < n
    · have x0 : decide (0 ≤ i) = true := decide_eq_true h0
      have x1 : decide (i < (n : Int)) = true := decide_eq_true h1
      have hb : Hid (hasB i n = true) := (hasB_iff i n).2 ⟨h0, h1⟩
      go_enter Tryz.func157, Tryz.ntmps157
      go_wp2
      go_ret
      exact ⟨by rw [hb.out]; rfl, rfl⟩
    · have x0 : decide (0 ≤ i) = true := decide_eq_true h0
      have x1 : decide (i < (n : Int)) = false := decide_eq_false h1
      have hb : Hid (hasB i n = false) := by
        show _ = _
        unfold hasB; rw [x1, Bool.and_false]
      go_enter Tryz.func157, Tryz.ntmps157
      go_wp2
      go_ret
      exact ⟨by rw [hb.out]; rfl, rfl⟩
  · have x0 : decide (0 ≤ i) = false := decide_eq_false h0
    have hb : Hid (hasB i n = false) := by
      show _ = _
      unfold hasB; rw [x0, Bool.false_and]
    go_enter Tryz.func157, Tryz.ntmps157
    go_wp2
    go_ret
    exact ⟨by rw [hb.out]; rfl, rfl⟩
theorem hasInt_any (a : Option Addr) (n c : Nat) (i : Int) (w : World) : Calls Tryz.prog 172 #[.slice a n c, .int .i64 i] w fun e w' => e = .returned (.bool (hasB i n)) ∧ w' = w := by
  by_cases h0 : 0 ≤ i
  · by_cases h1 : i < n
    · have x0 : decide (0 ≤ i) = true := decide_eq_true h0
      have x1 : decide (i < (n : Int)) = true := decide_eq_true h1
      have hb : Hid (hasB i n = true) := (hasB_iff i n).2 ⟨h0, h1⟩
      go_enter Tryz.func172, Tryz.ntmps172
      go_wp2
      go_ret
      exact ⟨by rw [hb.out]; rfl, rfl⟩
    · have x0 : decide (0 ≤ i) = true := decide_eq_true h0
      have x1 : decide (i < (n : Int)) = false := decide_eq_false h1
      have hb : Hid (hasB i n = false) := by
        show _ = _
        unfold hasB; rw [x1, Bool.and_false]
      go_enter Tryz.func172, Tryz.ntmps172
      go_wp2
      go_ret
      exact ⟨by rw [hb.out]; rfl, rfl⟩
  · have x0 : decide (0 ≤ i) = false := decide_eq_false h0
    have hb : Hid (hasB i n = false) := by
      show _ = _
      unfold hasB; rw [x0, Bool.false_and]
    go_enter Tryz.func172, Tryz.ntmps172
    go_wp2
    go_ret
    exact ⟨by rw [hb.out]; rfl, rfl⟩
end Go.Proofs.YtglalgjffkoneaaGreatDoor
/- Sets of shapes as rows of bits. No program in sight. -/
namespace Go.Proofs.YtglalgjffkoneaaGreatDoor
set_option linter.unusedVariables false
set_option linter.unusedSimpArgs false
open Go.ChangeShapes Go.WideShapes Go.ChangeAt Go.RowKit
namespace Vf
theorem ofInt64 (a : Nat) (ha : a < 2 ^ 64) : (BitVec.ofInt 64 (a : Int)).toNat = a := by
  rw [BitVec.ofInt_natCast, BitVec.toNat_ofNat]; exact Nat.mod_eq_of_lt ha
theorem or64 (a b : Nat) (ha : a < 2 ^ 64) (hb : b < 2 ^ 64) : bits .or .u64 (a : Int) (b : Int) = ((a ||| b : Nat) : Int) := by
  have hx : a ||| b < 2 ^ 64 := Nat.or_lt_two_pow ha hb
  show IntKind.u64.wrap ((BitVec.ofInt 64 (a : Int) ||| BitVec.ofInt 64 (b : Int)).toNat : Int) = _
  rw [BitVec.toNat_or, ofInt64 a ha, ofInt64 b hb, IntKind.wrap_u64]
  omega
theorem and64 (a b : Nat) (ha : a < 2 ^ 64) (hb : b < 2 ^ 64) : bits .and .u64 (a : Int) (b : Int) = ((a &&& b : Nat) : Int) := by
  have hx : a &&& b < 2 ^ 64 := Nat.and_lt_two_pow a hb
  show IntKind.u64.wrap ((BitVec.ofInt 64 (a : Int) &&& BitVec.ofInt 64 (b : Int)).toNat : Int) = _
  rw [BitVec.toNat_and, ofInt64 a ha, ofInt64 b hb, IntKind.wrap_u64]
  omega
/-- What of a is not in b. -/
def less (a b : Nat) : Nat := a &&& (2 ^ 64 - 1 - b)
theorem andNot64 (a b : Nat) (ha : a < 2 ^ 64) (hb : b < 2 ^ 64) : bits .andNot .u64 (a : Int) (b : Int) = ((less a b : Nat) : Int) := by
  have hx : less a b < 2 ^ 64 := Nat.lt_of_le_of_lt Nat.and_le_left ha
  show IntKind.u64.wrap ((BitVec.ofInt 64 (a : Int) &&& ~~~BitVec.ofInt 64 (b : Int)).toNat : Int) = _
  rw [BitVec.toNat_and, BitVec.toNat_not, ofInt64 a ha, ofInt64 b hb, IntKind.wrap_u64]
  show ((less a b : Nat) : Int) % 18446744073709551616 = _
  omega
theorem less_bit (a b j : Nat) (hj : j < 64) (hb : b < 2 ^ 64) : (less a b).testBit j = (a.testBit j && !b.testBit j) := by
  unfold less
  rw [Nat.testBit_and, show 2 ^ 64 - 1 - b = 2 ^ 64 - (b + 1) by omega, Nat.testBit_two_pow_sub_succ hb]
  simp [hj]
theorem less_zero (a b : Nat) (ha : a < 2 ^ 64) (hb : b < 2 ^ 64) : less a b = 0 ↔ ∀ j, j < 64 → a.testBit j = true → b.testBit j = true := by
  constructor
  · intro h j hj h1
    have := less_bit a b j hj hb
    rw [h, Nat.zero_testBit, h1] at this
    simpa using this.symm
  · intro h
    refine Nat.eq_of_testBit_eq fun j => ?_
    rw [Nat.zero_testBit]
    by_cases hj : j < 64
    · rw [less_bit a b j hj hb]
      cases h1 : a.testBit j with
      | false => rfl
      | true => rw [h j hj h1]; rfl
    · unfold less
      rw [Nat.testBit_and, Nat.testBit_lt_two_pow (Nat.lt_of_lt_of_le ha (Nat.pow_le_pow_right (by decide) (by omega)))]
      rfl
theorem or_bit (a k j : Nat) : (a ||| 2 ^ k).testBit j = (a.testBit j || decide (k = j)) := by
  rw [Nat.testBit_or, Nat.testBit_two_pow]
/-- Eight rows of 64 bits: is s among them? -/
def has (R : Nat → Nat) (s : Nat) : Bool := (R (s / 64)).testBit (s % 64)
def ok (R : Nat → Nat) : Prop := ∀ i, R i < 2 ^ 64
/-- One shape more. -/
def add1 (R : Nat → Nat) (s : Nat) : Nat → Nat := fun i => if i = s / 64 then R i ||| 2 ^ (s % 64) else R i
theorem ok_add1 {R : Nat → Nat} (h : ok R) (s : Nat) : ok (add1 R s) := fun i => by
  unfold add1
  split
  · exact Nat.or_lt_two_pow (h i) (Nat.pow_lt_pow_right (by decide) (Nat.mod_lt _ (by decide)))
  · exact h i
theorem has_add1 (R : Nat → Nat) (s x : Nat) : has (add1 R s) x = (has R x || decide (x = s)) := by
  unfold has add1
  by_cases h : x / 64 = s / 64
  · rw [if_pos h, or_bit]
    congr 1
    rw [decide_eq_decide]
    omega
  · rw [if_neg h]
    have : decide (x = s) = false := decide_eq_false (fun e => h (by rw [e]))
    rw [this, Bool.or_false]
def zero : Nat → Nat := fun _ => 0
theorem has_zero (x : Nat) : has zero x = false := by unfold has zero; exact Nat.zero_testBit _
/-- All of two. -/
def both (R T : Nat → Nat) : Nat → Nat := fun i => R i ||| T i
theorem ok_both {R T : Nat → Nat} (h : ok R) (k : ok T) : ok (both R T) := fun i => Nat.or_lt_two_pow (h i) (k i)
theorem has_both (R T : Nat → Nat) (x : Nat) : has (both R T) x = (has R x || has T x) := by unfold has both; rw [Nat.testBit_or]
theorem sub_rows {R T : Nat → Nat} (h : ok R) (k : ok T) : (∀ i, i < 8 → less (R i) (T i) = 0) ↔ ∀ x, x < 512 → has R x = true → has T x = true := by
  constructor
  · intro e x hx hr
    exact (less_zero _ _ (h _) (k _)).1 (e (x / 64) (by omega)) (x % 64) (by omega) hr
  · intro e i hi
    refine (less_zero _ _ (h _) (k _)).2 fun j hj hr => ?_
    have := e (64 * i + j) (by omega)
    unfold has at this
    rw [show (64 * i + j) / 64 = i by omega, show (64 * i + j) % 64 = j by omega] at this
    exact this hr
end Vf
end Go.Proofs.YtglalgjffkoneaaGreatDoor
/- The bits of a row, one after another. No program in sight. -/
namespace Go.Proofs.YtglalgjffkoneaaGreatDoor
set_option linter.unusedVariables false
set_option linter.unusedSimpArgs false
open Go.ChangeShapes Go.WideShapes Go.ChangeAt Go.RowKit
namespace Vf
/-- The lowest bit of a row, and the row without it. -/
theorem low_bit {r : Nat} (h0 : r ≠ 0) (h : r < 2 ^ 64) : Lib.ctz 64 r < 64 ∧ r.testBit (Lib.ctz 64 r) = true ∧ (∀ j, (r &&& (r - 1)).testBit j = (r.testBit j && decide (j ≠ Lib.ctz 64 r))) ∧ r &&& (r - 1) < r := by
  obtain ⟨m, hm, hk⟩ := Lib.ctzFrom_spec 64 r (by omega) h
  have hc : Lib.ctz 64 r = Lib.ctzFrom 64 r := if_neg h0
  rw [hc]
  generalize Lib.ctzFrom 64 r = k at hm hk
  have hr : r = 2 ^ k * (2 * m + 1) + 0 := by rw [hm]; omega
  have hp : 0 < 2 ^ k := Nat.two_pow_pos k
  have hr1 : r - 1 = 2 ^ k * (2 * m) + (2 ^ k - 1) := by
    rw [hm, Nat.mul_add]
    omega
  have b1 : ∀ j, r.testBit j = if j < k then (0 : Nat).testBit j else (2 * m + 1).testBit (j - k) := fun j => by
    rw [hr]
    exact Nat.testBit_two_pow_mul_add _ hp j
  have b2 : ∀ j, (r - 1).testBit j = if j < k then (2 ^ k - 1).testBit j else (2 * m).testBit (j - k) := fun j => by
    rw [hr1]
    exact Nat.testBit_two_pow_mul_add _ (by omega) j
  have bk : r.testBit k = true := by
    rw [b1, if_neg (Nat.lt_irrefl k), Nat.sub_self, Nat.testBit_zero]
    simp
  have ba : ∀ j, (r &&& (r - 1)).testBit j = (r.testBit j && decide (j ≠ k)) := fun j => by
    rw [Nat.testBit_and, b1, b2]
    by_cases h1 : j < k
    · rw [if_pos h1, if_pos h1, Nat.zero_testBit]
      rfl
    · rw [if_neg h1, if_neg h1]
      by_cases h2 : j = k
      · subst h2
        rw [Nat.sub_self, Nat.testBit_zero, Nat.testBit_zero]
        simp
      · obtain ⟨d, hd⟩ : ∃ d, j - k = d + 1 := ⟨j - k - 1, by omega⟩
        rw [hd, Nat.testBit_succ, Nat.testBit_succ, show (2 * m + 1) / 2 = m by omega, show 2 * m / 2 = m by omega]
        simp [h2]
  refine ⟨hk, bk, ba, Nat.lt_of_le_of_ne Nat.and_le_left fun e => ?_⟩
  have h1 := ba k
  rw [e, bk] at h1
  simp at h1
theorem zero_bits {r : Nat} (h : r < 2 ^ 64) (h0 : ∀ j, j < 64 → r.testBit j = false) : r = 0 := by
  apply Nat.eq_of_testBit_eq
  intro j
  rw [Nat.zero_testBit]
  by_cases hj : j < 64
  · exact h0 j hj
  · exact Nat.testBit_lt_two_pow (Nat.lt_of_lt_of_le h (Nat.pow_le_pow_right (by decide) (by omega)))
/-- How far it has come: these are done, these are left. -/
def Left (R : Nat → Nat) (i r : Nat) (p : List Nat) : Prop := ∀ x, x < 512 → (has R x = true ↔ x ∈ p ∨ (x / 64 = i ∧ r.testBit (x % 64) = true) ∨ (i < x / 64 ∧ has R x = true))
def In8 (p : List Nat) : Prop := ∀ x ∈ p, x < 512
theorem left_start (R : Nat → Nat) : Left R 0 (R 0) [] := fun x hx => by
  unfold has
  constructor
  · intro h
    by_cases e : x / 64 = 0
    · exact .inr (.inl ⟨e, by rw [← e]; exact h⟩)
    · exact .inr (.inr ⟨by omega, h⟩)
  · rintro (h | ⟨e, h⟩ | ⟨_, h⟩)
    · cases h
    · rw [e]; exact h
    · exact h
theorem left_step {R : Nat → Nat} {i r : Nat} {p : List Nat} (h : Left R i r p) (hi : i < 8) (h0 : r ≠ 0) (hr : r < 2 ^ 64) : i * 64 + Lib.ctz 64 r < 512 ∧ has R (i * 64 + Lib.ctz 64 r) = true ∧ Left R i (r &&& (r - 1)) (p ++ [i * 64 + Lib.ctz 64 r]) := by
  obtain ⟨l1, l2, l3, _⟩ := low_bit h0 hr
  generalize Lib.ctz 64 r = k at l1 l2 l3
  have hx : i * 64 + k < 512 := by omega
  have hs : has R (i * 64 + k) = true := (h _ hx).2 (.inr (.inl ⟨by omega, by rw [show (i * 64 + k) % 64 = k by omega]; exact l2⟩))
  refine ⟨hx, hs, fun x hxx => ?_⟩
  rw [List.mem_append, List.mem_singleton, l3]
  constructor
  · intro e
    rcases (h x hxx).1 e with e | ⟨e1, e2⟩ | e
    · exact .inl (.inl e)
    · by_cases e3 : x % 64 = k
      · exact .inl (.inr (by omega))
      · exact .inr (.inl ⟨e1, by rw [e2]; simp [e3]⟩)
    · exact .inr (.inr e)
  · rintro ((e | e) | ⟨e1, e2⟩ | e)
    · exact (h x hxx).2 (.inl e)
    · rw [e]; exact hs
    · rw [Bool.and_eq_true] at e2
      exact (h x hxx).2 (.inr (.inl ⟨e1, e2.1⟩))
    · exact e.2
theorem left_next {R : Nat → Nat} {i : Nat} {p : List Nat} (h : Left R i 0 p) : Left R (i + 1) (R (i + 1)) p := fun x hx => by
  constructor
  · intro e
    rcases (h x hx).1 e with e1 | ⟨_, e2⟩ | ⟨e1, e2⟩
    · exact .inl e1
    · rw [Nat.zero_testBit] at e2; cases e2
    · by_cases e3 : x / 64 = i + 1
      · exact .inr (.inl ⟨e3, by rw [← e3]; exact e2⟩)
      · exact .inr (.inr ⟨by omega, e2⟩)
  · rintro (e | ⟨e1, e2⟩ | e)
    · exact (h x hx).2 (.inl e)
    · unfold has; rw [e1]; exact e2
    · exact e.2
theorem left_end {R : Nat → Nat} {i r : Nat} {p : List Nat} (h : Left R i r p) (hi : 8 ≤ i) : ∀ x, x < 512 → (has R x = true ↔ x ∈ p) := fun x hx => by
  rw [h x hx]
  constructor
  · rintro (e | ⟨e, _⟩ | ⟨e, _⟩)
    · exact e
    · omega
    · omega
  · exact .inl
end Vf
end Go.Proofs.YtglalgjffkoneaaGreatDoor
/- An element of an array by value. -/
namespace Go.Proofs.YtglalgjffkoneaaGreatDoor
set_option linter.unusedVariables false
set_option linter.unusedSimpArgs false
open Go.ChangeShapes Go.WideShapes Go.ChangeAt Go.RowKit
theorem infoU64 : (Tryz.prog.info? 103).map (fun i => (i.zero, i.size, i.bytes)) = some (some (.int .u64 0), 1, 8) := by kernel_rfl
theorem run_index_rows (cs : Array Value) (i : Nat) (hi : i < 8) (n : Int) (hu : cs[i]? = some (.int .u64 n)) (w : World) : (Instr.index 104 (.agg cs) (.int .i64 (i : Int))).run Tryz.prog w = .ok (.int .u64 n) w := by
  obtain ⟨j, hj, he⟩ := Option.map_eq_some_iff.1 infoU64
  simp only [Prod.mk.injEq] at he
  have hn : (0 : Int) ≤ i ∧ (i : Int) < 8 := by omega
  simp [Instr.index, run_underlying Tryz.underlying104, asIntOf, hn, sizeOf, typeInfo, hj, he.2.1, go_sem]
  rw [if_pos hi, hu]
  rfl
end Go.Proofs.YtglalgjffkoneaaGreatDoor
/- What words a type lets stand in a slot, in memory: within. -/
namespace Go.Proofs.YtglalgjffkoneaaGreatDoor
set_option linter.unusedVariables false
set_option linter.unusedSimpArgs false
open Go.ChangeShapes Go.WideShapes Go.ChangeAt Go.RowKit
def wcells (im : Bool) (R : Nat → Nat) : Array Value := #[.bool im, .int .u64 (R 0), .int .u64 (R 1), .int .u64 (R 2), .int .u64 (R 3), .int .u64 (R 4), .int .u64 (R 5), .int .u64 (R 6), .int .u64 (R 7)]
theorem wcells_at (im : Bool) (R : Nat → Nat) (i : Nat) (hi : i < 8) : (wcells im R)[1 + i]? = some (.int .u64 (R i)) := by
  have : i = 0 ∨ i = 1 ∨ i = 2 ∨ i = 3 ∨ i = 4 ∨ i = 5 ∨ i = 6 ∨ i = 7 := by omega
  rcases this with rfl | rfl | rfl | rfl | rfl | rfl | rfl | rfl <;> rfl
/-- Words in memory: numbers, or not; which shapes. -/
structure WordsAt (w : World) (b : Nat) (im : Bool) (R : Nat → Nat) : Prop where
  blk : Blk w b 106 (wcells im R)
  ok : Vf.ok R
theorem WordsAt.keep {w w' : World} {b : Nat} {im : Bool} {R : Nat → Nat} {S : Nat → Prop} (h : WordsAt w b im R) (t : Turn S w w') (hs : ¬ S b) : WordsAt w' b im R := ⟨h.blk.keep t hs, h.ok⟩
theorem WordsAt.still {w w' : World} {b : Nat} {im : Bool} {R : Nat → Nat} (h : WordsAt w b im R) (t : Still w w') : WordsAt w' b im R := ⟨t.blk h.blk, h.ok⟩
theorem WordsAt.at {w : World} {b : Nat} {im : Bool} {R : Nat → Nat} (h : WordsAt w b im R) (i : Nat) (hi : i < 8) : w.cell? ⟨b, 1 + i, none⟩ = some (.int .u64 (R i)) := (h.blk.cell (1 + i)).trans (wcells_at im R i hi)
theorem WordsAt.imm {w : World} {b : Nat} {im : Bool} {R : Nat → Nat} (h : WordsAt w b im R) : w.cell? ⟨b, 0, none⟩ = some (.bool im) := h.blk.cell 0
theorem infoWords : (Tryz.prog.info? 106).map (fun i => (i.zero, i.size, i.bytes)) = some (some (.agg #[.bool false, .int .u64 0, .int .u64 0, .int .u64 0, .int .u64 0, .int .u64 0, .int .u64 0, .int .u64 0, .int .u64 0]), 9, 72) := by kernel_rfl
theorem words_info : ∃ j, Tryz.prog.info? 106 = some j ∧ j.size ≠ 0 := by
  obtain ⟨j, hj, he⟩ := Option.map_eq_some_iff.1 infoWords
  simp only [Prod.mk.injEq] at he
  exact ⟨j, hj, by rw [he.2.1]; decide⟩
theorem ptr_same (w : World) (a : Nat) : (binOp .eql 59 (.pointer (some ⟨a, 0, none⟩)) (.pointer (some ⟨a, 0, none⟩))).run Tryz.prog w = .ok (.bool true) w := by
  obtain ⟨j, hj, hs⟩ := words_info
  exact run_eql_ptr_same w _ Tryz.underlying59 hj
theorem ptr_other {w : World} {a b : Nat} {ia ib : Bool} {Ra Rb : Nat → Nat} (ha : WordsAt w a ia Ra) (hb : WordsAt w b ib Rb) (hne : a ≠ b) : (binOp .eql 59 (.pointer (some ⟨a, 0, none⟩)) (.pointer (some ⟨b, 0, none⟩))).run Tryz.prog w = .ok (.bool false) w := by
  obtain ⟨j, hj, hs⟩ := words_info
  exact run_eql_ptr_other w Tryz.underlying59 hj hs (fun e => hne (Addr.mk.inj e).1) ha.blk hb.blk
/-- Are these words within those? -/
def WSub (ia : Bool) (Ra : Nat → Nat) (ib : Bool) (Rb : Nat → Nat) : Prop := (ia = true → ib = true) ∧ ∀ x, x < 512 → Vf.has Ra x = true → Vf.has Rb x = true
def WithinR (ia : Bool) (Ra : Nat → Nat) (ib : Bool) (Rb : Nat → Nat) (w : World) (e : Ending) (w' : World) : Prop := ∃ r : Bool, e = .returned (.bool r) ∧ (r = true ↔ WSub ia Ra ib Rb) ∧ Still w w'
set_option maxRecDepth 100000 in
set_option maxHeartbeats 2000000 in
theorem within_any {w : World} {a b : Nat} {ia ib : Bool} {Ra Rb : Nat → Nat} (ha : WordsAt w a ia Ra) (hb : WordsAt w b ib Rb) :
    Calls Tryz.prog 90 #[.pointer (some ⟨a, 0, none⟩), .pointer (some ⟨b, 0, none⟩)] w (WithinR ia Ra ib Rb w) := by
  by_cases hab : a = b
  · subst hab
    have hc := (ha.blk.inj hb.blk).2
    have hp := ptr_same w a
    go_enter Tryz.func90, Tryz.ntmps90
    go_wp2_with fail
    go_ret
    refine ⟨true, rfl, iff_of_true rfl ⟨?_, ?_⟩, Still.refl _⟩
    · have : some (Value.bool ia) = some (Value.bool ib) := congrArg (fun x => x[0]?) hc
      simp at this
      rw [this]; exact id
    · intro x hx
      have e : (wcells ia Ra)[1 + x / 64]? = (wcells ib Rb)[1 + x / 64]? := by rw [hc]
      rw [wcells_at _ _ _ (by omega), wcells_at _ _ _ (by omega)] at e
      simp at e
      unfold Vf.has
      rw [Int.ofNat_inj.1 e]
      exact id
  · have hp := ptr_other ha hb hab
    have c0 := ha.imm
    have d0 := hb.imm
    have la := ha.blk.lt
    have lb := hb.blk.lt
    have c1 : w.cell? ⟨a, 1, none⟩ = some (.int .u64 (Ra 0)) := ha.at 0 (by decide)
    have e1 : w.cell? ⟨b, 1, none⟩ = some (.int .u64 (Rb 0)) := hb.at 0 (by decide)
    have c2 : w.cell? ⟨a, 2, none⟩ = some (.int .u64 (Ra 1)) := ha.at 1 (by decide)
    have e2 : w.cell? ⟨b, 2, none⟩ = some (.int .u64 (Rb 1)) := hb.at 1 (by decide)
    have c3 : w.cell? ⟨a, 3, none⟩ = some (.int .u64 (Ra 2)) := ha.at 2 (by decide)
    have e3 : w.cell? ⟨b, 3, none⟩ = some (.int .u64 (Rb 2)) := hb.at 2 (by decide)
    have c4 : w.cell? ⟨a, 4, none⟩ = some (.int .u64 (Ra 3)) := ha.at 3 (by decide)
    have e4 : w.cell? ⟨b, 4, none⟩ = some (.int .u64 (Rb 3)) := hb.at 3 (by decide)
    have c5 : w.cell? ⟨a, 5, none⟩ = some (.int .u64 (Ra 4)) := ha.at 4 (by decide)
    have e5 : w.cell? ⟨b, 5, none⟩ = some (.int .u64 (Rb 4)) := hb.at 4 (by decide)
    have c6 : w.cell? ⟨a, 6, none⟩ = some (.int .u64 (Ra 5)) := ha.at 5 (by decide)
    have e6 : w.cell? ⟨b, 6, none⟩ = some (.int .u64 (Rb 5)) := hb.at 5 (by decide)
    have c7 : w.cell? ⟨a, 7, none⟩ = some (.int .u64 (Ra 6)) := ha.at 6 (by decide)
    have e7 : w.cell? ⟨b, 7, none⟩ = some (.int .u64 (Rb 6)) := hb.at 6 (by decide)
    have c8 : w.cell? ⟨a, 8, none⟩ = some (.int .u64 (Ra 7)) := ha.at 7 (by decide)
    have e8 : w.cell? ⟨b, 8, none⟩ = some (.int .u64 (Rb 7)) := hb.at 7 (by decide)
    have hR := ha.ok
    have hT := hb.ok
    have hx : ∀ i, bits .andNot .u64 (Ra i : Int) (Rb i : Int) = ((Vf.less (Ra i) (Rb i) : Nat) : Int) := fun i => Vf.andNot64 _ _ (hR i) (hT i)
    have hx0 := hx 0
    have hx1 := hx 1
    have hx2 := hx 2
    have hx3 := hx 3
    have hx4 := hx 4
    have hx5 := hx 5
    have hx6 := hx 6
    have hx7 := hx 7
    have HS := Lib.hid (Vf.sub_rows hR hT)
    have HNO : Hid (∀ i, i < 8 → ¬ Vf.less (Ra i) (Rb i) = 0 → ¬ WSub ia Ra ib Rb) := fun i hi hn e => hn (HS.out.2 e.2 i hi)
    clear ha hb hR hT hx
    have y0 : ∀ W : World, (Instr.index 104 (.agg #[.int .u64 (Ra 0), .int .u64 (Ra 1), .int .u64 (Ra 2), .int .u64 (Ra 3), .int .u64 (Ra 4), .int .u64 (Ra 5), .int .u64 (Ra 6), .int .u64 (Ra 7)]) (.int .i64 0)).run Tryz.prog W = .ok (.int .u64 (Ra 0)) W := fun W => run_index_rows #[.int .u64 (Ra 0), .int .u64 (Ra 1), .int .u64 (Ra 2), .int .u64 (Ra 3), .int .u64 (Ra 4), .int .u64 (Ra 5), .int .u64 (Ra 6), .int .u64 (Ra 7)] 0 (by decide) _ rfl W
    have y1 : ∀ W : World, (Instr.index 104 (.agg #[.int .u64 (Ra 0), .int .u64 (Ra 1), .int .u64 (Ra 2), .int .u64 (Ra 3), .int .u64 (Ra 4), .int .u64 (Ra 5), .int .u64 (Ra 6), .int .u64 (Ra 7)]) (.int .i64 1)).run Tryz.prog W = .ok (.int .u64 (Ra 1)) W := fun W => run_index_rows #[.int .u64 (Ra 0), .int .u64 (Ra 1), .int .u64 (Ra 2), .int .u64 (Ra 3), .int .u64 (Ra 4), .int .u64 (Ra 5), .int .u64 (Ra 6), .int .u64 (Ra 7)] 1 (by decide) _ rfl W
    have y2 : ∀ W : World, (Instr.index 104 (.agg #[.int .u64 (Ra 0), .int .u64 (Ra 1), .int .u64 (Ra 2), .int .u64 (Ra 3), .int .u64 (Ra 4), .int .u64 (Ra 5), .int .u64 (Ra 6), .int .u64 (Ra 7)]) (.int .i64 2)).run Tryz.prog W = .ok (.int .u64 (Ra 2)) W := fun W => run_index_rows #[.int .u64 (Ra 0), .int .u64 (Ra 1), .int .u64 (Ra 2), .int .u64 (Ra 3), .int .u64 (Ra 4), .int .u64 (Ra 5), .int .u64 (Ra 6), .int .u64 (Ra 7)] 2 (by decide) _ rfl W
    have y3 : ∀ W : World, (Instr.index 104 (.agg #[.int .u64 (Ra 0), .int .u64 (Ra 1), .int .u64 (Ra 2), .int .u64 (Ra 3), .int .u64 (Ra 4), .int .u64 (Ra 5), .int .u64 (Ra 6), .int .u64 (Ra 7)]) (.int .i64 3)).run Tryz.prog W = .ok (.int .u64 (Ra 3)) W := fun W => run_index_rows #[.int .u64 (Ra 0), .int .u64 (Ra 1), .int .u64 (Ra 2), .int .u64 (Ra 3), .int .u64 (Ra 4), .int .u64 (Ra 5), .int .u64 (Ra 6), .int .u64 (Ra 7)] 3 (by decide) _ rfl W
    have y4 : ∀ W : World, (Instr.index 104 (.agg #[.int .u64 (Ra 0), .int .u64 (Ra 1), .int .u64 (Ra 2), .int .u64 (Ra 3), .int .u64 (Ra 4), .int .u64 (Ra 5), .int .u64 (Ra 6), .int .u64 (Ra 7)]) (.int .i64 4)).run Tryz.prog W = .ok (.int .u64 (Ra 4)) W := fun W => run_index_rows #[.int .u64 (Ra 0), .int .u64 (Ra 1), .int .u64 (Ra 2), .int .u64 (Ra 3), .int .u64 (Ra 4), .int .u64 (Ra 5), .int .u64 (Ra 6), .int .u64 (Ra 7)] 4 (by decide) _ rfl W
    have y5 : ∀ W : World, (Instr.index 104 (.agg #[.int .u64 (Ra 0), .int .u64 (Ra 1), .int .u64 (Ra 2), .int .u64 (Ra 3), .int .u64 (Ra 4), .int .u64 (Ra 5), .int .u64 (Ra 6), .int .u64 (Ra 7)]) (.int .i64 5)).run Tryz.prog W = .ok (.int .u64 (Ra 5)) W := fun W => run_index_rows #[.int .u64 (Ra 0), .int .u64 (Ra 1), .int .u64 (Ra 2), .int .u64 (Ra 3), .int .u64 (Ra 4), .int .u64 (Ra 5), .int .u64 (Ra 6), .int .u64 (Ra 7)] 5 (by decide) _ rfl W
    have y6 : ∀ W : World, (Instr.index 104 (.agg #[.int .u64 (Ra 0), .int .u64 (Ra 1), .int .u64 (Ra 2), .int .u64 (Ra 3), .int .u64 (Ra 4), .int .u64 (Ra 5), .int .u64 (Ra 6), .int .u64 (Ra 7)]) (.int .i64 6)).run Tryz.prog W = .ok (.int .u64 (Ra 6)) W := fun W => run_index_rows #[.int .u64 (Ra 0), .int .u64 (Ra 1), .int .u64 (Ra 2), .int .u64 (Ra 3), .int .u64 (Ra 4), .int .u64 (Ra 5), .int .u64 (Ra 6), .int .u64 (Ra 7)] 6 (by decide) _ rfl W
    have y7 : ∀ W : World, (Instr.index 104 (.agg #[.int .u64 (Ra 0), .int .u64 (Ra 1), .int .u64 (Ra 2), .int .u64 (Ra 3), .int .u64 (Ra 4), .int .u64 (Ra 5), .int .u64 (Ra 6), .int .u64 (Ra 7)]) (.int .i64 7)).run Tryz.prog W = .ok (.int .u64 (Ra 7)) W := fun W => run_index_rows #[.int .u64 (Ra 0), .int .u64 (Ra 1), .int .u64 (Ra 2), .int .u64 (Ra 3), .int .u64 (Ra 4), .int .u64 (Ra 5), .int .u64 (Ra 6), .int .u64 (Ra 7)] 7 (by decide) _ rfl W
    by_cases hi : ia = true ∧ ib = false
    · obtain ⟨rfl, rfl⟩ := hi
      go_enter Tryz.func90, Tryz.ntmps90
      go_wp2_with fail
      go_ret
      exact ⟨false, rfl, iff_of_false (by decide) (fun e => absurd (e.1 rfl) (by decide)), Still.refl _⟩
    · have HI : Hid (ia = true → ib = true) := fun e => by cases ib with
        | true => rfl
        | false => exact absurd ⟨e, rfl⟩ hi
      have HOK : Hid ((∀ i, i < 8 → Vf.less (Ra i) (Rb i) = 0) → WSub ia Ra ib Rb) := fun h => ⟨HI.out, HS.out.1 h⟩
      have hcase : (ia = true ∧ ib = true) ∨ ia = false := by
        cases ia with
        | true => exact .inl ⟨rfl, HI.out rfl⟩
        | false => exact .inr rfl
      clear hi
      rcases hcase with ⟨rfl, rfl⟩ | rfl
      all_goals
        go_enter Tryz.func90, Tryz.ntmps90
        go_wp2_with fail
        go_loopw [25] (fun z wr => ∃ i : Nat, z = .int .i64 i ∧ i ≤ 8 ∧ (∀ j, j < i → Vf.less (Ra j) (Rb j) = 0) ∧ wr = w) (fun z _ => 8 - (intOf z).toNat)
        case atStart => exact ⟨0, rfl, by omega, fun j hj => by omega, rfl⟩
        case round =>
          obtain ⟨i, rfl, hi, hz, rfl⟩ := hrel
          have HZ := Lib.hid hz
          clear hz
          have h9 : i = 8 ∨ i = 0 ∨ i = 1 ∨ i = 2 ∨ i = 3 ∨ i = 4 ∨ i = 5 ∨ i = 6 ∨ i = 7 := by omega
          rcases h9 with rfl | rfl | rfl | rfl | rfl | rfl | rfl | rfl | rfl
          · go_wp2_with fail
            go_ret
            exact ⟨true, rfl, iff_of_true rfl (HOK.out HZ.out), Still.refl _⟩
          · by_cases hk : Vf.less (Ra 0) (Rb 0) = 0
            · have y : (((Vf.less (Ra 0) (Rb 0) : Nat) : Int) == 0) = true := by rw [hk]; rfl
              have HK := Lib.hid hk
              clear hk
              go_wp2_with fail
              go_roundw
              case rel => exact ⟨1, rfl, by omega, fun j hj => (by
                by_cases e : j = 0
                · rw [e]; exact HK.out
                · exact HZ.out j (by omega)), (by first | rfl | trivial)⟩
              case measure => simp [intOf]
            · have y : (((Vf.less (Ra 0) (Rb 0) : Nat) : Int) == 0) = false := beq_eq_false_iff_ne.2 (by omega)
              have HK := Lib.hid (HNO.out 0 (by decide) hk)
              clear hk
              go_wp2_with fail
              go_ret
              exact ⟨false, rfl, iff_of_false (by decide) HK.out, Still.refl _⟩
          · by_cases hk : Vf.less (Ra 1) (Rb 1) = 0
            · have y : (((Vf.less (Ra 1) (Rb 1) : Nat) : Int) == 0) = true := by rw [hk]; rfl
              have HK := Lib.hid hk
              clear hk
              go_wp2_with fail
              go_roundw
              case rel => exact ⟨2, rfl, by omega, fun j hj => (by
                by_cases e : j = 1
                · rw [e]; exact HK.out
                · exact HZ.out j (by omega)), (by first | rfl | trivial)⟩
              case measure => simp [intOf]
            · have y : (((Vf.less (Ra 1) (Rb 1) : Nat) : Int) == 0) = false := beq_eq_false_iff_ne.2 (by omega)
              have HK := Lib.hid (HNO.out 1 (by decide) hk)
              clear hk
              go_wp2_with fail
              go_ret
              exact ⟨false, rfl, iff_of_false (by decide) HK.out, Still.refl _⟩
          · by_cases hk : Vf.less (Ra 2) (Rb 2) = 0
            · have y : (((Vf.less (Ra 2) (Rb 2) : Nat) : Int) == 0) = true := by rw [hk]; rfl
              have HK := Lib.hid hk
              clear hk
              go_wp2_with fail
              go_roundw
              case rel => exact ⟨3, rfl, by omega, fun j hj => (by
                by_cases e : j = 2
                · rw [e]; exact HK.out
                · exact HZ.out j (by omega)), (by first | rfl | trivial)⟩
              case measure => simp [intOf]
            · have y : (((Vf.less (Ra 2) (Rb 2) : Nat) : Int) == 0) = false := beq_eq_false_iff_ne.2 (by omega)
              have HK := Lib.hid (HNO.out 2 (by decide) hk)
              clear hk
              go_wp2_with fail
              go_ret
              exact ⟨false, rfl, iff_of_false (by decide) HK.out, Still.refl _⟩
          · by_cases hk : Vf.less (Ra 3) (Rb 3) = 0
            · have y : (((Vf.less (Ra 3) (Rb 3) : Nat) : Int) == 0) = true := by rw [hk]; rfl
              have HK := Lib.hid hk
              clear hk
              go_wp2_with fail
              go_roundw
              case rel => exact ⟨4, rfl, by omega, fun j hj => (by
                by_cases e : j = 3
                · rw [e]; exact HK.out
                · exact HZ.out j (by omega)), (by first | rfl | trivial)⟩
              case measure => simp [intOf]
            · have y : (((Vf.less (Ra 3) (Rb 3) : Nat) : Int) == 0) = false := beq_eq_false_iff_ne.2 (by omega)
              have HK := Lib.hid (HNO.out 3 (by decide) hk)
              clear hk
              go_wp2_with fail
              go_ret
              exact ⟨false, rfl, iff_of_false (by decide) HK.out, Still.refl _⟩
          · by_cases hk : Vf.less (Ra 4) (Rb 4) = 0
            · have y : (((Vf.less (Ra 4) (Rb 4) : Nat) : Int) == 0) = true := by rw [hk]; rfl
              have HK := Lib.hid hk
              clear hk
              go_wp2_with fail
              go_roundw
              case rel => exact ⟨5, rfl, by omega, fun j hj => (by
                by_cases e : j = 4
                · rw [e]; exact HK.out
                · exact HZ.out j (by omega)), (by first | rfl | trivial)⟩
              case measure => simp [intOf]
            · have y : (((Vf.less (Ra 4) (Rb 4) : Nat) : Int) == 0) = false := beq_eq_false_iff_ne.2 (by omega)
              have HK := Lib.hid (HNO.out 4 (by decide) hk)
              clear hk
              go_wp2_with fail
              go_ret
              exact ⟨false, rfl, iff_of_false (by decide) HK.out, Still.refl _⟩
          · by_cases hk : Vf.less (Ra 5) (Rb 5) = 0
            · have y : (((Vf.less (Ra 5) (Rb 5) : Nat) : Int) == 0) = true := by rw [hk]; rfl
              have HK := Lib.hid hk
              clear hk
              go_wp2_with fail
              go_roundw
              case rel => exact ⟨6, rfl, by omega, fun j hj => (by
                by_cases e : j = 5
                · rw [e]; exact HK.out
                · exact HZ.out j (by omega)), (by first | rfl | trivial)⟩
              case measure => simp [intOf]
            · have y : (((Vf.less (Ra 5) (Rb 5) : Nat) : Int) == 0) = false := beq_eq_false_iff_ne.2 (by omega)
              have HK := Lib.hid (HNO.out 5 (by decide) hk)
              clear hk
              go_wp2_with fail
              go_ret
              exact ⟨false, rfl, iff_of_false (by decide) HK.out, Still.refl _⟩
          · by_cases hk : Vf.less (Ra 6) (Rb 6) = 0
            · have y : (((Vf.less (Ra 6) (Rb 6) : Nat) : Int) == 0) = true := by rw [hk]; rfl
              have HK := Lib.hid hk
              clear hk
              go_wp2_with fail
              go_roundw
              case rel => exact ⟨7, rfl, by omega, fun j hj => (by
                by_cases e : j = 6
                · rw [e]; exact HK.out
                · exact HZ.out j (by omega)), (by first | rfl | trivial)⟩
              case measure => simp [intOf]
            · have y : (((Vf.less (Ra 6) (Rb 6) : Nat) : Int) == 0) = false := beq_eq_false_iff_ne.2 (by omega)
              have HK := Lib.hid (HNO.out 6 (by decide) hk)
              clear hk
              go_wp2_with fail
              go_ret
              exact ⟨false, rfl, iff_of_false (by decide) HK.out, Still.refl _⟩
          · by_cases hk : Vf.less (Ra 7) (Rb 7) = 0
            · have y : (((Vf.less (Ra 7) (Rb 7) : Nat) : Int) == 0) = true := by rw [hk]; rfl
              have HK := Lib.hid hk
              clear hk
              go_wp2_with fail
              go_roundw
              case rel => exact ⟨8, rfl, by omega, fun j hj => (by
                by_cases e : j = 7
                · rw [e]; exact HK.out
                · exact HZ.out j (by omega)), (by first | rfl | trivial)⟩
              case measure => simp [intOf]
            · have y : (((Vf.less (Ra 7) (Rb 7) : Nat) : Int) == 0) = false := beq_eq_false_iff_ne.2 (by omega)
              have HK := Lib.hid (HNO.out 7 (by decide) hk)
              clear hk
              go_wp2_with fail
              go_ret
              exact ⟨false, rfl, iff_of_false (by decide) HK.out, Still.refl _⟩
end Go.Proofs.YtglalgjffkoneaaGreatDoor
/- The types that slots have while a block is gone through: what may be asked of them. -/
namespace Go.Proofs.YtglalgjffkoneaaGreatDoor
set_option linter.unusedVariables false
set_option linter.unusedSimpArgs false
open Go.ChangeShapes Go.WideShapes Go.ChangeAt Go.RowKit
def ptrV : Option Nat → Value
  | none => .pointer none
  | some b => .pointer (some ⟨b, 0, none⟩)
/-- The slots' types: the variable at N holds a row at r of pointers to words, or none. -/
structure NowAt (w : World) (N r : Nat) (l : List (Option Nat)) : Prop where
  box : Blk w N 58 #[.slice (some ⟨r, 0, none⟩) l.length l.length]
  row : Blk w r 59 (l.map ptrV).toArray
  small : l.length ≤ 1000
theorem NowAt.keep {w w' : World} {N r : Nat} {l : List (Option Nat)} {S : Nat → Prop} (h : NowAt w N r l) (t : Turn S w w') (hN : ¬ S N) (hr : ¬ S r) : NowAt w' N r l := ⟨h.box.keep t hN, h.row.keep t hr, h.small⟩
theorem NowAt.cell {w : World} {N r : Nat} {l : List (Option Nat)} (h : NowAt w N r l) {k : Nat} {x : Option Nat} (hx : l[k]? = some x) : w.cell? ⟨r, k, none⟩ = some (ptrV x) := by
  rw [h.row.cell k]
  simp [hx]
/-- A slot's type, if it has one. -/
def slotAt (l : List (Option Nat)) (i : Int) : Option Nat := if 0 ≤ i then (l[i.toNat]?).join else none
theorem slotAt_out {l : List (Option Nat)} {i : Int} (h : hasB i l.length = false) : slotAt l i = none := by
  unfold slotAt
  split
  · rename_i h0
    rw [List.getElem?_eq_none]
    · rfl
    · have : ¬ (0 ≤ i ∧ i < l.length) := fun e => by rw [(hasB_iff _ _).2 e] at h; cases h
      omega
  · rfl
theorem slot_cases (l : List (Option Nat)) (i : Int) : hasB i l.length = false ∨ ∃ (k : Nat) (x : Option Nat), i = k ∧ k < l.length ∧ l[k]? = some x ∧ slotAt l i = x ∧ hasB i l.length = true := by
  by_cases h : 0 ≤ i ∧ i < l.length
  · right
    obtain ⟨k, rfl⟩ := Int.eq_ofNat_of_zero_le h.1
    have hk : k < l.length := by omega
    refine ⟨k, l[k], rfl, hk, List.getElem?_eq_getElem hk, ?_, (hasB_iff _ _).2 h⟩
    unfold slotAt
    rw [if_pos h.1, Int.toNat_natCast, List.getElem?_eq_getElem hk]
    rfl
  · left
    cases hb : hasB i l.length with
    | false => rfl
    | true => exact absurd ((hasB_iff _ _).1 hb) h
def TypedR (l : List (Option Nat)) (i : Int) (w : World) (e : Ending) (w' : World) : Prop :=
  ((∃ b, slotAt l i = some b ∧ e = .returned (.pointer (some ⟨b, 0, none⟩))) ∨ (slotAt l i = none ∧ e = .panicked [{ v := wrongV, recovered := false }])) ∧ w' = w
set_option maxRecDepth 100000 in
set_option maxHeartbeats 2000000 in
theorem typed_any {w : World} {N r : Nat} {l : List (Option Nat)} (h : NowAt w N r l) (i : Int) :
    Calls Tryz.prog 84 #[.int .i64 i, .pointer (some ⟨N, 0, none⟩)] w (TypedR l i w) := by
  have c0 := h.box.cell 0
  have lN := h.box.lt
  have lr := h.row.lt
  have hsm := h.small
  rcases slot_cases l i with hb | ⟨k, x, rfl, hk, hx, hs, hb⟩
  · have HS := Lib.hid (slotAt_out hb)
    have HB := Lib.hid hb
    clear h hb
    go_enter Tryz.func84, Tryz.ntmps84
    go_wp2_with fail
    refine (hasWd_any _ _ _ _ _).mono ?_; rintro e w1 ⟨rfl, rfl⟩
    have hb := HB.out
    go_wp2_with fail
    refine (need_no _).mono ?_; rintro e w2 ⟨rfl, rfl⟩
    exact ⟨rfl, .inr ⟨HS.out, rfl⟩, rfl⟩
  · have d0 := h.cell hx
    have HB := Lib.hid hb
    have HS := Lib.hid hs
    clear h hb hs
    cases x with
    | none =>
      go_enter Tryz.func84, Tryz.ntmps84
      go_wp2_with fail
      refine (hasWd_any _ _ _ _ _).mono ?_; rintro e w1 ⟨rfl, rfl⟩
      have hb := HB.out
      have d1 : w1.cell? ⟨r, k, none⟩ = some (.pointer none) := d0
      clear d0
      go_wp2_with fail
      refine (need_no _).mono ?_; rintro e w2 ⟨rfl, rfl⟩
      exact ⟨rfl, .inr ⟨HS.out, rfl⟩, rfl⟩
    | some b =>
      go_enter Tryz.func84, Tryz.ntmps84
      go_wp2_with fail
      refine (hasWd_any _ _ _ _ _).mono ?_; rintro e w1 ⟨rfl, rfl⟩
      have hb := HB.out
      have d1 : w1.cell? ⟨r, k, none⟩ = some (.pointer (some ⟨b, 0, none⟩)) := d0
      clear d0
      go_wp2_with fail
      refine (need_yes _).mono ?_; rintro e w2 ⟨rfl, rfl⟩
      go_wp2_with fail
      go_ret
      exact ⟨.inl ⟨b, HS.out, rfl⟩, rfl⟩
end Go.Proofs.YtglalgjffkoneaaGreatDoor
/- The types that slots have: a slot is given one, for good or while something is asked. -/
namespace Go.Proofs.YtglalgjffkoneaaGreatDoor
set_option linter.unusedVariables false
set_option linter.unusedSimpArgs false
open Go.ChangeShapes Go.WideShapes Go.ChangeAt Go.RowKit
theorem NowAt.put {w : World} {N r : Nat} {l : List (Option Nat)} (h : NowAt w N r l) (hN : N ≠ r) (k : Nat) (x : Option Nat) : NowAt (w.setCell ⟨r, k, none⟩ (ptrV x)) N r (l.set k x) := by
  have t : Turn (fun j => j = r) w (w.setCell ⟨r, k, none⟩ (ptrV x)) := (Turn.refl (fun j => j = r) w).setCell (p := ⟨r, k, none⟩) (fun _ => rfl) _
  refine ⟨?_, ?_, by rw [List.length_set]; exact h.small⟩
  · rw [List.length_set]; exact h.box.keep t hN
  · have := h.row.set k (ptrV x)
    rw [List.setIfInBounds_toArray, ← List.map_set] at this
    exact this
def GiveR (N r : Nat) (l : List (Option Nat)) (i : Int) (x : Option Nat) (w : World) (e : Ending) (w' : World) : Prop :=
  (hasB i l.length = true ∧ e = .returned (.tuple #[]) ∧ NowAt w' N r (l.set i.toNat x) ∧ Turn (fun j => j = r) w w') ∨ (hasB i l.length = false ∧ e = .panicked [{ v := wrongV, recovered := false }] ∧ w' = w)
set_option maxRecDepth 100000 in
set_option maxHeartbeats 2000000 in
theorem give_any {w : World} {N r : Nat} {l : List (Option Nat)} (h : NowAt w N r l) (hN : N ≠ r) (i : Int) (x : Option Nat) :
    Calls Tryz.prog 86 #[.int .i64 i, ptrV x, .pointer (some ⟨N, 0, none⟩)] w (GiveR N r l i x w) := by
  have c0 := h.box.cell 0
  have lN := h.box.lt
  have lr := h.row.lt
  have hsm := h.small
  have HH := Lib.hid h
  have HNR := Lib.hid hN
  obtain ⟨v, hv⟩ : ∃ v, ptrV x = .pointer v := by cases x <;> exact ⟨_, rfl⟩
  have HV := Lib.hid hv
  rw [hv]
  clear hv hN
  rcases slot_cases l i with hb | ⟨k, y, rfl, hk, hx, hs, hb⟩
  · have HB := Lib.hid hb
    clear h hb
    go_enter Tryz.func86, Tryz.ntmps86
    go_wp2_with fail
    refine (hasWd_any _ _ _ _ _).mono ?_; rintro e w1 ⟨rfl, rfl⟩
    have hb := HB.out
    go_wp2_with fail
    refine (need_no _).mono ?_; rintro e w2 ⟨rfl, rfl⟩
    exact ⟨rfl, .inr ⟨HB.out, rfl, rfl⟩⟩
  · have d0 := h.cell hx
    have f0 := h.row.frozen k
    have HB := Lib.hid hb
    clear h hb hs
    go_enter Tryz.func86, Tryz.ntmps86
    go_wp2_with fail
    refine (hasWd_any _ _ _ _ _).mono ?_; rintro e w1 ⟨rfl, rfl⟩
    have hb := HB.out
    go_wp2_with fail
    refine (need_yes _).mono ?_; rintro e w2 ⟨rfl, rfl⟩
    go_wp2_with fail
    go_end0
    refine .inl ⟨HB.out, rfl, ?_, (Turn.refl (fun j => j = r) w2).setCell (p := ⟨r, k, none⟩) (fun _ => rfl) _⟩
    have := HH.out.put HNR.out k x
    rwa [HV.out] at this
/-- What is asked meanwhile: it holds, or what need throws; nothing of old changes. -/
def AskR (P : Prop) (w : World) (e : Ending) (w' : World) : Prop := Still w w' ∧ ((P ∧ e = .returned (.tuple #[])) ∨ (¬ P ∧ e = .panicked [{ v := wrongV, recovered := false }]))
def WithR (P : Prop) (N r : Nat) (l : List (Option Nat)) (i : Int) (w : World) (e : Ending) (w' : World) : Prop :=
  (hasB i l.length = true ∧ P ∧ e = .returned (.tuple #[]) ∧ NowAt w' N r l ∧ Turn (fun j => j = r) w w') ∨ (¬ (hasB i l.length = true ∧ P) ∧ e = .panicked [{ v := wrongV, recovered := false }] ∧ Turn (fun j => j = r) w w')
set_option maxRecDepth 100000 in
set_option maxHeartbeats 2000000 in
theorem with_any {w : World} {N r : Nat} {l : List (Option Nat)} (h : NowAt w N r l) (hN : N ≠ r) (i : Int) (x : Option Nat) {P : Prop} (fid : FuncId) (first cap : Array Value) (hfid : ∀ args W, (callFunc fid args).run Tryz.prog W = .ok (.enter fid args) W)
    (hask : ∀ W, NowAt W N r (l.set i.toNat x) → Turn (fun j => j = r) w W → Calls Tryz.prog fid (first ++ cap) W (AskR P W)) :
    Calls Tryz.prog 87 #[.int .i64 i, ptrV x, .func (.func fid) first cap, .pointer (some ⟨N, 0, none⟩)] w (WithR P N r l i w) := by
  have c0 := h.box.cell 0
  have lN := h.box.lt
  have lr := h.row.lt
  have hsm := h.small
  have HH := Lib.hid h
  have HNR := Lib.hid hN
  have HASK := Lib.hid hask
  have HFID := Lib.hid hfid
  obtain ⟨v, hv⟩ : ∃ v, ptrV x = .pointer v := by cases x <;> exact ⟨_, rfl⟩
  have HV := Lib.hid hv
  rw [hv]
  clear hv hN hask hfid
  rcases slot_cases l i with hb | ⟨k, y, rfl, hk, hx, hs, hb⟩
  · have HB := Lib.hid hb
    clear h hb
    go_enter Tryz.func87, Tryz.ntmps87
    go_wp2_with fail
    refine (hasWd_any _ _ _ _ _).mono ?_; rintro e w1 ⟨rfl, rfl⟩
    have hb := HB.out
    go_wp2_with fail
    refine (need_no _).mono ?_; rintro e w2 ⟨rfl, rfl⟩
    exact ⟨rfl, .inr ⟨fun e => by rw [HB.out] at e; exact absurd e.1 (by decide), rfl, Turn.refl _ _⟩⟩
  · have d0 := h.cell hx
    have f0 := h.row.frozen k
    have HB := Lib.hid hb
    obtain ⟨u, hu⟩ : ∃ u, ptrV y = .pointer u := by cases y <;> exact ⟨_, rfl⟩
    have HU := Lib.hid hu
    rw [hu] at d0
    clear h hb hs hu
    go_enter Tryz.func87, Tryz.ntmps87
    go_wp2_with fail
    refine (hasWd_any _ _ _ _ _).mono ?_; rintro e w1 ⟨rfl, rfl⟩
    have hb := HB.out
    go_wp2_with fail
    refine (need_yes _).mono ?_; rintro e w2 ⟨rfl, rfl⟩
    have P1 : Hid (NowAt (w2.setCell ⟨r, k, none⟩ (.pointer v)) N r (l.set k x) ∧ Turn (fun j => j = r) w2 (w2.setCell ⟨r, k, none⟩ (.pointer v))) := ⟨by rw [← HV.out]; exact HH.out.put HNR.out k x, (Turn.refl (fun j => j = r) w2).setCell (p := ⟨r, k, none⟩) (fun _ => rfl) _⟩
    have hfid := HFID.out
    go_wp2_with fail
    clear hfid c0 d0 f0
    generalize w2.setCell ⟨r, k, none⟩ (.pointer v) = w3 at P1 ⊢
    refine (HASK.out w3 (by rw [Int.toNat_natCast]; exact P1.out.1) P1.out.2).mono ?_; rintro e w4 ⟨t4, ⟨hP, rfl⟩ | ⟨hP, rfl⟩⟩
    · have HP := Lib.hid hP
      have P4 : Hid (NowAt w4 N r (l.set k x) ∧ Turn (fun j => j = r) w2 w4) := ⟨P1.out.1.keep t4 (fun e => e) (fun e => e), P1.out.2.trans t4.turn⟩
      have c0 := P4.out.1.box.cell 0
      have d0 := P4.out.1.cell (k := k) (x := x) (by rw [List.getElem?_set_self (by omega)])
      rw [HV.out] at d0
      have f0 := P4.out.1.row.frozen k
      have lN := P4.out.1.box.lt
      have lr := P4.out.1.row.lt
      rw [List.length_set] at c0
      clear hP t4
      go_wp2_with fail
      go_end0
      refine .inl ⟨HB.out, HP.out, rfl, ?_, P4.out.2.setCell (p := ⟨r, k, none⟩) (fun _ => rfl) _⟩
      have := P4.out.1.put HNR.out k y
      rw [HU.out, List.set_set] at this
      rwa [show l.set k y = l from by
        apply List.ext_getElem?
        intro j
        by_cases e : k = j
        · subst e; rw [List.getElem?_set_self hk, hx]
        · rw [List.getElem?_set_ne e]] at this
    · exact ⟨rfl, .inr ⟨fun e => hP e.2, rfl, P1.out.2.trans t4.turn⟩⟩
end Go.Proofs.YtglalgjffkoneaaGreatDoor
/- rises: is each number above the one ahead of it? -/
namespace Go.Proofs.YtglalgjffkoneaaGreatDoor
set_option linter.unusedVariables false
set_option linter.unusedSimpArgs false
open Go.ChangeShapes Go.WideShapes Go.ChangeAt Go.RowKit
/-- Each number above the one ahead of it. -/
def Rises (l : List Int) : Prop := ∀ j, j + 1 < l.length → l.getD j 0 < l.getD (j + 1) 0
def RisesR (xs : List Int) (w : World) (e : Ending) (w' : World) : Prop := ∃ r : Bool, e = .returned (.bool r) ∧ (r = true ↔ Rises xs) ∧ Still w w'
theorem ints_cell {B : Nat} {w : World} {a : Option Addr} {n : Nat} {xs : List Int} (h : Ints B w a n xs) (hn : 0 < n) : ∃ b off, a = some ⟨b, off, none⟩ ∧ b < B ∧ ∀ j, j < n → w.cell? ⟨b, off + j, none⟩ = some (.int .i64 (xs.getD j 0)) := by
  obtain ⟨b, off, ha, hB, hx⟩ := h.at_ hn
  refine ⟨b, off, ha, hB, fun j hj => ?_⟩
  have hjl : j < xs.length := by rw [h.len]; exact hj
  obtain ⟨cs, h1, h2, h3⟩ := hx j xs[j] (List.getElem?_eq_getElem hjl)
  have := h3 0 (by decide)
  rw [h2.1] at this
  rw [show off + j * 1 + 0 = off + j by omega] at this
  rw [this]
  simp [List.getD, List.getElem?_eq_getElem hjl]
set_option maxRecDepth 100000 in
set_option maxHeartbeats 4000000 in
theorem rises_any {B : Nat} {w : World} {a : Option Addr} {n c : Nat} {xs : List Int} (h : Ints B w a n xs) (hB : B ≤ w.heap.size) (hn : n ≤ maxLen) :
    Calls Tryz.prog 42 #[.slice a n c] w (RisesR xs w) := by
  have HLEN := Lib.hid h.len
  have hn2 : n ≤ 9223372036854775807 := by unfold maxLen at hn; omega
  have HC : Hid (0 < n → ∃ b off, a = some ⟨b, off, none⟩ ∧ b < B ∧ ∀ j, j < n → w.cell? ⟨b, off + j, none⟩ = some (.int .i64 (xs.getD j 0))) := fun hp => ints_cell h hp
  clear h hn
  go_enter Tryz.func42, Tryz.ntmps42
  go_wp2_with fail
  go_loopw [3, 6] (fun z3 z6 wr => ∃ i : Nat, z6 = .int .i64 i ∧ i ≤ n ∧ (∀ j, j + 1 < i → xs.getD j 0 < xs.getD (j + 1) 0) ∧ Still w wr) (fun _ z6 _ => n - (intOf z6).toNat)
  case atStart => exact ⟨0, rfl, Nat.zero_le _, fun j hj => by omega, Still.refl _⟩
  case round =>
    obtain ⟨i, rfl, hi, hr, ht⟩ := hrel
    have HR := Lib.hid hr
    have HT := Lib.hid ht
    clear hr ht
    by_cases hlt : i < n
    · obtain ⟨b, off, rfl, hb, hc⟩ := HC.out (by omega)
      have hbl : b < wr.heap.size := by have := HT.out.size; omega
      by_cases h0 : i = 0
      · subst h0
        obtain ⟨wD, hwD⟩ : ∃ wD, wr.drew = wD := ⟨_, rfl⟩
        have SD : Hid (Still wr wD) := by rw [← hwD]; exact (Still.refl wr).drew
        go_wp2_with fail
        refine wp_region_any (by kernel_rfl) ?_
        change wpAny _ _ _ _ _ _ _ (World.drew _)
        rw [hwD]
        clear hwD
        refine wpAny_take (i := 0) (v := ?_) rfl (by kernel_rfl) (by kernel_rfl) (by kernel_rfl) (fun _ _ _ h => h) (Or.inl ⟨by rfl, ?_⟩) ?_
        rotate_left
        · intro w; go_simp; try with_reducible rfl
        go_simp
        refine wpAny_take (i := 1) (v := .bool false) rfl (by kernel_rfl) (by kernel_rfl) (by kernel_rfl) (fun _ _ _ h => h) (Or.inl ⟨by rfl, ?_⟩) ?_
        · intro w; go_simp; try with_reducible rfl
        go_simp
        refine wpAny_take (i := 2) (v := ?_) rfl (by kernel_rfl) (by kernel_rfl) (by kernel_rfl) (fun _ _ _ h => h) (Or.inl ⟨by rfl, ?_⟩) ?_
        rotate_left
        · intro w; go_simp; try with_reducible rfl
        go_simp
        refine wpAny_take (i := 3) (v := undef) rfl (by kernel_rfl) (by kernel_rfl) (by kernel_rfl) (fun _ _ _ h => h) (Or.inr ⟨by rfl, rfl⟩) ?_
        go_simp
        refine wpAny_take (i := 4) (v := undef) rfl (by kernel_rfl) (by kernel_rfl) (by kernel_rfl) (fun _ _ _ h => h) (Or.inr ⟨by rfl, rfl⟩) ?_
        go_simp
        refine wpAny_take (i := 5) (v := undef) rfl (by kernel_rfl) (by kernel_rfl) (by kernel_rfl) (fun _ _ _ h => h) (Or.inr ⟨by rfl, rfl⟩) ?_
        go_simp
        refine wpAny_take (i := 6) (v := undef) rfl (by kernel_rfl) (by kernel_rfl) (by kernel_rfl) (fun _ _ _ h => h) (Or.inr ⟨by rfl, rfl⟩) ?_
        go_simp
        refine wpAny_take (i := 7) (v := undef) rfl (by kernel_rfl) (by kernel_rfl) (by kernel_rfl) (fun _ _ _ h => h) (Or.inr ⟨by rfl, rfl⟩) ?_
        go_simp
        refine wpAny_take (i := 8) (v := undef) rfl (by kernel_rfl) (by kernel_rfl) (by kernel_rfl) (fun _ _ _ h => h) (Or.inr ⟨by rfl, rfl⟩) ?_
        go_simp
        refine wpAny_take (i := 9) (v := undef) rfl (by kernel_rfl) (by kernel_rfl) (by kernel_rfl) (fun _ _ _ h => h) (Or.inr ⟨by rfl, rfl⟩) ?_
        go_simp
        refine wpAny_take (i := 10) (v := undef) rfl (by kernel_rfl) (by kernel_rfl) (by kernel_rfl) (fun _ _ _ h => h) (Or.inr ⟨by rfl, rfl⟩) ?_
        go_simp
        refine wpAny_take (i := 11) (v := undef) rfl (by kernel_rfl) (by kernel_rfl) (by kernel_rfl) (fun _ _ _ h => h) (Or.inr ⟨by rfl, rfl⟩) ?_
        go_simp
        refine wpAny_take (i := 12) (v := undef) rfl (by kernel_rfl) (by kernel_rfl) (by kernel_rfl) (fun _ _ _ h => h) (Or.inr ⟨by rfl, rfl⟩) ?_
        go_simp
        refine wpAny_take (i := 13) (v := ?_) rfl (by kernel_rfl) (by kernel_rfl) (by kernel_rfl) (fun _ _ _ h => h) (Or.inl ⟨by rfl, ?_⟩) ?_
        rotate_left
        · intro w; go_simp; try with_reducible rfl
        go_simp
        refine wpAny_done (by kernel_rfl) ?_ _
        go_wp2_with fail
        go_roundw
        case rel => exact ⟨1, by go_num, by omega, fun j hj => by omega, HT.out.trans SD.out⟩
        case measure => simp [intOf]; omega
      · obtain ⟨k, rfl⟩ : ∃ k, i = k + 1 := ⟨i - 1, by omega⟩
        obtain ⟨wD, hwD⟩ : ∃ wD, wr.drew = wD := ⟨_, rfl⟩
        have SD : Hid (Still wr wD) := by rw [← hwD]; exact (Still.refl wr).drew
        have hlB := HT.out.size
        have d0 : wD.cell? ⟨b, off + k, none⟩ = some (.int .i64 (xs.getD k 0)) := ((HT.out.trans SD.out).cell (p := ⟨b, off + k, none⟩) (by show b < w.heap.size; omega)).trans (hc k (by omega))
        have d1 : wD.cell? ⟨b, off + (k + 1), none⟩ = some (.int .i64 (xs.getD (k + 1) 0)) := ((HT.out.trans SD.out).cell (p := ⟨b, off + (k + 1), none⟩) (by show b < w.heap.size; omega)).trans (hc (k + 1) (by omega))
        have x1 : decide ((0 : Int) < (k : Int) + 1) = true := decide_eq_true (by omega)
        have x2 : IntKind.i64.wrap (k : Int) = k := by rw [IntKind.wrap_i64]; omega
        have x3 : IntKind.i64.wrap ((k : Int) + 1 - 1) = k := by rw [IntKind.wrap_i64]; omega
        have x5 : (k : Int) < n := by omega
        have x6 : (k : Int) + 1 < n := by omega
        have x7 : ¬ (k : Int) + 1 < 0 := by omega
        obtain ⟨u0, hu0⟩ : ∃ u0, xs.getD k 0 = u0 := ⟨_, rfl⟩
        obtain ⟨u1, hu1⟩ : ∃ u1, xs.getD (k + 1) 0 = u1 := ⟨_, rfl⟩
        rw [hu0] at d0
        rw [hu1] at d1
        have H0 := Lib.hid hu0
        have H1 := Lib.hid hu1
        clear hu0 hu1
        clear hc
        obtain ⟨bb, hbb⟩ : ∃ bb, decide (u1 ≤ u0) = bb := ⟨_, rfl⟩
        have HBB := Lib.hid hbb
        go_wp2_with fail
        refine wp_region_held_drew (S := fun W => W.cell? ⟨b, off + k, none⟩ = some (.int .i64 u0) ∧ W.cell? ⟨b, off + (k + 1), none⟩ = some (.int .i64 u1)) (by kernel_rfl) (by rw [hwD]; exact ⟨d0, d1⟩) (fun hHeld => ?_)
        try simp only [Act.put, List.getElem_toArray, List.getElem_cons_succ, List.getElem_cons_zero, List.setIfInBounds_toArray, List.set_cons_zero, List.set_cons_succ]
        rw [hwD] at hHeld ⊢
        clear hwD
        refine wpAnyH_take (i := 0) (v := ?_) rfl (by kernel_rfl) (by kernel_rfl) (by kernel_rfl) (fun _ _ _ h => h) (Or.inl ⟨by rfl, ?_⟩) (by assumption) ?_
        rotate_left
        · intro w hSw; (try dsimp only at hSw); go_simp; try with_reducible rfl
        try simp only [Act.put, List.getElem_toArray, List.getElem_cons_succ, List.getElem_cons_zero, List.setIfInBounds_toArray, List.set_cons_zero, List.set_cons_succ]
        refine wpAnyH_take (i := 1) (v := .bool true) rfl (by kernel_rfl) (by kernel_rfl) (by kernel_rfl) (fun _ _ _ h => h) (Or.inl ⟨by rfl, ?_⟩) (by assumption) ?_
        · intro w hSw; (try dsimp only at hSw); go_simp; try with_reducible rfl
        try simp only [Act.put, List.getElem_toArray, List.getElem_cons_succ, List.getElem_cons_zero, List.setIfInBounds_toArray, List.set_cons_zero, List.set_cons_succ]
        refine wpAnyH_take (i := 2) (v := ?_) rfl (by kernel_rfl) (by kernel_rfl) (by kernel_rfl) (fun _ _ _ h => h) (Or.inl ⟨by rfl, ?_⟩) (by assumption) ?_
        rotate_left
        · intro w hSw; (try dsimp only at hSw); go_simp; try with_reducible rfl
        try simp only [Act.put, List.getElem_toArray, List.getElem_cons_succ, List.getElem_cons_zero, List.setIfInBounds_toArray, List.set_cons_zero, List.set_cons_succ]
        refine wpAnyH_take (i := 3) (v := ?_) rfl (by kernel_rfl) (by kernel_rfl) (by kernel_rfl) (fun _ _ _ h => h) (Or.inl ⟨by rfl, ?_⟩) (by assumption) ?_
        rotate_left
        · intro w hSw; (try dsimp only at hSw); go_simp; try with_reducible rfl
        try simp only [Act.put, List.getElem_toArray, List.getElem_cons_succ, List.getElem_cons_zero, List.setIfInBounds_toArray, List.set_cons_zero, List.set_cons_succ]
        refine wpAnyH_take (i := 4) (v := ?_) rfl (by kernel_rfl) (by kernel_rfl) (by kernel_rfl) (fun _ _ _ h => h) (Or.inl ⟨by rfl, ?_⟩) (by assumption) ?_
        rotate_left
        · intro w hSw; (try dsimp only at hSw); go_simp; try with_reducible rfl
        try simp only [Act.put, List.getElem_toArray, List.getElem_cons_succ, List.getElem_cons_zero, List.setIfInBounds_toArray, List.set_cons_zero, List.set_cons_succ]
        refine wpAnyH_take (i := 5) (v := .int .i64 (k : Int)) rfl (by kernel_rfl) (by kernel_rfl) (by kernel_rfl) (fun _ _ _ h => h) (Or.inl ⟨by rfl, ?_⟩) (by assumption) ?_
        · intro w hSw; (try dsimp only at hSw); go_simp; try with_reducible rfl
        try simp only [Act.put, List.getElem_toArray, List.getElem_cons_succ, List.getElem_cons_zero, List.setIfInBounds_toArray, List.set_cons_zero, List.set_cons_succ]
        refine wpAnyH_take (i := 6) (v := ?_) rfl (by kernel_rfl) (by kernel_rfl) (by kernel_rfl) (fun _ _ _ h => h) (Or.inl ⟨by rfl, ?_⟩) (by assumption) ?_
        rotate_left
        · intro w hSw; (try dsimp only at hSw); go_simp; try with_reducible rfl
        try simp only [Act.put, List.getElem_toArray, List.getElem_cons_succ, List.getElem_cons_zero, List.setIfInBounds_toArray, List.set_cons_zero, List.set_cons_succ]
        refine wpAnyH_take (i := 7) (v := ?_) rfl (by kernel_rfl) (by kernel_rfl) (by kernel_rfl) (fun _ _ _ h => h) (Or.inl ⟨by rfl, ?_⟩) (by assumption) ?_
        rotate_left
        · intro w hSw; (try dsimp only at hSw); go_simp; try with_reducible rfl
        try simp only [Act.put, List.getElem_toArray, List.getElem_cons_succ, List.getElem_cons_zero, List.setIfInBounds_toArray, List.set_cons_zero, List.set_cons_succ]
        refine wpAnyH_take (i := 8) (v := ?_) rfl (by kernel_rfl) (by kernel_rfl) (by kernel_rfl) (fun _ _ _ h => h) (Or.inl ⟨by rfl, ?_⟩) (by assumption) ?_
        rotate_left
        · intro w hSw; (try dsimp only at hSw); go_simp; try with_reducible rfl
        try simp only [Act.put, List.getElem_toArray, List.getElem_cons_succ, List.getElem_cons_zero, List.setIfInBounds_toArray, List.set_cons_zero, List.set_cons_succ]
        refine wpAnyH_take (i := 9) (v := ?_) rfl (by kernel_rfl) (by kernel_rfl) (by kernel_rfl) (fun _ _ _ h => h) (Or.inl ⟨by rfl, ?_⟩) (by assumption) ?_
        rotate_left
        · intro w hSw; (try dsimp only at hSw); go_simp; try with_reducible rfl
        try simp only [Act.put, List.getElem_toArray, List.getElem_cons_succ, List.getElem_cons_zero, List.setIfInBounds_toArray, List.set_cons_zero, List.set_cons_succ]
        refine wpAnyH_take (i := 10) (v := .pointer (some ⟨b, off + (k + 1), none⟩)) rfl (by kernel_rfl) (by kernel_rfl) (by kernel_rfl) (fun _ _ _ h => h) (Or.inl ⟨by rfl, ?_⟩) (by assumption) ?_
        · intro w hSw; (try dsimp only at hSw); go_simp; try with_reducible rfl
        try simp only [Act.put, List.getElem_toArray, List.getElem_cons_succ, List.getElem_cons_zero, List.setIfInBounds_toArray, List.set_cons_zero, List.set_cons_succ]
        refine wpAnyH_take (i := 11) (v := .int .i64 u1) rfl (by kernel_rfl) (by kernel_rfl) (by kernel_rfl) (fun _ _ _ h => h) (Or.inl ⟨by rfl, ?_⟩) (by assumption) ?_
        · intro w hSw; (try dsimp only at hSw); go_simp; try with_reducible rfl
        try simp only [Act.put, List.getElem_toArray, List.getElem_cons_succ, List.getElem_cons_zero, List.setIfInBounds_toArray, List.set_cons_zero, List.set_cons_succ]
        refine wpAnyH_take (i := 12) (v := .bool bb) rfl (by kernel_rfl) (by kernel_rfl) (by kernel_rfl) (fun _ _ _ h => h) (Or.inl ⟨by rfl, ?_⟩) (by assumption) ?_
        · intro w hSw; (try dsimp only at hSw); go_simp; try with_reducible rfl
        try simp only [Act.put, List.getElem_toArray, List.getElem_cons_succ, List.getElem_cons_zero, List.setIfInBounds_toArray, List.set_cons_zero, List.set_cons_succ]
        refine wpAnyH_take (i := 13) (v := ?_) rfl (by kernel_rfl) (by kernel_rfl) (by kernel_rfl) (fun _ _ _ h => h) (Or.inl ⟨by rfl, ?_⟩) (by assumption) ?_
        rotate_left
        · intro w hSw; (try dsimp only at hSw); go_simp; try with_reducible rfl
        try simp only [Act.put, List.getElem_toArray, List.getElem_cons_succ, List.getElem_cons_zero, List.setIfInBounds_toArray, List.set_cons_zero, List.set_cons_succ]
        refine wpAnyH_done (by kernel_rfl) ?_ _
        clear hHeld
        cases bb with
        | false =>
          go_wp2_with fail
          go_roundw
          case rel => exact ⟨k + 1 + 1, by go_num, by omega, fun j hj => (by
            by_cases e : j = k
            · subst e
              have := of_decide_eq_false HBB.out
              rw [H0.out, H1.out]
              omega
            · exact HR.out j (by omega)), HT.out.trans SD.out⟩
          case measure => simp [intOf]; omega
        | true =>
          go_wp2_with fail
          go_ret
          refine ⟨false, rfl, iff_of_false (by decide) (fun e => ?_), HT.out.trans SD.out⟩
          have h1 := e k (by rw [HLEN.out]; omega)
          have h2 := of_decide_eq_true HBB.out
          rw [H0.out, H1.out] at h1
          omega
    · obtain rfl : i = n := by omega
      have x0 : decide ((i : Int) < i) = false := decide_eq_false (by omega)
      have x1 : decide (i < i) = false := decide_eq_false (by omega)
      clear hlt
      go_wp2_with fail
      go_ret
      exact ⟨true, rfl, iff_of_true rfl (fun j hj => HR.out j (by have := HLEN.out; omega)), HT.out⟩
end Go.Proofs.YtglalgjffkoneaaGreatDoor
/- The types that slots have: only some are kept. -/
namespace Go.Proofs.YtglalgjffkoneaaGreatDoor
set_option linter.unusedVariables false
set_option linter.unusedSimpArgs false
open Go.ChangeShapes Go.WideShapes Go.ChangeAt Go.RowKit
theorem infoPtr : (Tryz.prog.info? 59).map (fun i => (i.zero, i.size, i.bytes)) = some (some (.pointer none), 1, 8) := by kernel_rfl
theorem run_make_ptrs (n : Nat) (hn : n ≤ 1000) (w : World) : (Instr.makeSlice 58 (.int .i64 (n : Int)) (.int .i64 (n : Int))).run Tryz.prog w = .ok (.slice (some ⟨w.heap.size, 0, none⟩) n n) (w.alloc (.cells (List.replicate n (Value.pointer none)).toArray 59)) := by
  obtain ⟨i, hi, he⟩ := Option.map_eq_some_iff.1 infoPtr
  simp only [Prod.mk.injEq] at he
  obtain ⟨hz, hs, hb⟩ := he
  have := run_make (P := Tryz.prog) w 58 59 i _ Tryz.underlying58 hi hz .i64 .i64 n n (by omega) (by omega) (by rw [hb]; omega) (by omega)
  rw [this, hs]
  simp only [Int.toNat_natCast, Nat.mul_one]
  rw [show madeCells (Value.cells (.pointer none)) n = (List.replicate n (Value.pointer none)).toArray from Array.toList_inj.1 (by rw [show Value.cells (.pointer none) = #[.pointer none] from rfl, toList_madeCells_one])]
/-- Those slots alone, and what they have. -/
def keepL (l : List (Option Nat)) (live : List Int) : List (Option Nat) := live.foldl (fun acc s => acc.set s.toNat (slotAt l s)) (List.replicate l.length none)
theorem keepL_len (l : List (Option Nat)) (live : List Int) : (keepL l live).length = l.length := by
  unfold keepL
  have : ∀ (live : List Int) (acc : List (Option Nat)), (live.foldl (fun acc s => acc.set s.toNat (slotAt l s)) acc).length = acc.length := fun live => by
    induction live with
    | nil => intro acc; rfl
    | cons s live ih => intro acc; rw [List.foldl_cons, ih, List.length_set]
  rw [this, List.length_replicate]
theorem keepL_snoc (l : List (Option Nat)) (live : List Int) (s : Int) : keepL l (live ++ [s]) = (keepL l live).set s.toNat (slotAt l s) := by
  unfold keepL
  rw [List.foldl_append]
  rfl
/-- May just these be kept? -/
def Keeps (l : List (Option Nat)) (live : List Int) : Prop := Rises live ∧ ∀ s ∈ live, (slotAt l s).isSome = true
def KeepR (N : Nat) (l : List (Option Nat)) (live : List Int) (w : World) (e : Ending) (w' : World) : Prop :=
  (Keeps l live ∧ e = .returned (.tuple #[]) ∧ (∃ r, NowAt w' N r (keepL l live) ∧ w.heap.size ≤ r) ∧ Turn (fun j => j = N) w w') ∨ (¬ Keeps l live ∧ e = .panicked [{ v := wrongV, recovered := false }] ∧ Still w w')
theorem slot_lt {l : List (Option Nat)} {i : Int} {b : Nat} (h : slotAt l i = some b) : ∃ k : Nat, i = k ∧ k < l.length := by
  rcases slot_cases l i with hb | ⟨k, x, rfl, hk, hx, hs, hb⟩
  · rw [slotAt_out hb] at h; cases h
  · exact ⟨k, rfl, hk⟩
set_option maxRecDepth 100000 in
set_option maxHeartbeats 4000000 in
theorem keep_any {B : Nat} {w : World} {N r T : Nat} {l : List (Option Nat)} (h : NowAt w N r l) (hT : Blk w T 60 #[.func (.func 84) #[] #[.pointer (some ⟨N, 0, none⟩)]]) {a : Option Addr} {n c : Nat} {live : List Int} (hl : Ints B w a n live) (hn : n ≤ maxLen) (hB : B ≤ N) (hTN : T ≠ N) (hNr : N ≠ r) :
    Calls Tryz.prog 88 #[.slice a n c, .pointer (some ⟨N, 0, none⟩), .pointer (some ⟨T, 0, none⟩)] w (KeepR N l live w) := by
  have hNl := h.box.lt
  have HR := Lib.hid (rises_any (c := c) hl (by omega) hn)
  have HH := Lib.hid h
  have HT := Lib.hid hT
  have HL := Lib.hid hl
  have HLEN := Lib.hid hl.len
  have HB := Lib.hid (And.intro hB (And.intro hTN (And.intro hNr hNl)))
  have hsm := h.small
  have hn2 : n ≤ 9223372036854775807 := by unfold maxLen at hn; omega
  clear h hT hl hn hB hTN hNr hNl
  go_enter Tryz.func88, Tryz.ntmps88
  go_wp2_with fail
  refine HR.out.mono ?_; rintro e w1 ⟨rb, rfl, hrb, t1⟩
  have HRB := Lib.hid hrb
  have T1 := Lib.hid t1
  clear hrb t1
  cases rb with
  | false =>
    go_wp2_with fail
    refine (need_no _).mono ?_; rintro e w2 ⟨rfl, rfl⟩
    exact ⟨rfl, .inr ⟨fun e => absurd (HRB.out.2 e.1) (by decide), rfl, T1.out⟩⟩
  | true =>
    go_wp2_with fail
    refine (need_yes _).mono ?_; rintro e w2 ⟨rfl, rfl⟩
    have hmk := run_make_ptrs l.length hsm w2
    have H1 : Hid (NowAt w2 N r l) := HH.out.keep T1.out (fun e => e) (fun e => e)
    have c0 := H1.out.box.cell 0
    have lN := H1.out.box.lt
    go_wp2_with fail
    have G : Hid (w2.heap.size < (w2.alloc (.cells (Array.replicate l.length (Value.pointer none)) 59)).heap.size ∧ Blk (w2.alloc (.cells (Array.replicate l.length (Value.pointer none)) 59)) w2.heap.size 59 ((keepL l []).map ptrV).toArray ∧ Still w2 (w2.alloc (.cells (Array.replicate l.length (Value.pointer none)) 59))) :=
      ⟨by simp, by rw [show ((keepL l []).map ptrV).toArray = Array.replicate l.length (Value.pointer none) by simp [keepL, ptrV]]; exact Blk.new w2 _ _, (Still.refl w2).alloc _⟩
    clear hmk
    generalize w2.alloc (.cells (Array.replicate l.length (Value.pointer none)) 59) = w3 at G ⊢
    obtain ⟨K, hK⟩ : ∃ K, w2.heap.size = K := ⟨_, rfl⟩
    rw [hK] at G
    have HK := Lib.hid hK
    rw [hK]
    clear hK c0 lN
    have HKN : Hid (N < K ∧ T < K ∧ r < K) := by have := HK.out; have h1 := H1.out.box.lt; have h2 := H1.out.row.lt; have h3 := (T1.out.blk HT.out).lt; exact ⟨by omega, by omega, by omega⟩
    go_loopw [6, 15] (fun _ z15 wr => ∃ j : Nat, z15 = .int .i64 j ∧ j ≤ n ∧ (∀ s ∈ live.take j, (slotAt l s).isSome = true) ∧ Blk wr K 59 ((keepL l (live.take j)).map ptrV).toArray ∧ Still w2 wr) (fun _ z15 _ => n - (intOf z15).toNat)
    case atStart => exact ⟨0, rfl, Nat.zero_le _, by simp, by rw [List.take_zero]; exact G.out.2.1, G.out.2.2⟩
    case round =>
      obtain ⟨j, rfl, hj, hall, hbk, ht⟩ := hrel
      have HX := Lib.hid (And.intro hall (And.intro hbk ht))
      have hlK := hbk.lt
      have TY := Lib.hid (ht.blk (T1.out.blk HT.out))
      have NW := Lib.hid (H1.out.keep ht (fun e => e) (fun e => e))
      clear hall hbk
      by_cases hlt : j < n
      · obtain ⟨b0, off, rfl, hb, hc⟩ := ints_cell HL.out (by omega)
        have d0 : wr.cell? ⟨b0, off + j, none⟩ = some (.int .i64 (live.getD j 0)) := (ht.cell (p := ⟨b0, off + j, none⟩) (by have := HB.out; have := T1.out.size; show b0 < w2.heap.size; omega)).trans ((T1.out.cell (p := ⟨b0, off + j, none⟩) (by have := HB.out; show b0 < w.heap.size; omega)).trans (hc j hlt))
        obtain ⟨s, hs⟩ : ∃ s, live.getD j 0 = s := ⟨_, rfl⟩
        have hjl : j < live.length := by have := HLEN.out; omega
        have HS : Hid (live.take (j + 1) = live.take j ++ [s] ∧ s ∈ live) := by
          have e : live[j] = s := by rw [← hs]; simp [List.getD, List.getElem?_eq_getElem hjl]
          refine ⟨?_, e ▸ List.getElem_mem hjl⟩
          rw [List.take_add_one, List.getElem?_eq_getElem hjl, e]; rfl
        rw [hs] at d0
        have HTY := Lib.hid (typed_any NW.out s)
        have tc := TY.out.cell 0
        have lT := TY.out.lt
        have henter : ∀ (args : Array Value) (W : World), (callFunc 84 args).run Tryz.prog W = .ok (.enter 84 args) W := enters_of Tryz.func84 (by kernel_rfl) rfl
        have hbl : b0 < wr.heap.size := by have := HB.out; have := ht.size; have := T1.out.size; omega
        clear hc hs ht
        cases hsl : slotAt l s with
        | none =>
          have HSL := Lib.hid hsl
          clear hsl
          go_wp2_with fail
          refine HTY.out.mono ?_; rintro e w5 ⟨⟨b, hb5, rfl⟩ | ⟨h5, rfl⟩, rfl⟩
          · rw [HSL.out] at hb5; cases hb5
          · refine ⟨rfl, .inr ⟨fun e => ?_, rfl, T1.out.trans HX.out.2.2⟩⟩
            have := e.2 s HS.out.2
            rw [HSL.out] at this
            cases this
        | some b =>
          obtain ⟨k, rfl, hkl⟩ := slot_lt hsl
          have HSL := Lib.hid hsl
          clear hsl
          have hkk : (k : Int) < l.length := by omega
          have kf := HX.out.2.1.frozen k
          have kc : wr.cell? ⟨K, k, none⟩ = some (ptrV ((keepL l (live.take j)).getD k none)) := by
            rw [HX.out.2.1.cell k]
            have : k < (keepL l (live.take j)).length := by rw [keepL_len]; exact hkl
            simp [List.getD, List.getElem?_eq_getElem this]
          generalize ptrV ((keepL l (live.take j)).getD k none) = old at kc
          go_wp2_with fail
          refine HTY.out.mono ?_; rintro e w5 ⟨⟨b', hb5, rfl⟩ | ⟨h5, rfl⟩, rfl⟩
          · have HB5 := Lib.hid hb5
            clear hb5
            go_wp2_with fail
            go_roundw
            case rel =>
              refine ⟨j + 1, by go_num, by omega, fun s hs => ?_, ?_, ?_⟩
              · rw [HS.out.1] at hs
                rcases List.mem_append.1 hs with e | e
                · exact HX.out.1 s e
                · rw [List.mem_singleton.1 e, HB5.out]; rfl
              · rw [HS.out.1, keepL_snoc, Int.toNat_natCast, HB5.out, List.map_set]
                have := HX.out.2.1.set k (ptrV (some b'))
                rw [List.setIfInBounds_toArray] at this
                exact this
              · exact Turn.setCell (S := fun _ => False) HX.out.2.2 (p := ⟨K, k, none⟩) (fun e => by have := HK.out; have e2 : K < w2.heap.size := e; omega) _
            case measure => simp [intOf]; omega
          · rw [HSL.out] at h5; cases h5
      · obtain rfl : j = n := by omega
        have x0 : decide ((j : Int) < j) = false := decide_eq_false (by omega)
        have x1 : decide (j < j) = false := decide_eq_false (by omega)
        have c0 := NW.out.box.cell 0
        have f0 := NW.out.box.frozen 0
        have lN := NW.out.box.lt
        clear hlt ht
        go_wp2_with fail
        go_end0
        have hta : live.take j = live := List.take_of_length_le (by rw [HLEN.out]; exact Nat.le_refl _)
        have TN : Turn (fun j => j = N) wr (wr.setCell ⟨N, 0, none⟩ (.slice (some ⟨K, 0, none⟩) l.length l.length)) := (Turn.refl (fun j => j = N) wr).setCell (p := ⟨N, 0, none⟩) (fun _ => rfl) _
        have hkn := HKN.out
        refine .inl ⟨⟨HRB.out.1 (by first | rfl | trivial), fun s hs => HX.out.1 s (by rw [hta]; exact hs)⟩, rfl, ⟨K, ⟨?_, ?_, by rw [keepL_len]; exact hsm⟩, by have := HK.out; have := T1.out.size; omega⟩, ((T1.out.trans HX.out.2.2).turn).trans TN⟩
        · rw [keepL_len]
          have := NW.out.box.set 0 (.slice (some ⟨K, 0, none⟩) l.length l.length)
          simpa using this
        · have := HX.out.2.1.keep TN (by omega)
          rwa [hta] at this
end Go.Proofs.YtglalgjffkoneaaGreatDoor
/- The types that slots have: do they fit a block? -/
namespace Go.Proofs.YtglalgjffkoneaaGreatDoor
set_option linter.unusedVariables false
set_option linter.unusedSimpArgs false
open Go.ChangeShapes Go.WideShapes Go.ChangeAt Go.RowKit
/-- What words lie where: they are not changed any more. -/
structure Env (w : World) (D : Nat → Option (Bool × (Nat → Nat))) : Prop where
  at_ : ∀ b im R, D b = some (im, R) → WordsAt w b im R
theorem Env.still {w w' : World} {D : Nat → Option (Bool × (Nat → Nat))} (h : Env w D) (t : Still w w') : Env w' D := ⟨fun b im R e => (h.at_ b im R e).still t⟩
/-- Are the words of one within those of another? -/
def DSub (D : Nat → Option (Bool × (Nat → Nat))) (a b : Nat) : Prop := ∀ im R im' R', D a = some (im, R) → D b = some (im', R') → WSub im R im' R'
/-- The types' words: the variable at Y holds a row at r of pointers to words. -/
structure TypesAt (w : World) (D : Nat → Option (Bool × (Nat → Nat))) (Y r c : Nat) (ts : List Nat) : Prop where
  box : Blk w Y 58 #[.slice (some ⟨r, 0, none⟩) ts.length c]
  row : ∀ k b, ts[k]? = some b → w.cell? ⟨r, k, none⟩ = some (.pointer (some ⟨b, 0, none⟩))
  lt : r < w.heap.size
  env : ∀ b ∈ ts, ∃ im R, D b = some (im, R)
  small : ts.length ≤ 1024
theorem TypesAt.still {w w' : World} {D : Nat → Option (Bool × (Nat → Nat))} {Y r c : Nat} {ts : List Nat} (h : TypesAt w D Y r c ts) (t : Still w w') : TypesAt w' D Y r c ts :=
  ⟨t.blk h.box, fun k b e => (t.cell (p := ⟨r, k, none⟩) h.lt).trans (h.row k b e), Nat.lt_of_lt_of_le h.lt t.size, h.env, h.small⟩
theorem slot_mem {l : List (Option Nat)} {i : Int} {b : Nat} (h : slotAt l i = some b) : some b ∈ l := by
  rcases slot_cases l i with hb | ⟨k, x, rfl, hk, hx, hs, hb⟩
  · rw [slotAt_out hb] at h; cases h
  · rw [hs] at h
    subst h
    exact List.mem_of_getElem? hx
/-- Each slot for which there is a type has words within it. -/
def Fits (D : Nat → Option (Bool × (Nat → Nat))) (l : List (Option Nat)) (ts : List Nat) (ins : List Int) : Prop :=
  ∀ (j : Nat) (n : Int), ins[j]? = some n → n ≠ -1 → ∃ b, slotAt l (j : Int) = some b ∧ ∃ t, ts[n.toNat]? = some t ∧ DSub D b t
def FitR (P : Prop) (w : World) (e : Ending) (w' : World) : Prop := Still w w' ∧ ((P ∧ e = .returned (.tuple #[])) ∨ (¬ P ∧ e = .panicked [{ v := wrongV, recovered := false }]))
set_option maxRecDepth 100000 in
set_option maxHeartbeats 4000000 in
theorem fit_any {B : Nat} {w : World} {D : Nat → Option (Bool × (Nat → Nat))} {N r T Y yr yc : Nat} {l : List (Option Nat)} {ts : List Nat} (h : NowAt w N r l) (hE : Env w D) (hD : ∀ b, some b ∈ l → ∃ im R, D b = some (im, R)) (hT : Blk w T 60 #[.func (.func 84) #[] #[.pointer (some ⟨N, 0, none⟩)]]) (hY : TypesAt w D Y yr yc ts) {a : Option Addr} {n c : Nat} {ins : List Int} (hl : Ints B w a n ins) (hn : n ≤ maxLen) (hB : B ≤ w.heap.size) (hin : ∀ x ∈ ins, x = -1 ∨ 0 ≤ x ∧ x < ts.length) :
    Calls Tryz.prog 89 #[.slice a n c, .pointer (some ⟨T, 0, none⟩), .pointer (some ⟨Y, 0, none⟩)] w (FitR (Fits D l ts ins) w) := by
  have HH := Lib.hid h
  have HE := Lib.hid hE
  have HD := Lib.hid hD
  have HT := Lib.hid hT
  have HY := Lib.hid hY
  have HL := Lib.hid hl
  have HLEN := Lib.hid hl.len
  have HIN := Lib.hid hin
  have hn2 : n ≤ 9223372036854775807 := by unfold maxLen at hn; omega
  have hsm := hY.small
  clear h hE hD hT hY hl hn hin
  go_enter Tryz.func89, Tryz.ntmps89
  go_wp2_with fail
  go_loopw [4, 5, 8] (fun _ _ z8 wr => ∃ j : Nat, z8 = .int .i64 j ∧ j ≤ n ∧ Fits D l ts (ins.take j) ∧ Still w wr) (fun _ _ z8 _ => n - (intOf z8).toNat)
  case atStart => exact ⟨0, rfl, Nat.zero_le _, fun j n h => by simp at h, Still.refl _⟩
  case round =>
    obtain ⟨j, rfl, hj, hf, ht⟩ := hrel
    have HX := Lib.hid (And.intro hf ht)
    clear hf
    by_cases hlt : j < n
    · obtain ⟨b0, off, rfl, hb, hc⟩ := ints_cell HL.out (by omega)
      have hjl : j < ins.length := by have := HLEN.out; omega
      obtain ⟨x, hx⟩ : ∃ x, ins.getD j 0 = x := ⟨_, rfl⟩
      have hxe : ins[j]? = some x := by rw [← hx]; simp [List.getD, List.getElem?_eq_getElem hjl]
      have d0 : wr.cell? ⟨b0, off + j, none⟩ = some (.int .i64 x) := (ht.cell (p := ⟨b0, off + j, none⟩) (by show b0 < w.heap.size; omega)).trans (by rw [← hx]; exact hc j hlt)
      have hbl : b0 < wr.heap.size := by have := ht.size; omega
      have HS : Hid (ins[j]? = some x ∧ ins.take (j + 1) = ins.take j ++ [x] ∧ x ∈ ins) := by
        refine ⟨hxe, ?_, List.mem_of_getElem? hxe⟩
        rw [List.take_add_one, hxe]; rfl
      have HLT := Lib.hid hlt
      clear hc hx hxe
      by_cases hx1 : x = -1
      · subst hx1
        clear ht
        go_wp2_with fail
        go_roundw
        case rel =>
          refine ⟨j + 1, by go_num, by omega, fun i m hi hm => ?_, HX.out.2⟩
          rw [HS.out.2.1] at hi
          by_cases e : i < (ins.take j).length
          · rw [List.getElem?_append_left e] at hi
            exact HX.out.1 i m hi hm
          · rw [List.getElem?_append_right (by omega)] at hi
            have : i - (ins.take j).length = 0 := by
              have := (List.getElem?_eq_some_iff.1 hi).1
              simp at this
              simpa using this
            rw [this] at hi
            simp at hi
            exact absurd hi.symm hm
        case measure => simp [intOf]; omega
      · obtain ⟨k, rfl, hk⟩ : ∃ k : Nat, x = k ∧ k < ts.length := by
          rcases HIN.out x HS.out.2.2 with e | ⟨e1, e2⟩
          · exact absurd e hx1
          · obtain ⟨k, rfl⟩ := Int.eq_ofNat_of_zero_le e1
            exact ⟨k, rfl, by omega⟩
        obtain ⟨tb, htb⟩ : ∃ tb, ts[k]? = some tb := ⟨_, List.getElem?_eq_getElem hk⟩
        obtain ⟨imt, Rt, hDt⟩ := HY.out.env tb (List.mem_of_getElem? htb)
        have HTB := Lib.hid (And.intro htb hDt)
        have x0 : ((k : Int) == -1) = false := beq_eq_false_iff_ne.2 (by omega)
        obtain ⟨wD, hwD⟩ : ∃ wD, wr.drew = wD := ⟨_, rfl⟩
        have SD : Hid (Still w wD) := by rw [← hwD]; exact ht.drew
        have hTc := (SD.out.blk HT.out).cell 0
        have hTl := (SD.out.blk HT.out).lt
        have hYc := (HY.out.still SD.out).box.cell 0
        have hYl := (HY.out.still SD.out).box.lt
        have hYr := (HY.out.still SD.out).row k tb htb
        have hrl := (HY.out.still SD.out).lt
        have HTY := Lib.hid (typed_any (HH.out.keep SD.out (fun e => e) (fun e => e)) (j : Int))
        have henter : ∀ (args : Array Value) (W : World), (callFunc 84 args).run Tryz.prog W = .ok (.enter 84 args) W := enters_of Tryz.func84 (by kernel_rfl) rfl
        have hki : (k : Int) < ts.length := by omega
        clear htb hDt ht
        go_wp2_with fail
        refine wp_region_held_drew (S := fun W => W.cell? ⟨T, 0, none⟩ = some (.func (.func 84) #[] #[.pointer (some ⟨N, 0, none⟩)]) ∧ W.cell? ⟨Y, 0, none⟩ = some (.slice (some ⟨yr, 0, none⟩) ts.length yc) ∧ W.cell? ⟨yr, k, none⟩ = some (.pointer (some ⟨tb, 0, none⟩))) (by kernel_rfl) (by rw [hwD]; exact ⟨hTc, hYc, hYr⟩) (fun hHeld => ?_)
        try simp only [Act.put, List.getElem_toArray, List.getElem_cons_succ, List.getElem_cons_zero, List.setIfInBounds_toArray, List.set_cons_zero, List.set_cons_succ]
        rw [hwD] at hHeld ⊢
        clear hwD
        refine wpAnyH_take (i := 0) (v := ?_) rfl (by kernel_rfl) (by kernel_rfl) (by kernel_rfl) (fun _ _ _ h => h) (Or.inl ⟨by rfl, ?_⟩) (by assumption) ?_
        rotate_left
        · intro w hSw; (try dsimp only at hSw); go_simp; try with_reducible rfl
        try simp only [Act.put, List.getElem_toArray, List.getElem_cons_succ, List.getElem_cons_zero, List.setIfInBounds_toArray, List.set_cons_zero, List.set_cons_succ]
        refine wpAnyH_take (i := 1) (v := ?_) rfl (by kernel_rfl) (by kernel_rfl) (by kernel_rfl) (fun _ _ _ h => h) (Or.inl ⟨by rfl, ?_⟩) (by assumption) ?_
        rotate_left
        · intro w hSw; (try dsimp only at hSw); go_simp; try with_reducible rfl
        try simp only [Act.put, List.getElem_toArray, List.getElem_cons_succ, List.getElem_cons_zero, List.setIfInBounds_toArray, List.set_cons_zero, List.set_cons_succ]
        refine wpAnyH_take (i := 3) (v := ?_) rfl (by kernel_rfl) (by kernel_rfl) (by kernel_rfl) (fun _ _ _ h => h) (Or.inl ⟨by rfl, ?_⟩) (by assumption) ?_
        rotate_left
        · intro w hSw; (try dsimp only at hSw); go_simp; try with_reducible rfl
        try simp only [Act.put, List.getElem_toArray, List.getElem_cons_succ, List.getElem_cons_zero, List.setIfInBounds_toArray, List.set_cons_zero, List.set_cons_succ]
        refine wpAnyH_take (i := 4) (v := ?_) rfl (by kernel_rfl) (by kernel_rfl) (by kernel_rfl) (fun _ _ _ h => h) (Or.inl ⟨by rfl, ?_⟩) (by assumption) ?_
        rotate_left
        · intro w hSw; (try dsimp only at hSw); go_simp; try with_reducible rfl
        try simp only [Act.put, List.getElem_toArray, List.getElem_cons_succ, List.getElem_cons_zero, List.setIfInBounds_toArray, List.set_cons_zero, List.set_cons_succ]
        refine wpAnyH_take (i := 5) (v := ?_) rfl (by kernel_rfl) (by kernel_rfl) (by kernel_rfl) (fun _ _ _ h => h) (Or.inl ⟨by rfl, ?_⟩) (by assumption) ?_
        rotate_left
        · intro w hSw; (try dsimp only at hSw); go_simp; try with_reducible rfl
        try simp only [Act.put, List.getElem_toArray, List.getElem_cons_succ, List.getElem_cons_zero, List.setIfInBounds_toArray, List.set_cons_zero, List.set_cons_succ]
        refine wpAnyH_take (i := 6) (v := ?_) rfl (by kernel_rfl) (by kernel_rfl) (by kernel_rfl) (fun _ _ _ h => h) (Or.inl ⟨by rfl, ?_⟩) (by assumption) ?_
        rotate_left
        · intro w hSw; (try dsimp only at hSw); go_simp; try with_reducible rfl
        try simp only [Act.put, List.getElem_toArray, List.getElem_cons_succ, List.getElem_cons_zero, List.setIfInBounds_toArray, List.set_cons_zero, List.set_cons_succ]
        refine wpAnyH_ready (rs := [2]) (by kernel_rfl) (by simp) ?_
        refine AllReadyH.cons rfl (fun K hK => ?_) AllReadyH.nil
        go_simp
        refine HTY.out.mono ?_; rintro e w5 ⟨⟨b, hb5, rfl⟩ | ⟨h5, rfl⟩, rfl⟩
        rotate_left
        · refine ⟨rfl, SD.out, .inr ⟨fun e => ?_, rfl⟩⟩
          obtain ⟨b, e1, _⟩ := e j k HS.out.1 (by omega)
          rw [h5] at e1
          cases e1
        have HB5 := Lib.hid hb5
        obtain ⟨imb, Rb, hDb⟩ := HD.out b (slot_mem hb5)
        have HDB := Lib.hid hDb
        have HW := Lib.hid (within_any ((HE.out.still SD.out).at_ b imb Rb hDb) ((HE.out.still SD.out).at_ tb imt Rt HTB.out.2))
        have hSl : T < w5.heap.size ∧ Y < w5.heap.size ∧ yr < w5.heap.size := ⟨hTl, hYl, hrl⟩
        clear hb5 hDb
        refine hK.out _ _ hHeld (fun hHeld => ?_)
        clear hK K
        refine wpAnyH_ready (rs := [7]) (by kernel_rfl) (by simp) ?_
        refine AllReadyH.cons rfl (fun K hK => ?_) AllReadyH.nil
        go_simp
        refine HW.out.mono ?_; rintro e w6 ⟨rb, rfl, hrb, t6⟩
        have HRB := Lib.hid hrb
        have T6 := Lib.hid t6
        have hH6 : w6.cell? ⟨T, 0, none⟩ = some (.func (.func 84) #[] #[.pointer (some ⟨N, 0, none⟩)]) ∧ w6.cell? ⟨Y, 0, none⟩ = some (.slice (some ⟨yr, 0, none⟩) ts.length yc) ∧ w6.cell? ⟨yr, k, none⟩ = some (.pointer (some ⟨tb, 0, none⟩)) := ⟨(t6.cell (p := ⟨T, 0, none⟩) hSl.1).trans hHeld.1, (t6.cell (p := ⟨Y, 0, none⟩) hSl.2.1).trans hHeld.2.1, (t6.cell (p := ⟨yr, k, none⟩) hSl.2.2).trans hHeld.2.2⟩
        clear hrb t6 hHeld
        refine hK.out _ _ hH6 (fun hHeld => ?_)
        clear hK K
        refine wpAnyH_ready (rs := [8]) (by kernel_rfl) (by simp) ?_
        refine AllReadyH.cons rfl (fun K hK => ?_) AllReadyH.nil
        go_simp
        cases rb with
        | false =>
          refine (need_no _).mono ?_; rintro e w7 ⟨rfl, rfl⟩
          refine ⟨rfl, SD.out.trans T6.out, .inr ⟨fun e => ?_, rfl⟩⟩
          obtain ⟨b', e1, t, e2, e3⟩ := e j k HS.out.1 (by omega)
          rw [HB5.out] at e1
          obtain rfl := Option.some.inj e1
          rw [Int.toNat_natCast, HTB.out.1] at e2
          obtain rfl := Option.some.inj e2
          exact absurd (HRB.out.2 (e3 imb Rb imt Rt HDB.out HTB.out.2)) (by decide)
        | true =>
          refine (need_yes _).mono ?_; rintro e w7 ⟨rfl, rfl⟩
          refine hK.out _ _ hHeld (fun hHeld => ?_)
          clear hK K
          refine wpAnyH_done (by kernel_rfl) ?_ _
          clear hHeld hH6
          have hlt := HLT.out
          go_wp2_with fail
          go_roundw
          case rel =>
            refine ⟨j + 1, by go_num, by omega, fun i m hi hm => ?_, SD.out.trans T6.out⟩
            rw [HS.out.2.1] at hi
            by_cases e : i < (ins.take j).length
            · rw [List.getElem?_append_left e] at hi
              exact HX.out.1 i m hi hm
            · rw [List.getElem?_append_right (by omega)] at hi
              have h0 : i - (ins.take j).length = 0 := by
                have := (List.getElem?_eq_some_iff.1 hi).1
                simp at this
                simpa using this
              have hij : i = j := by rw [List.length_take] at h0 e; have := HLEN.out; omega
              rw [h0] at hi
              simp at hi
              subst hij
              subst hi
              refine ⟨b, HB5.out, tb, by rw [Int.toNat_natCast]; exact HTB.out.1, fun im R im' R' e1 e2 => ?_⟩
              rw [HDB.out] at e1
              rw [HTB.out.2] at e2
              cases e1
              cases e2
              exact HRB.out.1 (by first | rfl | trivial)
          case measure => simp [intOf]; omega
    · obtain rfl : j = n := by omega
      have x0 : decide ((j : Int) < j) = false := decide_eq_false (by omega)
      have x1 : decide (j < j) = false := decide_eq_false (by omega)
      clear hlt ht
      go_wp2_with fail
      go_end0
      refine ⟨HX.out.2, .inl ⟨?_, rfl⟩⟩
      have := HX.out.1
      rwa [List.take_of_length_le (by rw [HLEN.out]; exact Nat.le_refl _)] at this
end Go.Proofs.YtglalgjffkoneaaGreatDoor
/- The types that slots have at a block's beginning. -/
namespace Go.Proofs.YtglalgjffkoneaaGreatDoor
set_option linter.unusedVariables false
set_option linter.unusedSimpArgs false
open Go.ChangeShapes Go.WideShapes Go.ChangeAt Go.RowKit
def beginL (ts : List Nat) (ins : List Int) : List (Option Nat) := ins.map fun n => if n = -1 then none else ts[n.toNat]?
/-- The first j are laid. -/
def beginP (ts : List Nat) (ins : List Int) (n j : Nat) : List (Option Nat) := beginL ts (ins.take j) ++ List.replicate (n - j) none
theorem beginP_len (ts : List Nat) (ins : List Int) (n j : Nat) (hj : j ≤ n) (hl : ins.length = n) : (beginP ts ins n j).length = n := by
  unfold beginP beginL
  rw [List.length_append, List.length_map, List.length_take, List.length_replicate]
  omega
theorem beginP_step (ts : List Nat) (ins : List Int) (n j : Nat) (hj : j < n) (hl : ins.length = n) {x : Int} (hx : ins[j]? = some x) : beginP ts ins n (j + 1) = (beginP ts ins n j).set j (if x = -1 then none else ts[x.toNat]?) := by
  have hA : (beginL ts (ins.take j)).length = j := by unfold beginL; rw [List.length_map, List.length_take]; omega
  unfold beginP
  rw [List.set_append_right (h := by omega), hA, Nat.sub_self, List.take_add_one, hx, show n - j = (n - (j + 1)) + 1 by omega, List.replicate_succ, List.set_cons_zero]
  unfold beginL
  simp
theorem beginP_none (ts : List Nat) (ins : List Int) (n j : Nat) (hj : j < n) (hl : ins.length = n) (hx : ins[j]? = some (-1)) : beginP ts ins n (j + 1) = beginP ts ins n j := by
  rw [beginP_step ts ins n j hj hl hx, if_pos rfl]
  have hA : (beginL ts (ins.take j)).length = j := by unfold beginL; rw [List.length_map, List.length_take]; omega
  have h1 : (beginP ts ins n j)[j]? = some none := by
    unfold beginP
    rw [List.getElem?_append_right (by omega), hA, Nat.sub_self, show n - j = (n - (j + 1)) + 1 by omega, List.replicate_succ]
    rfl
  apply List.ext_getElem?
  intro i
  by_cases e : j = i
  · subst e
    rw [List.getElem?_set_self (by have := beginP_len ts ins n j (by omega) hl; omega), h1]
  · rw [List.getElem?_set_ne e]
theorem beginP_some (ts : List Nat) (ins : List Int) (n j : Nat) (hj : j < n) (hl : ins.length = n) {x : Int} (hx : ins[j]? = some x) (h1 : ¬ x = -1) : beginP ts ins n (j + 1) = (beginP ts ins n j).set j (ts[x.toNat]?) := by
  rw [beginP_step ts ins n j hj hl hx, if_neg h1]
/-- The view that begin makes: its five closures over the slots' variable N, that of typed T and that of the types Y. -/
def viewV (N T Y : Nat) : List Value := [.func (.func 84) #[] #[.pointer (some ⟨N, 0, none⟩)], .func (.func 86) #[] #[.pointer (some ⟨N, 0, none⟩)], .func (.func 87) #[] #[.pointer (some ⟨N, 0, none⟩)], .func (.func 88) #[] #[.pointer (some ⟨N, 0, none⟩), .pointer (some ⟨T, 0, none⟩)], .func (.func 89) #[] #[.pointer (some ⟨T, 0, none⟩), .pointer (some ⟨Y, 0, none⟩)]]
structure ViewAt (w : World) (D : Nat → Option (Bool × (Nat → Nat))) (N r T Y yr yc : Nat) (l : List (Option Nat)) (ts : List Nat) : Prop where
  now : NowAt w N r l
  typed : Blk w T 60 #[.func (.func 84) #[] #[.pointer (some ⟨N, 0, none⟩)]]
  types : TypesAt w D Y yr yc ts
  ne : T ≠ N ∧ N ≠ r ∧ T ≠ r ∧ Y ≠ N ∧ Y ≠ r ∧ yr ≠ N ∧ yr ≠ r
def BeginR (D : Nat → Option (Bool × (Nat → Nat))) (yr yc : Nat) (ts : List Nat) (ins : List Int) (w : World) (e : Ending) (w' : World) : Prop :=
  ∃ N r T Y, e = .returned (.agg #[.func (.func 84) #[] #[.pointer (some ⟨N, 0, none⟩)], .func (.func 86) #[] #[.pointer (some ⟨N, 0, none⟩)], .func (.func 87) #[] #[.pointer (some ⟨N, 0, none⟩)], .func (.func 88) #[] #[.pointer (some ⟨N, 0, none⟩), .pointer (some ⟨T, 0, none⟩)], .func (.func 89) #[] #[.pointer (some ⟨T, 0, none⟩), .pointer (some ⟨Y, 0, none⟩)]]) ∧ ViewAt w' D N r T Y yr yc (beginL ts ins) ts ∧ w.heap.size ≤ N ∧ w.heap.size ≤ r ∧ w.heap.size ≤ T ∧ w.heap.size ≤ Y ∧ Still w w'
set_option maxRecDepth 100000 in
set_option maxHeartbeats 4000000 in
theorem begin_any {B : Nat} {w : World} {D : Nat → Option (Bool × (Nat → Nat))} {yr yc : Nat} {ts : List Nat} (hyr : ∀ k b, ts[k]? = some b → w.cell? ⟨yr, k, none⟩ = some (.pointer (some ⟨b, 0, none⟩))) (hyl : yr < w.heap.size) (henv : ∀ b ∈ ts, ∃ im R, D b = some (im, R)) (hts : ts.length ≤ 1024) {a : Option Addr} {n c : Nat} {ins : List Int} (hl : Ints B w a n ins) (hn : n ≤ 1000) (hB : B ≤ w.heap.size) (hin : ∀ x ∈ ins, x = -1 ∨ 0 ≤ x ∧ x < ts.length) :
    Calls Tryz.prog 57 #[.slice (some ⟨yr, 0, none⟩) ts.length yc, .slice a n c] w (BeginR D yr yc ts ins w) := by
  have hmf : ∀ (fn : Fn) (first cap : Array Value) (w : World), (Instr.makeFunc fn first cap).run Tryz.prog w = .ok (.func fn first cap) w := fun _ _ _ _ => rfl
  have hsf : ∀ (a : Addr) (fn : Fn) (x y : Array Value) (m : Mode) (w : World), (store a (.func fn x y) m).run Tryz.prog w = stored Tryz.prog w a (.func fn x y) m := fun _ _ _ _ _ _ => run_store _ _ _ _ _ rfl
  have hmk := fun W => run_make_ptrs n hn W
  have HYR := Lib.hid (And.intro hyr (And.intro hyl (And.intro henv hts)))
  have HL := Lib.hid hl
  have HLEN := Lib.hid hl.len
  have HIN := Lib.hid hin
  clear hyr henv hl hin
  go_enter Tryz.func57, Tryz.ntmps57
  go_wp2_with fail
  have G : Hid (Blk ((((w.alloc (.cells #[.slice (some ⟨yr, 0, none⟩) ts.length yc] 58)).alloc (.cells #[Value.nilFunc, Value.nilFunc, Value.nilFunc, Value.nilFunc, Value.nilFunc] 65)).alloc (.cells (Array.replicate n (Value.pointer none)) 59)).alloc (.cells #[.slice (some ⟨w.heap.size + 1 + 1, 0, none⟩) n n] 58)) w.heap.size 58 #[.slice (some ⟨yr, 0, none⟩) ts.length yc] ∧ Blk ((((w.alloc (.cells #[.slice (some ⟨yr, 0, none⟩) ts.length yc] 58)).alloc (.cells #[Value.nilFunc, Value.nilFunc, Value.nilFunc, Value.nilFunc, Value.nilFunc] 65)).alloc (.cells (Array.replicate n (Value.pointer none)) 59)).alloc (.cells #[.slice (some ⟨w.heap.size + 1 + 1, 0, none⟩) n n] 58)) (w.heap.size + 1) 65 #[Value.nilFunc, Value.nilFunc, Value.nilFunc, Value.nilFunc, Value.nilFunc] ∧ Blk ((((w.alloc (.cells #[.slice (some ⟨yr, 0, none⟩) ts.length yc] 58)).alloc (.cells #[Value.nilFunc, Value.nilFunc, Value.nilFunc, Value.nilFunc, Value.nilFunc] 65)).alloc (.cells (Array.replicate n (Value.pointer none)) 59)).alloc (.cells #[.slice (some ⟨w.heap.size + 1 + 1, 0, none⟩) n n] 58)) (w.heap.size + 1 + 1) 59 (Array.replicate n (Value.pointer none)) ∧ Blk ((((w.alloc (.cells #[.slice (some ⟨yr, 0, none⟩) ts.length yc] 58)).alloc (.cells #[Value.nilFunc, Value.nilFunc, Value.nilFunc, Value.nilFunc, Value.nilFunc] 65)).alloc (.cells (Array.replicate n (Value.pointer none)) 59)).alloc (.cells #[.slice (some ⟨w.heap.size + 1 + 1, 0, none⟩) n n] 58)) (w.heap.size + 1 + 1 + 1) 58 #[.slice (some ⟨w.heap.size + 1 + 1, 0, none⟩) n n] ∧ Still w ((((w.alloc (.cells #[.slice (some ⟨yr, 0, none⟩) ts.length yc] 58)).alloc (.cells #[Value.nilFunc, Value.nilFunc, Value.nilFunc, Value.nilFunc, Value.nilFunc] 65)).alloc (.cells (Array.replicate n (Value.pointer none)) 59)).alloc (.cells #[.slice (some ⟨w.heap.size + 1 + 1, 0, none⟩) n n] 58))) := by
    refine ⟨(((Blk.new w _ _).alloc _).alloc _).alloc _, ?_, ?_, ?_, ((((Still.refl w).alloc _).alloc _).alloc _).alloc _⟩
    · have := Blk.new (w.alloc (.cells #[.slice (some ⟨yr, 0, none⟩) ts.length yc] 58)) 65 #[Value.nilFunc, Value.nilFunc, Value.nilFunc, Value.nilFunc, Value.nilFunc]
      rw [show (w.alloc (.cells #[.slice (some ⟨yr, 0, none⟩) ts.length yc] 58)).heap.size = w.heap.size + 1 by simp] at this
      exact (this.alloc _).alloc _
    · have := Blk.new ((w.alloc (.cells #[.slice (some ⟨yr, 0, none⟩) ts.length yc] 58)).alloc (.cells #[Value.nilFunc, Value.nilFunc, Value.nilFunc, Value.nilFunc, Value.nilFunc] 65)) 59 (Array.replicate n (Value.pointer none))
      rw [show ((w.alloc (.cells #[.slice (some ⟨yr, 0, none⟩) ts.length yc] 58)).alloc (.cells #[Value.nilFunc, Value.nilFunc, Value.nilFunc, Value.nilFunc, Value.nilFunc] 65)).heap.size = w.heap.size + 1 + 1 by simp] at this
      exact this.alloc _
    · have := Blk.new (((w.alloc (.cells #[.slice (some ⟨yr, 0, none⟩) ts.length yc] 58)).alloc (.cells #[Value.nilFunc, Value.nilFunc, Value.nilFunc, Value.nilFunc, Value.nilFunc] 65)).alloc (.cells (Array.replicate n (Value.pointer none)) 59)) 58 #[.slice (some ⟨w.heap.size + 1 + 1, 0, none⟩) n n]
      rwa [show (((w.alloc (.cells #[.slice (some ⟨yr, 0, none⟩) ts.length yc] 58)).alloc (.cells #[Value.nilFunc, Value.nilFunc, Value.nilFunc, Value.nilFunc, Value.nilFunc] 65)).alloc (.cells (Array.replicate n (Value.pointer none)) 59)).heap.size = w.heap.size + 1 + 1 + 1 by simp] at this
  clear hmk
  generalize ((((w.alloc (.cells #[.slice (some ⟨yr, 0, none⟩) ts.length yc] 58)).alloc (.cells #[Value.nilFunc, Value.nilFunc, Value.nilFunc, Value.nilFunc, Value.nilFunc] 65)).alloc (.cells (Array.replicate n (Value.pointer none)) 59)).alloc (.cells #[.slice (some ⟨w.heap.size + 1 + 1, 0, none⟩) n n] 58)) = w3 at G ⊢
  obtain ⟨N, hN⟩ : ∃ N, w.heap.size + 1 + 1 + 1 = N := ⟨_, rfl⟩
  obtain ⟨r, hr⟩ : ∃ r, w.heap.size + 1 + 1 = r := ⟨_, rfl⟩
  obtain ⟨Z, hZ⟩ : ∃ Z, w.heap.size + 1 = Z := ⟨_, rfl⟩
  obtain ⟨Y, hY⟩ : ∃ Y, w.heap.size = Y := ⟨_, rfl⟩
  have HNUM : Hid (w.heap.size = Y ∧ Z = Y + 1 ∧ r = Y + 2 ∧ N = Y + 3) := ⟨hY, by omega, by omega, by omega⟩
  rw [hN, hr, hZ, hY] at G
  rw [hN, hr, hZ, hY]
  clear hN hr hZ hY
  have L0 : Hid (NowAt w3 N r (beginP ts ins n 0)) := ⟨by rw [beginP_len ts ins n 0 (Nat.zero_le _) HLEN.out]; exact G.out.2.2.2.1, by rw [show ((beginP ts ins n 0).map ptrV).toArray = Array.replicate n (Value.pointer none) by simp [beginP, beginL, ptrV]]; exact G.out.2.2.1, by rw [beginP_len ts ins n 0 (Nat.zero_le _) HLEN.out]; exact hn⟩
  go_loopw [6, 7, 18] (fun _ _ z18 wr => ∃ j : Nat, z18 = .int .i64 j ∧ j ≤ n ∧ NowAt wr N r (beginP ts ins n j) ∧ Turn (fun j => j = r) w3 wr) (fun _ _ z18 _ => n - (intOf z18).toNat)
  case atStart => exact ⟨0, rfl, Nat.zero_le _, L0.out, Turn.refl _ _⟩
  case round =>
    obtain ⟨j, rfl, hj, hnow, ht⟩ := hrel
    have HX := Lib.hid (And.intro hnow ht)
    clear hnow
    by_cases hlt : j < n
    · obtain ⟨b0, off, rfl, hb, hc⟩ := ints_cell HL.out (by omega)
      have hjl : j < ins.length := by have := HLEN.out; omega
      obtain ⟨x, hx⟩ : ∃ x, ins.getD j 0 = x := ⟨_, rfl⟩
      have hxe : ins[j]? = some x := by rw [← hx]; simp [List.getD, List.getElem?_eq_getElem hjl]
      have hs3 := G.out.2.2.2.2.size
      have d0 : wr.cell? ⟨b0, off + j, none⟩ = some (.int .i64 x) := (ht.cell (p := ⟨b0, off + j, none⟩) (by have := HNUM.out; show b0 < w3.heap.size; omega) (by have := HNUM.out; show ¬ b0 = r; omega)).trans ((G.out.2.2.2.2.cell (p := ⟨b0, off + j, none⟩) (by have := HNUM.out; show b0 < w.heap.size; omega)).trans (by rw [← hx]; exact hc j hlt))
      have hbl : b0 < wr.heap.size := by have := ht.size; omega
      have HS : Hid (ins[j]? = some x ∧ x ∈ ins) := ⟨hxe, List.mem_of_getElem? hxe⟩
      have HLT := Lib.hid hlt
      clear hc hx hxe
      by_cases hx1 : x = -1
      · subst hx1
        clear ht
        go_wp2_with fail
        go_roundw
        case rel => exact ⟨j + 1, by go_num, by omega, by rw [beginP_none ts ins n j HLT.out HLEN.out HS.out.1]; exact HX.out.1, HX.out.2⟩
        case measure => simp [intOf]; omega
      · obtain ⟨k, rfl, hk⟩ : ∃ k : Nat, x = k ∧ k < ts.length := by
          rcases HIN.out x HS.out.2 with e | ⟨e1, e2⟩
          · exact absurd e hx1
          · obtain ⟨k, rfl⟩ := Int.eq_ofNat_of_zero_le e1
            exact ⟨k, rfl, by omega⟩
        obtain ⟨tb, htb⟩ : ∃ tb, ts[k]? = some tb := ⟨_, List.getElem?_eq_getElem hk⟩
        have HTB := Lib.hid htb
        have x0 : ((k : Int) == -1) = false := beq_eq_false_iff_ne.2 (by omega)
        have hki : (k : Int) < ts.length := by omega
        have hyl2 := HYR.out.2.1
        have hts2 := HYR.out.2.2.2
        obtain ⟨wD, hwD⟩ : ∃ wD, wr.drew = wD := ⟨_, rfl⟩
        have SD : Hid (Still wr wD) := by rw [← hwD]; exact (Still.refl wr).drew
        have NW : Hid (NowAt wD N r (beginP ts ins n j)) := HX.out.1.keep SD.out (fun e => e) (fun e => e)
        have hNc := NW.out.box.cell 0
        rw [beginP_len ts ins n j (by omega) HLEN.out] at hNc
        have hNl := NW.out.box.lt
        have hYc : wD.cell? ⟨Y, 0, none⟩ = some (.slice (some ⟨yr, 0, none⟩) ts.length yc) := (SD.out.blk (G.out.1.keep ht (by have := HNUM.out; omega))).cell 0
        have hYl := (SD.out.blk (G.out.1.keep ht (by have := HNUM.out; omega))).lt
        have hyc : wD.cell? ⟨yr, k, none⟩ = some (.pointer (some ⟨tb, 0, none⟩)) := (SD.out.cell (p := ⟨yr, k, none⟩) (by have := ht.size; show yr < wr.heap.size; omega)).trans ((ht.cell (p := ⟨yr, k, none⟩) (by have := HNUM.out; show yr < w3.heap.size; omega) (by have := HNUM.out; show ¬ yr = r; omega)).trans ((G.out.2.2.2.2.cell (p := ⟨yr, k, none⟩) hyl2).trans (HYR.out.1 k tb htb)))
        have hyrl : yr < wD.heap.size := by have := SD.out.size; have := ht.size; omega
        have hrf := NW.out.row.frozen j
        have hrl := NW.out.row.lt
        obtain ⟨old, hold⟩ : ∃ old, wD.cell? ⟨r, j, none⟩ = some old := by
          rw [NW.out.row.cell j]
          have : j < (beginP ts ins n j).length := by rw [beginP_len ts ins n j (by omega) HLEN.out]; exact hlt
          exact ⟨_, by simp [List.getElem?_eq_getElem this]; rfl⟩
        have hji : (j : Int) < n := by omega
        have hne1 : N ≠ r ∧ Y ≠ r ∧ yr ≠ r := ⟨by have := HNUM.out; omega, by have := HNUM.out; omega, by have := HNUM.out; omega⟩
        clear ht htb
        go_wp2_with fail
        refine wp_region_held_drew (S := fun W => W.cell? ⟨N, 0, none⟩ = some (.slice (some ⟨r, 0, none⟩) n n) ∧ W.cell? ⟨Y, 0, none⟩ = some (.slice (some ⟨yr, 0, none⟩) ts.length yc) ∧ W.cell? ⟨yr, k, none⟩ = some (.pointer (some ⟨tb, 0, none⟩))) (by kernel_rfl) (by rw [hwD]; exact ⟨hNc, hYc, hyc⟩) (fun hHeld => ?_)
        try simp only [Act.put, List.getElem_toArray, List.getElem_cons_succ, List.getElem_cons_zero, List.setIfInBounds_toArray, List.set_cons_zero, List.set_cons_succ]
        rw [hwD] at hHeld ⊢
        clear hwD
        refine wpAnyH_take (i := 0) (v := ?_) rfl (by kernel_rfl) (by kernel_rfl) (by kernel_rfl) (fun _ _ _ h => h) (Or.inl ⟨by rfl, ?_⟩) (by assumption) ?_
        rotate_left
        · intro w hSw; (try dsimp only at hSw); go_simp; try with_reducible rfl
        try simp only [Act.put, List.getElem_toArray, List.getElem_cons_succ, List.getElem_cons_zero, List.setIfInBounds_toArray, List.set_cons_zero, List.set_cons_succ]
        refine wpAnyH_take (i := 1) (v := ?_) rfl (by kernel_rfl) (by kernel_rfl) (by kernel_rfl) (fun _ _ _ h => h) (Or.inl ⟨by rfl, ?_⟩) (by assumption) ?_
        rotate_left
        · intro w hSw; (try dsimp only at hSw); go_simp; try with_reducible rfl
        try simp only [Act.put, List.getElem_toArray, List.getElem_cons_succ, List.getElem_cons_zero, List.setIfInBounds_toArray, List.set_cons_zero, List.set_cons_succ]
        refine wpAnyH_take (i := 2) (v := ?_) rfl (by kernel_rfl) (by kernel_rfl) (by kernel_rfl) (fun _ _ _ h => h) (Or.inl ⟨by rfl, ?_⟩) (by assumption) ?_
        rotate_left
        · intro w hSw; (try dsimp only at hSw); go_simp; try with_reducible rfl
        try simp only [Act.put, List.getElem_toArray, List.getElem_cons_succ, List.getElem_cons_zero, List.setIfInBounds_toArray, List.set_cons_zero, List.set_cons_succ]
        refine wpAnyH_take (i := 3) (v := ?_) rfl (by kernel_rfl) (by kernel_rfl) (by kernel_rfl) (fun _ _ _ h => h) (Or.inl ⟨by rfl, ?_⟩) (by assumption) ?_
        rotate_left
        · intro w hSw; (try dsimp only at hSw); go_simp; try with_reducible rfl
        try simp only [Act.put, List.getElem_toArray, List.getElem_cons_succ, List.getElem_cons_zero, List.setIfInBounds_toArray, List.set_cons_zero, List.set_cons_succ]
        refine wpAnyH_take (i := 4) (v := ?_) rfl (by kernel_rfl) (by kernel_rfl) (by kernel_rfl) (fun _ _ _ h => h) (Or.inl ⟨by rfl, ?_⟩) (by assumption) ?_
        rotate_left
        · intro w hSw; (try dsimp only at hSw); go_simp; try with_reducible rfl
        try simp only [Act.put, List.getElem_toArray, List.getElem_cons_succ, List.getElem_cons_zero, List.setIfInBounds_toArray, List.set_cons_zero, List.set_cons_succ]
        refine wpAnyH_take (i := 5) (v := ?_) rfl (by kernel_rfl) (by kernel_rfl) (by kernel_rfl) (fun _ _ _ h => h) (Or.inl ⟨by rfl, ?_⟩) (by assumption) ?_
        rotate_left
        · intro w hSw; (try dsimp only at hSw); go_simp; try with_reducible rfl
        try simp only [Act.put, List.getElem_toArray, List.getElem_cons_succ, List.getElem_cons_zero, List.setIfInBounds_toArray, List.set_cons_zero, List.set_cons_succ]
        refine wpAnyH_take (i := 6) (v := ?_) rfl (by kernel_rfl) (by kernel_rfl) (by kernel_rfl) (fun _ _ _ h => h) (Or.inl ⟨by rfl, ?_⟩) (by assumption) ?_
        rotate_left
        · intro w hSw; (try dsimp only at hSw); go_simp; try with_reducible rfl
        try simp only [Act.put, List.getElem_toArray, List.getElem_cons_succ, List.getElem_cons_zero, List.setIfInBounds_toArray, List.set_cons_zero, List.set_cons_succ]
        refine wpAnyH_ready (rs := [7]) (by kernel_rfl) (by simp) ?_
        refine AllReadyH.cons rfl (fun K hK => ?_) AllReadyH.nil
        go_simp
        have TR : Turn (fun j => j = r) wD (wD.setCell ⟨r, j, none⟩ (.pointer (some ⟨tb, 0, none⟩))) := (Turn.refl (fun j => j = r) wD).setCell (p := ⟨r, j, none⟩) (fun _ => rfl) _
        refine hK.out _ _ ⟨(TR.cell (p := ⟨N, 0, none⟩) hNl hne1.1).trans hNc, (TR.cell (p := ⟨Y, 0, none⟩) hYl hne1.2.1).trans hYc, (TR.cell (p := ⟨yr, k, none⟩) hyrl hne1.2.2).trans hyc⟩ (fun hHeld => ?_)
        clear hK K
        refine wpAnyH_done (by kernel_rfl) ?_ _
        clear hHeld
        have hlt := HLT.out
        go_wp2_with fail
        go_roundw
        case rel =>
          refine ⟨j + 1, by go_num, by omega, ?_, ((HX.out.2.trans SD.out.turn).trans TR)⟩
          rw [beginP_some ts ins n j HLT.out HLEN.out HS.out.1 hx1]
          rw [Int.toNat_natCast, HTB.out]
          exact NW.out.put (by omega) j (some tb)
        case measure => simp [intOf]; omega
    · obtain rfl : j = n := by omega
      have x0 : decide ((j : Int) < j) = false := decide_eq_false (by omega)
      have x1 : decide (j < j) = false := decide_eq_false (by omega)
      have hZb := G.out.2.1.keep ht (by have := HNUM.out; omega)
      have z0 := hZb.cell 0
      have z1 := hZb.cell 1
      have z2 := hZb.cell 2
      have z3 := hZb.cell 3
      have z4 := hZb.cell 4
      have v0 := hZb.frozen 0
      have v1 := hZb.frozen 1
      have v2 := hZb.frozen 2
      have v3 := hZb.frozen 3
      have v4 := hZb.frozen 4
      have zl := hZb.lt
      have HZ := Lib.hid hZb
      clear hlt ht hZb
      go_wp2_with fail
      have hnum := HNUM.out
      have TZ : Turn (fun j => j = Z) wr ((((((wr.setCell ⟨Z, 0, none⟩ (Value.func (.func 84) #[] #[Value.pointer (some ⟨N, 0, none⟩)])).setCell ⟨Z, 1, none⟩ (Value.func (.func 86) #[] #[Value.pointer (some ⟨N, 0, none⟩)])).setCell ⟨Z, 2, none⟩ (Value.func (.func 87) #[] #[Value.pointer (some ⟨N, 0, none⟩)])).setCell ⟨Z, 3, none⟩ (Value.func (.func 88) #[] #[Value.pointer (some ⟨N, 0, none⟩), Value.pointer (some ⟨wr.heap.size, 0, none⟩)])).setCell ⟨Z, 4, none⟩ (Value.func (.func 89) #[] #[Value.pointer (some ⟨wr.heap.size, 0, none⟩), Value.pointer (some ⟨Y, 0, none⟩)])).alloc (.cells #[(Value.func (.func 84) #[] #[Value.pointer (some ⟨N, 0, none⟩)])] 60)) := ((((((Turn.refl (fun j => j = Z) wr).setCell (p := ⟨Z, 0, none⟩) (fun _ => rfl) _).setCell (p := ⟨Z, 1, none⟩) (fun _ => rfl) _).setCell (p := ⟨Z, 2, none⟩) (fun _ => rfl) _).setCell (p := ⟨Z, 3, none⟩) (fun _ => rfl) _).setCell (p := ⟨Z, 4, none⟩) (fun _ => rfl) _).alloc _
      have hb : Blk ((((((wr.setCell ⟨Z, 0, none⟩ (Value.func (.func 84) #[] #[Value.pointer (some ⟨N, 0, none⟩)])).setCell ⟨Z, 1, none⟩ (Value.func (.func 86) #[] #[Value.pointer (some ⟨N, 0, none⟩)])).setCell ⟨Z, 2, none⟩ (Value.func (.func 87) #[] #[Value.pointer (some ⟨N, 0, none⟩)])).setCell ⟨Z, 3, none⟩ (Value.func (.func 88) #[] #[Value.pointer (some ⟨N, 0, none⟩), Value.pointer (some ⟨wr.heap.size, 0, none⟩)])).setCell ⟨Z, 4, none⟩ (Value.func (.func 89) #[] #[Value.pointer (some ⟨wr.heap.size, 0, none⟩), Value.pointer (some ⟨Y, 0, none⟩)])).alloc (.cells #[(Value.func (.func 84) #[] #[Value.pointer (some ⟨N, 0, none⟩)])] 60)) Z 65 #[Value.func (.func 84) #[] #[Value.pointer (some ⟨N, 0, none⟩)], Value.func (.func 86) #[] #[Value.pointer (some ⟨N, 0, none⟩)], Value.func (.func 87) #[] #[Value.pointer (some ⟨N, 0, none⟩)], Value.func (.func 88) #[] #[Value.pointer (some ⟨N, 0, none⟩), Value.pointer (some ⟨wr.heap.size, 0, none⟩)], Value.func (.func 89) #[] #[Value.pointer (some ⟨wr.heap.size, 0, none⟩), Value.pointer (some ⟨Y, 0, none⟩)]] := by
        refine Blk.alloc ?_ _
        simpa using ((((HZ.out.set 0 (Value.func (.func 84) #[] #[Value.pointer (some ⟨N, 0, none⟩)])).set 1 (Value.func (.func 86) #[] #[Value.pointer (some ⟨N, 0, none⟩)])).set 2 (Value.func (.func 87) #[] #[Value.pointer (some ⟨N, 0, none⟩)])).set 3 (Value.func (.func 88) #[] #[Value.pointer (some ⟨N, 0, none⟩), Value.pointer (some ⟨wr.heap.size, 0, none⟩)])).set 4 (Value.func (.func 89) #[] #[Value.pointer (some ⟨wr.heap.size, 0, none⟩), Value.pointer (some ⟨Y, 0, none⟩)])
      have ht5 : Blk ((((((wr.setCell ⟨Z, 0, none⟩ (Value.func (.func 84) #[] #[Value.pointer (some ⟨N, 0, none⟩)])).setCell ⟨Z, 1, none⟩ (Value.func (.func 86) #[] #[Value.pointer (some ⟨N, 0, none⟩)])).setCell ⟨Z, 2, none⟩ (Value.func (.func 87) #[] #[Value.pointer (some ⟨N, 0, none⟩)])).setCell ⟨Z, 3, none⟩ (Value.func (.func 88) #[] #[Value.pointer (some ⟨N, 0, none⟩), Value.pointer (some ⟨wr.heap.size, 0, none⟩)])).setCell ⟨Z, 4, none⟩ (Value.func (.func 89) #[] #[Value.pointer (some ⟨wr.heap.size, 0, none⟩), Value.pointer (some ⟨Y, 0, none⟩)])).alloc (.cells #[(Value.func (.func 84) #[] #[Value.pointer (some ⟨N, 0, none⟩)])] 60)) wr.heap.size 60 #[(Value.func (.func 84) #[] #[Value.pointer (some ⟨N, 0, none⟩)])] := by
        have := Blk.new (((((wr.setCell ⟨Z, 0, none⟩ (Value.func (.func 84) #[] #[Value.pointer (some ⟨N, 0, none⟩)])).setCell ⟨Z, 1, none⟩ (Value.func (.func 86) #[] #[Value.pointer (some ⟨N, 0, none⟩)])).setCell ⟨Z, 2, none⟩ (Value.func (.func 87) #[] #[Value.pointer (some ⟨N, 0, none⟩)])).setCell ⟨Z, 3, none⟩ (Value.func (.func 88) #[] #[Value.pointer (some ⟨N, 0, none⟩), Value.pointer (some ⟨wr.heap.size, 0, none⟩)])).setCell ⟨Z, 4, none⟩ (Value.func (.func 89) #[] #[Value.pointer (some ⟨wr.heap.size, 0, none⟩), Value.pointer (some ⟨Y, 0, none⟩)])) 60 #[(Value.func (.func 84) #[] #[Value.pointer (some ⟨N, 0, none⟩)])]
        rwa [show ((((((wr.setCell ⟨Z, 0, none⟩ (Value.func (.func 84) #[] #[Value.pointer (some ⟨N, 0, none⟩)])).setCell ⟨Z, 1, none⟩ (Value.func (.func 86) #[] #[Value.pointer (some ⟨N, 0, none⟩)])).setCell ⟨Z, 2, none⟩ (Value.func (.func 87) #[] #[Value.pointer (some ⟨N, 0, none⟩)])).setCell ⟨Z, 3, none⟩ (Value.func (.func 88) #[] #[Value.pointer (some ⟨N, 0, none⟩), Value.pointer (some ⟨wr.heap.size, 0, none⟩)])).setCell ⟨Z, 4, none⟩ (Value.func (.func 89) #[] #[Value.pointer (some ⟨wr.heap.size, 0, none⟩), Value.pointer (some ⟨Y, 0, none⟩)]))).heap.size = wr.heap.size by simp] at this
      have T3 := HX.out.2
      have hsz := T3.size
      have hg := G.out.2.2.2.2
      have hs3 := hg.size
      have hNl := HX.out.1.box.lt
      have hrl := HX.out.1.row.lt
      have hYl := G.out.1.lt
      have hZl := G.out.2.1.lt
      have SW : Still w ((((((wr.setCell ⟨Z, 0, none⟩ (Value.func (.func 84) #[] #[Value.pointer (some ⟨N, 0, none⟩)])).setCell ⟨Z, 1, none⟩ (Value.func (.func 86) #[] #[Value.pointer (some ⟨N, 0, none⟩)])).setCell ⟨Z, 2, none⟩ (Value.func (.func 87) #[] #[Value.pointer (some ⟨N, 0, none⟩)])).setCell ⟨Z, 3, none⟩ (Value.func (.func 88) #[] #[Value.pointer (some ⟨N, 0, none⟩), Value.pointer (some ⟨wr.heap.size, 0, none⟩)])).setCell ⟨Z, 4, none⟩ (Value.func (.func 89) #[] #[Value.pointer (some ⟨wr.heap.size, 0, none⟩), Value.pointer (some ⟨Y, 0, none⟩)])).alloc (.cells #[(Value.func (.func 84) #[] #[Value.pointer (some ⟨N, 0, none⟩)])] 60)) := ((((hg.turn (S := fun j => j = r ∨ j = Z)).trans (T3.mono fun _ _ e => .inl e)).trans (TZ.mono fun _ _ e => .inr e)).mono fun j hj e => by rcases e with e | e <;> omega)
      have hTY : Blk ((((((wr.setCell ⟨Z, 0, none⟩ (Value.func (.func 84) #[] #[Value.pointer (some ⟨N, 0, none⟩)])).setCell ⟨Z, 1, none⟩ (Value.func (.func 86) #[] #[Value.pointer (some ⟨N, 0, none⟩)])).setCell ⟨Z, 2, none⟩ (Value.func (.func 87) #[] #[Value.pointer (some ⟨N, 0, none⟩)])).setCell ⟨Z, 3, none⟩ (Value.func (.func 88) #[] #[Value.pointer (some ⟨N, 0, none⟩), Value.pointer (some ⟨wr.heap.size, 0, none⟩)])).setCell ⟨Z, 4, none⟩ (Value.func (.func 89) #[] #[Value.pointer (some ⟨wr.heap.size, 0, none⟩), Value.pointer (some ⟨Y, 0, none⟩)])).alloc (.cells #[(Value.func (.func 84) #[] #[Value.pointer (some ⟨N, 0, none⟩)])] 60)) Y 58 #[.slice (some ⟨yr, 0, none⟩) ts.length yc] := (G.out.1.keep T3 (by omega)).keep TZ (by omega)
      refine bodyPost_ret (results_cell_row rfl _ _ Z 65 #[Value.func (.func 84) #[] #[Value.pointer (some ⟨N, 0, none⟩)], Value.func (.func 86) #[] #[Value.pointer (some ⟨N, 0, none⟩)], Value.func (.func 87) #[] #[Value.pointer (some ⟨N, 0, none⟩)], Value.func (.func 88) #[] #[Value.pointer (some ⟨N, 0, none⟩), Value.pointer (some ⟨wr.heap.size, 0, none⟩)], Value.func (.func 89) #[] #[Value.pointer (some ⟨wr.heap.size, 0, none⟩), Value.pointer (some ⟨Y, 0, none⟩)]] (0, 0) _ rfl hb Tryz.underlying65 rfl (by kernel_rfl)) rfl ?_
      refine ⟨N, r, wr.heap.size, Y, rfl, ⟨?_, ht5, ⟨hTY, fun k b e => (SW.cell (p := ⟨yr, k, none⟩) hyl).trans (HYR.out.1 k b e), Nat.lt_of_lt_of_le hyl SW.size, HYR.out.2.2.1, HYR.out.2.2.2⟩, ?_⟩, by omega, by omega, by omega, by omega, SW⟩
      · have := HX.out.1.keep TZ (by omega) (by omega)
        rwa [show beginP ts ins j j = beginL ts ins by unfold beginP; rw [Nat.sub_self, List.replicate_zero, List.append_nil, List.take_of_length_le (by have := HLEN.out; omega)]] at this
      · exact ⟨by omega, by omega, by omega, by omega, by omega, by omega, by omega⟩
end Go.Proofs.YtglalgjffkoneaaGreatDoor
