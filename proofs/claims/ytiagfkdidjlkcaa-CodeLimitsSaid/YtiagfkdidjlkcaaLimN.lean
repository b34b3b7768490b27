/- The images of CodeLimits, and what Check says of them. -/
import Derived.Test.YtiagfkdidjlkcaaOne
import Derived.Test.YtiagfkdidjlkcaaL05
import Derived.Laws.MakeOwn
import Derived.Deep.OwnRows
namespace Go.Proofs.Ytiagfkdidjlkcaa
set_option linter.unusedVariables false
set_option linter.unusedSimpArgs false
open Go.ChangeShapes Go.WideShapes Go.ChangeAt Go.RowKit Go.Deep
open M (W)
theorem Lies.made {α : Type} {B k : Nat} {w : World} {P : List Value → α → Prop} {x : α} {b n : Nat} {t : TypeId} {zs : Array Value} (hk : zs.size = k) (h0 : 0 < k) (hP : P zs.toList x) (hb : b < B) (h : Blk w b t (madeCells zs (n * k))) : Lies B w k P (some ⟨b, 0, none⟩) n (List.replicate n x) :=
  ⟨List.length_replicate, fun _ => ⟨b, 0, rfl, hb, fun i y hi => by
    have hin : i < n := by have := (List.getElem?_eq_some_iff.1 hi).1; simpa using this
    obtain rfl : y = x := by
      rw [List.getElem?_replicate, if_pos hin] at hi
      exact (Option.some.inj hi).symm
    refine ⟨zs.toList, by simpa using hk, hP, fun j hj => ?_⟩
    have hlt : i * k + j < n * k := by
      have : (i + 1) * k ≤ n * k := Nat.mul_le_mul_right k (by omega)
      rw [Nat.add_mul, Nat.one_mul] at this
      omega
    have hm : (i * k + j) % zs.size = j := by rw [hk, Nat.mul_comm, Nat.mul_add_mod]; exact Nat.mod_eq_of_lt hj
    rw [Nat.zero_add, h.cell (i * k + j)]
    simp only [madeCells, Array.getElem?_map, Array.getElem?_range]
    rw [if_pos hlt]
    simp only [Option.map_some, hm]
    rw [Array.getElem?_toList, Array.getElem?_eq_getElem (by omega), getElem!_pos zs j (by omega)]⟩⟩
theorem zTy {B : Nat} {w : World} : TyIs B w (#[Value.bool false, .slice none 0 0] : Array Value).toList ⟨false, []⟩ := ⟨none, 0, 0, rfl, by decide, Lies.no⟩
theorem zSh {B : Nat} {w : World} : ShIs B w (#[Value.int .i64 0, .slice none 0 0, .string ByteArray.empty] : Array Value).toList ⟨0, [], ByteArray.empty⟩ := ⟨none, 0, 0, rfl, by decide, in0, by decide, Lies.no⟩
theorem zTx : TxIs (#[Value.string ByteArray.empty] : Array Value).toList ByteArray.empty := ⟨rfl, by decide⟩
theorem zFn {B : Nat} {w : World} : FnIs B w (#[Value.slice none 0 0, .int .i64 0, .int .i64 0, .slice none 0 0] : Array Value).toList ⟨[], 0, 0, []⟩ := ⟨none, 0, 0, none, 0, 0, rfl, by decide, by decide, in0, in0, Lies.no, Lies.no⟩
theorem zBk {B : Nat} {w : World} : BkIs B w (#[Value.slice none 0 0, .slice none 0 0] : Array Value).toList ⟨[], []⟩ := ⟨none, 0, 0, none, 0, 0, rfl, by decide, by decide, Lies.no, Lies.no⟩
namespace M
def lim0 (p : Nat) : Img := ⟨List.replicate p ⟨false, []⟩, [], [], [], [], 0, 0⟩
def lim1 (p : Nat) : Img := ⟨[], List.replicate p ⟨0, [], ByteArray.empty⟩, [], [], [], 0, 0⟩
def lim2 (p : Nat) : Img := ⟨[], [], List.replicate p ByteArray.empty, [], [], 0, 0⟩
def lim3 (p : Nat) : Img := ⟨[], [], [], List.replicate p ByteArray.empty, [], 0, 0⟩
def lim4 (p : Nat) : Img := ⟨[], [], [], [], List.replicate p ⟨[], 0, 0, []⟩, 0, 0⟩
def lim5 (p : Nat) : Img := ⟨[⟨false, List.replicate p 0⟩], [], [], [], [], 0, 0⟩
def lim6 (p : Nat) : Img := ⟨[], [⟨0, List.replicate p 0, ByteArray.empty⟩], [], [], [], 0, 0⟩
def lim7 (p : Nat) : Img := ⟨[], [], [], [], [⟨[], 0, p, []⟩], 0, 0⟩
def lim8 (p : Nat) : Img := ⟨[], [], [], [], [⟨List.replicate p 0, 0, 0, []⟩], 0, 0⟩
def lim9 (p : Nat) : Img := ⟨[], [], [], [], [⟨[], 0, 0, List.replicate p ⟨[], []⟩⟩], 0, 0⟩
def lim10 (p : Nat) : Img := ⟨[], [], [], [], [⟨[], 0, 0, [⟨List.replicate p 0, []⟩]⟩], 0, 0⟩
def lim11 (p : Nat) : Img := one ⟨5, 0, 0, 0, 0, 0, List.replicate p 0, [], []⟩
def lim12 (p : Nat) : Img := one ⟨5, 0, 0, 0, 0, 0, [], [], List.replicate p 0⟩
theorem sum_rep (n a : Nat) : (List.replicate n a).sum = n * a := by
  induction n with
  | zero => simp
  | succ n ih => rw [List.replicate_succ, List.sum_cons, ih, Nat.add_mul]; omega
theorem any_rep {α : Type} {f : α → Bool} {a : α} (h : f a = false) (n : Nat) : (List.replicate n a).any f = false := by
  rw [List.any_eq_false]
  intro x hx
  rw [List.eq_of_mem_replicate hx, h]; decide
theorem plain5L (p : Nat) : plain (uses 5) 0 0 0 0 0 p 0 0 = true := by
  have h1 : plain (uses 5) 0 0 0 0 0 0 0 0 = true := by unfold M.plain; rw [ByteArray.toList_eq]; first | decide | rfl | kernel_rfl
  have h2 : hasB (uses 5) 76 = true := by kernel_rfl
  unfold plain at h1 ⊢
  simp only [may, h2, Bool.or_true, Bool.and_true] at h1 ⊢
  exact h1
theorem plain5V (p : Nat) : plain (uses 5) 0 0 0 0 0 0 0 p = true := by
  have h1 : plain (uses 5) 0 0 0 0 0 0 0 0 = true := by unfold M.plain; rw [ByteArray.toList_eq]; first | decide | rfl | kernel_rfl
  have h2 : hasB (uses 5) 108 = true := by kernel_rfl
  unfold plain at h1 ⊢
  simp only [may, h2, Bool.or_true, Bool.and_true] at h1 ⊢
  exact h1
theorem lim0_check (p : Nat) (hp : p ≤ 2100) : check (lim0 p) = if 1024 < p then 2 else 0 := by
  have hb : big (lim0 p) = decide (1024 < p) := by
    simp [big, lim0, one, bigTy, bigSh, bigTx, bigFn, bigBk, bigIns, anyIns, size, any_rep, List.map_replicate, sum_rep]
  have ha : anyIns (fun x => !(plainIns x)) (lim0 p) = false := by
    simp [anyIns, lim0, one, any_rep]
  unfold check
  rw [hb, ha]
  by_cases h : 1024 < p <;> simp [h]
theorem lim0_small (p : Nat) (hp : p ≤ 2100) : wImg (lim0 p) ≤ 2200 ∧ size (lim0 p) ≤ 2200 := by
  constructor
  · simp [wImg, lim0, one, wTy, wSh, wFn, wBk, wIns, List.map_replicate, sum_rep]; try omega
  · simp [size, lim0, one, List.map_replicate, sum_rep]
theorem lim1_check (p : Nat) (hp : p ≤ 2100) : check (lim1 p) = if 512 < p then 2 else 0 := by
  have hb : big (lim1 p) = decide (512 < p) := by
    simp [big, lim1, one, bigTy, bigSh, bigTx, bigFn, bigBk, bigIns, anyIns, size, any_rep, List.map_replicate, sum_rep]
  have ha : anyIns (fun x => !(plainIns x)) (lim1 p) = false := by
    simp [anyIns, lim1, one, any_rep]
  unfold check
  rw [hb, ha]
  by_cases h : 512 < p <;> simp [h]
theorem lim1_small (p : Nat) (hp : p ≤ 2100) : wImg (lim1 p) ≤ 2200 ∧ size (lim1 p) ≤ 2200 := by
  constructor
  · simp [wImg, lim1, one, wTy, wSh, wFn, wBk, wIns, List.map_replicate, sum_rep]; try omega
  · simp [size, lim1, one, List.map_replicate, sum_rep]
theorem lim2_check (p : Nat) (hp : p ≤ 2100) : check (lim2 p) = if 256 < p then 2 else 0 := by
  have hb : big (lim2 p) = decide (256 < p) := by
    simp [big, lim2, one, bigTy, bigSh, bigTx, bigFn, bigBk, bigIns, anyIns, size, any_rep, List.map_replicate, sum_rep]
  have ha : anyIns (fun x => !(plainIns x)) (lim2 p) = false := by
    simp [anyIns, lim2, one, any_rep]
  unfold check
  rw [hb, ha]
  by_cases h : 256 < p <;> simp [h]
theorem lim2_small (p : Nat) (hp : p ≤ 2100) : wImg (lim2 p) ≤ 2200 ∧ size (lim2 p) ≤ 2200 := by
  constructor
  · simp [wImg, lim2, one, wTy, wSh, wFn, wBk, wIns, List.map_replicate, sum_rep]; try omega
  · simp [size, lim2, one, List.map_replicate, sum_rep]
theorem lim3_check (p : Nat) (hp : p ≤ 2100) : check (lim3 p) = if 256 < p then 2 else 0 := by
  have hb : big (lim3 p) = decide (256 < p) := by
    simp [big, lim3, one, bigTy, bigSh, bigTx, bigFn, bigBk, bigIns, anyIns, size, any_rep, List.map_replicate, sum_rep]
  have ha : anyIns (fun x => !(plainIns x)) (lim3 p) = false := by
    simp [anyIns, lim3, one, any_rep]
  unfold check
  rw [hb, ha]
  by_cases h : 256 < p <;> simp [h]
theorem lim3_small (p : Nat) (hp : p ≤ 2100) : wImg (lim3 p) ≤ 2200 ∧ size (lim3 p) ≤ 2200 := by
  constructor
  · simp [wImg, lim3, one, wTy, wSh, wFn, wBk, wIns, List.map_replicate, sum_rep]; try omega
  · simp [size, lim3, one, List.map_replicate, sum_rep]
theorem lim4_check (p : Nat) (hp : p ≤ 2100) : check (lim4 p) = if 1024 < p then 2 else 0 := by
  have hb : big (lim4 p) = decide (1024 < p) := by
    simp [big, lim4, one, bigTy, bigSh, bigTx, bigFn, bigBk, bigIns, anyIns, size, any_rep, List.map_replicate, sum_rep]
  have ha : anyIns (fun x => !(plainIns x)) (lim4 p) = false := by
    simp [anyIns, lim4, one, any_rep]
  unfold check
  rw [hb, ha]
  by_cases h : 1024 < p <;> simp [h]
theorem lim4_small (p : Nat) (hp : p ≤ 2100) : wImg (lim4 p) ≤ 2200 ∧ size (lim4 p) ≤ 2200 := by
  constructor
  · simp [wImg, lim4, one, wTy, wSh, wFn, wBk, wIns, List.map_replicate, sum_rep]; try omega
  · simp [size, lim4, one, List.map_replicate, sum_rep]
theorem lim5_check (p : Nat) (hp : p ≤ 2100) : check (lim5 p) = if 512 < p then 2 else 0 := by
  have hb : big (lim5 p) = decide (512 < p) := by
    simp [big, lim5, one, bigTy, bigSh, bigTx, bigFn, bigBk, bigIns, anyIns, size, any_rep, List.map_replicate, sum_rep]
  have ha : anyIns (fun x => !(plainIns x)) (lim5 p) = false := by
    simp [anyIns, lim5, one, any_rep]
  unfold check
  rw [hb, ha]
  by_cases h : 512 < p <;> simp [h]
theorem lim5_small (p : Nat) (hp : p ≤ 2100) : wImg (lim5 p) ≤ 2200 ∧ size (lim5 p) ≤ 2200 := by
  constructor
  · simp [wImg, lim5, one, wTy, wSh, wFn, wBk, wIns, List.map_replicate, sum_rep]; try omega
  · simp [size, lim5, one, List.map_replicate, sum_rep]
theorem lim6_check (p : Nat) (hp : p ≤ 2100) : check (lim6 p) = if 200 < p then 2 else 0 := by
  have hb : big (lim6 p) = decide (200 < p) := by
    simp [big, lim6, one, bigTy, bigSh, bigTx, bigFn, bigBk, bigIns, anyIns, size, any_rep, List.map_replicate, sum_rep]
  have ha : anyIns (fun x => !(plainIns x)) (lim6 p) = false := by
    simp [anyIns, lim6, one, any_rep]
  unfold check
  rw [hb, ha]
  by_cases h : 200 < p <;> simp [h]
theorem lim6_small (p : Nat) (hp : p ≤ 2100) : wImg (lim6 p) ≤ 2200 ∧ size (lim6 p) ≤ 2200 := by
  constructor
  · simp [wImg, lim6, one, wTy, wSh, wFn, wBk, wIns, List.map_replicate, sum_rep]; try omega
  · simp [size, lim6, one, List.map_replicate, sum_rep]
theorem lim7_check (p : Nat) (hp : p ≤ 2100) : check (lim7 p) = if 200 < p then 2 else 0 := by
  have hb : big (lim7 p) = decide (200 < p) := by
    simp [big, lim7, one, bigTy, bigSh, bigTx, bigFn, bigBk, bigIns, anyIns, size, any_rep, List.map_replicate, sum_rep]; omega
  have ha : anyIns (fun x => !(plainIns x)) (lim7 p) = false := by
    simp [anyIns, lim7, one, any_rep]
  unfold check
  rw [hb, ha]
  by_cases h : 200 < p <;> simp [h]
theorem lim7_small (p : Nat) (hp : p ≤ 2100) : wImg (lim7 p) ≤ 2200 ∧ size (lim7 p) ≤ 2200 := by
  constructor
  · simp [wImg, lim7, one, wTy, wSh, wFn, wBk, wIns, List.map_replicate, sum_rep]; try omega
  · simp [size, lim7, one, List.map_replicate, sum_rep]
theorem lim8_check (p : Nat) (hp : p ≤ 2100) : check (lim8 p) = if 200 < p then 2 else 0 := by
  have hb : big (lim8 p) = decide (200 < p) := by
    simp [big, lim8, one, bigTy, bigSh, bigTx, bigFn, bigBk, bigIns, anyIns, size, any_rep, List.map_replicate, sum_rep]
  have ha : anyIns (fun x => !(plainIns x)) (lim8 p) = false := by
    simp [anyIns, lim8, one, any_rep]
  unfold check
  rw [hb, ha]
  by_cases h : 200 < p <;> simp [h]
theorem lim8_small (p : Nat) (hp : p ≤ 2100) : wImg (lim8 p) ≤ 2200 ∧ size (lim8 p) ≤ 2200 := by
  constructor
  · simp [wImg, lim8, one, wTy, wSh, wFn, wBk, wIns, List.map_replicate, sum_rep]; try omega
  · simp [size, lim8, one, List.map_replicate, sum_rep]
theorem lim9_check (p : Nat) (hp : p ≤ 2100) : check (lim9 p) = if 2000 < p then 2 else 0 := by
  have hb : big (lim9 p) = decide (2000 < p) := by
    simp [big, lim9, one, bigTy, bigSh, bigTx, bigFn, bigBk, bigIns, anyIns, size, any_rep, List.map_replicate, sum_rep]
  have ha : anyIns (fun x => !(plainIns x)) (lim9 p) = false := by
    simp [anyIns, lim9, one, any_rep]
  unfold check
  rw [hb, ha]
  by_cases h : 2000 < p <;> simp [h]
theorem lim9_small (p : Nat) (hp : p ≤ 2100) : wImg (lim9 p) ≤ 2200 ∧ size (lim9 p) ≤ 2200 := by
  constructor
  · simp [wImg, lim9, one, wTy, wSh, wFn, wBk, wIns, List.map_replicate, sum_rep]; try omega
  · simp [size, lim9, one, List.map_replicate, sum_rep]
theorem lim10_check (p : Nat) (hp : p ≤ 2100) : check (lim10 p) = if 200 < p then 2 else 0 := by
  have hb : big (lim10 p) = decide (200 < p) := by
    simp [big, lim10, one, bigTy, bigSh, bigTx, bigFn, bigBk, bigIns, anyIns, size, any_rep, List.map_replicate, sum_rep]
  have ha : anyIns (fun x => !(plainIns x)) (lim10 p) = false := by
    simp [anyIns, lim10, one, any_rep]
  unfold check
  rw [hb, ha]
  by_cases h : 200 < p <;> simp [h]
theorem lim10_small (p : Nat) (hp : p ≤ 2100) : wImg (lim10 p) ≤ 2200 ∧ size (lim10 p) ≤ 2200 := by
  constructor
  · simp [wImg, lim10, one, wTy, wSh, wFn, wBk, wIns, List.map_replicate, sum_rep]; try omega
  · simp [size, lim10, one, List.map_replicate, sum_rep]
theorem lim11_check (p : Nat) (hp : p ≤ 2100) : check (lim11 p) = if 1024 < p then 2 else 0 := by
  have hpl : plainIns ⟨5, 0, 0, 0, 0, 0, List.replicate p 0, [], []⟩ = true := by unfold plainIns; dsimp only; rw [List.length_replicate]; exact plain5L p
  have hb : big (lim11 p) = decide (1024 < p) := by
    simp [big, lim11, one, bigTy, bigSh, bigTx, bigFn, bigBk, bigIns, anyIns, size, any_rep, List.map_replicate, sum_rep]
  have ha : anyIns (fun x => !(plainIns x)) (lim11 p) = false := by
    simp [anyIns, lim11, one, any_rep, hpl]
  unfold check
  rw [hb, ha]
  by_cases h : 1024 < p <;> simp [h]
theorem lim11_small (p : Nat) (hp : p ≤ 2100) : wImg (lim11 p) ≤ 2200 ∧ size (lim11 p) ≤ 2200 := by
  constructor
  · simp [wImg, lim11, one, wTy, wSh, wFn, wBk, wIns, List.map_replicate, sum_rep]; try omega
  · simp [size, lim11, one, List.map_replicate, sum_rep]
theorem lim12_check (p : Nat) (hp : p ≤ 2100) : check (lim12 p) = if 200 < p then 2 else 0 := by
  have hpl : plainIns ⟨5, 0, 0, 0, 0, 0, [], [], List.replicate p 0⟩ = true := by unfold plainIns; dsimp only; rw [List.length_replicate]; exact plain5V p
  have hb : big (lim12 p) = decide (200 < p) := by
    simp [big, lim12, one, bigTy, bigSh, bigTx, bigFn, bigBk, bigIns, anyIns, size, any_rep, List.map_replicate, sum_rep]
  have ha : anyIns (fun x => !(plainIns x)) (lim12 p) = false := by
    simp [anyIns, lim12, one, any_rep, hpl]
  unfold check
  rw [hb, ha]
  by_cases h : 200 < p <;> simp [h]
theorem lim12_small (p : Nat) (hp : p ≤ 2100) : wImg (lim12 p) ≤ 2200 ∧ size (lim12 p) ≤ 2200 := by
  constructor
  · simp [wImg, lim12, one, wTy, wSh, wFn, wBk, wIns, List.map_replicate, sum_rep]; try omega
  · simp [size, lim12, one, List.map_replicate, sum_rep]
end M
theorem makeINTS (p : Nat) (h : p ≤ 2100) : ∀ W, (Instr.makeSlice 28 (.int .i64 (p : Int)) (.int .i64 (p : Int))).run Try.prog W = .ok (.slice (some ⟨W.heap.size, 0, none⟩) p p) (W.alloc (.cells (madeCells #[.int .i64 0] p) 3)) :=
  fun W => run_make_row' _ _ _ 8 Try.underlying28 (show (Try.prog.info? 3).map (fun i => (i.zero, i.size, i.bytes)) = some (some (.int .i64 0), 1, 8) by kernel_rfl) rfl .i64 .i64 p (by omega) (by omega) W
theorem makeTYS (p : Nat) (h : p ≤ 2100) : ∀ W, (Instr.makeSlice 22 (.int .i64 (p : Int)) (.int .i64 (p : Int))).run Try.prog W = .ok (.slice (some ⟨W.heap.size, 0, none⟩) p p) (W.alloc (.cells (madeCells #[.bool false, .slice none 0 0] (p * 2)) 35)) := fun W => by
  obtain ⟨i, hi, hzz⟩ := Option.map_eq_some_iff.1 (show (Try.prog.info? 35).map (fun i => (i.zero, i.size, i.bytes)) = some (some (.agg #[.bool false, .slice none 0 0]), 2, 32) by kernel_rfl)
  simp only [Prod.mk.injEq] at hzz
  obtain ⟨hz, hs, hb⟩ := hzz
  have hr := run_make (P := Try.prog) W 22 35 i _ Try.underlying22 hi hz .i64 .i64 p p (by omega) (by omega) (by rw [hb]; omega) (by omega)
  simp only [Int.toNat_natCast, hs] at hr
  exact hr
theorem makeSHS (p : Nat) (h : p ≤ 2100) : ∀ W, (Instr.makeSlice 23 (.int .i64 (p : Int)) (.int .i64 (p : Int))).run Try.prog W = .ok (.slice (some ⟨W.heap.size, 0, none⟩) p p) (W.alloc (.cells (madeCells #[.int .i64 0, .slice none 0 0, .string ByteArray.empty] (p * 3)) 37)) := fun W => by
  obtain ⟨i, hi, hzz⟩ := Option.map_eq_some_iff.1 (show (Try.prog.info? 37).map (fun i => (i.zero, i.size, i.bytes)) = some (some (.agg #[.int .i64 0, .slice none 0 0, .string ByteArray.empty]), 3, 48) by kernel_rfl)
  simp only [Prod.mk.injEq] at hzz
  obtain ⟨hz, hs, hb⟩ := hzz
  have hr := run_make (P := Try.prog) W 23 37 i _ Try.underlying23 hi hz .i64 .i64 p p (by omega) (by omega) (by rw [hb]; omega) (by omega)
  simp only [Int.toNat_natCast, hs] at hr
  exact hr
theorem makeSTR (p : Nat) (h : p ≤ 2100) : ∀ W, (Instr.makeSlice 24 (.int .i64 (p : Int)) (.int .i64 (p : Int))).run Try.prog W = .ok (.slice (some ⟨W.heap.size, 0, none⟩) p p) (W.alloc (.cells (madeCells #[.string ByteArray.empty] p) 9)) :=
  fun W => run_make_row' _ _ _ 16 Try.underlying24 (show (Try.prog.info? 9).map (fun i => (i.zero, i.size, i.bytes)) = some (some (.string ByteArray.empty), 1, 16) by kernel_rfl) rfl .i64 .i64 p (by omega) (by omega) W
theorem makeFNS (p : Nat) (h : p ≤ 2100) : ∀ W, (Instr.makeSlice 25 (.int .i64 (p : Int)) (.int .i64 (p : Int))).run Try.prog W = .ok (.slice (some ⟨W.heap.size, 0, none⟩) p p) (W.alloc (.cells (madeCells #[.slice none 0 0, .int .i64 0, .int .i64 0, .slice none 0 0] (p * 4)) 33)) := fun W => by
  obtain ⟨i, hi, hzz⟩ := Option.map_eq_some_iff.1 (show (Try.prog.info? 33).map (fun i => (i.zero, i.size, i.bytes)) = some (some (.agg #[.slice none 0 0, .int .i64 0, .int .i64 0, .slice none 0 0]), 4, 64) by kernel_rfl)
  simp only [Prod.mk.injEq] at hzz
  obtain ⟨hz, hs, hb⟩ := hzz
  have hr := run_make (P := Try.prog) W 25 33 i _ Try.underlying25 hi hz .i64 .i64 p p (by omega) (by omega) (by rw [hb]; omega) (by omega)
  simp only [Int.toNat_natCast, hs] at hr
  exact hr
theorem makeBKS (p : Nat) (h : p ≤ 2100) : ∀ W, (Instr.makeSlice 31 (.int .i64 (p : Int)) (.int .i64 (p : Int))).run Try.prog W = .ok (.slice (some ⟨W.heap.size, 0, none⟩) p p) (W.alloc (.cells (madeCells #[.slice none 0 0, .slice none 0 0] (p * 2)) 40)) := fun W => by
  obtain ⟨i, hi, hzz⟩ := Option.map_eq_some_iff.1 (show (Try.prog.info? 40).map (fun i => (i.zero, i.size, i.bytes)) = some (some (.agg #[.slice none 0 0, .slice none 0 0]), 2, 48) by kernel_rfl)
  simp only [Prod.mk.injEq] at hzz
  obtain ⟨hz, hs, hb⟩ := hzz
  have hr := run_make (P := Try.prog) W 31 40 i _ Try.underlying31 hi hz .i64 .i64 p p (by omega) (by omega) (by rw [hb]; omega) (by omega)
  simp only [Int.toNat_natCast, hs] at hr
  exact hr
end Go.Proofs.Ytiagfkdidjlkcaa
