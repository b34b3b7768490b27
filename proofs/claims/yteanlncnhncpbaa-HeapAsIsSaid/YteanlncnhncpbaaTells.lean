/- What the calls of HeapTells answer: layer 2's heap and the document's own, side by side. -/
import Derived.Test.YteanlncnhncpbaaText
namespace Go.Proofs.Yteanlncnhncpbaa
set_option linter.unusedVariables false
open Go.ChangeShapes Go.WideShapes Go.ChangeAt Go.RowKit
open M (W)

theorem text_unfit (s : St) (k : Nat) (o : Ob) (w : World) (h : HpIs w s) (ho : ObAt s k o) (hk : o.kind ≠ 3) :
    Calls Try.prog 73 #[s.ptr, .int .i64 k] w fun e w' => e = .returned (.tuple #[.string ByteArray.empty, .int .i64 1]) ∧ Still w w' := by
  have HO := object_at h ho
  unfold Ob.val at HO
  have hk2 : (o.kind != 3) = true := by simpa using hk
  clear h ho hk
  go_enter Try.func73, Try.ntmps73
  go_wp2_with fail
  refine HO.mono ?_; rintro e w1 ⟨rfl, ht⟩
  have HT := Lib.hid ht; clear ht
  go_wp2_with fail
  go_ret2
  exact ⟨rfl, HT.out.alloc _⟩
theorem Sim.byte {s : St} {L : List RO} (h : Sim s L) {o : RO} (ho : o ∈ L) (hk : s.kind o.sh = 3) (i : Nat) (hi : i < o.n) : M.byteOf (s.ws (o.at_ + 1 + i / 8)) (i % 8) = o.bs.getD i 0 := by
  obtain ⟨_, hl, hw⟩ := (h.good o ho).b hk
  have hb := (h.good o ho).bl
  rw [hw (i / 8) (by omega)]
  unfold M.wordOf
  rw [byte_word _ _ _ _ _ _ _ _ (getD_lt hb _) (getD_lt hb _) (getD_lt hb _) (getD_lt hb _) (getD_lt hb _) (getD_lt hb _) (getD_lt hb _) (getD_lt hb _) (i % 8) (by omega)]
  obtain ⟨t, ht, e⟩ : ∃ t, t < 8 ∧ i = i / 8 * 8 + t := ⟨i % 8, by omega, by omega⟩
  have hm : i % 8 = t := by omega
  rw [hm]
  generalize i / 8 * 8 = q at *
  subst e
  obtain rfl | rfl | rfl | rfl | rfl | rfl | rfl | rfl : t = 0 ∨ t = 1 ∨ t = 2 ∨ t = 3 ∨ t = 4 ∨ t = 5 ∨ t = 6 ∨ t = 7 := by omega
  all_goals simp
theorem Sim.bytes {s : St} {L : List RO} (h : Sim s L) {o : RO} (ho : o ∈ L) (hk : s.kind o.sh = 3) : s.bytes o.at_ o.n = o.bs := by
  have hl := ((h.good o ho).b hk).2.1
  apply List.ext_getElem?
  intro i
  unfold St.bytes
  rw [List.getElem?_map]
  by_cases hi : i < o.n
  · rw [List.getElem?_range hi]
    show some (M.byteOf (s.ws (o.at_ + 1 + i / 8)) (i % 8)) = _
    rw [h.byte ho hk i hi, List.getD_eq_getElem?_getD, List.getElem?_eq_getElem (show i < o.bs.length by omega)]; rfl
  · rw [List.getElem?_eq_none (show o.bs.length ≤ i by omega), List.getElem?_eq_none (by simpa using hi)]; rfl
def Ans (B : Nat) (s : St) (x : Rf) (f : FuncId) (args : Array Value) (v : Value) : Prop := ∀ W, HpIs W s → RfIs B W x → Calls Try.prog f args W fun e w' => e = .returned v ∧ Still W w'
end Go.Proofs.Yteanlncnhncpbaa
