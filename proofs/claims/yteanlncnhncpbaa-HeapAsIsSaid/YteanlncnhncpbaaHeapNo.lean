/- Layer 2's calls where no object stands: at a nil heap, and at any other place. -/
import Derived.Test.YteanlncnhncpbaaHeapObj
namespace Go.Proofs.Yteanlncnhncpbaa
set_option linter.unusedVariables false
open Go.ChangeShapes Go.WideShapes Go.ChangeAt Go.RowKit
open M (W)

/-- What the call 'object' answers where no object stands, in each world that comes of w without a turn. -/
def NoObj (p : Value) (i : Int) (w : World) : Prop := ∀ W, Still w W → Calls Try.prog 74 #[p, .int .i64 i] W fun e w' => e = .returned (.tuple #[Ob.none, .bool false]) ∧ Still W w'
theorem NoObj.nil (i : Int) (w : World) : NoObj (.pointer none) i w := fun W _ => object_nil i W
theorem NoObj.out {s : St} {i : Int} {w : World} (h : HpIs w s) (hi : s.is i = false) : NoObj s.ptr i w := fun W hW => object_no s i W (h.still hW) hi
theorem NoObj.at {p : Value} {i : Int} {w W : World} (h : NoObj p i w) (hW : Still w W) : NoObj p i W := fun W' hW' => h W' (Turn.trans hW hW')
theorem Still.alloc {w w' : World} (h : Still w w') (o : Obj) : Still w (w'.alloc o) := Turn.alloc h o
theorem Still.trans {a b c : World} (h : Still a b) (k : Still b c) : Still a c := Turn.trans h k

theorem shape_no (p : Value) (i : Int) (w : World) (h : NoObj p i w) : Calls Try.prog 41 #[p, .int .i64 i] w fun e w' => e = .returned (.tuple #[.int .i64 0, .int .i64 1]) ∧ Still w w' := by
  have HO := h w (Still.refl w)
  clear h
  unfold Ob.none at HO
  go_enter Try.func41, Try.ntmps41
  go_wp2_with fail
  refine HO.mono ?_; rintro e w1 ⟨rfl, ht⟩
  have HT := Lib.hid ht; clear ht
  go_wp2_with fail
  go_ret2
  exact ⟨rfl, HT.out.alloc _⟩
theorem len_no (p : Value) (i : Int) (w : World) (h : NoObj p i w) : Calls Try.prog 56 #[p, .int .i64 i] w fun e w' => e = .returned (.tuple #[.int .i64 0, .int .i64 1]) ∧ Still w w' := by
  have HO := h w (Still.refl w)
  clear h
  unfold Ob.none at HO
  go_enter Try.func56, Try.ntmps56
  go_wp2_with fail
  refine HO.mono ?_; rintro e w1 ⟨rfl, ht⟩
  have HT := Lib.hid ht; clear ht
  go_wp2_with fail
  go_ret2
  exact ⟨rfl, HT.out.alloc _⟩
theorem field_no (p : Value) (i j : Int) (w : World) (h : NoObj p i w) : Calls Try.prog 81 #[p, .int .i64 i, .int .i64 j] w fun e w' => e = .returned (.pointer none) ∧ Still w w' := by
  have HO := h w (Still.refl w)
  clear h
  unfold Ob.none at HO
  go_enter Try.func81, Try.ntmps81
  go_wp2_with fail
  refine HO.mono ?_; rintro e w1 ⟨rfl, ht⟩
  have HT := Lib.hid ht; clear ht
  go_wp2_with fail
  go_ret
  exact ⟨rfl, HT.out.alloc _⟩
theorem octet_no (p : Value) (i j : Int) (w : World) (h : NoObj p i w) : Calls Try.prog 83 #[p, .int .i64 i, .int .i64 j] w fun e w' => e = .returned (.tuple #[.pointer none, .int .i64 0]) ∧ Still w w' := by
  have HO := h w (Still.refl w)
  clear h
  unfold Ob.none at HO
  go_enter Try.func83, Try.ntmps83
  go_wp2_with fail
  refine HO.mono ?_; rintro e w1 ⟨rfl, ht⟩
  have HT := Lib.hid ht; clear ht
  go_wp2_with fail
  go_ret2
  exact ⟨rfl, HT.out.alloc _⟩

/-- 'field' answers nil. -/
def NoField (p : Value) (i j : Int) (w : World) : Prop := Calls Try.prog 81 #[p, .int .i64 i, .int .i64 j] w fun e w' => e = .returned (.pointer none) ∧ Still w w'
def NoOctet (p : Value) (i j : Int) (w : World) : Prop := Calls Try.prog 83 #[p, .int .i64 i, .int .i64 j] w fun e w' => e = .returned (.tuple #[.pointer none, .int .i64 0]) ∧ Still w w'
theorem get_no (p : Value) (i j : Int) (w : World) (h : NoField p i j w) : Calls Try.prog 48 #[p, .int .i64 i, .int .i64 j] w fun e w' => e = .returned (.tuple #[.int .u64 0, .int .i64 1]) ∧ Still w w' := by
  unfold NoField at h
  go_enter Try.func48, Try.ntmps48
  go_wp2_with fail
  refine h.mono ?_; rintro e w1 ⟨rfl, ht⟩
  have HT := Lib.hid ht; clear ht
  go_wp2_with fail
  go_ret2
  exact ⟨rfl, HT.out⟩
theorem set_no (p : Value) (i j x : Int) (w : World) (h : NoField p i j w) : Calls Try.prog 47 #[p, .int .i64 i, .int .i64 j, .int .u64 x] w fun e w' => e = .returned (.int .i64 1) ∧ Still w w' := by
  unfold NoField at h
  go_enter Try.func47, Try.ntmps47
  go_wp2_with fail
  refine h.mono ?_; rintro e w1 ⟨rfl, ht⟩
  have HT := Lib.hid ht; clear ht
  go_wp2_with fail
  go_ret
  exact ⟨rfl, HT.out⟩
theorem setByte_no (p : Value) (i j x : Int) (w : World) (h : NoOctet p i j w) : Calls Try.prog 54 #[p, .int .i64 i, .int .i64 j, .int .u8 x] w fun e w' => e = .returned (.int .i64 1) ∧ Still w w' := by
  unfold NoOctet at h
  go_enter Try.func54, Try.ntmps54
  go_wp2_with fail
  refine h.mono ?_; rintro e w1 ⟨rfl, ht⟩
  have HT := Lib.hid ht; clear ht
  go_wp2_with fail
  go_ret
  exact ⟨rfl, HT.out⟩
theorem text_no (p : Value) (i : Int) (w : World) (h : NoObj p i w) : Calls Try.prog 73 #[p, .int .i64 i] w fun e w' => e = .returned (.tuple #[.string ByteArray.empty, .int .i64 1]) ∧ Still w w' := by
  have HO := h w (Still.refl w)
  clear h
  unfold Ob.none at HO
  go_enter Try.func73, Try.ntmps73
  go_wp2_with fail
  refine HO.mono ?_; rintro e w1 ⟨rfl, ht⟩
  have HT := Lib.hid ht; clear ht
  go_wp2_with fail
  go_ret2
  exact ⟨rfl, HT.out.alloc _⟩
theorem alloc_nil (sh n : Int) (w : World) : Calls Try.prog 45 #[.pointer none, .int .i64 sh, .int .i64 n] w fun e w' => e = .returned (.tuple #[.int .i64 0, .int .i64 1]) ∧ Still w w' := by
  go_enter Try.func45, Try.ntmps45
  go_wp2_with (go_at_call 76; (with_reducible refine (need_nil _ _ _).mono ?_); rintro e w ⟨rfl, rfl⟩)
  go_ret2
  exact ⟨rfl, Still.refl _⟩
theorem store_nil (i x : Int) (w : World) : Calls Try.prog 23 #[.pointer none, .int .i64 i, .int .u64 x] w fun e w' => e = .returned (.tuple #[]) ∧ w' = w := by
  by_cases hi : i < 0
  all_goals
    go_enter Try.func23, Try.ntmps23
    go_wp2_with (go_at_call 39; (with_reducible refine (size_nil _).mono ?_); rintro e w ⟨rfl, rfl⟩)
    first | go_end0 | refine bodyPost_ret (results_none rfl _ _ _) rfl ?_
    exact ⟨rfl, rfl⟩
theorem close_nil (i : Int) (w : World) : Calls Try.prog 25 #[.pointer none, .int .i64 i] w fun e w' => e = .returned (.int .i64 1) ∧ w' = w := by
  go_enter Try.func25, Try.ntmps25
  go_wp2
  go_ret
  exact ⟨rfl, rfl⟩
theorem objects_nil (w : World) : Calls Try.prog 42 #[.pointer none] w fun e w' => e = .returned (.slice none 0 0) ∧ w' = w := by
  go_enter Try.func42, Try.ntmps42
  go_wp2_with (go_at_call 19; (with_reducible refine (top_nil _).mono ?_); rintro e w ⟨rfl, rfl⟩)
  refine wp_loop_rounds 1 ?_
  rw [rounds_succ]
  go_wp2
  go_outline
  go_ret
  exact ⟨rfl, rfl⟩
end Go.Proofs.Yteanlncnhncpbaa
