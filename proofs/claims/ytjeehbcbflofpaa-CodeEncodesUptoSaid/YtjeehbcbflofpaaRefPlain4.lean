/- The document's Plain, for each text of letters. -/
import Derived.Test.YtjeehbcbflofpaaPlain
namespace Go.Proofs.Ytjeehbcbflofpaa
set_option linter.unusedVariables false
open Go.ChangeShapes Go.WideShapes Go.ChangeAt Go.RowKit
open M (W)
set_option maxRecDepth 100000 in
set_option maxHeartbeats 4000000 in
theorem refPlain_4 (op d a b c n : Int) (la : Option Addr) (ll lc : Nat) (ma : Option Addr) (ml mc : Nat) (va : Option Addr) (vl vc : Nat) (w : World) (hu : M.uses op = ⟨#[68, 65, 66, 78]⟩) :
    Calls Try.prog 16 #[.agg #[.int .i64 op, .int .i64 d, .int .i64 a, .int .i64 b, .int .i64 c, .int .i64 n, .slice la ll lc, .slice ma ml mc, .slice va vl vc]] w fun e w' => e = .returned (.bool (M.plain ⟨#[68, 65, 66, 78]⟩ d a b c n ll ml vl)) ∧ Still w w' := by
  have hu2 := refUses_any op (w.alloc (.cells #[.int .i64 op, .int .i64 d, .int .i64 a, .int .i64 b, .int .i64 c, .int .i64 n, .slice la ll lc, .slice ma ml mc, .slice va vl vc] 44))
  rw [hu] at hu2
  have HU := Lib.hid hu2
  clear hu hu2
  have v68 : M.hasB ⟨#[68, 65, 66, 78]⟩ 68 = true := by decide
  have h68 : Hid (∀ W, Calls Try.prog 38 #[.string ⟨#[68, 65, 66, 78]⟩, .int .u8 68] W fun e w' => e = .returned (.bool true) ∧ w' = W) := fun W => by
    have := has_any ⟨#[68, 65, 66, 78]⟩ (by decide) 68 (by decide) W
    rwa [v68] at this
  have v65 : M.hasB ⟨#[68, 65, 66, 78]⟩ 65 = true := by decide
  have h65 : Hid (∀ W, Calls Try.prog 38 #[.string ⟨#[68, 65, 66, 78]⟩, .int .u8 65] W fun e w' => e = .returned (.bool true) ∧ w' = W) := fun W => by
    have := has_any ⟨#[68, 65, 66, 78]⟩ (by decide) 65 (by decide) W
    rwa [v65] at this
  have v66 : M.hasB ⟨#[68, 65, 66, 78]⟩ 66 = true := by decide
  have h66 : Hid (∀ W, Calls Try.prog 38 #[.string ⟨#[68, 65, 66, 78]⟩, .int .u8 66] W fun e w' => e = .returned (.bool true) ∧ w' = W) := fun W => by
    have := has_any ⟨#[68, 65, 66, 78]⟩ (by decide) 66 (by decide) W
    rwa [v66] at this
  have v67 : M.hasB ⟨#[68, 65, 66, 78]⟩ 67 = false := by decide
  have h67 : Hid (∀ W, Calls Try.prog 38 #[.string ⟨#[68, 65, 66, 78]⟩, .int .u8 67] W fun e w' => e = .returned (.bool false) ∧ w' = W) := fun W => by
    have := has_any ⟨#[68, 65, 66, 78]⟩ (by decide) 67 (by decide) W
    rwa [v67] at this
  have v78 : M.hasB ⟨#[68, 65, 66, 78]⟩ 78 = true := by decide
  have h78 : Hid (∀ W, Calls Try.prog 38 #[.string ⟨#[68, 65, 66, 78]⟩, .int .u8 78] W fun e w' => e = .returned (.bool true) ∧ w' = W) := fun W => by
    have := has_any ⟨#[68, 65, 66, 78]⟩ (by decide) 78 (by decide) W
    rwa [v78] at this
  have v76 : M.hasB ⟨#[68, 65, 66, 78]⟩ 76 = false := by decide
  have h76 : Hid (∀ W, Calls Try.prog 38 #[.string ⟨#[68, 65, 66, 78]⟩, .int .u8 76] W fun e w' => e = .returned (.bool false) ∧ w' = W) := fun W => by
    have := has_any ⟨#[68, 65, 66, 78]⟩ (by decide) 76 (by decide) W
    rwa [v76] at this
  have v77 : M.hasB ⟨#[68, 65, 66, 78]⟩ 77 = false := by decide
  have h77 : Hid (∀ W, Calls Try.prog 38 #[.string ⟨#[68, 65, 66, 78]⟩, .int .u8 77] W fun e w' => e = .returned (.bool false) ∧ w' = W) := fun W => by
    have := has_any ⟨#[68, 65, 66, 78]⟩ (by decide) 77 (by decide) W
    rwa [v77] at this
  have v108 : M.hasB ⟨#[68, 65, 66, 78]⟩ 108 = false := by decide
  have h108 : Hid (∀ W, Calls Try.prog 38 #[.string ⟨#[68, 65, 66, 78]⟩, .int .u8 108] W fun e w' => e = .returned (.bool false) ∧ w' = W) := fun W => by
    have := has_any ⟨#[68, 65, 66, 78]⟩ (by decide) 108 (by decide) W
    rwa [v108] at this
  have hpl : Hid (M.plain ⟨#[68, 65, 66, 78]⟩ d a b c n ll ml vl = ((c == 0) && ((ll : Int) == 0) && ((ml : Int) == 0) && ((vl : Int) == 0))) := by
    show M.plain _ _ _ _ _ _ _ _ _ = _
    unfold M.plain M.may
    rw [ByteArray.toList_eq, v68, v65, v66, v67, v78, v76, v77, v108]
    simp
  generalize M.plain ⟨#[68, 65, 66, 78]⟩ d a b c n ll ml vl = pl at *
  clear v68 v65 v66 v67 v78 v76 v77 v108
  go_enter Try.func16, Try.ntmps16
  go_wp2_with fail
  refine HU.out.mono ?_; rintro e w2 ⟨rfl, t2⟩
  have hb := t2.blk (Blk.new w 44 #[.int .i64 op, .int .i64 d, .int .i64 a, .int .i64 b, .int .i64 c, .int .i64 n, .slice la ll lc, .slice ma ml mc, .slice va vl vc])
  have S2 : Hid (Still w w2) := Still.trans ((Still.refl w).alloc _) t2
  have hl := hb.lt
  have c0 := hb.cell 0
  have c1 := hb.cell 1
  have c2 := hb.cell 2
  have c3 := hb.cell 3
  have c4 := hb.cell 4
  have c5 := hb.cell 5
  have c6 := hb.cell 6
  have c7 := hb.cell 7
  have c8 := hb.cell 8
  simp only [List.getElem?_toArray, List.getElem?_cons_succ, List.getElem?_cons_zero] at c0 c1 c2 c3 c4 c5 c6 c7 c8
  clear hb t2
  go_wp2_with (first
    | (go_at_call 38; (with_reducible refine (h68.out _).mono ?_); rintro e w9 ⟨rfl, rfl⟩)
    | (go_at_call 38; (with_reducible refine (h65.out _).mono ?_); rintro e w9 ⟨rfl, rfl⟩)
    | (go_at_call 38; (with_reducible refine (h66.out _).mono ?_); rintro e w9 ⟨rfl, rfl⟩)
    | (go_at_call 38; (with_reducible refine (h67.out _).mono ?_); rintro e w9 ⟨rfl, rfl⟩)
    | (go_at_call 38; (with_reducible refine (h78.out _).mono ?_); rintro e w9 ⟨rfl, rfl⟩)
    | (go_at_call 38; (with_reducible refine (h76.out _).mono ?_); rintro e w9 ⟨rfl, rfl⟩)
    | (go_at_call 38; (with_reducible refine (h77.out _).mono ?_); rintro e w9 ⟨rfl, rfl⟩)
    | (go_at_call 38; (with_reducible refine (h108.out _).mono ?_); rintro e w9 ⟨rfl, rfl⟩))
  all_goals
    go_ret
    refine ⟨?_, S2.out⟩
    have := hpl.out
    rw [this]
    simp_all
set_option maxRecDepth 100000 in
set_option maxHeartbeats 4000000 in
theorem refPlain_9 (op d a b c n : Int) (la : Option Addr) (ll lc : Nat) (ma : Option Addr) (ml mc : Nat) (va : Option Addr) (vl vc : Nat) (w : World) (hu : M.uses op = ⟨#[68, 65, 66, 108]⟩) :
    Calls Try.prog 16 #[.agg #[.int .i64 op, .int .i64 d, .int .i64 a, .int .i64 b, .int .i64 c, .int .i64 n, .slice la ll lc, .slice ma ml mc, .slice va vl vc]] w fun e w' => e = .returned (.bool (M.plain ⟨#[68, 65, 66, 108]⟩ d a b c n ll ml vl)) ∧ Still w w' := by
  have hu2 := refUses_any op (w.alloc (.cells #[.int .i64 op, .int .i64 d, .int .i64 a, .int .i64 b, .int .i64 c, .int .i64 n, .slice la ll lc, .slice ma ml mc, .slice va vl vc] 44))
  rw [hu] at hu2
  have HU := Lib.hid hu2
  clear hu hu2
  have v68 : M.hasB ⟨#[68, 65, 66, 108]⟩ 68 = true := by decide
  have h68 : Hid (∀ W, Calls Try.prog 38 #[.string ⟨#[68, 65, 66, 108]⟩, .int .u8 68] W fun e w' => e = .returned (.bool true) ∧ w' = W) := fun W => by
    have := has_any ⟨#[68, 65, 66, 108]⟩ (by decide) 68 (by decide) W
    rwa [v68] at this
  have v65 : M.hasB ⟨#[68, 65, 66, 108]⟩ 65 = true := by decide
  have h65 : Hid (∀ W, Calls Try.prog 38 #[.string ⟨#[68, 65, 66, 108]⟩, .int .u8 65] W fun e w' => e = .returned (.bool true) ∧ w' = W) := fun W => by
    have := has_any ⟨#[68, 65, 66, 108]⟩ (by decide) 65 (by decide) W
    rwa [v65] at this
  have v66 : M.hasB ⟨#[68, 65, 66, 108]⟩ 66 = true := by decide
  have h66 : Hid (∀ W, Calls Try.prog 38 #[.string ⟨#[68, 65, 66, 108]⟩, .int .u8 66] W fun e w' => e = .returned (.bool true) ∧ w' = W) := fun W => by
    have := has_any ⟨#[68, 65, 66, 108]⟩ (by decide) 66 (by decide) W
    rwa [v66] at this
  have v67 : M.hasB ⟨#[68, 65, 66, 108]⟩ 67 = false := by decide
  have h67 : Hid (∀ W, Calls Try.prog 38 #[.string ⟨#[68, 65, 66, 108]⟩, .int .u8 67] W fun e w' => e = .returned (.bool false) ∧ w' = W) := fun W => by
    have := has_any ⟨#[68, 65, 66, 108]⟩ (by decide) 67 (by decide) W
    rwa [v67] at this
  have v78 : M.hasB ⟨#[68, 65, 66, 108]⟩ 78 = false := by decide
  have h78 : Hid (∀ W, Calls Try.prog 38 #[.string ⟨#[68, 65, 66, 108]⟩, .int .u8 78] W fun e w' => e = .returned (.bool false) ∧ w' = W) := fun W => by
    have := has_any ⟨#[68, 65, 66, 108]⟩ (by decide) 78 (by decide) W
    rwa [v78] at this
  have v76 : M.hasB ⟨#[68, 65, 66, 108]⟩ 76 = false := by decide
  have h76 : Hid (∀ W, Calls Try.prog 38 #[.string ⟨#[68, 65, 66, 108]⟩, .int .u8 76] W fun e w' => e = .returned (.bool false) ∧ w' = W) := fun W => by
    have := has_any ⟨#[68, 65, 66, 108]⟩ (by decide) 76 (by decide) W
    rwa [v76] at this
  have v77 : M.hasB ⟨#[68, 65, 66, 108]⟩ 77 = false := by decide
  have h77 : Hid (∀ W, Calls Try.prog 38 #[.string ⟨#[68, 65, 66, 108]⟩, .int .u8 77] W fun e w' => e = .returned (.bool false) ∧ w' = W) := fun W => by
    have := has_any ⟨#[68, 65, 66, 108]⟩ (by decide) 77 (by decide) W
    rwa [v77] at this
  have v108 : M.hasB ⟨#[68, 65, 66, 108]⟩ 108 = true := by decide
  have h108 : Hid (∀ W, Calls Try.prog 38 #[.string ⟨#[68, 65, 66, 108]⟩, .int .u8 108] W fun e w' => e = .returned (.bool true) ∧ w' = W) := fun W => by
    have := has_any ⟨#[68, 65, 66, 108]⟩ (by decide) 108 (by decide) W
    rwa [v108] at this
  have hpl : Hid (M.plain ⟨#[68, 65, 66, 108]⟩ d a b c n ll ml vl = ((c == 0) && (n == 0) && ((ll : Int) == 0) && ((ml : Int) == 0))) := by
    show M.plain _ _ _ _ _ _ _ _ _ = _
    unfold M.plain M.may
    rw [ByteArray.toList_eq, v68, v65, v66, v67, v78, v76, v77, v108]
    simp
  generalize M.plain ⟨#[68, 65, 66, 108]⟩ d a b c n ll ml vl = pl at *
  clear v68 v65 v66 v67 v78 v76 v77 v108
  go_enter Try.func16, Try.ntmps16
  go_wp2_with fail
  refine HU.out.mono ?_; rintro e w2 ⟨rfl, t2⟩
  have hb := t2.blk (Blk.new w 44 #[.int .i64 op, .int .i64 d, .int .i64 a, .int .i64 b, .int .i64 c, .int .i64 n, .slice la ll lc, .slice ma ml mc, .slice va vl vc])
  have S2 : Hid (Still w w2) := Still.trans ((Still.refl w).alloc _) t2
  have hl := hb.lt
  have c0 := hb.cell 0
  have c1 := hb.cell 1
  have c2 := hb.cell 2
  have c3 := hb.cell 3
  have c4 := hb.cell 4
  have c5 := hb.cell 5
  have c6 := hb.cell 6
  have c7 := hb.cell 7
  have c8 := hb.cell 8
  simp only [List.getElem?_toArray, List.getElem?_cons_succ, List.getElem?_cons_zero] at c0 c1 c2 c3 c4 c5 c6 c7 c8
  clear hb t2
  go_wp2_with (first
    | (go_at_call 38; (with_reducible refine (h68.out _).mono ?_); rintro e w9 ⟨rfl, rfl⟩)
    | (go_at_call 38; (with_reducible refine (h65.out _).mono ?_); rintro e w9 ⟨rfl, rfl⟩)
    | (go_at_call 38; (with_reducible refine (h66.out _).mono ?_); rintro e w9 ⟨rfl, rfl⟩)
    | (go_at_call 38; (with_reducible refine (h67.out _).mono ?_); rintro e w9 ⟨rfl, rfl⟩)
    | (go_at_call 38; (with_reducible refine (h78.out _).mono ?_); rintro e w9 ⟨rfl, rfl⟩)
    | (go_at_call 38; (with_reducible refine (h76.out _).mono ?_); rintro e w9 ⟨rfl, rfl⟩)
    | (go_at_call 38; (with_reducible refine (h77.out _).mono ?_); rintro e w9 ⟨rfl, rfl⟩)
    | (go_at_call 38; (with_reducible refine (h108.out _).mono ?_); rintro e w9 ⟨rfl, rfl⟩))
  all_goals
    go_ret
    refine ⟨?_, S2.out⟩
    have := hpl.out
    rw [this]
    simp_all
set_option maxRecDepth 100000 in
set_option maxHeartbeats 4000000 in
theorem refPlain_14 (op d a b c n : Int) (la : Option Addr) (ll lc : Nat) (ma : Option Addr) (ml mc : Nat) (va : Option Addr) (vl vc : Nat) (w : World) (hu : M.uses op = ⟨#[65]⟩) :
    Calls Try.prog 16 #[.agg #[.int .i64 op, .int .i64 d, .int .i64 a, .int .i64 b, .int .i64 c, .int .i64 n, .slice la ll lc, .slice ma ml mc, .slice va vl vc]] w fun e w' => e = .returned (.bool (M.plain ⟨#[65]⟩ d a b c n ll ml vl)) ∧ Still w w' := by
  have hu2 := refUses_any op (w.alloc (.cells #[.int .i64 op, .int .i64 d, .int .i64 a, .int .i64 b, .int .i64 c, .int .i64 n, .slice la ll lc, .slice ma ml mc, .slice va vl vc] 44))
  rw [hu] at hu2
  have HU := Lib.hid hu2
  clear hu hu2
  have v68 : M.hasB ⟨#[65]⟩ 68 = false := by decide
  have h68 : Hid (∀ W, Calls Try.prog 38 #[.string ⟨#[65]⟩, .int .u8 68] W fun e w' => e = .returned (.bool false) ∧ w' = W) := fun W => by
    have := has_any ⟨#[65]⟩ (by decide) 68 (by decide) W
    rwa [v68] at this
  have v65 : M.hasB ⟨#[65]⟩ 65 = true := by decide
  have h65 : Hid (∀ W, Calls Try.prog 38 #[.string ⟨#[65]⟩, .int .u8 65] W fun e w' => e = .returned (.bool true) ∧ w' = W) := fun W => by
    have := has_any ⟨#[65]⟩ (by decide) 65 (by decide) W
    rwa [v65] at this
  have v66 : M.hasB ⟨#[65]⟩ 66 = false := by decide
  have h66 : Hid (∀ W, Calls Try.prog 38 #[.string ⟨#[65]⟩, .int .u8 66] W fun e w' => e = .returned (.bool false) ∧ w' = W) := fun W => by
    have := has_any ⟨#[65]⟩ (by decide) 66 (by decide) W
    rwa [v66] at this
  have v67 : M.hasB ⟨#[65]⟩ 67 = false := by decide
  have h67 : Hid (∀ W, Calls Try.prog 38 #[.string ⟨#[65]⟩, .int .u8 67] W fun e w' => e = .returned (.bool false) ∧ w' = W) := fun W => by
    have := has_any ⟨#[65]⟩ (by decide) 67 (by decide) W
    rwa [v67] at this
  have v78 : M.hasB ⟨#[65]⟩ 78 = false := by decide
  have h78 : Hid (∀ W, Calls Try.prog 38 #[.string ⟨#[65]⟩, .int .u8 78] W fun e w' => e = .returned (.bool false) ∧ w' = W) := fun W => by
    have := has_any ⟨#[65]⟩ (by decide) 78 (by decide) W
    rwa [v78] at this
  have v76 : M.hasB ⟨#[65]⟩ 76 = false := by decide
  have h76 : Hid (∀ W, Calls Try.prog 38 #[.string ⟨#[65]⟩, .int .u8 76] W fun e w' => e = .returned (.bool false) ∧ w' = W) := fun W => by
    have := has_any ⟨#[65]⟩ (by decide) 76 (by decide) W
    rwa [v76] at this
  have v77 : M.hasB ⟨#[65]⟩ 77 = false := by decide
  have h77 : Hid (∀ W, Calls Try.prog 38 #[.string ⟨#[65]⟩, .int .u8 77] W fun e w' => e = .returned (.bool false) ∧ w' = W) := fun W => by
    have := has_any ⟨#[65]⟩ (by decide) 77 (by decide) W
    rwa [v77] at this
  have v108 : M.hasB ⟨#[65]⟩ 108 = false := by decide
  have h108 : Hid (∀ W, Calls Try.prog 38 #[.string ⟨#[65]⟩, .int .u8 108] W fun e w' => e = .returned (.bool false) ∧ w' = W) := fun W => by
    have := has_any ⟨#[65]⟩ (by decide) 108 (by decide) W
    rwa [v108] at this
  have hpl : Hid (M.plain ⟨#[65]⟩ d a b c n ll ml vl = ((d == 0) && (b == 0) && (c == 0) && (n == 0) && ((ll : Int) == 0) && ((ml : Int) == 0) && ((vl : Int) == 0))) := by
    show M.plain _ _ _ _ _ _ _ _ _ = _
    unfold M.plain M.may
    rw [ByteArray.toList_eq, v68, v65, v66, v67, v78, v76, v77, v108]
    simp
  generalize M.plain ⟨#[65]⟩ d a b c n ll ml vl = pl at *
  clear v68 v65 v66 v67 v78 v76 v77 v108
  go_enter Try.func16, Try.ntmps16
  go_wp2_with fail
  refine HU.out.mono ?_; rintro e w2 ⟨rfl, t2⟩
  have hb := t2.blk (Blk.new w 44 #[.int .i64 op, .int .i64 d, .int .i64 a, .int .i64 b, .int .i64 c, .int .i64 n, .slice la ll lc, .slice ma ml mc, .slice va vl vc])
  have S2 : Hid (Still w w2) := Still.trans ((Still.refl w).alloc _) t2
  have hl := hb.lt
  have c0 := hb.cell 0
  have c1 := hb.cell 1
  have c2 := hb.cell 2
  have c3 := hb.cell 3
  have c4 := hb.cell 4
  have c5 := hb.cell 5
  have c6 := hb.cell 6
  have c7 := hb.cell 7
  have c8 := hb.cell 8
  simp only [List.getElem?_toArray, List.getElem?_cons_succ, List.getElem?_cons_zero] at c0 c1 c2 c3 c4 c5 c6 c7 c8
  clear hb t2
  go_wp2_with (first
    | (go_at_call 38; (with_reducible refine (h68.out _).mono ?_); rintro e w9 ⟨rfl, rfl⟩)
    | (go_at_call 38; (with_reducible refine (h65.out _).mono ?_); rintro e w9 ⟨rfl, rfl⟩)
    | (go_at_call 38; (with_reducible refine (h66.out _).mono ?_); rintro e w9 ⟨rfl, rfl⟩)
    | (go_at_call 38; (with_reducible refine (h67.out _).mono ?_); rintro e w9 ⟨rfl, rfl⟩)
    | (go_at_call 38; (with_reducible refine (h78.out _).mono ?_); rintro e w9 ⟨rfl, rfl⟩)
    | (go_at_call 38; (with_reducible refine (h76.out _).mono ?_); rintro e w9 ⟨rfl, rfl⟩)
    | (go_at_call 38; (with_reducible refine (h77.out _).mono ?_); rintro e w9 ⟨rfl, rfl⟩)
    | (go_at_call 38; (with_reducible refine (h108.out _).mono ?_); rintro e w9 ⟨rfl, rfl⟩))
  all_goals
    go_ret
    refine ⟨?_, S2.out⟩
    have := hpl.out
    rw [this]
    simp_all
end Go.Proofs.Ytjeehbcbflofpaa
