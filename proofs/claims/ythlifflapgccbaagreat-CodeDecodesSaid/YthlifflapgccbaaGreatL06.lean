/- Lemmas, put together: RefPlain0 RefPlain1 RefPlain2 RefPlain3 RefPlain4 InstrsW. -/
import Derived.Test.YthlifflapgccbaaGreatL05
/- The document's Plain, for each text of letters. -/
namespace Go.Proofs.YthlifflapgccbaaGreat
set_option linter.unusedVariables false
open Go.ChangeShapes Go.WideShapes Go.ChangeAt Go.RowKit
open M (W)
set_option maxRecDepth 100000 in
set_option maxHeartbeats 4000000 in
theorem refPlain_0 (op d a b c n : Int) (la : Option Addr) (ll lc : Nat) (ma : Option Addr) (ml mc : Nat) (va : Option Addr) (vl vc : Nat) (w : World) (hu : M.uses op = ⟨#[]⟩) :
    Calls Tryz.prog 45 #[.agg #[.int .i64 op, .int .i64 d, .int .i64 a, .int .i64 b, .int .i64 c, .int .i64 n, .slice la ll lc, .slice ma ml mc, .slice va vl vc]] w fun e w' => e = .returned (.bool (M.plain ⟨#[]⟩ d a b c n ll ml vl)) ∧ Still w w' := by
  have hu2 := refUses_any op (w.alloc (.cells #[.int .i64 op, .int .i64 d, .int .i64 a, .int .i64 b, .int .i64 c, .int .i64 n, .slice la ll lc, .slice ma ml mc, .slice va vl vc] 70))
  rw [hu] at hu2
  have HU := Lib.hid hu2
  clear hu hu2
  have v68 : M.hasB ⟨#[]⟩ 68 = false := by decide
  have h68 : Hid (∀ W, Calls Tryz.prog 76 #[.string ⟨#[]⟩, .int .u8 68] W fun e w' => e = .returned (.bool false) ∧ w' = W) := fun W => by
    have := has_any ⟨#[]⟩ (by decide) 68 (by decide) W
    rwa [v68] at this
  have v65 : M.hasB ⟨#[]⟩ 65 = false := by decide
  have h65 : Hid (∀ W, Calls Tryz.prog 76 #[.string ⟨#[]⟩, .int .u8 65] W fun e w' => e = .returned (.bool false) ∧ w' = W) := fun W => by
    have := has_any ⟨#[]⟩ (by decide) 65 (by decide) W
    rwa [v65] at this
  have v66 : M.hasB ⟨#[]⟩ 66 = false := by decide
  have h66 : Hid (∀ W, Calls Tryz.prog 76 #[.string ⟨#[]⟩, .int .u8 66] W fun e w' => e = .returned (.bool false) ∧ w' = W) := fun W => by
    have := has_any ⟨#[]⟩ (by decide) 66 (by decide) W
    rwa [v66] at this
  have v67 : M.hasB ⟨#[]⟩ 67 = false := by decide
  have h67 : Hid (∀ W, Calls Tryz.prog 76 #[.string ⟨#[]⟩, .int .u8 67] W fun e w' => e = .returned (.bool false) ∧ w' = W) := fun W => by
    have := has_any ⟨#[]⟩ (by decide) 67 (by decide) W
    rwa [v67] at this
  have v78 : M.hasB ⟨#[]⟩ 78 = false := by decide
  have h78 : Hid (∀ W, Calls Tryz.prog 76 #[.string ⟨#[]⟩, .int .u8 78] W fun e w' => e = .returned (.bool false) ∧ w' = W) := fun W => by
    have := has_any ⟨#[]⟩ (by decide) 78 (by decide) W
    rwa [v78] at this
  have v76 : M.hasB ⟨#[]⟩ 76 = false := by decide
  have h76 : Hid (∀ W, Calls Tryz.prog 76 #[.string ⟨#[]⟩, .int .u8 76] W fun e w' => e = .returned (.bool false) ∧ w' = W) := fun W => by
    have := has_any ⟨#[]⟩ (by decide) 76 (by decide) W
    rwa [v76] at this
  have v77 : M.hasB ⟨#[]⟩ 77 = false := by decide
  have h77 : Hid (∀ W, Calls Tryz.prog 76 #[.string ⟨#[]⟩, .int .u8 77] W fun e w' => e = .returned (.bool false) ∧ w' = W) := fun W => by
    have := has_any ⟨#[]⟩ (by decide) 77 (by decide) W
    rwa [v77] at this
  have v108 : M.hasB ⟨#[]⟩ 108 = false := by decide
  have h108 : Hid (∀ W, Calls Tryz.prog 76 #[.string ⟨#[]⟩, .int .u8 108] W fun e w' => e = .returned (.bool false) ∧ w' = W) := fun W => by
    have := has_any ⟨#[]⟩ (by decide) 108 (by decide) W
    rwa [v108] at this
  have hpl : Hid (M.plain ⟨#[]⟩ d a b c n ll ml vl = (false)) := by
    show M.plain _ _ _ _ _ _ _ _ _ = _
    unfold M.plain M.may
    rw [ByteArray.toList_eq, v68, v65, v66, v67, v78, v76, v77, v108]
    simp
  generalize M.plain ⟨#[]⟩ d a b c n ll ml vl = pl at *
  clear v68 v65 v66 v67 v78 v76 v77 v108
  go_enter Tryz.func45, Tryz.ntmps45
  go_wp2_with fail
  refine HU.out.mono ?_; rintro e w2 ⟨rfl, t2⟩
  have hb := t2.blk (Blk.new w 70 #[.int .i64 op, .int .i64 d, .int .i64 a, .int .i64 b, .int .i64 c, .int .i64 n, .slice la ll lc, .slice ma ml mc, .slice va vl vc])
  have S2 : Hid (Still w w2) := Still.trans ((Still.refl w).alloc _) t2
  have hl := hb.lt
  have c0 := hb.cell 0
  have c1 := hb.cell 1
  have c2 := hb.cell 2
  have c3 := hb.cell 3
  have c4 := hb.cell 4
  have c5 := hb.cell 5
  have c6 := hb.cell 6
  have c7 := hb.cell 7
  have c8 := hb.cell 8
  simp only [List.getElem?_toArray, List.getElem?_cons_succ, List.getElem?_cons_zero] at c0 c1 c2 c3 c4 c5 c6 c7 c8
  clear hb t2
  go_wp2_with (first
    | (go_at_call 76; (with_reducible refine (h68.out _).mono ?_); rintro e w9 ⟨rfl, rfl⟩)
    | (go_at_call 76; (with_reducible refine (h65.out _).mono ?_); rintro e w9 ⟨rfl, rfl⟩)
    | (go_at_call 76; (with_reducible refine (h66.out _).mono ?_); rintro e w9 ⟨rfl, rfl⟩)
    | (go_at_call 76; (with_reducible refine (h67.out _).mono ?_); rintro e w9 ⟨rfl, rfl⟩)
    | (go_at_call 76; (with_reducible refine (h78.out _).mono ?_); rintro e w9 ⟨rfl, rfl⟩)
    | (go_at_call 76; (with_reducible refine (h76.out _).mono ?_); rintro e w9 ⟨rfl, rfl⟩)
    | (go_at_call 76; (with_reducible refine (h77.out _).mono ?_); rintro e w9 ⟨rfl, rfl⟩)
    | (go_at_call 76; (with_reducible refine (h108.out _).mono ?_); rintro e w9 ⟨rfl, rfl⟩))
  all_goals
    go_ret
    refine ⟨?_, S2.out⟩
    have := hpl.out
    rw [this]
    simp_all
set_option maxRecDepth 100000 in
set_option maxHeartbeats 4000000 in
theorem refPlain_5 (op d a b c n : Int) (la : Option Addr) (ll lc : Nat) (ma : Option Addr) (ml mc : Nat) (va : Option Addr) (vl vc : Nat) (w : World) (hu : M.uses op = ⟨#[68, 65, 76, 108]⟩) :
    Calls Tryz.prog 45 #[.agg #[.int .i64 op, .int .i64 d, .int .i64 a, .int .i64 b, .int .i64 c, .int .i64 n, .slice la ll lc, .slice ma ml mc, .slice va vl vc]] w fun e w' => e = .returned (.bool (M.plain ⟨#[68, 65, 76, 108]⟩ d a b c n ll ml vl)) ∧ Still w w' := by
  have hu2 := refUses_any op (w.alloc (.cells #[.int .i64 op, .int .i64 d, .int .i64 a, .int .i64 b, .int .i64 c, .int .i64 n, .slice la ll lc, .slice ma ml mc, .slice va vl vc] 70))
  rw [hu] at hu2
  have HU := Lib.hid hu2
  clear hu hu2
  have v68 : M.hasB ⟨#[68, 65, 76, 108]⟩ 68 = true := by decide
  have h68 : Hid (∀ W, Calls Tryz.prog 76 #[.string ⟨#[68, 65, 76, 108]⟩, .int .u8 68] W fun e w' => e = .returned (.bool true) ∧ w' = W) := fun W => by
    have := has_any ⟨#[68, 65, 76, 108]⟩ (by decide) 68 (by decide) W
    rwa [v68] at this
  have v65 : M.hasB ⟨#[68, 65, 76, 108]⟩ 65 = true := by decide
  have h65 : Hid (∀ W, Calls Tryz.prog 76 #[.string ⟨#[68, 65, 76, 108]⟩, .int .u8 65] W fun e w' => e = .returned (.bool true) ∧ w' = W) := fun W => by
    have := has_any ⟨#[68, 65, 76, 108]⟩ (by decide) 65 (by decide) W
    rwa [v65] at this
  have v66 : M.hasB ⟨#[68, 65, 76, 108]⟩ 66 = false := by decide
  have h66 : Hid (∀ W, Calls Tryz.prog 76 #[.string ⟨#[68, 65, 76, 108]⟩, .int .u8 66] W fun e w' => e = .returned (.bool false) ∧ w' = W) := fun W => by
    have := has_any ⟨#[68, 65, 76, 108]⟩ (by decide) 66 (by decide) W
    rwa [v66] at this
  have v67 : M.hasB ⟨#[68, 65, 76, 108]⟩ 67 = false := by decide
  have h67 : Hid (∀ W, Calls Tryz.prog 76 #[.string ⟨#[68, 65, 76, 108]⟩, .int .u8 67] W fun e w' => e = .returned (.bool false) ∧ w' = W) := fun W => by
    have := has_any ⟨#[68, 65, 76, 108]⟩ (by decide) 67 (by decide) W
    rwa [v67] at this
  have v78 : M.hasB ⟨#[68, 65, 76, 108]⟩ 78 = false := by decide
  have h78 : Hid (∀ W, Calls Tryz.prog 76 #[.string ⟨#[68, 65, 76, 108]⟩, .int .u8 78] W fun e w' => e = .returned (.bool false) ∧ w' = W) := fun W => by
    have := has_any ⟨#[68, 65, 76, 108]⟩ (by decide) 78 (by decide) W
    rwa [v78] at this
  have v76 : M.hasB ⟨#[68, 65, 76, 108]⟩ 76 = true := by decide
  have h76 : Hid (∀ W, Calls Tryz.prog 76 #[.string ⟨#[68, 65, 76, 108]⟩, .int .u8 76] W fun e w' => e = .returned (.bool true) ∧ w' = W) := fun W => by
    have := has_any ⟨#[68, 65, 76, 108]⟩ (by decide) 76 (by decide) W
    rwa [v76] at this
  have v77 : M.hasB ⟨#[68, 65, 76, 108]⟩ 77 = false := by decide
  have h77 : Hid (∀ W, Calls Tryz.prog 76 #[.string ⟨#[68, 65, 76, 108]⟩, .int .u8 77] W fun e w' => e = .returned (.bool false) ∧ w' = W) := fun W => by
    have := has_any ⟨#[68, 65, 76, 108]⟩ (by decide) 77 (by decide) W
    rwa [v77] at this
  have v108 : M.hasB ⟨#[68, 65, 76, 108]⟩ 108 = true := by decide
  have h108 : Hid (∀ W, Calls Tryz.prog 76 #[.string ⟨#[68, 65, 76, 108]⟩, .int .u8 108] W fun e w' => e = .returned (.bool true) ∧ w' = W) := fun W => by
    have := has_any ⟨#[68, 65, 76, 108]⟩ (by decide) 108 (by decide) W
    rwa [v108] at this
  have hpl : Hid (M.plain ⟨#[68, 65, 76, 108]⟩ d a b c n ll ml vl = ((b == 0) && (c == 0) && (n == 0) && ((ml : Int) == 0))) := by
    show M.plain _ _ _ _ _ _ _ _ _ = _
    unfold M.plain M.may
    rw [ByteArray.toList_eq, v68, v65, v66, v67, v78, v76, v77, v108]
    simp
  generalize M.plain ⟨#[68, 65, 76, 108]⟩ d a b c n ll ml vl = pl at *
  clear v68 v65 v66 v67 v78 v76 v77 v108
  go_enter Tryz.func45, Tryz.ntmps45
  go_wp2_with fail
  refine HU.out.mono ?_; rintro e w2 ⟨rfl, t2⟩
  have hb := t2.blk (Blk.new w 70 #[.int .i64 op, .int .i64 d, .int .i64 a, .int .i64 b, .int .i64 c, .int .i64 n, .slice la ll lc, .slice ma ml mc, .slice va vl vc])
  have S2 : Hid (Still w w2) := Still.trans ((Still.refl w).alloc _) t2
  have hl := hb.lt
  have c0 := hb.cell 0
  have c1 := hb.cell 1
  have c2 := hb.cell 2
  have c3 := hb.cell 3
  have c4 := hb.cell 4
  have c5 := hb.cell 5
  have c6 := hb.cell 6
  have c7 := hb.cell 7
  have c8 := hb.cell 8
  simp only [List.getElem?_toArray, List.getElem?_cons_succ, List.getElem?_cons_zero] at c0 c1 c2 c3 c4 c5 c6 c7 c8
  clear hb t2
  go_wp2_with (first
    | (go_at_call 76; (with_reducible refine (h68.out _).mono ?_); rintro e w9 ⟨rfl, rfl⟩)
    | (go_at_call 76; (with_reducible refine (h65.out _).mono ?_); rintro e w9 ⟨rfl, rfl⟩)
    | (go_at_call 76; (with_reducible refine (h66.out _).mono ?_); rintro e w9 ⟨rfl, rfl⟩)
    | (go_at_call 76; (with_reducible refine (h67.out _).mono ?_); rintro e w9 ⟨rfl, rfl⟩)
    | (go_at_call 76; (with_reducible refine (h78.out _).mono ?_); rintro e w9 ⟨rfl, rfl⟩)
    | (go_at_call 76; (with_reducible refine (h76.out _).mono ?_); rintro e w9 ⟨rfl, rfl⟩)
    | (go_at_call 76; (with_reducible refine (h77.out _).mono ?_); rintro e w9 ⟨rfl, rfl⟩)
    | (go_at_call 76; (with_reducible refine (h108.out _).mono ?_); rintro e w9 ⟨rfl, rfl⟩))
  all_goals
    go_ret
    refine ⟨?_, S2.out⟩
    have := hpl.out
    rw [this]
    simp_all
set_option maxRecDepth 100000 in
set_option maxHeartbeats 4000000 in
theorem refPlain_10 (op d a b c n : Int) (la : Option Addr) (ll lc : Nat) (ma : Option Addr) (ml mc : Nat) (va : Option Addr) (vl vc : Nat) (w : World) (hu : M.uses op = ⟨#[68]⟩) :
    Calls Tryz.prog 45 #[.agg #[.int .i64 op, .int .i64 d, .int .i64 a, .int .i64 b, .int .i64 c, .int .i64 n, .slice la ll lc, .slice ma ml mc, .slice va vl vc]] w fun e w' => e = .returned (.bool (M.plain ⟨#[68]⟩ d a b c n ll ml vl)) ∧ Still w w' := by
  have hu2 := refUses_any op (w.alloc (.cells #[.int .i64 op, .int .i64 d, .int .i64 a, .int .i64 b, .int .i64 c, .int .i64 n, .slice la ll lc, .slice ma ml mc, .slice va vl vc] 70))
  rw [hu] at hu2
  have HU := Lib.hid hu2
  clear hu hu2
  have v68 : M.hasB ⟨#[68]⟩ 68 = true := by decide
  have h68 : Hid (∀ W, Calls Tryz.prog 76 #[.string ⟨#[68]⟩, .int .u8 68] W fun e w' => e = .returned (.bool true) ∧ w' = W) := fun W => by
    have := has_any ⟨#[68]⟩ (by decide) 68 (by decide) W
    rwa [v68] at this
  have v65 : M.hasB ⟨#[68]⟩ 65 = false := by decide
  have h65 : Hid (∀ W, Calls Tryz.prog 76 #[.string ⟨#[68]⟩, .int .u8 65] W fun e w' => e = .returned (.bool false) ∧ w' = W) := fun W => by
    have := has_any ⟨#[68]⟩ (by decide) 65 (by decide) W
    rwa [v65] at this
  have v66 : M.hasB ⟨#[68]⟩ 66 = false := by decide
  have h66 : Hid (∀ W, Calls Tryz.prog 76 #[.string ⟨#[68]⟩, .int .u8 66] W fun e w' => e = .returned (.bool false) ∧ w' = W) := fun W => by
    have := has_any ⟨#[68]⟩ (by decide) 66 (by decide) W
    rwa [v66] at this
  have v67 : M.hasB ⟨#[68]⟩ 67 = false := by decide
  have h67 : Hid (∀ W, Calls Tryz.prog 76 #[.string ⟨#[68]⟩, .int .u8 67] W fun e w' => e = .returned (.bool false) ∧ w' = W) := fun W => by
    have := has_any ⟨#[68]⟩ (by decide) 67 (by decide) W
    rwa [v67] at this
  have v78 : M.hasB ⟨#[68]⟩ 78 = false := by decide
  have h78 : Hid (∀ W, Calls Tryz.prog 76 #[.string ⟨#[68]⟩, .int .u8 78] W fun e w' => e = .returned (.bool false) ∧ w' = W) := fun W => by
    have := has_any ⟨#[68]⟩ (by decide) 78 (by decide) W
    rwa [v78] at this
  have v76 : M.hasB ⟨#[68]⟩ 76 = false := by decide
  have h76 : Hid (∀ W, Calls Tryz.prog 76 #[.string ⟨#[68]⟩, .int .u8 76] W fun e w' => e = .returned (.bool false) ∧ w' = W) := fun W => by
    have := has_any ⟨#[68]⟩ (by decide) 76 (by decide) W
    rwa [v76] at this
  have v77 : M.hasB ⟨#[68]⟩ 77 = false := by decide
  have h77 : Hid (∀ W, Calls Tryz.prog 76 #[.string ⟨#[68]⟩, .int .u8 77] W fun e w' => e = .returned (.bool false) ∧ w' = W) := fun W => by
    have := has_any ⟨#[68]⟩ (by decide) 77 (by decide) W
    rwa [v77] at this
  have v108 : M.hasB ⟨#[68]⟩ 108 = false := by decide
  have h108 : Hid (∀ W, Calls Tryz.prog 76 #[.string ⟨#[68]⟩, .int .u8 108] W fun e w' => e = .returned (.bool false) ∧ w' = W) := fun W => by
    have := has_any ⟨#[68]⟩ (by decide) 108 (by decide) W
    rwa [v108] at this
  have hpl : Hid (M.plain ⟨#[68]⟩ d a b c n ll ml vl = ((a == 0) && (b == 0) && (c == 0) && (n == 0) && ((ll : Int) == 0) && ((ml : Int) == 0) && ((vl : Int) == 0))) := by
    show M.plain _ _ _ _ _ _ _ _ _ = _
    unfold M.plain M.may
    rw [ByteArray.toList_eq, v68, v65, v66, v67, v78, v76, v77, v108]
    simp
  generalize M.plain ⟨#[68]⟩ d a b c n ll ml vl = pl at *
  clear v68 v65 v66 v67 v78 v76 v77 v108
  go_enter Tryz.func45, Tryz.ntmps45
  go_wp2_with fail
  refine HU.out.mono ?_; rintro e w2 ⟨rfl, t2⟩
  have hb := t2.blk (Blk.new w 70 #[.int .i64 op, .int .i64 d, .int .i64 a, .int .i64 b, .int .i64 c, .int .i64 n, .slice la ll lc, .slice ma ml mc, .slice va vl vc])
  have S2 : Hid (Still w w2) := Still.trans ((Still.refl w).alloc _) t2
  have hl := hb.lt
  have c0 := hb.cell 0
  have c1 := hb.cell 1
  have c2 := hb.cell 2
  have c3 := hb.cell 3
  have c4 := hb.cell 4
  have c5 := hb.cell 5
  have c6 := hb.cell 6
  have c7 := hb.cell 7
  have c8 := hb.cell 8
  simp only [List.getElem?_toArray, List.getElem?_cons_succ, List.getElem?_cons_zero] at c0 c1 c2 c3 c4 c5 c6 c7 c8
  clear hb t2
  go_wp2_with (first
    | (go_at_call 76; (with_reducible refine (h68.out _).mono ?_); rintro e w9 ⟨rfl, rfl⟩)
    | (go_at_call 76; (with_reducible refine (h65.out _).mono ?_); rintro e w9 ⟨rfl, rfl⟩)
    | (go_at_call 76; (with_reducible refine (h66.out _).mono ?_); rintro e w9 ⟨rfl, rfl⟩)
    | (go_at_call 76; (with_reducible refine (h67.out _).mono ?_); rintro e w9 ⟨rfl, rfl⟩)
    | (go_at_call 76; (with_reducible refine (h78.out _).mono ?_); rintro e w9 ⟨rfl, rfl⟩)
    | (go_at_call 76; (with_reducible refine (h76.out _).mono ?_); rintro e w9 ⟨rfl, rfl⟩)
    | (go_at_call 76; (with_reducible refine (h77.out _).mono ?_); rintro e w9 ⟨rfl, rfl⟩)
    | (go_at_call 76; (with_reducible refine (h108.out _).mono ?_); rintro e w9 ⟨rfl, rfl⟩))
  all_goals
    go_ret
    refine ⟨?_, S2.out⟩
    have := hpl.out
    rw [this]
    simp_all
end Go.Proofs.YthlifflapgccbaaGreat
/- The document's Plain, for each text of letters. -/
namespace Go.Proofs.YthlifflapgccbaaGreat
set_option linter.unusedVariables false
open Go.ChangeShapes Go.WideShapes Go.ChangeAt Go.RowKit
open M (W)
set_option maxRecDepth 100000 in
set_option maxHeartbeats 4000000 in
theorem refPlain_1 (op d a b c n : Int) (la : Option Addr) (ll lc : Nat) (ma : Option Addr) (ml mc : Nat) (va : Option Addr) (vl vc : Nat) (w : World) (hu : M.uses op = ⟨#[68, 78]⟩) :
    Calls Tryz.prog 45 #[.agg #[.int .i64 op, .int .i64 d, .int .i64 a, .int .i64 b, .int .i64 c, .int .i64 n, .slice la ll lc, .slice ma ml mc, .slice va vl vc]] w fun e w' => e = .returned (.bool (M.plain ⟨#[68, 78]⟩ d a b c n ll ml vl)) ∧ Still w w' := by
  have hu2 := refUses_any op (w.alloc (.cells #[.int .i64 op, .int .i64 d, .int .i64 a, .int .i64 b, .int .i64 c, .int .i64 n, .slice la ll lc, .slice ma ml mc, .slice va vl vc] 70))
  rw [hu] at hu2
  have HU := Lib.hid hu2
  clear hu hu2
  have v68 : M.hasB ⟨#[68, 78]⟩ 68 = true := by decide
  have h68 : Hid (∀ W, Calls Tryz.prog 76 #[.string ⟨#[68, 78]⟩, .int .u8 68] W fun e w' => e = .returned (.bool true) ∧ w' = W) := fun W => by
    have := has_any ⟨#[68, 78]⟩ (by decide) 68 (by decide) W
    rwa [v68] at this
  have v65 : M.hasB ⟨#[68, 78]⟩ 65 = false := by decide
  have h65 : Hid (∀ W, Calls Tryz.prog 76 #[.string ⟨#[68, 78]⟩, .int .u8 65] W fun e w' => e = .returned (.bool false) ∧ w' = W) := fun W => by
    have := has_any ⟨#[68, 78]⟩ (by decide) 65 (by decide) W
    rwa [v65] at this
  have v66 : M.hasB ⟨#[68, 78]⟩ 66 = false := by decide
  have h66 : Hid (∀ W, Calls Tryz.prog 76 #[.string ⟨#[68, 78]⟩, .int .u8 66] W fun e w' => e = .returned (.bool false) ∧ w' = W) := fun W => by
    have := has_any ⟨#[68, 78]⟩ (by decide) 66 (by decide) W
    rwa [v66] at this
  have v67 : M.hasB ⟨#[68, 78]⟩ 67 = false := by decide
  have h67 : Hid (∀ W, Calls Tryz.prog 76 #[.string ⟨#[68, 78]⟩, .int .u8 67] W fun e w' => e = .returned (.bool false) ∧ w' = W) := fun W => by
    have := has_any ⟨#[68, 78]⟩ (by decide) 67 (by decide) W
    rwa [v67] at this
  have v78 : M.hasB ⟨#[68, 78]⟩ 78 = true := by decide
  have h78 : Hid (∀ W, Calls Tryz.prog 76 #[.string ⟨#[68, 78]⟩, .int .u8 78] W fun e w' => e = .returned (.bool true) ∧ w' = W) := fun W => by
    have := has_any ⟨#[68, 78]⟩ (by decide) 78 (by decide) W
    rwa [v78] at this
  have v76 : M.hasB ⟨#[68, 78]⟩ 76 = false := by decide
  have h76 : Hid (∀ W, Calls Tryz.prog 76 #[.string ⟨#[68, 78]⟩, .int .u8 76] W fun e w' => e = .returned (.bool false) ∧ w' = W) := fun W => by
    have := has_any ⟨#[68, 78]⟩ (by decide) 76 (by decide) W
    rwa [v76] at this
  have v77 : M.hasB ⟨#[68, 78]⟩ 77 = false := by decide
  have h77 : Hid (∀ W, Calls Tryz.prog 76 #[.string ⟨#[68, 78]⟩, .int .u8 77] W fun e w' => e = .returned (.bool false) ∧ w' = W) := fun W => by
    have := has_any ⟨#[68, 78]⟩ (by decide) 77 (by decide) W
    rwa [v77] at this
  have v108 : M.hasB ⟨#[68, 78]⟩ 108 = false := by decide
  have h108 : Hid (∀ W, Calls Tryz.prog 76 #[.string ⟨#[68, 78]⟩, .int .u8 108] W fun e w' => e = .returned (.bool false) ∧ w' = W) := fun W => by
    have := has_any ⟨#[68, 78]⟩ (by decide) 108 (by decide) W
    rwa [v108] at this
  have hpl : Hid (M.plain ⟨#[68, 78]⟩ d a b c n ll ml vl = ((a == 0) && (b == 0) && (c == 0) && ((ll : Int) == 0) && ((ml : Int) == 0) && ((vl : Int) == 0))) := by
    show M.plain _ _ _ _ _ _ _ _ _ = _
    unfold M.plain M.may
    rw [ByteArray.toList_eq, v68, v65, v66, v67, v78, v76, v77, v108]
    simp
  generalize M.plain ⟨#[68, 78]⟩ d a b c n ll ml vl = pl at *
  clear v68 v65 v66 v67 v78 v76 v77 v108
  go_enter Tryz.func45, Tryz.ntmps45
  go_wp2_with fail
  refine HU.out.mono ?_; rintro e w2 ⟨rfl, t2⟩
  have hb := t2.blk (Blk.new w 70 #[.int .i64 op, .int .i64 d, .int .i64 a, .int .i64 b, .int .i64 c, .int .i64 n, .slice la ll lc, .slice ma ml mc, .slice va vl vc])
  have S2 : Hid (Still w w2) := Still.trans ((Still.refl w).alloc _) t2
  have hl := hb.lt
  have c0 := hb.cell 0
  have c1 := hb.cell 1
  have c2 := hb.cell 2
  have c3 := hb.cell 3
  have c4 := hb.cell 4
  have c5 := hb.cell 5
  have c6 := hb.cell 6
  have c7 := hb.cell 7
  have c8 := hb.cell 8
  simp only [List.getElem?_toArray, List.getElem?_cons_succ, List.getElem?_cons_zero] at c0 c1 c2 c3 c4 c5 c6 c7 c8
  clear hb t2
  go_wp2_with (first
    | (go_at_call 76; (with_reducible refine (h68.out _).mono ?_); rintro e w9 ⟨rfl, rfl⟩)
    | (go_at_call 76; (with_reducible refine (h65.out _).mono ?_); rintro e w9 ⟨rfl, rfl⟩)
    | (go_at_call 76; (with_reducible refine (h66.out _).mono ?_); rintro e w9 ⟨rfl, rfl⟩)
    | (go_at_call 76; (with_reducible refine (h67.out _).mono ?_); rintro e w9 ⟨rfl, rfl⟩)
    | (go_at_call 76; (with_reducible refine (h78.out _).mono ?_); rintro e w9 ⟨rfl, rfl⟩)
    | (go_at_call 76; (with_reducible refine (h76.out _).mono ?_); rintro e w9 ⟨rfl, rfl⟩)
    | (go_at_call 76; (with_reducible refine (h77.out _).mono ?_); rintro e w9 ⟨rfl, rfl⟩)
    | (go_at_call 76; (with_reducible refine (h108.out _).mono ?_); rintro e w9 ⟨rfl, rfl⟩))
  all_goals
    go_ret
    refine ⟨?_, S2.out⟩
    have := hpl.out
    rw [this]
    simp_all
set_option maxRecDepth 100000 in
set_option maxHeartbeats 4000000 in
theorem refPlain_6 (op d a b c n : Int) (la : Option Addr) (ll lc : Nat) (ma : Option Addr) (ml mc : Nat) (va : Option Addr) (vl vc : Nat) (w : World) (hu : M.uses op = ⟨#[68, 65, 66]⟩) :
    Calls Tryz.prog 45 #[.agg #[.int .i64 op, .int .i64 d, .int .i64 a, .int .i64 b, .int .i64 c, .int .i64 n, .slice la ll lc, .slice ma ml mc, .slice va vl vc]] w fun e w' => e = .returned (.bool (M.plain ⟨#[68, 65, 66]⟩ d a b c n ll ml vl)) ∧ Still w w' := by
  have hu2 := refUses_any op (w.alloc (.cells #[.int .i64 op, .int .i64 d, .int .i64 a, .int .i64 b, .int .i64 c, .int .i64 n, .slice la ll lc, .slice ma ml mc, .slice va vl vc] 70))
  rw [hu] at hu2
  have HU := Lib.hid hu2
  clear hu hu2
  have v68 : M.hasB ⟨#[68, 65, 66]⟩ 68 = true := by decide
  have h68 : Hid (∀ W, Calls Tryz.prog 76 #[.string ⟨#[68, 65, 66]⟩, .int .u8 68] W fun e w' => e = .returned (.bool true) ∧ w' = W) := fun W => by
    have := has_any ⟨#[68, 65, 66]⟩ (by decide) 68 (by decide) W
    rwa [v68] at this
  have v65 : M.hasB ⟨#[68, 65, 66]⟩ 65 = true := by decide
  have h65 : Hid (∀ W, Calls Tryz.prog 76 #[.string ⟨#[68, 65, 66]⟩, .int .u8 65] W fun e w' => e = .returned (.bool true) ∧ w' = W) := fun W => by
    have := has_any ⟨#[68, 65, 66]⟩ (by decide) 65 (by decide) W
    rwa [v65] at this
  have v66 : M.hasB ⟨#[68, 65, 66]⟩ 66 = true := by decide
  have h66 : Hid (∀ W, Calls Tryz.prog 76 #[.string ⟨#[68, 65, 66]⟩, .int .u8 66] W fun e w' => e = .returned (.bool true) ∧ w' = W) := fun W => by
    have := has_any ⟨#[68, 65, 66]⟩ (by decide) 66 (by decide) W
    rwa [v66] at this
  have v67 : M.hasB ⟨#[68, 65, 66]⟩ 67 = false := by decide
  have h67 : Hid (∀ W, Calls Tryz.prog 76 #[.string ⟨#[68, 65, 66]⟩, .int .u8 67] W fun e w' => e = .returned (.bool false) ∧ w' = W) := fun W => by
    have := has_any ⟨#[68, 65, 66]⟩ (by decide) 67 (by decide) W
    rwa [v67] at this
  have v78 : M.hasB ⟨#[68, 65, 66]⟩ 78 = false := by decide
  have h78 : Hid (∀ W, Calls Tryz.prog 76 #[.string ⟨#[68, 65, 66]⟩, .int .u8 78] W fun e w' => e = .returned (.bool false) ∧ w' = W) := fun W => by
    have := has_any ⟨#[68, 65, 66]⟩ (by decide) 78 (by decide) W
    rwa [v78] at this
  have v76 : M.hasB ⟨#[68, 65, 66]⟩ 76 = false := by decide
  have h76 : Hid (∀ W, Calls Tryz.prog 76 #[.string ⟨#[68, 65, 66]⟩, .int .u8 76] W fun e w' => e = .returned (.bool false) ∧ w' = W) := fun W => by
    have := has_any ⟨#[68, 65, 66]⟩ (by decide) 76 (by decide) W
    rwa [v76] at this
  have v77 : M.hasB ⟨#[68, 65, 66]⟩ 77 = false := by decide
  have h77 : Hid (∀ W, Calls Tryz.prog 76 #[.string ⟨#[68, 65, 66]⟩, .int .u8 77] W fun e w' => e = .returned (.bool false) ∧ w' = W) := fun W => by
    have := has_any ⟨#[68, 65, 66]⟩ (by decide) 77 (by decide) W
    rwa [v77] at this
  have v108 : M.hasB ⟨#[68, 65, 66]⟩ 108 = false := by decide
  have h108 : Hid (∀ W, Calls Tryz.prog 76 #[.string ⟨#[68, 65, 66]⟩, .int .u8 108] W fun e w' => e = .returned (.bool false) ∧ w' = W) := fun W => by
    have := has_any ⟨#[68, 65, 66]⟩ (by decide) 108 (by decide) W
    rwa [v108] at this
  have hpl : Hid (M.plain ⟨#[68, 65, 66]⟩ d a b c n ll ml vl = ((c == 0) && (n == 0) && ((ll : Int) == 0) && ((ml : Int) == 0) && ((vl : Int) == 0))) := by
    show M.plain _ _ _ _ _ _ _ _ _ = _
    unfold M.plain M.may
    rw [ByteArray.toList_eq, v68, v65, v66, v67, v78, v76, v77, v108]
    simp
  generalize M.plain ⟨#[68, 65, 66]⟩ d a b c n ll ml vl = pl at *
  clear v68 v65 v66 v67 v78 v76 v77 v108
  go_enter Tryz.func45, Tryz.ntmps45
  go_wp2_with fail
  refine HU.out.mono ?_; rintro e w2 ⟨rfl, t2⟩
  have hb := t2.blk (Blk.new w 70 #[.int .i64 op, .int .i64 d, .int .i64 a, .int .i64 b, .int .i64 c, .int .i64 n, .slice la ll lc, .slice ma ml mc, .slice va vl vc])
  have S2 : Hid (Still w w2) := Still.trans ((Still.refl w).alloc _) t2
  have hl := hb.lt
  have c0 := hb.cell 0
  have c1 := hb.cell 1
  have c2 := hb.cell 2
  have c3 := hb.cell 3
  have c4 := hb.cell 4
  have c5 := hb.cell 5
  have c6 := hb.cell 6
  have c7 := hb.cell 7
  have c8 := hb.cell 8
  simp only [List.getElem?_toArray, List.getElem?_cons_succ, List.getElem?_cons_zero] at c0 c1 c2 c3 c4 c5 c6 c7 c8
  clear hb t2
  go_wp2_with (first
    | (go_at_call 76; (with_reducible refine (h68.out _).mono ?_); rintro e w9 ⟨rfl, rfl⟩)
    | (go_at_call 76; (with_reducible refine (h65.out _).mono ?_); rintro e w9 ⟨rfl, rfl⟩)
    | (go_at_call 76; (with_reducible refine (h66.out _).mono ?_); rintro e w9 ⟨rfl, rfl⟩)
    | (go_at_call 76; (with_reducible refine (h67.out _).mono ?_); rintro e w9 ⟨rfl, rfl⟩)
    | (go_at_call 76; (with_reducible refine (h78.out _).mono ?_); rintro e w9 ⟨rfl, rfl⟩)
    | (go_at_call 76; (with_reducible refine (h76.out _).mono ?_); rintro e w9 ⟨rfl, rfl⟩)
    | (go_at_call 76; (with_reducible refine (h77.out _).mono ?_); rintro e w9 ⟨rfl, rfl⟩)
    | (go_at_call 76; (with_reducible refine (h108.out _).mono ?_); rintro e w9 ⟨rfl, rfl⟩))
  all_goals
    go_ret
    refine ⟨?_, S2.out⟩
    have := hpl.out
    rw [this]
    simp_all
set_option maxRecDepth 100000 in
set_option maxHeartbeats 4000000 in
theorem refPlain_11 (op d a b c n : Int) (la : Option Addr) (ll lc : Nat) (ma : Option Addr) (ml mc : Nat) (va : Option Addr) (vl vc : Nat) (w : World) (hu : M.uses op = ⟨#[68, 65, 66, 67, 76, 108]⟩) :
    Calls Tryz.prog 45 #[.agg #[.int .i64 op, .int .i64 d, .int .i64 a, .int .i64 b, .int .i64 c, .int .i64 n, .slice la ll lc, .slice ma ml mc, .slice va vl vc]] w fun e w' => e = .returned (.bool (M.plain ⟨#[68, 65, 66, 67, 76, 108]⟩ d a b c n ll ml vl)) ∧ Still w w' := by
  have hu2 := refUses_any op (w.alloc (.cells #[.int .i64 op, .int .i64 d, .int .i64 a, .int .i64 b, .int .i64 c, .int .i64 n, .slice la ll lc, .slice ma ml mc, .slice va vl vc] 70))
  rw [hu] at hu2
  have HU := Lib.hid hu2
  clear hu hu2
  have v68 : M.hasB ⟨#[68, 65, 66, 67, 76, 108]⟩ 68 = true := by decide
  have h68 : Hid (∀ W, Calls Tryz.prog 76 #[.string ⟨#[68, 65, 66, 67, 76, 108]⟩, .int .u8 68] W fun e w' => e = .returned (.bool true) ∧ w' = W) := fun W => by
    have := has_any ⟨#[68, 65, 66, 67, 76, 108]⟩ (by decide) 68 (by decide) W
    rwa [v68] at this
  have v65 : M.hasB ⟨#[68, 65, 66, 67, 76, 108]⟩ 65 = true := by decide
  have h65 : Hid (∀ W, Calls Tryz.prog 76 #[.string ⟨#[68, 65, 66, 67, 76, 108]⟩, .int .u8 65] W fun e w' => e = .returned (.bool true) ∧ w' = W) := fun W => by
    have := has_any ⟨#[68, 65, 66, 67, 76, 108]⟩ (by decide) 65 (by decide) W
    rwa [v65] at this
  have v66 : M.hasB ⟨#[68, 65, 66, 67, 76, 108]⟩ 66 = true := by decide
  have h66 : Hid (∀ W, Calls Tryz.prog 76 #[.string ⟨#[68, 65, 66, 67, 76, 108]⟩, .int .u8 66] W fun e w' => e = .returned (.bool true) ∧ w' = W) := fun W => by
    have := has_any ⟨#[68, 65, 66, 67, 76, 108]⟩ (by decide) 66 (by decide) W
    rwa [v66] at this
  have v67 : M.hasB ⟨#[68, 65, 66, 67, 76, 108]⟩ 67 = true := by decide
  have h67 : Hid (∀ W, Calls Tryz.prog 76 #[.string ⟨#[68, 65, 66, 67, 76, 108]⟩, .int .u8 67] W fun e w' => e = .returned (.bool true) ∧ w' = W) := fun W => by
    have := has_any ⟨#[68, 65, 66, 67, 76, 108]⟩ (by decide) 67 (by decide) W
    rwa [v67] at this
  have v78 : M.hasB ⟨#[68, 65, 66, 67, 76, 108]⟩ 78 = false := by decide
  have h78 : Hid (∀ W, Calls Tryz.prog 76 #[.string ⟨#[68, 65, 66, 67, 76, 108]⟩, .int .u8 78] W fun e w' => e = .returned (.bool false) ∧ w' = W) := fun W => by
    have := has_any ⟨#[68, 65, 66, 67, 76, 108]⟩ (by decide) 78 (by decide) W
    rwa [v78] at this
  have v76 : M.hasB ⟨#[68, 65, 66, 67, 76, 108]⟩ 76 = true := by decide
  have h76 : Hid (∀ W, Calls Tryz.prog 76 #[.string ⟨#[68, 65, 66, 67, 76, 108]⟩, .int .u8 76] W fun e w' => e = .returned (.bool true) ∧ w' = W) := fun W => by
    have := has_any ⟨#[68, 65, 66, 67, 76, 108]⟩ (by decide) 76 (by decide) W
    rwa [v76] at this
  have v77 : M.hasB ⟨#[68, 65, 66, 67, 76, 108]⟩ 77 = false := by decide
  have h77 : Hid (∀ W, Calls Tryz.prog 76 #[.string ⟨#[68, 65, 66, 67, 76, 108]⟩, .int .u8 77] W fun e w' => e = .returned (.bool false) ∧ w' = W) := fun W => by
    have := has_any ⟨#[68, 65, 66, 67, 76, 108]⟩ (by decide) 77 (by decide) W
    rwa [v77] at this
  have v108 : M.hasB ⟨#[68, 65, 66, 67, 76, 108]⟩ 108 = true := by decide
  have h108 : Hid (∀ W, Calls Tryz.prog 76 #[.string ⟨#[68, 65, 66, 67, 76, 108]⟩, .int .u8 108] W fun e w' => e = .returned (.bool true) ∧ w' = W) := fun W => by
    have := has_any ⟨#[68, 65, 66, 67, 76, 108]⟩ (by decide) 108 (by decide) W
    rwa [v108] at this
  have hpl : Hid (M.plain ⟨#[68, 65, 66, 67, 76, 108]⟩ d a b c n ll ml vl = ((n == 0) && ((ml : Int) == 0))) := by
    show M.plain _ _ _ _ _ _ _ _ _ = _
    unfold M.plain M.may
    rw [ByteArray.toList_eq, v68, v65, v66, v67, v78, v76, v77, v108]
    simp
  generalize M.plain ⟨#[68, 65, 66, 67, 76, 108]⟩ d a b c n ll ml vl = pl at *
  clear v68 v65 v66 v67 v78 v76 v77 v108
  go_enter Tryz.func45, Tryz.ntmps45
  go_wp2_with fail
  refine HU.out.mono ?_; rintro e w2 ⟨rfl, t2⟩
  have hb := t2.blk (Blk.new w 70 #[.int .i64 op, .int .i64 d, .int .i64 a, .int .i64 b, .int .i64 c, .int .i64 n, .slice la ll lc, .slice ma ml mc, .slice va vl vc])
  have S2 : Hid (Still w w2) := Still.trans ((Still.refl w).alloc _) t2
  have hl := hb.lt
  have c0 := hb.cell 0
  have c1 := hb.cell 1
  have c2 := hb.cell 2
  have c3 := hb.cell 3
  have c4 := hb.cell 4
  have c5 := hb.cell 5
  have c6 := hb.cell 6
  have c7 := hb.cell 7
  have c8 := hb.cell 8
  simp only [List.getElem?_toArray, List.getElem?_cons_succ, List.getElem?_cons_zero] at c0 c1 c2 c3 c4 c5 c6 c7 c8
  clear hb t2
  go_wp2_with (first
    | (go_at_call 76; (with_reducible refine (h68.out _).mono ?_); rintro e w9 ⟨rfl, rfl⟩)
    | (go_at_call 76; (with_reducible refine (h65.out _).mono ?_); rintro e w9 ⟨rfl, rfl⟩)
    | (go_at_call 76; (with_reducible refine (h66.out _).mono ?_); rintro e w9 ⟨rfl, rfl⟩)
    | (go_at_call 76; (with_reducible refine (h67.out _).mono ?_); rintro e w9 ⟨rfl, rfl⟩)
    | (go_at_call 76; (with_reducible refine (h78.out _).mono ?_); rintro e w9 ⟨rfl, rfl⟩)
    | (go_at_call 76; (with_reducible refine (h76.out _).mono ?_); rintro e w9 ⟨rfl, rfl⟩)
    | (go_at_call 76; (with_reducible refine (h77.out _).mono ?_); rintro e w9 ⟨rfl, rfl⟩)
    | (go_at_call 76; (with_reducible refine (h108.out _).mono ?_); rintro e w9 ⟨rfl, rfl⟩))
  all_goals
    go_ret
    refine ⟨?_, S2.out⟩
    have := hpl.out
    rw [this]
    simp_all
end Go.Proofs.YthlifflapgccbaaGreat
/- The document's Plain, for each text of letters. -/
namespace Go.Proofs.YthlifflapgccbaaGreat
set_option linter.unusedVariables false
open Go.ChangeShapes Go.WideShapes Go.ChangeAt Go.RowKit
open M (W)
set_option maxRecDepth 100000 in
set_option maxHeartbeats 4000000 in
theorem refPlain_2 (op d a b c n : Int) (la : Option Addr) (ll lc : Nat) (ma : Option Addr) (ml mc : Nat) (va : Option Addr) (vl vc : Nat) (w : World) (hu : M.uses op = ⟨#[68, 65, 108]⟩) :
    Calls Tryz.prog 45 #[.agg #[.int .i64 op, .int .i64 d, .int .i64 a, .int .i64 b, .int .i64 c, .int .i64 n, .slice la ll lc, .slice ma ml mc, .slice va vl vc]] w fun e w' => e = .returned (.bool (M.plain ⟨#[68, 65, 108]⟩ d a b c n ll ml vl)) ∧ Still w w' := by
  have hu2 := refUses_any op (w.alloc (.cells #[.int .i64 op, .int .i64 d, .int .i64 a, .int .i64 b, .int .i64 c, .int .i64 n, .slice la ll lc, .slice ma ml mc, .slice va vl vc] 70))
  rw [hu] at hu2
  have HU := Lib.hid hu2
  clear hu hu2
  have v68 : M.hasB ⟨#[68, 65, 108]⟩ 68 = true := by decide
  have h68 : Hid (∀ W, Calls Tryz.prog 76 #[.string ⟨#[68, 65, 108]⟩, .int .u8 68] W fun e w' => e = .returned (.bool true) ∧ w' = W) := fun W => by
    have := has_any ⟨#[68, 65, 108]⟩ (by decide) 68 (by decide) W
    rwa [v68] at this
  have v65 : M.hasB ⟨#[68, 65, 108]⟩ 65 = true := by decide
  have h65 : Hid (∀ W, Calls Tryz.prog 76 #[.string ⟨#[68, 65, 108]⟩, .int .u8 65] W fun e w' => e = .returned (.bool true) ∧ w' = W) := fun W => by
    have := has_any ⟨#[68, 65, 108]⟩ (by decide) 65 (by decide) W
    rwa [v65] at this
  have v66 : M.hasB ⟨#[68, 65, 108]⟩ 66 = false := by decide
  have h66 : Hid (∀ W, Calls Tryz.prog 76 #[.string ⟨#[68, 65, 108]⟩, .int .u8 66] W fun e w' => e = .returned (.bool false) ∧ w' = W) := fun W => by
    have := has_any ⟨#[68, 65, 108]⟩ (by decide) 66 (by decide) W
    rwa [v66] at this
  have v67 : M.hasB ⟨#[68, 65, 108]⟩ 67 = false := by decide
  have h67 : Hid (∀ W, Calls Tryz.prog 76 #[.string ⟨#[68, 65, 108]⟩, .int .u8 67] W fun e w' => e = .returned (.bool false) ∧ w' = W) := fun W => by
    have := has_any ⟨#[68, 65, 108]⟩ (by decide) 67 (by decide) W
    rwa [v67] at this
  have v78 : M.hasB ⟨#[68, 65, 108]⟩ 78 = false := by decide
  have h78 : Hid (∀ W, Calls Tryz.prog 76 #[.string ⟨#[68, 65, 108]⟩, .int .u8 78] W fun e w' => e = .returned (.bool false) ∧ w' = W) := fun W => by
    have := has_any ⟨#[68, 65, 108]⟩ (by decide) 78 (by decide) W
    rwa [v78] at this
  have v76 : M.hasB ⟨#[68, 65, 108]⟩ 76 = false := by decide
  have h76 : Hid (∀ W, Calls Tryz.prog 76 #[.string ⟨#[68, 65, 108]⟩, .int .u8 76] W fun e w' => e = .returned (.bool false) ∧ w' = W) := fun W => by
    have := has_any ⟨#[68, 65, 108]⟩ (by decide) 76 (by decide) W
    rwa [v76] at this
  have v77 : M.hasB ⟨#[68, 65, 108]⟩ 77 = false := by decide
  have h77 : Hid (∀ W, Calls Tryz.prog 76 #[.string ⟨#[68, 65, 108]⟩, .int .u8 77] W fun e w' => e = .returned (.bool false) ∧ w' = W) := fun W => by
    have := has_any ⟨#[68, 65, 108]⟩ (by decide) 77 (by decide) W
    rwa [v77] at this
  have v108 : M.hasB ⟨#[68, 65, 108]⟩ 108 = true := by decide
  have h108 : Hid (∀ W, Calls Tryz.prog 76 #[.string ⟨#[68, 65, 108]⟩, .int .u8 108] W fun e w' => e = .returned (.bool true) ∧ w' = W) := fun W => by
    have := has_any ⟨#[68, 65, 108]⟩ (by decide) 108 (by decide) W
    rwa [v108] at this
  have hpl : Hid (M.plain ⟨#[68, 65, 108]⟩ d a b c n ll ml vl = ((b == 0) && (c == 0) && (n == 0) && ((ll : Int) == 0) && ((ml : Int) == 0))) := by
    show M.plain _ _ _ _ _ _ _ _ _ = _
    unfold M.plain M.may
    rw [ByteArray.toList_eq, v68, v65, v66, v67, v78, v76, v77, v108]
    simp
  generalize M.plain ⟨#[68, 65, 108]⟩ d a b c n ll ml vl = pl at *
  clear v68 v65 v66 v67 v78 v76 v77 v108
  go_enter Tryz.func45, Tryz.ntmps45
  go_wp2_with fail
  refine HU.out.mono ?_; rintro e w2 ⟨rfl, t2⟩
  have hb := t2.blk (Blk.new w 70 #[.int .i64 op, .int .i64 d, .int .i64 a, .int .i64 b, .int .i64 c, .int .i64 n, .slice la ll lc, .slice ma ml mc, .slice va vl vc])
  have S2 : Hid (Still w w2) := Still.trans ((Still.refl w).alloc _) t2
  have hl := hb.lt
  have c0 := hb.cell 0
  have c1 := hb.cell 1
  have c2 := hb.cell 2
  have c3 := hb.cell 3
  have c4 := hb.cell 4
  have c5 := hb.cell 5
  have c6 := hb.cell 6
  have c7 := hb.cell 7
  have c8 := hb.cell 8
  simp only [List.getElem?_toArray, List.getElem?_cons_succ, List.getElem?_cons_zero] at c0 c1 c2 c3 c4 c5 c6 c7 c8
  clear hb t2
  go_wp2_with (first
    | (go_at_call 76; (with_reducible refine (h68.out _).mono ?_); rintro e w9 ⟨rfl, rfl⟩)
    | (go_at_call 76; (with_reducible refine (h65.out _).mono ?_); rintro e w9 ⟨rfl, rfl⟩)
    | (go_at_call 76; (with_reducible refine (h66.out _).mono ?_); rintro e w9 ⟨rfl, rfl⟩)
    | (go_at_call 76; (with_reducible refine (h67.out _).mono ?_); rintro e w9 ⟨rfl, rfl⟩)
    | (go_at_call 76; (with_reducible refine (h78.out _).mono ?_); rintro e w9 ⟨rfl, rfl⟩)
    | (go_at_call 76; (with_reducible refine (h76.out _).mono ?_); rintro e w9 ⟨rfl, rfl⟩)
    | (go_at_call 76; (with_reducible refine (h77.out _).mono ?_); rintro e w9 ⟨rfl, rfl⟩)
    | (go_at_call 76; (with_reducible refine (h108.out _).mono ?_); rintro e w9 ⟨rfl, rfl⟩))
  all_goals
    go_ret
    refine ⟨?_, S2.out⟩
    have := hpl.out
    rw [this]
    simp_all
set_option maxRecDepth 100000 in
set_option maxHeartbeats 4000000 in
theorem refPlain_7 (op d a b c n : Int) (la : Option Addr) (ll lc : Nat) (ma : Option Addr) (ml mc : Nat) (va : Option Addr) (vl vc : Nat) (w : World) (hu : M.uses op = ⟨#[65, 66, 67]⟩) :
    Calls Tryz.prog 45 #[.agg #[.int .i64 op, .int .i64 d, .int .i64 a, .int .i64 b, .int .i64 c, .int .i64 n, .slice la ll lc, .slice ma ml mc, .slice va vl vc]] w fun e w' => e = .returned (.bool (M.plain ⟨#[65, 66, 67]⟩ d a b c n ll ml vl)) ∧ Still w w' := by
  have hu2 := refUses_any op (w.alloc (.cells #[.int .i64 op, .int .i64 d, .int .i64 a, .int .i64 b, .int .i64 c, .int .i64 n, .slice la ll lc, .slice ma ml mc, .slice va vl vc] 70))
  rw [hu] at hu2
  have HU := Lib.hid hu2
  clear hu hu2
  have v68 : M.hasB ⟨#[65, 66, 67]⟩ 68 = false := by decide
  have h68 : Hid (∀ W, Calls Tryz.prog 76 #[.string ⟨#[65, 66, 67]⟩, .int .u8 68] W fun e w' => e = .returned (.bool false) ∧ w' = W) := fun W => by
    have := has_any ⟨#[65, 66, 67]⟩ (by decide) 68 (by decide) W
    rwa [v68] at this
  have v65 : M.hasB ⟨#[65, 66, 67]⟩ 65 = true := by decide
  have h65 : Hid (∀ W, Calls Tryz.prog 76 #[.string ⟨#[65, 66, 67]⟩, .int .u8 65] W fun e w' => e = .returned (.bool true) ∧ w' = W) := fun W => by
    have := has_any ⟨#[65, 66, 67]⟩ (by decide) 65 (by decide) W
    rwa [v65] at this
  have v66 : M.hasB ⟨#[65, 66, 67]⟩ 66 = true := by decide
  have h66 : Hid (∀ W, Calls Tryz.prog 76 #[.string ⟨#[65, 66, 67]⟩, .int .u8 66] W fun e w' => e = .returned (.bool true) ∧ w' = W) := fun W => by
    have := has_any ⟨#[65, 66, 67]⟩ (by decide) 66 (by decide) W
    rwa [v66] at this
  have v67 : M.hasB ⟨#[65, 66, 67]⟩ 67 = true := by decide
  have h67 : Hid (∀ W, Calls Tryz.prog 76 #[.string ⟨#[65, 66, 67]⟩, .int .u8 67] W fun e w' => e = .returned (.bool true) ∧ w' = W) := fun W => by
    have := has_any ⟨#[65, 66, 67]⟩ (by decide) 67 (by decide) W
    rwa [v67] at this
  have v78 : M.hasB ⟨#[65, 66, 67]⟩ 78 = false := by decide
  have h78 : Hid (∀ W, Calls Tryz.prog 76 #[.string ⟨#[65, 66, 67]⟩, .int .u8 78] W fun e w' => e = .returned (.bool false) ∧ w' = W) := fun W => by
    have := has_any ⟨#[65, 66, 67]⟩ (by decide) 78 (by decide) W
    rwa [v78] at this
  have v76 : M.hasB ⟨#[65, 66, 67]⟩ 76 = false := by decide
  have h76 : Hid (∀ W, Calls Tryz.prog 76 #[.string ⟨#[65, 66, 67]⟩, .int .u8 76] W fun e w' => e = .returned (.bool false) ∧ w' = W) := fun W => by
    have := has_any ⟨#[65, 66, 67]⟩ (by decide) 76 (by decide) W
    rwa [v76] at this
  have v77 : M.hasB ⟨#[65, 66, 67]⟩ 77 = false := by decide
  have h77 : Hid (∀ W, Calls Tryz.prog 76 #[.string ⟨#[65, 66, 67]⟩, .int .u8 77] W fun e w' => e = .returned (.bool false) ∧ w' = W) := fun W => by
    have := has_any ⟨#[65, 66, 67]⟩ (by decide) 77 (by decide) W
    rwa [v77] at this
  have v108 : M.hasB ⟨#[65, 66, 67]⟩ 108 = false := by decide
  have h108 : Hid (∀ W, Calls Tryz.prog 76 #[.string ⟨#[65, 66, 67]⟩, .int .u8 108] W fun e w' => e = .returned (.bool false) ∧ w' = W) := fun W => by
    have := has_any ⟨#[65, 66, 67]⟩ (by decide) 108 (by decide) W
    rwa [v108] at this
  have hpl : Hid (M.plain ⟨#[65, 66, 67]⟩ d a b c n ll ml vl = ((d == 0) && (n == 0) && ((ll : Int) == 0) && ((ml : Int) == 0) && ((vl : Int) == 0))) := by
    show M.plain _ _ _ _ _ _ _ _ _ = _
    unfold M.plain M.may
    rw [ByteArray.toList_eq, v68, v65, v66, v67, v78, v76, v77, v108]
    simp
  generalize M.plain ⟨#[65, 66, 67]⟩ d a b c n ll ml vl = pl at *
  clear v68 v65 v66 v67 v78 v76 v77 v108
  go_enter Tryz.func45, Tryz.ntmps45
  go_wp2_with fail
  refine HU.out.mono ?_; rintro e w2 ⟨rfl, t2⟩
  have hb := t2.blk (Blk.new w 70 #[.int .i64 op, .int .i64 d, .int .i64 a, .int .i64 b, .int .i64 c, .int .i64 n, .slice la ll lc, .slice ma ml mc, .slice va vl vc])
  have S2 : Hid (Still w w2) := Still.trans ((Still.refl w).alloc _) t2
  have hl := hb.lt
  have c0 := hb.cell 0
  have c1 := hb.cell 1
  have c2 := hb.cell 2
  have c3 := hb.cell 3
  have c4 := hb.cell 4
  have c5 := hb.cell 5
  have c6 := hb.cell 6
  have c7 := hb.cell 7
  have c8 := hb.cell 8
  simp only [List.getElem?_toArray, List.getElem?_cons_succ, List.getElem?_cons_zero] at c0 c1 c2 c3 c4 c5 c6 c7 c8
  clear hb t2
  go_wp2_with (first
    | (go_at_call 76; (with_reducible refine (h68.out _).mono ?_); rintro e w9 ⟨rfl, rfl⟩)
    | (go_at_call 76; (with_reducible refine (h65.out _).mono ?_); rintro e w9 ⟨rfl, rfl⟩)
    | (go_at_call 76; (with_reducible refine (h66.out _).mono ?_); rintro e w9 ⟨rfl, rfl⟩)
    | (go_at_call 76; (with_reducible refine (h67.out _).mono ?_); rintro e w9 ⟨rfl, rfl⟩)
    | (go_at_call 76; (with_reducible refine (h78.out _).mono ?_); rintro e w9 ⟨rfl, rfl⟩)
    | (go_at_call 76; (with_reducible refine (h76.out _).mono ?_); rintro e w9 ⟨rfl, rfl⟩)
    | (go_at_call 76; (with_reducible refine (h77.out _).mono ?_); rintro e w9 ⟨rfl, rfl⟩)
    | (go_at_call 76; (with_reducible refine (h108.out _).mono ?_); rintro e w9 ⟨rfl, rfl⟩))
  all_goals
    go_ret
    refine ⟨?_, S2.out⟩
    have := hpl.out
    rw [this]
    simp_all
set_option maxRecDepth 100000 in
set_option maxHeartbeats 4000000 in
theorem refPlain_12 (op d a b c n : Int) (la : Option Addr) (ll lc : Nat) (ma : Option Addr) (ml mc : Nat) (va : Option Addr) (vl vc : Nat) (w : World) (hu : M.uses op = ⟨#[65, 76, 77, 66]⟩) :
    Calls Tryz.prog 45 #[.agg #[.int .i64 op, .int .i64 d, .int .i64 a, .int .i64 b, .int .i64 c, .int .i64 n, .slice la ll lc, .slice ma ml mc, .slice va vl vc]] w fun e w' => e = .returned (.bool (M.plain ⟨#[65, 76, 77, 66]⟩ d a b c n ll ml vl)) ∧ Still w w' := by
  have hu2 := refUses_any op (w.alloc (.cells #[.int .i64 op, .int .i64 d, .int .i64 a, .int .i64 b, .int .i64 c, .int .i64 n, .slice la ll lc, .slice ma ml mc, .slice va vl vc] 70))
  rw [hu] at hu2
  have HU := Lib.hid hu2
  clear hu hu2
  have v68 : M.hasB ⟨#[65, 76, 77, 66]⟩ 68 = false := by decide
  have h68 : Hid (∀ W, Calls Tryz.prog 76 #[.string ⟨#[65, 76, 77, 66]⟩, .int .u8 68] W fun e w' => e = .returned (.bool false) ∧ w' = W) := fun W => by
    have := has_any ⟨#[65, 76, 77, 66]⟩ (by decide) 68 (by decide) W
    rwa [v68] at this
  have v65 : M.hasB ⟨#[65, 76, 77, 66]⟩ 65 = true := by decide
  have h65 : Hid (∀ W, Calls Tryz.prog 76 #[.string ⟨#[65, 76, 77, 66]⟩, .int .u8 65] W fun e w' => e = .returned (.bool true) ∧ w' = W) := fun W => by
    have := has_any ⟨#[65, 76, 77, 66]⟩ (by decide) 65 (by decide) W
    rwa [v65] at this
  have v66 : M.hasB ⟨#[65, 76, 77, 66]⟩ 66 = true := by decide
  have h66 : Hid (∀ W, Calls Tryz.prog 76 #[.string ⟨#[65, 76, 77, 66]⟩, .int .u8 66] W fun e w' => e = .returned (.bool true) ∧ w' = W) := fun W => by
    have := has_any ⟨#[65, 76, 77, 66]⟩ (by decide) 66 (by decide) W
    rwa [v66] at this
  have v67 : M.hasB ⟨#[65, 76, 77, 66]⟩ 67 = false := by decide
  have h67 : Hid (∀ W, Calls Tryz.prog 76 #[.string ⟨#[65, 76, 77, 66]⟩, .int .u8 67] W fun e w' => e = .returned (.bool false) ∧ w' = W) := fun W => by
    have := has_any ⟨#[65, 76, 77, 66]⟩ (by decide) 67 (by decide) W
    rwa [v67] at this
  have v78 : M.hasB ⟨#[65, 76, 77, 66]⟩ 78 = false := by decide
  have h78 : Hid (∀ W, Calls Tryz.prog 76 #[.string ⟨#[65, 76, 77, 66]⟩, .int .u8 78] W fun e w' => e = .returned (.bool false) ∧ w' = W) := fun W => by
    have := has_any ⟨#[65, 76, 77, 66]⟩ (by decide) 78 (by decide) W
    rwa [v78] at this
  have v76 : M.hasB ⟨#[65, 76, 77, 66]⟩ 76 = true := by decide
  have h76 : Hid (∀ W, Calls Tryz.prog 76 #[.string ⟨#[65, 76, 77, 66]⟩, .int .u8 76] W fun e w' => e = .returned (.bool true) ∧ w' = W) := fun W => by
    have := has_any ⟨#[65, 76, 77, 66]⟩ (by decide) 76 (by decide) W
    rwa [v76] at this
  have v77 : M.hasB ⟨#[65, 76, 77, 66]⟩ 77 = true := by decide
  have h77 : Hid (∀ W, Calls Tryz.prog 76 #[.string ⟨#[65, 76, 77, 66]⟩, .int .u8 77] W fun e w' => e = .returned (.bool true) ∧ w' = W) := fun W => by
    have := has_any ⟨#[65, 76, 77, 66]⟩ (by decide) 77 (by decide) W
    rwa [v77] at this
  have v108 : M.hasB ⟨#[65, 76, 77, 66]⟩ 108 = false := by decide
  have h108 : Hid (∀ W, Calls Tryz.prog 76 #[.string ⟨#[65, 76, 77, 66]⟩, .int .u8 108] W fun e w' => e = .returned (.bool false) ∧ w' = W) := fun W => by
    have := has_any ⟨#[65, 76, 77, 66]⟩ (by decide) 108 (by decide) W
    rwa [v108] at this
  have hpl : Hid (M.plain ⟨#[65, 76, 77, 66]⟩ d a b c n ll ml vl = ((d == 0) && (c == 0) && (n == 0) && ((vl : Int) == 0))) := by
    show M.plain _ _ _ _ _ _ _ _ _ = _
    unfold M.plain M.may
    rw [ByteArray.toList_eq, v68, v65, v66, v67, v78, v76, v77, v108]
    simp
  generalize M.plain ⟨#[65, 76, 77, 66]⟩ d a b c n ll ml vl = pl at *
  clear v68 v65 v66 v67 v78 v76 v77 v108
  go_enter Tryz.func45, Tryz.ntmps45
  go_wp2_with fail
  refine HU.out.mono ?_; rintro e w2 ⟨rfl, t2⟩
  have hb := t2.blk (Blk.new w 70 #[.int .i64 op, .int .i64 d, .int .i64 a, .int .i64 b, .int .i64 c, .int .i64 n, .slice la ll lc, .slice ma ml mc, .slice va vl vc])
  have S2 : Hid (Still w w2) := Still.trans ((Still.refl w).alloc _) t2
  have hl := hb.lt
  have c0 := hb.cell 0
  have c1 := hb.cell 1
  have c2 := hb.cell 2
  have c3 := hb.cell 3
  have c4 := hb.cell 4
  have c5 := hb.cell 5
  have c6 := hb.cell 6
  have c7 := hb.cell 7
  have c8 := hb.cell 8
  simp only [List.getElem?_toArray, List.getElem?_cons_succ, List.getElem?_cons_zero] at c0 c1 c2 c3 c4 c5 c6 c7 c8
  clear hb t2
  go_wp2_with (first
    | (go_at_call 76; (with_reducible refine (h68.out _).mono ?_); rintro e w9 ⟨rfl, rfl⟩)
    | (go_at_call 76; (with_reducible refine (h65.out _).mono ?_); rintro e w9 ⟨rfl, rfl⟩)
    | (go_at_call 76; (with_reducible refine (h66.out _).mono ?_); rintro e w9 ⟨rfl, rfl⟩)
    | (go_at_call 76; (with_reducible refine (h67.out _).mono ?_); rintro e w9 ⟨rfl, rfl⟩)
    | (go_at_call 76; (with_reducible refine (h78.out _).mono ?_); rintro e w9 ⟨rfl, rfl⟩)
    | (go_at_call 76; (with_reducible refine (h76.out _).mono ?_); rintro e w9 ⟨rfl, rfl⟩)
    | (go_at_call 76; (with_reducible refine (h77.out _).mono ?_); rintro e w9 ⟨rfl, rfl⟩)
    | (go_at_call 76; (with_reducible refine (h108.out _).mono ?_); rintro e w9 ⟨rfl, rfl⟩))
  all_goals
    go_ret
    refine ⟨?_, S2.out⟩
    have := hpl.out
    rw [this]
    simp_all
end Go.Proofs.YthlifflapgccbaaGreat
/- The document's Plain, for each text of letters. -/
namespace Go.Proofs.YthlifflapgccbaaGreat
set_option linter.unusedVariables false
open Go.ChangeShapes Go.WideShapes Go.ChangeAt Go.RowKit
open M (W)
set_option maxRecDepth 100000 in
set_option maxHeartbeats 4000000 in
theorem refPlain_3 (op d a b c n : Int) (la : Option Addr) (ll lc : Nat) (ma : Option Addr) (ml mc : Nat) (va : Option Addr) (vl vc : Nat) (w : World) (hu : M.uses op = ⟨#[68, 65]⟩) :
    Calls Tryz.prog 45 #[.agg #[.int .i64 op, .int .i64 d, .int .i64 a, .int .i64 b, .int .i64 c, .int .i64 n, .slice la ll lc, .slice ma ml mc, .slice va vl vc]] w fun e w' => e = .returned (.bool (M.plain ⟨#[68, 65]⟩ d a b c n ll ml vl)) ∧ Still w w' := by
  have hu2 := refUses_any op (w.alloc (.cells #[.int .i64 op, .int .i64 d, .int .i64 a, .int .i64 b, .int .i64 c, .int .i64 n, .slice la ll lc, .slice ma ml mc, .slice va vl vc] 70))
  rw [hu] at hu2
  have HU := Lib.hid hu2
  clear hu hu2
  have v68 : M.hasB ⟨#[68, 65]⟩ 68 = true := by decide
  have h68 : Hid (∀ W, Calls Tryz.prog 76 #[.string ⟨#[68, 65]⟩, .int .u8 68] W fun e w' => e = .returned (.bool true) ∧ w' = W) := fun W => by
    have := has_any ⟨#[68, 65]⟩ (by decide) 68 (by decide) W
    rwa [v68] at this
  have v65 : M.hasB ⟨#[68, 65]⟩ 65 = true := by decide
  have h65 : Hid (∀ W, Calls Tryz.prog 76 #[.string ⟨#[68, 65]⟩, .int .u8 65] W fun e w' => e = .returned (.bool true) ∧ w' = W) := fun W => by
    have := has_any ⟨#[68, 65]⟩ (by decide) 65 (by decide) W
    rwa [v65] at this
  have v66 : M.hasB ⟨#[68, 65]⟩ 66 = false := by decide
  have h66 : Hid (∀ W, Calls Tryz.prog 76 #[.string ⟨#[68, 65]⟩, .int .u8 66] W fun e w' => e = .returned (.bool false) ∧ w' = W) := fun W => by
    have := has_any ⟨#[68, 65]⟩ (by decide) 66 (by decide) W
    rwa [v66] at this
  have v67 : M.hasB ⟨#[68, 65]⟩ 67 = false := by decide
  have h67 : Hid (∀ W, Calls Tryz.prog 76 #[.string ⟨#[68, 65]⟩, .int .u8 67] W fun e w' => e = .returned (.bool false) ∧ w' = W) := fun W => by
    have := has_any ⟨#[68, 65]⟩ (by decide) 67 (by decide) W
    rwa [v67] at this
  have v78 : M.hasB ⟨#[68, 65]⟩ 78 = false := by decide
  have h78 : Hid (∀ W, Calls Tryz.prog 76 #[.string ⟨#[68, 65]⟩, .int .u8 78] W fun e w' => e = .returned (.bool false) ∧ w' = W) := fun W => by
    have := has_any ⟨#[68, 65]⟩ (by decide) 78 (by decide) W
    rwa [v78] at this
  have v76 : M.hasB ⟨#[68, 65]⟩ 76 = false := by decide
  have h76 : Hid (∀ W, Calls Tryz.prog 76 #[.string ⟨#[68, 65]⟩, .int .u8 76] W fun e w' => e = .returned (.bool false) ∧ w' = W) := fun W => by
    have := has_any ⟨#[68, 65]⟩ (by decide) 76 (by decide) W
    rwa [v76] at this
  have v77 : M.hasB ⟨#[68, 65]⟩ 77 = false := by decide
  have h77 : Hid (∀ W, Calls Tryz.prog 76 #[.string ⟨#[68, 65]⟩, .int .u8 77] W fun e w' => e = .returned (.bool false) ∧ w' = W) := fun W => by
    have := has_any ⟨#[68, 65]⟩ (by decide) 77 (by decide) W
    rwa [v77] at this
  have v108 : M.hasB ⟨#[68, 65]⟩ 108 = false := by decide
  have h108 : Hid (∀ W, Calls Tryz.prog 76 #[.string ⟨#[68, 65]⟩, .int .u8 108] W fun e w' => e = .returned (.bool false) ∧ w' = W) := fun W => by
    have := has_any ⟨#[68, 65]⟩ (by decide) 108 (by decide) W
    rwa [v108] at this
  have hpl : Hid (M.plain ⟨#[68, 65]⟩ d a b c n ll ml vl = ((b == 0) && (c == 0) && (n == 0) && ((ll : Int) == 0) && ((ml : Int) == 0) && ((vl : Int) == 0))) := by
    show M.plain _ _ _ _ _ _ _ _ _ = _
    unfold M.plain M.may
    rw [ByteArray.toList_eq, v68, v65, v66, v67, v78, v76, v77, v108]
    simp
  generalize M.plain ⟨#[68, 65]⟩ d a b c n ll ml vl = pl at *
  clear v68 v65 v66 v67 v78 v76 v77 v108
  go_enter Tryz.func45, Tryz.ntmps45
  go_wp2_with fail
  refine HU.out.mono ?_; rintro e w2 ⟨rfl, t2⟩
  have hb := t2.blk (Blk.new w 70 #[.int .i64 op, .int .i64 d, .int .i64 a, .int .i64 b, .int .i64 c, .int .i64 n, .slice la ll lc, .slice ma ml mc, .slice va vl vc])
  have S2 : Hid (Still w w2) := Still.trans ((Still.refl w).alloc _) t2
  have hl := hb.lt
  have c0 := hb.cell 0
  have c1 := hb.cell 1
  have c2 := hb.cell 2
  have c3 := hb.cell 3
  have c4 := hb.cell 4
  have c5 := hb.cell 5
  have c6 := hb.cell 6
  have c7 := hb.cell 7
  have c8 := hb.cell 8
  simp only [List.getElem?_toArray, List.getElem?_cons_succ, List.getElem?_cons_zero] at c0 c1 c2 c3 c4 c5 c6 c7 c8
  clear hb t2
  go_wp2_with (first
    | (go_at_call 76; (with_reducible refine (h68.out _).mono ?_); rintro e w9 ⟨rfl, rfl⟩)
    | (go_at_call 76; (with_reducible refine (h65.out _).mono ?_); rintro e w9 ⟨rfl, rfl⟩)
    | (go_at_call 76; (with_reducible refine (h66.out _).mono ?_); rintro e w9 ⟨rfl, rfl⟩)
    | (go_at_call 76; (with_reducible refine (h67.out _).mono ?_); rintro e w9 ⟨rfl, rfl⟩)
    | (go_at_call 76; (with_reducible refine (h78.out _).mono ?_); rintro e w9 ⟨rfl, rfl⟩)
    | (go_at_call 76; (with_reducible refine (h76.out _).mono ?_); rintro e w9 ⟨rfl, rfl⟩)
    | (go_at_call 76; (with_reducible refine (h77.out _).mono ?_); rintro e w9 ⟨rfl, rfl⟩)
    | (go_at_call 76; (with_reducible refine (h108.out _).mono ?_); rintro e w9 ⟨rfl, rfl⟩))
  all_goals
    go_ret
    refine ⟨?_, S2.out⟩
    have := hpl.out
    rw [this]
    simp_all
set_option maxRecDepth 100000 in
set_option maxHeartbeats 4000000 in
theorem refPlain_8 (op d a b c n : Int) (la : Option Addr) (ll lc : Nat) (ma : Option Addr) (ml mc : Nat) (va : Option Addr) (vl vc : Nat) (w : World) (hu : M.uses op = ⟨#[68, 65, 66, 67, 108]⟩) :
    Calls Tryz.prog 45 #[.agg #[.int .i64 op, .int .i64 d, .int .i64 a, .int .i64 b, .int .i64 c, .int .i64 n, .slice la ll lc, .slice ma ml mc, .slice va vl vc]] w fun e w' => e = .returned (.bool (M.plain ⟨#[68, 65, 66, 67, 108]⟩ d a b c n ll ml vl)) ∧ Still w w' := by
  have hu2 := refUses_any op (w.alloc (.cells #[.int .i64 op, .int .i64 d, .int .i64 a, .int .i64 b, .int .i64 c, .int .i64 n, .slice la ll lc, .slice ma ml mc, .slice va vl vc] 70))
  rw [hu] at hu2
  have HU := Lib.hid hu2
  clear hu hu2
  have v68 : M.hasB ⟨#[68, 65, 66, 67, 108]⟩ 68 = true := by decide
  have h68 : Hid (∀ W, Calls Tryz.prog 76 #[.string ⟨#[68, 65, 66, 67, 108]⟩, .int .u8 68] W fun e w' => e = .returned (.bool true) ∧ w' = W) := fun W => by
    have := has_any ⟨#[68, 65, 66, 67, 108]⟩ (by decide) 68 (by decide) W
    rwa [v68] at this
  have v65 : M.hasB ⟨#[68, 65, 66, 67, 108]⟩ 65 = true := by decide
  have h65 : Hid (∀ W, Calls Tryz.prog 76 #[.string ⟨#[68, 65, 66, 67, 108]⟩, .int .u8 65] W fun e w' => e = .returned (.bool true) ∧ w' = W) := fun W => by
    have := has_any ⟨#[68, 65, 66, 67, 108]⟩ (by decide) 65 (by decide) W
    rwa [v65] at this
  have v66 : M.hasB ⟨#[68, 65, 66, 67, 108]⟩ 66 = true := by decide
  have h66 : Hid (∀ W, Calls Tryz.prog 76 #[.string ⟨#[68, 65, 66, 67, 108]⟩, .int .u8 66] W fun e w' => e = .returned (.bool true) ∧ w' = W) := fun W => by
    have := has_any ⟨#[68, 65, 66, 67, 108]⟩ (by decide) 66 (by decide) W
    rwa [v66] at this
  have v67 : M.hasB ⟨#[68, 65, 66, 67, 108]⟩ 67 = true := by decide
  have h67 : Hid (∀ W, Calls Tryz.prog 76 #[.string ⟨#[68, 65, 66, 67, 108]⟩, .int .u8 67] W fun e w' => e = .returned (.bool true) ∧ w' = W) := fun W => by
    have := has_any ⟨#[68, 65, 66, 67, 108]⟩ (by decide) 67 (by decide) W
    rwa [v67] at this
  have v78 : M.hasB ⟨#[68, 65, 66, 67, 108]⟩ 78 = false := by decide
  have h78 : Hid (∀ W, Calls Tryz.prog 76 #[.string ⟨#[68, 65, 66, 67, 108]⟩, .int .u8 78] W fun e w' => e = .returned (.bool false) ∧ w' = W) := fun W => by
    have := has_any ⟨#[68, 65, 66, 67, 108]⟩ (by decide) 78 (by decide) W
    rwa [v78] at this
  have v76 : M.hasB ⟨#[68, 65, 66, 67, 108]⟩ 76 = false := by decide
  have h76 : Hid (∀ W, Calls Tryz.prog 76 #[.string ⟨#[68, 65, 66, 67, 108]⟩, .int .u8 76] W fun e w' => e = .returned (.bool false) ∧ w' = W) := fun W => by
    have := has_any ⟨#[68, 65, 66, 67, 108]⟩ (by decide) 76 (by decide) W
    rwa [v76] at this
  have v77 : M.hasB ⟨#[68, 65, 66, 67, 108]⟩ 77 = false := by decide
  have h77 : Hid (∀ W, Calls Tryz.prog 76 #[.string ⟨#[68, 65, 66, 67, 108]⟩, .int .u8 77] W fun e w' => e = .returned (.bool false) ∧ w' = W) := fun W => by
    have := has_any ⟨#[68, 65, 66, 67, 108]⟩ (by decide) 77 (by decide) W
    rwa [v77] at this
  have v108 : M.hasB ⟨#[68, 65, 66, 67, 108]⟩ 108 = true := by decide
  have h108 : Hid (∀ W, Calls Tryz.prog 76 #[.string ⟨#[68, 65, 66, 67, 108]⟩, .int .u8 108] W fun e w' => e = .returned (.bool true) ∧ w' = W) := fun W => by
    have := has_any ⟨#[68, 65, 66, 67, 108]⟩ (by decide) 108 (by decide) W
    rwa [v108] at this
  have hpl : Hid (M.plain ⟨#[68, 65, 66, 67, 108]⟩ d a b c n ll ml vl = ((n == 0) && ((ll : Int) == 0) && ((ml : Int) == 0))) := by
    show M.plain _ _ _ _ _ _ _ _ _ = _
    unfold M.plain M.may
    rw [ByteArray.toList_eq, v68, v65, v66, v67, v78, v76, v77, v108]
    simp
  generalize M.plain ⟨#[68, 65, 66, 67, 108]⟩ d a b c n ll ml vl = pl at *
  clear v68 v65 v66 v67 v78 v76 v77 v108
  go_enter Tryz.func45, Tryz.ntmps45
  go_wp2_with fail
  refine HU.out.mono ?_; rintro e w2 ⟨rfl, t2⟩
  have hb := t2.blk (Blk.new w 70 #[.int .i64 op, .int .i64 d, .int .i64 a, .int .i64 b, .int .i64 c, .int .i64 n, .slice la ll lc, .slice ma ml mc, .slice va vl vc])
  have S2 : Hid (Still w w2) := Still.trans ((Still.refl w).alloc _) t2
  have hl := hb.lt
  have c0 := hb.cell 0
  have c1 := hb.cell 1
  have c2 := hb.cell 2
  have c3 := hb.cell 3
  have c4 := hb.cell 4
  have c5 := hb.cell 5
  have c6 := hb.cell 6
  have c7 := hb.cell 7
  have c8 := hb.cell 8
  simp only [List.getElem?_toArray, List.getElem?_cons_succ, List.getElem?_cons_zero] at c0 c1 c2 c3 c4 c5 c6 c7 c8
  clear hb t2
  go_wp2_with (first
    | (go_at_call 76; (with_reducible refine (h68.out _).mono ?_); rintro e w9 ⟨rfl, rfl⟩)
    | (go_at_call 76; (with_reducible refine (h65.out _).mono ?_); rintro e w9 ⟨rfl, rfl⟩)
    | (go_at_call 76; (with_reducible refine (h66.out _).mono ?_); rintro e w9 ⟨rfl, rfl⟩)
    | (go_at_call 76; (with_reducible refine (h67.out _).mono ?_); rintro e w9 ⟨rfl, rfl⟩)
    | (go_at_call 76; (with_reducible refine (h78.out _).mono ?_); rintro e w9 ⟨rfl, rfl⟩)
    | (go_at_call 76; (with_reducible refine (h76.out _).mono ?_); rintro e w9 ⟨rfl, rfl⟩)
    | (go_at_call 76; (with_reducible refine (h77.out _).mono ?_); rintro e w9 ⟨rfl, rfl⟩)
    | (go_at_call 76; (with_reducible refine (h108.out _).mono ?_); rintro e w9 ⟨rfl, rfl⟩))
  all_goals
    go_ret
    refine ⟨?_, S2.out⟩
    have := hpl.out
    rw [this]
    simp_all
set_option maxRecDepth 100000 in
set_option maxHeartbeats 4000000 in
theorem refPlain_13 (op d a b c n : Int) (la : Option Addr) (ll lc : Nat) (ma : Option Addr) (ml mc : Nat) (va : Option Addr) (vl vc : Nat) (w : World) (hu : M.uses op = ⟨#[65, 76]⟩) :
    Calls Tryz.prog 45 #[.agg #[.int .i64 op, .int .i64 d, .int .i64 a, .int .i64 b, .int .i64 c, .int .i64 n, .slice la ll lc, .slice ma ml mc, .slice va vl vc]] w fun e w' => e = .returned (.bool (M.plain ⟨#[65, 76]⟩ d a b c n ll ml vl)) ∧ Still w w' := by
  have hu2 := refUses_any op (w.alloc (.cells #[.int .i64 op, .int .i64 d, .int .i64 a, .int .i64 b, .int .i64 c, .int .i64 n, .slice la ll lc, .slice ma ml mc, .slice va vl vc] 70))
  rw [hu] at hu2
  have HU := Lib.hid hu2
  clear hu hu2
  have v68 : M.hasB ⟨#[65, 76]⟩ 68 = false := by decide
  have h68 : Hid (∀ W, Calls Tryz.prog 76 #[.string ⟨#[65, 76]⟩, .int .u8 68] W fun e w' => e = .returned (.bool false) ∧ w' = W) := fun W => by
    have := has_any ⟨#[65, 76]⟩ (by decide) 68 (by decide) W
    rwa [v68] at this
  have v65 : M.hasB ⟨#[65, 76]⟩ 65 = true := by decide
  have h65 : Hid (∀ W, Calls Tryz.prog 76 #[.string ⟨#[65, 76]⟩, .int .u8 65] W fun e w' => e = .returned (.bool true) ∧ w' = W) := fun W => by
    have := has_any ⟨#[65, 76]⟩ (by decide) 65 (by decide) W
    rwa [v65] at this
  have v66 : M.hasB ⟨#[65, 76]⟩ 66 = false := by decide
  have h66 : Hid (∀ W, Calls Tryz.prog 76 #[.string ⟨#[65, 76]⟩, .int .u8 66] W fun e w' => e = .returned (.bool false) ∧ w' = W) := fun W => by
    have := has_any ⟨#[65, 76]⟩ (by decide) 66 (by decide) W
    rwa [v66] at this
  have v67 : M.hasB ⟨#[65, 76]⟩ 67 = false := by decide
  have h67 : Hid (∀ W, Calls Tryz.prog 76 #[.string ⟨#[65, 76]⟩, .int .u8 67] W fun e w' => e = .returned (.bool false) ∧ w' = W) := fun W => by
    have := has_any ⟨#[65, 76]⟩ (by decide) 67 (by decide) W
    rwa [v67] at this
  have v78 : M.hasB ⟨#[65, 76]⟩ 78 = false := by decide
  have h78 : Hid (∀ W, Calls Tryz.prog 76 #[.string ⟨#[65, 76]⟩, .int .u8 78] W fun e w' => e = .returned (.bool false) ∧ w' = W) := fun W => by
    have := has_any ⟨#[65, 76]⟩ (by decide) 78 (by decide) W
    rwa [v78] at this
  have v76 : M.hasB ⟨#[65, 76]⟩ 76 = true := by decide
  have h76 : Hid (∀ W, Calls Tryz.prog 76 #[.string ⟨#[65, 76]⟩, .int .u8 76] W fun e w' => e = .returned (.bool true) ∧ w' = W) := fun W => by
    have := has_any ⟨#[65, 76]⟩ (by decide) 76 (by decide) W
    rwa [v76] at this
  have v77 : M.hasB ⟨#[65, 76]⟩ 77 = false := by decide
  have h77 : Hid (∀ W, Calls Tryz.prog 76 #[.string ⟨#[65, 76]⟩, .int .u8 77] W fun e w' => e = .returned (.bool false) ∧ w' = W) := fun W => by
    have := has_any ⟨#[65, 76]⟩ (by decide) 77 (by decide) W
    rwa [v77] at this
  have v108 : M.hasB ⟨#[65, 76]⟩ 108 = false := by decide
  have h108 : Hid (∀ W, Calls Tryz.prog 76 #[.string ⟨#[65, 76]⟩, .int .u8 108] W fun e w' => e = .returned (.bool false) ∧ w' = W) := fun W => by
    have := has_any ⟨#[65, 76]⟩ (by decide) 108 (by decide) W
    rwa [v108] at this
  have hpl : Hid (M.plain ⟨#[65, 76]⟩ d a b c n ll ml vl = ((d == 0) && (b == 0) && (c == 0) && (n == 0) && ((ml : Int) == 0) && ((vl : Int) == 0))) := by
    show M.plain _ _ _ _ _ _ _ _ _ = _
    unfold M.plain M.may
    rw [ByteArray.toList_eq, v68, v65, v66, v67, v78, v76, v77, v108]
    simp
  generalize M.plain ⟨#[65, 76]⟩ d a b c n ll ml vl = pl at *
  clear v68 v65 v66 v67 v78 v76 v77 v108
  go_enter Tryz.func45, Tryz.ntmps45
  go_wp2_with fail
  refine HU.out.mono ?_; rintro e w2 ⟨rfl, t2⟩
  have hb := t2.blk (Blk.new w 70 #[.int .i64 op, .int .i64 d, .int .i64 a, .int .i64 b, .int .i64 c, .int .i64 n, .slice la ll lc, .slice ma ml mc, .slice va vl vc])
  have S2 : Hid (Still w w2) := Still.trans ((Still.refl w).alloc _) t2
  have hl := hb.lt
  have c0 := hb.cell 0
  have c1 := hb.cell 1
  have c2 := hb.cell 2
  have c3 := hb.cell 3
  have c4 := hb.cell 4
  have c5 := hb.cell 5
  have c6 := hb.cell 6
  have c7 := hb.cell 7
  have c8 := hb.cell 8
  simp only [List.getElem?_toArray, List.getElem?_cons_succ, List.getElem?_cons_zero] at c0 c1 c2 c3 c4 c5 c6 c7 c8
  clear hb t2
  go_wp2_with (first
    | (go_at_call 76; (with_reducible refine (h68.out _).mono ?_); rintro e w9 ⟨rfl, rfl⟩)
    | (go_at_call 76; (with_reducible refine (h65.out _).mono ?_); rintro e w9 ⟨rfl, rfl⟩)
    | (go_at_call 76; (with_reducible refine (h66.out _).mono ?_); rintro e w9 ⟨rfl, rfl⟩)
    | (go_at_call 76; (with_reducible refine (h67.out _).mono ?_); rintro e w9 ⟨rfl, rfl⟩)
    | (go_at_call 76; (with_reducible refine (h78.out _).mono ?_); rintro e w9 ⟨rfl, rfl⟩)
    | (go_at_call 76; (with_reducible refine (h76.out _).mono ?_); rintro e w9 ⟨rfl, rfl⟩)
    | (go_at_call 76; (with_reducible refine (h77.out _).mono ?_); rintro e w9 ⟨rfl, rfl⟩)
    | (go_at_call 76; (with_reducible refine (h108.out _).mono ?_); rintro e w9 ⟨rfl, rfl⟩))
  all_goals
    go_ret
    refine ⟨?_, S2.out⟩
    have := hpl.out
    rw [this]
    simp_all
end Go.Proofs.YthlifflapgccbaaGreat
/- The document's Plain, for each text of letters. -/
namespace Go.Proofs.YthlifflapgccbaaGreat
set_option linter.unusedVariables false
open Go.ChangeShapes Go.WideShapes Go.ChangeAt Go.RowKit
open M (W)
set_option maxRecDepth 100000 in
set_option maxHeartbeats 4000000 in
theorem refPlain_4 (op d a b c n : Int) (la : Option Addr) (ll lc : Nat) (ma : Option Addr) (ml mc : Nat) (va : Option Addr) (vl vc : Nat) (w : World) (hu : M.uses op = ⟨#[68, 65, 66, 78]⟩) :
    Calls Tryz.prog 45 #[.agg #[.int .i64 op, .int .i64 d, .int .i64 a, .int .i64 b, .int .i64 c, .int .i64 n, .slice la ll lc, .slice ma ml mc, .slice va vl vc]] w fun e w' => e = .returned (.bool (M.plain ⟨#[68, 65, 66, 78]⟩ d a b c n ll ml vl)) ∧ Still w w' := by
  have hu2 := refUses_any op (w.alloc (.cells #[.int .i64 op, .int .i64 d, .int .i64 a, .int .i64 b, .int .i64 c, .int .i64 n, .slice la ll lc, .slice ma ml mc, .slice va vl vc] 70))
  rw [hu] at hu2
  have HU := Lib.hid hu2
  clear hu hu2
  have v68 : M.hasB ⟨#[68, 65, 66, 78]⟩ 68 = true := by decide
  have h68 : Hid (∀ W, Calls Tryz.prog 76 #[.string ⟨#[68, 65, 66, 78]⟩, .int .u8 68] W fun e w' => e = .returned (.bool true) ∧ w' = W) := fun W => by
    have := has_any ⟨#[68, 65, 66, 78]⟩ (by decide) 68 (by decide) W
    rwa [v68] at this
  have v65 : M.hasB ⟨#[68, 65, 66, 78]⟩ 65 = true := by decide
  have h65 : Hid (∀ W, Calls Tryz.prog 76 #[.string ⟨#[68, 65, 66, 78]⟩, .int .u8 65] W fun e w' => e = .returned (.bool true) ∧ w' = W) := fun W => by
    have := has_any ⟨#[68, 65, 66, 78]⟩ (by decide) 65 (by decide) W
    rwa [v65] at this
  have v66 : M.hasB ⟨#[68, 65, 66, 78]⟩ 66 = true := by decide
  have h66 : Hid (∀ W, Calls Tryz.prog 76 #[.string ⟨#[68, 65, 66, 78]⟩, .int .u8 66] W fun e w' => e = .returned (.bool true) ∧ w' = W) := fun W => by
    have := has_any ⟨#[68, 65, 66, 78]⟩ (by decide) 66 (by decide) W
    rwa [v66] at this
  have v67 : M.hasB ⟨#[68, 65, 66, 78]⟩ 67 = false := by decide
  have h67 : Hid (∀ W, Calls Tryz.prog 76 #[.string ⟨#[68, 65, 66, 78]⟩, .int .u8 67] W fun e w' => e = .returned (.bool false) ∧ w' = W) := fun W => by
    have := has_any ⟨#[68, 65, 66, 78]⟩ (by decide) 67 (by decide) W
    rwa [v67] at this
  have v78 : M.hasB ⟨#[68, 65, 66, 78]⟩ 78 = true := by decide
  have h78 : Hid (∀ W, Calls Tryz.prog 76 #[.string ⟨#[68, 65, 66, 78]⟩, .int .u8 78] W fun e w' => e = .returned (.bool true) ∧ w' = W) := fun W => by
    have := has_any ⟨#[68, 65, 66, 78]⟩ (by decide) 78 (by decide) W
    rwa [v78] at this
  have v76 : M.hasB ⟨#[68, 65, 66, 78]⟩ 76 = false := by decide
  have h76 : Hid (∀ W, Calls Tryz.prog 76 #[.string ⟨#[68, 65, 66, 78]⟩, .int .u8 76] W fun e w' => e = .returned (.bool false) ∧ w' = W) := fun W => by
    have := has_any ⟨#[68, 65, 66, 78]⟩ (by decide) 76 (by decide) W
    rwa [v76] at this
  have v77 : M.hasB ⟨#[68, 65, 66, 78]⟩ 77 = false := by decide
  have h77 : Hid (∀ W, Calls Tryz.prog 76 #[.string ⟨#[68, 65, 66, 78]⟩, .int .u8 77] W fun e w' => e = .returned (.bool false) ∧ w' = W) := fun W => by
    have := has_any ⟨#[68, 65, 66, 78]⟩ (by decide) 77 (by decide) W
    rwa [v77] at this
  have v108 : M.hasB ⟨#[68, 65, 66, 78]⟩ 108 = false := by decide
  have h108 : Hid (∀ W, Calls Tryz.prog 76 #[.string ⟨#[68, 65, 66, 78]⟩, .int .u8 108] W fun e w' => e = .returned (.bool false) ∧ w' = W) := fun W => by
    have := has_any ⟨#[68, 65, 66, 78]⟩ (by decide) 108 (by decide) W
    rwa [v108] at this
  have hpl : Hid (M.plain ⟨#[68, 65, 66, 78]⟩ d a b c n ll ml vl = ((c == 0) && ((ll : Int) == 0) && ((ml : Int) == 0) && ((vl : Int) == 0))) := by
    show M.plain _ _ _ _ _ _ _ _ _ = _
    unfold M.plain M.may
    rw [ByteArray.toList_eq, v68, v65, v66, v67, v78, v76, v77, v108]
    simp
  generalize M.plain ⟨#[68, 65, 66, 78]⟩ d a b c n ll ml vl = pl at *
  clear v68 v65 v66 v67 v78 v76 v77 v108
  go_enter Tryz.func45, Tryz.ntmps45
  go_wp2_with fail
  refine HU.out.mono ?_; rintro e w2 ⟨rfl, t2⟩
  have hb := t2.blk (Blk.new w 70 #[.int .i64 op, .int .i64 d, .int .i64 a, .int .i64 b, .int .i64 c, .int .i64 n, .slice la ll lc, .slice ma ml mc, .slice va vl vc])
  have S2 : Hid (Still w w2) := Still.trans ((Still.refl w).alloc _) t2
  have hl := hb.lt
  have c0 := hb.cell 0
  have c1 := hb.cell 1
  have c2 := hb.cell 2
  have c3 := hb.cell 3
  have c4 := hb.cell 4
  have c5 := hb.cell 5
  have c6 := hb.cell 6
  have c7 := hb.cell 7
  have c8 := hb.cell 8
  simp only [List.getElem?_toArray, List.getElem?_cons_succ, List.getElem?_cons_zero] at c0 c1 c2 c3 c4 c5 c6 c7 c8
  clear hb t2
  go_wp2_with (first
    | (go_at_call 76; (with_reducible refine (h68.out _).mono ?_); rintro e w9 ⟨rfl, rfl⟩)
    | (go_at_call 76; (with_reducible refine (h65.out _).mono ?_); rintro e w9 ⟨rfl, rfl⟩)
    | (go_at_call 76; (with_reducible refine (h66.out _).mono ?_); rintro e w9 ⟨rfl, rfl⟩)
    | (go_at_call 76; (with_reducible refine (h67.out _).mono ?_); rintro e w9 ⟨rfl, rfl⟩)
    | (go_at_call 76; (with_reducible refine (h78.out _).mono ?_); rintro e w9 ⟨rfl, rfl⟩)
    | (go_at_call 76; (with_reducible refine (h76.out _).mono ?_); rintro e w9 ⟨rfl, rfl⟩)
    | (go_at_call 76; (with_reducible refine (h77.out _).mono ?_); rintro e w9 ⟨rfl, rfl⟩)
    | (go_at_call 76; (with_reducible refine (h108.out _).mono ?_); rintro e w9 ⟨rfl, rfl⟩))
  all_goals
    go_ret
    refine ⟨?_, S2.out⟩
    have := hpl.out
    rw [this]
    simp_all
set_option maxRecDepth 100000 in
set_option maxHeartbeats 4000000 in
theorem refPlain_9 (op d a b c n : Int) (la : Option Addr) (ll lc : Nat) (ma : Option Addr) (ml mc : Nat) (va : Option Addr) (vl vc : Nat) (w : World) (hu : M.uses op = ⟨#[68, 65, 66, 108]⟩) :
    Calls Tryz.prog 45 #[.agg #[.int .i64 op, .int .i64 d, .int .i64 a, .int .i64 b, .int .i64 c, .int .i64 n, .slice la ll lc, .slice ma ml mc, .slice va vl vc]] w fun e w' => e = .returned (.bool (M.plain ⟨#[68, 65, 66, 108]⟩ d a b c n ll ml vl)) ∧ Still w w' := by
  have hu2 := refUses_any op (w.alloc (.cells #[.int .i64 op, .int .i64 d, .int .i64 a, .int .i64 b, .int .i64 c, .int .i64 n, .slice la ll lc, .slice ma ml mc, .slice va vl vc] 70))
  rw [hu] at hu2
  have HU := Lib.hid hu2
  clear hu hu2
  have v68 : M.hasB ⟨#[68, 65, 66, 108]⟩ 68 = true := by decide
  have h68 : Hid (∀ W, Calls Tryz.prog 76 #[.string ⟨#[68, 65, 66, 108]⟩, .int .u8 68] W fun e w' => e = .returned (.bool true) ∧ w' = W) := fun W => by
    have := has_any ⟨#[68, 65, 66, 108]⟩ (by decide) 68 (by decide) W
    rwa [v68] at this
  have v65 : M.hasB ⟨#[68, 65, 66, 108]⟩ 65 = true := by decide
  have h65 : Hid (∀ W, Calls Tryz.prog 76 #[.string ⟨#[68, 65, 66, 108]⟩, .int .u8 65] W fun e w' => e = .returned (.bool true) ∧ w' = W) := fun W => by
    have := has_any ⟨#[68, 65, 66, 108]⟩ (by decide) 65 (by decide) W
    rwa [v65] at this
  have v66 : M.hasB ⟨#[68, 65, 66, 108]⟩ 66 = true := by decide
  have h66 : Hid (∀ W, Calls Tryz.prog 76 #[.string ⟨#[68, 65, 66, 108]⟩, .int .u8 66] W fun e w' => e = .returned (.bool true) ∧ w' = W) := fun W => by
    have := has_any ⟨#[68, 65, 66, 108]⟩ (by decide) 66 (by decide) W
    rwa [v66] at this
  have v67 : M.hasB ⟨#[68, 65, 66, 108]⟩ 67 = false := by decide
  have h67 : Hid (∀ W, Calls Tryz.prog 76 #[.string ⟨#[68, 65, 66, 108]⟩, .int .u8 67] W fun e w' => e = .returned (.bool false) ∧ w' = W) := fun W => by
    have := has_any ⟨#[68, 65, 66, 108]⟩ (by decide) 67 (by decide) W
    rwa [v67] at this
  have v78 : M.hasB ⟨#[68, 65, 66, 108]⟩ 78 = false := by decide
  have h78 : Hid (∀ W, Calls Tryz.prog 76 #[.string ⟨#[68, 65, 66, 108]⟩, .int .u8 78] W fun e w' => e = .returned (.bool false) ∧ w' = W) := fun W => by
    have := has_any ⟨#[68, 65, 66, 108]⟩ (by decide) 78 (by decide) W
    rwa [v78] at this
  have v76 : M.hasB ⟨#[68, 65, 66, 108]⟩ 76 = false := by decide
  have h76 : Hid (∀ W, Calls Tryz.prog 76 #[.string ⟨#[68, 65, 66, 108]⟩, .int .u8 76] W fun e w' => e = .returned (.bool false) ∧ w' = W) := fun W => by
    have := has_any ⟨#[68, 65, 66, 108]⟩ (by decide) 76 (by decide) W
    rwa [v76] at this
  have v77 : M.hasB ⟨#[68, 65, 66, 108]⟩ 77 = false := by decide
  have h77 : Hid (∀ W, Calls Tryz.prog 76 #[.string ⟨#[68, 65, 66, 108]⟩, .int .u8 77] W fun e w' => e = .returned (.bool false) ∧ w' = W) := fun W => by
    have := has_any ⟨#[68, 65, 66, 108]⟩ (by decide) 77 (by decide) W
    rwa [v77] at this
  have v108 : M.hasB ⟨#[68, 65, 66, 108]⟩ 108 = true := by decide
  have h108 : Hid (∀ W, Calls Tryz.prog 76 #[.string ⟨#[68, 65, 66, 108]⟩, .int .u8 108] W fun e w' => e = .returned (.bool true) ∧ w' = W) := fun W => by
    have := has_any ⟨#[68, 65, 66, 108]⟩ (by decide) 108 (by decide) W
    rwa [v108] at this
  have hpl : Hid (M.plain ⟨#[68, 65, 66, 108]⟩ d a b c n ll ml vl = ((c == 0) && (n == 0) && ((ll : Int) == 0) && ((ml : Int) == 0))) := by
    show M.plain _ _ _ _ _ _ _ _ _ = _
    unfold M.plain M.may
    rw [ByteArray.toList_eq, v68, v65, v66, v67, v78, v76, v77, v108]
    simp
  generalize M.plain ⟨#[68, 65, 66, 108]⟩ d a b c n ll ml vl = pl at *
  clear v68 v65 v66 v67 v78 v76 v77 v108
  go_enter Tryz.func45, Tryz.ntmps45
  go_wp2_with fail
  refine HU.out.mono ?_; rintro e w2 ⟨rfl, t2⟩
  have hb := t2.blk (Blk.new w 70 #[.int .i64 op, .int .i64 d, .int .i64 a, .int .i64 b, .int .i64 c, .int .i64 n, .slice la ll lc, .slice ma ml mc, .slice va vl vc])
  have S2 : Hid (Still w w2) := Still.trans ((Still.refl w).alloc _) t2
  have hl := hb.lt
  have c0 := hb.cell 0
  have c1 := hb.cell 1
  have c2 := hb.cell 2
  have c3 := hb.cell 3
  have c4 := hb.cell 4
  have c5 := hb.cell 5
  have c6 := hb.cell 6
  have c7 := hb.cell 7
  have c8 := hb.cell 8
  simp only [List.getElem?_toArray, List.getElem?_cons_succ, List.getElem?_cons_zero] at c0 c1 c2 c3 c4 c5 c6 c7 c8
  clear hb t2
  go_wp2_with (first
    | (go_at_call 76; (with_reducible refine (h68.out _).mono ?_); rintro e w9 ⟨rfl, rfl⟩)
    | (go_at_call 76; (with_reducible refine (h65.out _).mono ?_); rintro e w9 ⟨rfl, rfl⟩)
    | (go_at_call 76; (with_reducible refine (h66.out _).mono ?_); rintro e w9 ⟨rfl, rfl⟩)
    | (go_at_call 76; (with_reducible refine (h67.out _).mono ?_); rintro e w9 ⟨rfl, rfl⟩)
    | (go_at_call 76; (with_reducible refine (h78.out _).mono ?_); rintro e w9 ⟨rfl, rfl⟩)
    | (go_at_call 76; (with_reducible refine (h76.out _).mono ?_); rintro e w9 ⟨rfl, rfl⟩)
    | (go_at_call 76; (with_reducible refine (h77.out _).mono ?_); rintro e w9 ⟨rfl, rfl⟩)
    | (go_at_call 76; (with_reducible refine (h108.out _).mono ?_); rintro e w9 ⟨rfl, rfl⟩))
  all_goals
    go_ret
    refine ⟨?_, S2.out⟩
    have := hpl.out
    rw [this]
    simp_all
set_option maxRecDepth 100000 in
set_option maxHeartbeats 4000000 in
theorem refPlain_14 (op d a b c n : Int) (la : Option Addr) (ll lc : Nat) (ma : Option Addr) (ml mc : Nat) (va : Option Addr) (vl vc : Nat) (w : World) (hu : M.uses op = ⟨#[65]⟩) :
    Calls Tryz.prog 45 #[.agg #[.int .i64 op, .int .i64 d, .int .i64 a, .int .i64 b, .int .i64 c, .int .i64 n, .slice la ll lc, .slice ma ml mc, .slice va vl vc]] w fun e w' => e = .returned (.bool (M.plain ⟨#[65]⟩ d a b c n ll ml vl)) ∧ Still w w' := by
  have hu2 := refUses_any op (w.alloc (.cells #[.int .i64 op, .int .i64 d, .int .i64 a, .int .i64 b, .int .i64 c, .int .i64 n, .slice la ll lc, .slice ma ml mc, .slice va vl vc] 70))
  rw [hu] at hu2
  have HU := Lib.hid hu2
  clear hu hu2
  have v68 : M.hasB ⟨#[65]⟩ 68 = false := by decide
  have h68 : Hid (∀ W, Calls Tryz.prog 76 #[.string ⟨#[65]⟩, .int .u8 68] W fun e w' => e = .returned (.bool false) ∧ w' = W) := fun W => by
    have := has_any ⟨#[65]⟩ (by decide) 68 (by decide) W
    rwa [v68] at this
  have v65 : M.hasB ⟨#[65]⟩ 65 = true := by decide
  have h65 : Hid (∀ W, Calls Tryz.prog 76 #[.string ⟨#[65]⟩, .int .u8 65] W fun e w' => e = .returned (.bool true) ∧ w' = W) := fun W => by
    have := has_any ⟨#[65]⟩ (by decide) 65 (by decide) W
    rwa [v65] at this
  have v66 : M.hasB ⟨#[65]⟩ 66 = false := by decide
  have h66 : Hid (∀ W, Calls Tryz.prog 76 #[.string ⟨#[65]⟩, .int .u8 66] W fun e w' => e = .returned (.bool false) ∧ w' = W) := fun W => by
    have := has_any ⟨#[65]⟩ (by decide) 66 (by decide) W
    rwa [v66] at this
  have v67 : M.hasB ⟨#[65]⟩ 67 = false := by decide
  have h67 : Hid (∀ W, Calls Tryz.prog 76 #[.string ⟨#[65]⟩, .int .u8 67] W fun e w' => e = .returned (.bool false) ∧ w' = W) := fun W => by
    have := has_any ⟨#[65]⟩ (by decide) 67 (by decide) W
    rwa [v67] at this
  have v78 : M.hasB ⟨#[65]⟩ 78 = false := by decide
  have h78 : Hid (∀ W, Calls Tryz.prog 76 #[.string ⟨#[65]⟩, .int .u8 78] W fun e w' => e = .returned (.bool false) ∧ w' = W) := fun W => by
    have := has_any ⟨#[65]⟩ (by decide) 78 (by decide) W
    rwa [v78] at this
  have v76 : M.hasB ⟨#[65]⟩ 76 = false := by decide
  have h76 : Hid (∀ W, Calls Tryz.prog 76 #[.string ⟨#[65]⟩, .int .u8 76] W fun e w' => e = .returned (.bool false) ∧ w' = W) := fun W => by
    have := has_any ⟨#[65]⟩ (by decide) 76 (by decide) W
    rwa [v76] at this
  have v77 : M.hasB ⟨#[65]⟩ 77 = false := by decide
  have h77 : Hid (∀ W, Calls Tryz.prog 76 #[.string ⟨#[65]⟩, .int .u8 77] W fun e w' => e = .returned (.bool false) ∧ w' = W) := fun W => by
    have := has_any ⟨#[65]⟩ (by decide) 77 (by decide) W
    rwa [v77] at this
  have v108 : M.hasB ⟨#[65]⟩ 108 = false := by decide
  have h108 : Hid (∀ W, Calls Tryz.prog 76 #[.string ⟨#[65]⟩, .int .u8 108] W fun e w' => e = .returned (.bool false) ∧ w' = W) := fun W => by
    have := has_any ⟨#[65]⟩ (by decide) 108 (by decide) W
    rwa [v108] at this
  have hpl : Hid (M.plain ⟨#[65]⟩ d a b c n ll ml vl = ((d == 0) && (b == 0) && (c == 0) && (n == 0) && ((ll : Int) == 0) && ((ml : Int) == 0) && ((vl : Int) == 0))) := by
    show M.plain _ _ _ _ _ _ _ _ _ = _
    unfold M.plain M.may
    rw [ByteArray.toList_eq, v68, v65, v66, v67, v78, v76, v77, v108]
    simp
  generalize M.plain ⟨#[65]⟩ d a b c n ll ml vl = pl at *
  clear v68 v65 v66 v67 v78 v76 v77 v108
  go_enter Tryz.func45, Tryz.ntmps45
  go_wp2_with fail
  refine HU.out.mono ?_; rintro e w2 ⟨rfl, t2⟩
  have hb := t2.blk (Blk.new w 70 #[.int .i64 op, .int .i64 d, .int .i64 a, .int .i64 b, .int .i64 c, .int .i64 n, .slice la ll lc, .slice ma ml mc, .slice va vl vc])
  have S2 : Hid (Still w w2) := Still.trans ((Still.refl w).alloc _) t2
  have hl := hb.lt
  have c0 := hb.cell 0
  have c1 := hb.cell 1
  have c2 := hb.cell 2
  have c3 := hb.cell 3
  have c4 := hb.cell 4
  have c5 := hb.cell 5
  have c6 := hb.cell 6
  have c7 := hb.cell 7
  have c8 := hb.cell 8
  simp only [List.getElem?_toArray, List.getElem?_cons_succ, List.getElem?_cons_zero] at c0 c1 c2 c3 c4 c5 c6 c7 c8
  clear hb t2
  go_wp2_with (first
    | (go_at_call 76; (with_reducible refine (h68.out _).mono ?_); rintro e w9 ⟨rfl, rfl⟩)
    | (go_at_call 76; (with_reducible refine (h65.out _).mono ?_); rintro e w9 ⟨rfl, rfl⟩)
    | (go_at_call 76; (with_reducible refine (h66.out _).mono ?_); rintro e w9 ⟨rfl, rfl⟩)
    | (go_at_call 76; (with_reducible refine (h67.out _).mono ?_); rintro e w9 ⟨rfl, rfl⟩)
    | (go_at_call 76; (with_reducible refine (h78.out _).mono ?_); rintro e w9 ⟨rfl, rfl⟩)
    | (go_at_call 76; (with_reducible refine (h76.out _).mono ?_); rintro e w9 ⟨rfl, rfl⟩)
    | (go_at_call 76; (with_reducible refine (h77.out _).mono ?_); rintro e w9 ⟨rfl, rfl⟩)
    | (go_at_call 76; (with_reducible refine (h108.out _).mono ?_); rintro e w9 ⟨rfl, rfl⟩))
  all_goals
    go_ret
    refine ⟨?_, S2.out⟩
    have := hpl.out
    rw [this]
    simp_all
end Go.Proofs.YthlifflapgccbaaGreat
/- CodeInstrs. -/
namespace Go.Proofs.YthlifflapgccbaaGreat
set_option linter.unusedVariables false
open Go.ChangeShapes Go.WideShapes Go.ChangeAt Go.RowKit
open M (W)
theorem refPlain_any (op d a b c n : Int) (la : Option Addr) (ll lc : Nat) (ma : Option Addr) (ml mc : Nat) (va : Option Addr) (vl vc : Nat) (w : World) :
    Calls Tryz.prog 45 #[.agg #[.int .i64 op, .int .i64 d, .int .i64 a, .int .i64 b, .int .i64 c, .int .i64 n, .slice la ll lc, .slice ma ml mc, .slice va vl vc]] w fun e w' => e = .returned (.bool (M.plain (M.uses op) d a b c n ll ml vl)) ∧ Still w w' := by
  by_cases h : op < 1 ∨ 23 < op
  · have hu := uses_out h
    rw [hu]
    exact refPlain_0 op d a b c n la ll lc ma ml mc va vl vc w hu
  · have hc : op = 1 ∨ op = 2 ∨ op = 3 ∨ op = 4 ∨ op = 5 ∨ op = 6 ∨ op = 7 ∨ op = 8 ∨ op = 9 ∨ op = 10 ∨ op = 11 ∨ op = 12 ∨ op = 13 ∨ op = 14 ∨ op = 15 ∨ op = 16 ∨ op = 17 ∨ op = 18 ∨ op = 19 ∨ op = 20 ∨ op = 21 ∨ op = 22 ∨ op = 23 := by omega
    rcases hc with rfl | rfl | rfl | rfl | rfl | rfl | rfl | rfl | rfl | rfl | rfl | rfl | rfl | rfl | rfl | rfl | rfl | rfl | rfl | rfl | rfl | rfl | rfl
    · exact refPlain_1 1 d a b c n la ll lc ma ml mc va vl vc w rfl
    · exact refPlain_2 2 d a b c n la ll lc ma ml mc va vl vc w rfl
    · exact refPlain_3 3 d a b c n la ll lc ma ml mc va vl vc w rfl
    · exact refPlain_4 4 d a b c n la ll lc ma ml mc va vl vc w rfl
    · exact refPlain_5 5 d a b c n la ll lc ma ml mc va vl vc w rfl
    · exact refPlain_6 6 d a b c n la ll lc ma ml mc va vl vc w rfl
    · exact refPlain_7 7 d a b c n la ll lc ma ml mc va vl vc w rfl
    · exact refPlain_8 8 d a b c n la ll lc ma ml mc va vl vc w rfl
    · exact refPlain_6 9 d a b c n la ll lc ma ml mc va vl vc w rfl
    · exact refPlain_7 10 d a b c n la ll lc ma ml mc va vl vc w rfl
    · exact refPlain_3 11 d a b c n la ll lc ma ml mc va vl vc w rfl
    · exact refPlain_6 12 d a b c n la ll lc ma ml mc va vl vc w rfl
    · exact refPlain_9 13 d a b c n la ll lc ma ml mc va vl vc w rfl
    · exact refPlain_6 14 d a b c n la ll lc ma ml mc va vl vc w rfl
    · exact refPlain_10 15 d a b c n la ll lc ma ml mc va vl vc w rfl
    · exact refPlain_14 16 d a b c n la ll lc ma ml mc va vl vc w rfl
    · exact refPlain_11 17 d a b c n la ll lc ma ml mc va vl vc w rfl
    · exact refPlain_14 18 d a b c n la ll lc ma ml mc va vl vc w rfl
    · exact refPlain_7 19 d a b c n la ll lc ma ml mc va vl vc w rfl
    · exact refPlain_12 20 d a b c n la ll lc ma ml mc va vl vc w rfl
    · exact refPlain_13 21 d a b c n la ll lc ma ml mc va vl vc w rfl
    · exact refPlain_14 22 d a b c n la ll lc ma ml mc va vl vc w rfl
    · exact refPlain_14 23 d a b c n la ll lc ma ml mc va vl vc w rfl
theorem insBox {w : World} {k : Nat} {t : TypeId} {xo xd xa xb xc xn : Int} {la : Option Addr} {ll lc : Nat} {ma : Option Addr} {ml mc : Nat} {va : Option Addr} {vl vc : Nat} (h : Blk w k t #[.int .i64 xo, .int .i64 xd, .int .i64 xa, .int .i64 xb, .int .i64 xc, .int .i64 xn, .slice la ll lc, .slice ma ml mc, .slice va vl vc]) :
    k < w.heap.size ∧ w.cell? ⟨k, 0, none⟩ = some (.int .i64 xo) ∧ w.cell? ⟨k, 1, none⟩ = some (.int .i64 xd) ∧ w.cell? ⟨k, 2, none⟩ = some (.int .i64 xa) ∧ w.cell? ⟨k, 3, none⟩ = some (.int .i64 xb) ∧ w.cell? ⟨k, 4, none⟩ = some (.int .i64 xc) ∧ w.cell? ⟨k, 5, none⟩ = some (.int .i64 xn) ∧ w.cell? ⟨k, 6, none⟩ = some (.slice la ll lc) ∧ w.cell? ⟨k, 7, none⟩ = some (.slice ma ml mc) ∧ w.cell? ⟨k, 8, none⟩ = some (.slice va vl vc) :=
  ⟨h.lt, h.cell 0, h.cell 1, h.cell 2, h.cell 3, h.cell 4, h.cell 5, h.cell 6, h.cell 7, h.cell 8⟩
end Go.Proofs.YthlifflapgccbaaGreat
