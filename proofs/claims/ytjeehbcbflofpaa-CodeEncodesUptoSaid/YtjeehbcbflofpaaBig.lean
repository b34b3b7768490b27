/- What is too great: code.big and its tests. -/
import Derived.Test.YtjeehbcbflofpaaAnyOf
import Derived.Test.YtjeehbcbflofpaaPlain
import Derived.Test.YtjeehbcbflofpaaCode3
import Derived.Shelf.Abstract
namespace Go.Proofs.Ytjeehbcbflofpaa
set_option linter.unusedVariables false
set_option linter.unusedSimpArgs false
open Go.ChangeShapes Go.WideShapes Go.ChangeAt Go.RowKit
open M (W)
def M.plainIns (x : M.Ins) : Bool := M.plain (M.uses x.op) x.d x.a x.b x.c x.n x.l.length x.m.length x.v.length
/-- What Check answers. -/
def M.check (m : M.Img) : Int := if M.big m then 2 else if M.anyIns (fun x => !(M.plainIns x)) m then 1 else 0
theorem dec_nat (a b : Nat) : decide ((a : Int) < (b : Int)) = decide (a < b) := by
  by_cases h : a < b
  · rw [decide_eq_true h, decide_eq_true (by omega)]
  · rw [decide_eq_false h, decide_eq_false (by omega)]
theorem TyIs.at_len {B : Nat} {w : World} {b : Bool} {a2 : Option Addr} {n2 c2 : Nat} {x : M.Ty} (h : TyIs B w [.bool b, .slice a2 n2 c2] x) : x.shapes.length = n2 ∧ Ints B w a2 n2 x.shapes ∧ n2 ≤ maxLen := by
  obtain ⟨a, n, c, he, hn, hi⟩ := h
  simp only [List.cons.injEq, Value.slice.injEq, and_true, true_and] at he
  obtain ⟨_, rfl, rfl, rfl⟩ := he
  exact ⟨hi.len, hi, hn⟩
theorem ShIs.at_len {B : Nat} {w : World} {k : Int} {s : ByteArray} {a2 : Option Addr} {n2 c2 : Nat} {x : M.Sh} (h : ShIs B w [.int .i64 k, .slice a2 n2 c2, .string s] x) : x.fields.length = n2 ∧ Ints B w a2 n2 x.fields ∧ n2 ≤ maxLen := by
  obtain ⟨a, n, c, he, hn, _, _, hi⟩ := h
  simp only [List.cons.injEq, Value.slice.injEq, and_true, true_and] at he
  obtain ⟨_, ⟨rfl, rfl, rfl⟩, _⟩ := he
  exact ⟨hi.len, hi, hn⟩
theorem FnIs.at_len {B : Nat} {w : World} {r s : Int} {a2 : Option Addr} {n2 c2 : Nat} {a3 : Option Addr} {n3 c3 : Nat} {x : M.Fn} (h : FnIs B w [.slice a2 n2 c2, .int .i64 r, .int .i64 s, .slice a3 n3 c3] x) : x.params.length = n2 ∧ Ints B w a2 n2 x.params ∧ n2 ≤ maxLen ∧ x.blocks.length = n3 ∧ Lies B w 2 (BkIs B w) a3 n3 x.blocks ∧ n3 ≤ maxLen ∧ In64 x.result ∧ In64 x.slots := by
  obtain ⟨pa, pn, pc, ba, bn, bc, he, h1, h2, h3, h4, h5, h6⟩ := h
  simp only [List.cons.injEq, Value.slice.injEq, and_true, true_and] at he
  obtain ⟨⟨rfl, rfl, rfl⟩, _, _, ⟨rfl, rfl, rfl⟩⟩ := he
  exact ⟨h5.len, h5, h1, h6.len, h6, h2, h3, h4⟩
theorem BkIs.at_len {B : Nat} {w : World} {a2 : Option Addr} {n2 c2 : Nat} {a3 : Option Addr} {n3 c3 : Nat} {x : M.Bk} (h : BkIs B w [.slice a2 n2 c2, .slice a3 n3 c3] x) : x.inn.length = n2 ∧ Ints B w a2 n2 x.inn ∧ n2 ≤ maxLen ∧ x.code.length = n3 ∧ Lies B w 9 (InsIs B w) a3 n3 x.code ∧ n3 ≤ maxLen := by
  obtain ⟨pa, pn, pc, ba, bn, bc, he, h1, h2, h5, h6⟩ := h
  simp only [List.cons.injEq, Value.slice.injEq, and_true] at he
  obtain ⟨⟨rfl, rfl, rfl⟩, ⟨rfl, rfl, rfl⟩⟩ := he
  exact ⟨h5.len, h5, h1, h6.len, h6, h2⟩
theorem InsIs.at_len {B : Nat} {w : World} {o d a b c n : Int} {la : Option Addr} {ln lc : Nat} {ma : Option Addr} {mn mc : Nat} {va : Option Addr} {vn vc : Nat} {x : M.Ins} (h : InsIs B w [.int .i64 o, .int .i64 d, .int .i64 a, .int .i64 b, .int .i64 c, .int .i64 n, .slice la ln lc, .slice ma mn mc, .slice va vn vc] x) : x.l.length = ln ∧ x.m.length = mn ∧ x.v.length = vn ∧ ln ≤ maxLen ∧ mn ≤ maxLen ∧ vn ≤ maxLen := by
  obtain ⟨la', ln', lc', ma', mn', mc', va', vn', vc', he, h1, h2, h3, h4, h5, h6, h7⟩ := h
  simp only [List.cons.injEq, Value.slice.injEq, and_true, true_and] at he
  obtain ⟨_, _, _, _, _, _, ⟨rfl, rfl, rfl⟩, ⟨rfl, rfl, rfl⟩, ⟨rfl, rfl, rfl⟩⟩ := he
  exact ⟨h5.len, h6.len, h7.len, h1, h2, h3⟩
theorem bigType_any {B : Nat} {w : World} {a2 : Option Addr} {n2 c2 : Nat} {x : M.Ty} (h : TyIs B w [.bool x.imm, .slice a2 n2 c2] x) :
    Calls Try.prog 51 #[.agg #[.bool x.imm, .slice a2 n2 c2]] w fun e w' => e = .returned (.bool (M.bigTy x)) ∧ Still w w' := by
  have hl := h.at_len.1
  have he : M.bigTy x = decide ((512 : Int) < n2) := by unfold M.bigTy; rw [hl]; exact (dec_nat 512 n2).symm
  have HE := Lib.hid he
  clear h hl he
  go_enter Try.func51, Try.ntmps51
  go_wp2_with fail
  go_ret
  refine ⟨?_, (Still.refl w).alloc _⟩
  rw [HE.out]
  rfl
theorem bigText_any (s : ByteArray) (w : World) : Calls Try.prog 55 #[.string s] w fun e w' => e = .returned (.bool (M.bigTx s)) ∧ w' = w := by
  have he : M.bigTx s = decide ((16384 : Int) < s.size) := by unfold M.bigTx; exact (dec_nat 16384 s.size).symm
  have HE := Lib.hid he
  clear he
  go_enter Try.func55, Try.ntmps55
  go_wp2_with fail
  go_ret
  refine ⟨?_, rfl⟩
  rw [HE.out]
  rfl
theorem bigShape_any {B : Nat} {w : World} {a2 : Option Addr} {n2 c2 : Nat} {x : M.Sh} (h : ShIs B w [.int .i64 x.kind, .slice a2 n2 c2, .string x.name] x) :
    Calls Try.prog 53 #[.agg #[.int .i64 x.kind, .slice a2 n2 c2, .string x.name]] w fun e w' => e = .returned (.bool (M.bigSh x)) ∧ Still w w' := by
  have hl := h.at_len.1
  have he : M.bigSh x = (decide ((200 : Int) < n2) || M.bigTx x.name) := by
    unfold M.bigSh
    have e1 : decide ((200 : Int) < n2) = decide (200 < n2) := dec_nat 200 n2
    rw [hl, e1]; rfl
  have HE := Lib.hid he
  clear h hl he
  have HT := Lib.hid (fun W => bigText_any x.name W)
  by_cases hb : (200 : Int) < n2
  · go_enter Try.func53, Try.ntmps53
    go_wp2_with fail
    go_ret
    refine ⟨?_, (Still.refl w).alloc _⟩
    rw [HE.out, decide_eq_true (by omega)]
    rfl
  · go_enter Try.func53, Try.ntmps53
    go_wp2_with fail
    refine (HT.out _).mono ?_; rintro e w1 ⟨rfl, rfl⟩
    go_wp2_with fail
    go_ret
    refine ⟨?_, (Still.refl w).alloc _⟩
    rw [HE.out, decide_eq_false (by omega)]
    rfl
theorem bigBlock_any {B : Nat} {w : World} {a2 : Option Addr} {n2 c2 : Nat} {a3 : Option Addr} {n3 c3 : Nat} {x : M.Bk} (h : BkIs B w [.slice a2 n2 c2, .slice a3 n3 c3] x) :
    Calls Try.prog 86 #[.agg #[.slice a2 n2 c2, .slice a3 n3 c3]] w fun e w' => e = .returned (.bool (M.bigBk x)) ∧ Still w w' := by
  have hl := h.at_len.1
  have he : M.bigBk x = decide ((200 : Int) < n2) := by unfold M.bigBk; rw [hl]; exact (dec_nat 200 n2).symm
  have HE := Lib.hid he
  clear h hl he
  go_enter Try.func86, Try.ntmps86
  go_wp2_with fail
  go_ret
  refine ⟨?_, (Still.refl w).alloc _⟩
  rw [HE.out]
  rfl
theorem bigInstr_any {B : Nat} {w : World} {la : Option Addr} {ln lc : Nat} {ma : Option Addr} {mn mc : Nat} {va : Option Addr} {vn vc : Nat} {x : M.Ins} (h : InsIs B w [.int .i64 x.op, .int .i64 x.d, .int .i64 x.a, .int .i64 x.b, .int .i64 x.c, .int .i64 x.n, .slice la ln lc, .slice ma mn mc, .slice va vn vc] x) :
    Calls Try.prog 59 #[.agg #[.int .i64 x.op, .int .i64 x.d, .int .i64 x.a, .int .i64 x.b, .int .i64 x.c, .int .i64 x.n, .slice la ln lc, .slice ma mn mc, .slice va vn vc]] w fun e w' => e = .returned (.bool (M.bigIns x)) ∧ Still w w' := by
  obtain ⟨h1, h2, h3, _⟩ := h.at_len
  have he : M.bigIns x = (decide ((1024 : Int) < ln) || decide ((1024 : Int) < mn) || decide ((200 : Int) < vn)) := by
    unfold M.bigIns
    have e1 : decide ((1024 : Int) < ln) = decide (1024 < ln) := dec_nat 1024 ln
    have e2 : decide ((1024 : Int) < mn) = decide (1024 < mn) := dec_nat 1024 mn
    have e3 : decide ((200 : Int) < vn) = decide (200 < vn) := dec_nat 200 vn
    rw [h1, h2, h3, e1, e2, e3]
  have HE := Lib.hid he
  clear h h1 h2 h3 he
  by_cases hb : (1024 : Int) < ln
  · skip
    go_enter Try.func59, Try.ntmps59
    go_wp2_with fail
    go_ret
    refine ⟨?_, (Still.refl w).alloc _⟩
    rw [HE.out]
    have e0 : decide ((1024 : Int) < ln) = true := decide_eq_true (by omega)
    rw [e0]
    rfl
  · by_cases hc : (1024 : Int) < mn
    · skip
      go_enter Try.func59, Try.ntmps59
      go_wp2_with fail
      go_ret
      refine ⟨?_, (Still.refl w).alloc _⟩
      rw [HE.out]
      have e0 : decide ((1024 : Int) < ln) = false := decide_eq_false (by omega)
      have e1 : decide ((1024 : Int) < mn) = true := decide_eq_true (by omega)
      rw [e0, e1]
      rfl
    · by_cases hd : (200 : Int) < vn
      · skip
        go_enter Try.func59, Try.ntmps59
        go_wp2_with fail
        go_ret
        refine ⟨?_, (Still.refl w).alloc _⟩
        rw [HE.out]
        have e0 : decide ((1024 : Int) < ln) = false := decide_eq_false (by omega)
        have e1 : decide ((1024 : Int) < mn) = false := decide_eq_false (by omega)
        have e2 : decide ((200 : Int) < vn) = true := decide_eq_true (by omega)
        rw [e0, e1, e2]
        rfl
      · skip
        go_enter Try.func59, Try.ntmps59
        go_wp2_with fail
        go_ret
        refine ⟨?_, (Still.refl w).alloc _⟩
        rw [HE.out]
        have e0 : decide ((1024 : Int) < ln) = false := decide_eq_false (by omega)
        have e1 : decide ((1024 : Int) < mn) = false := decide_eq_false (by omega)
        have e2 : decide ((200 : Int) < vn) = false := decide_eq_false (by omega)
        rw [e0, e1, e2]
        rfl
theorem notPlain_any {B : Nat} {w : World} {la : Option Addr} {ln lc : Nat} {ma : Option Addr} {mn mc : Nat} {va : Option Addr} {vn vc : Nat} {x : M.Ins} (h : InsIs B w [.int .i64 x.op, .int .i64 x.d, .int .i64 x.a, .int .i64 x.b, .int .i64 x.c, .int .i64 x.n, .slice la ln lc, .slice ma mn mc, .slice va vn vc] x) :
    Calls Try.prog 23 #[.agg #[.int .i64 x.op, .int .i64 x.d, .int .i64 x.a, .int .i64 x.b, .int .i64 x.c, .int .i64 x.n, .slice la ln lc, .slice ma mn mc, .slice va vn vc]] w fun e w' => e = .returned (.bool (!(M.plainIns x))) ∧ Still w w' := by
  obtain ⟨h1, h2, h3, _⟩ := h.at_len
  have he : M.plainIns x = M.plain (M.uses x.op) x.d x.a x.b x.c x.n ln mn vn := by unfold M.plainIns; rw [h1, h2, h3]
  rw [he]
  have HP := Lib.hid (fun W => plain_any x.op x.d x.a x.b x.c x.n la ln lc ma mn mc va vn vc W)
  clear h h1 h2 h3 he
  generalize M.plain (M.uses x.op) x.d x.a x.b x.c x.n ln mn vn = p at *
  go_enter Try.func23, Try.ntmps23
  go_wp2_with fail
  refine (HP.out _).mono ?_; rintro e w1 ⟨rfl, t1⟩
  have HT := Lib.hid (((Still.refl w).alloc _).trans t1)
  clear t1
  go_wp2_with fail
  go_ret
  exact ⟨rfl, HT.out⟩
theorem bigFunc_any {B : Nat} {w : World} {a2 : Option Addr} {n2 c2 : Nat} {a3 : Option Addr} {n3 c3 : Nat} {x : M.Fn} (h : FnIs B w [.slice a2 n2 c2, .int .i64 x.result, .int .i64 x.slots, .slice a3 n3 c3] x) (hB : B ≤ w.heap.size) :
    Calls Try.prog 57 #[.agg #[.slice a2 n2 c2, .int .i64 x.result, .int .i64 x.slots, .slice a3 n3 c3]] w fun e w' => e = .returned (.bool (M.bigFn x)) ∧ Still w w' := by
  obtain ⟨h1, _, _, h2, h3, h4, _⟩ := h.at_len
  have he : M.bigFn x = (decide ((200 : Int) < x.slots) || decide ((200 : Int) < n2) || decide ((2000 : Int) < n3) || x.blocks.any M.bigBk) := by
    unfold M.bigFn
    have e1 : decide ((200 : Int) < n2) = decide (200 < n2) := dec_nat 200 n2
    have e2 : decide ((2000 : Int) < n3) = decide (2000 < n3) := dec_nat 2000 n3
    rw [h1, h2, e1, e2]
  have HE := Lib.hid he
  have hw : Below B w (w.alloc (.cells #[.slice a2 n2 c2, .int .i64 x.result, .int .i64 x.slots, .slice a3 n3 c3] 47)) := (Still.below ((Still.refl w).alloc _)).mono hB
  have HC := Lib.hid (containsBk_any (c := c3) M.bigBk 86 (enters_of Try.func86 (by kernel_rfl) rfl) (h3.keep hw hB fun _ _ _ h => h.keep hw hB) (by simp; omega) h4 (fun a2 n2 c2 a3 n3 c3 y W _ hp _ => bigBlock_any hp))
  clear h h1 h2 h3 he hw h4
  by_cases hb : (200 : Int) < x.slots
  · go_enter Try.func57, Try.ntmps57
    go_wp2_with fail
    go_ret
    refine ⟨?_, (Still.refl w).alloc _⟩
    rw [HE.out, decide_eq_true (by omega)]
    rfl
  · by_cases hc : (200 : Int) < n2
    · go_enter Try.func57, Try.ntmps57
      go_wp2_with fail
      go_ret
      refine ⟨?_, (Still.refl w).alloc _⟩
      rw [HE.out, decide_eq_false (by omega), decide_eq_true (by omega)]
      rfl
    · by_cases hd : (2000 : Int) < n3
      · go_enter Try.func57, Try.ntmps57
        go_wp2_with fail
        go_ret
        refine ⟨?_, (Still.refl w).alloc _⟩
        rw [HE.out, decide_eq_false (by omega), decide_eq_false (by omega), decide_eq_true (by omega)]
        rfl
      · generalize x.blocks.any M.bigBk = q at *
        go_enter Try.func57, Try.ntmps57
        go_wp2_with fail
        refine HC.out.mono ?_; rintro e w1 ⟨rfl, t1⟩
        have HT := Lib.hid (((Still.refl w).alloc _).trans t1)
        clear t1
        go_wp2_with fail
        go_ret
        refine ⟨?_, HT.out⟩
        rw [HE.out, decide_eq_false (by omega), decide_eq_false (by omega), decide_eq_false (by omega)]
        rfl
end Go.Proofs.Ytjeehbcbflofpaa
