/- Lemmas, put together: Uses Has Plain Lives4. -/
import Derived.Test.YthlifflapgccbaaGreatL02
import Derived.Laws.Externs
import Derived.Lib.SmallJoins
import Derived.Test.YthlifflapgccbaaGreatL04
/- Which fields an instruction uses. -/
namespace Go.Proofs.YthlifflapgccbaaGreat
set_option linter.unusedVariables false
open Go.ChangeShapes Go.WideShapes Go.ChangeAt Go.RowKit
open M (W)
def M.uses (op : Int) : ByteArray := match op with
  | 1 => ⟨#[68, 78]⟩
  | 2 => ⟨#[68, 65, 108]⟩
  | 3 => ⟨#[68, 65]⟩
  | 4 => ⟨#[68, 65, 66, 78]⟩
  | 5 => ⟨#[68, 65, 76, 108]⟩
  | 6 => ⟨#[68, 65, 66]⟩
  | 7 => ⟨#[65, 66, 67]⟩
  | 8 => ⟨#[68, 65, 66, 67, 108]⟩
  | 9 => ⟨#[68, 65, 66]⟩
  | 10 => ⟨#[65, 66, 67]⟩
  | 11 => ⟨#[68, 65]⟩
  | 12 => ⟨#[68, 65, 66]⟩
  | 13 => ⟨#[68, 65, 66, 108]⟩
  | 14 => ⟨#[68, 65, 66]⟩
  | 15 => ⟨#[68]⟩
  | 16 => ⟨#[65]⟩
  | 17 => ⟨#[68, 65, 66, 67, 76, 108]⟩
  | 18 => ⟨#[65]⟩
  | 19 => ⟨#[65, 66, 67]⟩
  | 20 => ⟨#[65, 76, 77, 66]⟩
  | 21 => ⟨#[65, 76]⟩
  | 22 => ⟨#[65]⟩
  | 23 => ⟨#[65]⟩
  | _ => ⟨#[]⟩
theorem uses_out {op : Int} (h : op < 1 ∨ 23 < op) : M.uses op = ⟨#[]⟩ := by
  unfold M.uses
  split <;> first | rfl | omega
set_option maxRecDepth 100000 in
set_option maxHeartbeats 8000000 in
theorem uses_any (op : Int) (w : World) : Calls Tryz.prog 27 #[.int .i64 op] w fun e w' => e = .returned (.string (M.uses op)) ∧ w' = w := by
  by_cases h : op < 1 ∨ 23 < op
  · rw [uses_out h]
    have hk : ∀ i : Int, 1 ≤ i → i ≤ 23 → (op == i) = false := fun i h1 h2 => beq_eq_false_iff_ne.2 (by omega)
    have e1 : (op == 1) = false := hk 1 (by decide) (by decide)
    have e2 : (op == 2) = false := hk 2 (by decide) (by decide)
    have e3 : (op == 3) = false := hk 3 (by decide) (by decide)
    have e4 : (op == 4) = false := hk 4 (by decide) (by decide)
    have e5 : (op == 5) = false := hk 5 (by decide) (by decide)
    have e6 : (op == 6) = false := hk 6 (by decide) (by decide)
    have e7 : (op == 7) = false := hk 7 (by decide) (by decide)
    have e8 : (op == 8) = false := hk 8 (by decide) (by decide)
    have e9 : (op == 9) = false := hk 9 (by decide) (by decide)
    have e10 : (op == 10) = false := hk 10 (by decide) (by decide)
    have e11 : (op == 11) = false := hk 11 (by decide) (by decide)
    have e12 : (op == 12) = false := hk 12 (by decide) (by decide)
    have e13 : (op == 13) = false := hk 13 (by decide) (by decide)
    have e14 : (op == 14) = false := hk 14 (by decide) (by decide)
    have e15 : (op == 15) = false := hk 15 (by decide) (by decide)
    have e16 : (op == 16) = false := hk 16 (by decide) (by decide)
    have e17 : (op == 17) = false := hk 17 (by decide) (by decide)
    have e18 : (op == 18) = false := hk 18 (by decide) (by decide)
    have e19 : (op == 19) = false := hk 19 (by decide) (by decide)
    have e20 : (op == 20) = false := hk 20 (by decide) (by decide)
    have e21 : (op == 21) = false := hk 21 (by decide) (by decide)
    have e22 : (op == 22) = false := hk 22 (by decide) (by decide)
    have e23 : (op == 23) = false := hk 23 (by decide) (by decide)
    clear hk h
    go_enter Tryz.func27, Tryz.ntmps27
    go_wp2_with fail
    go_ret
    exact ⟨rfl, rfl⟩
  · have hc : op = 1 ∨ op = 2 ∨ op = 3 ∨ op = 4 ∨ op = 5 ∨ op = 6 ∨ op = 7 ∨ op = 8 ∨ op = 9 ∨ op = 10 ∨ op = 11 ∨ op = 12 ∨ op = 13 ∨ op = 14 ∨ op = 15 ∨ op = 16 ∨ op = 17 ∨ op = 18 ∨ op = 19 ∨ op = 20 ∨ op = 21 ∨ op = 22 ∨ op = 23 := by omega
    clear h
    rcases hc with rfl | rfl | rfl | rfl | rfl | rfl | rfl | rfl | rfl | rfl | rfl | rfl | rfl | rfl | rfl | rfl | rfl | rfl | rfl | rfl | rfl | rfl | rfl
    all_goals
      go_enter Tryz.func27, Tryz.ntmps27
      go_wp2_with fail
      go_ret
      exact ⟨rfl, rfl⟩
set_option maxRecDepth 100000 in
set_option maxHeartbeats 8000000 in
theorem refUses_any (op : Int) (w : World) : Calls Tryz.prog 75 #[.int .i64 op] w fun e w' => e = .returned (.string (M.uses op)) ∧ Still w w' := by
  by_cases h : op < 0 ∨ 23 < op
  · rw [uses_out (by omega)]
    by_cases h0 : op < 0
    · have x0 : decide (op < 0) = true := decide_eq_true h0
      go_enter Tryz.func75, Tryz.ntmps75
      go_wp2_with fail
      go_ret
      exact ⟨rfl, (Still.refl w).alloc _⟩
    · have x1 : decide (op < 0) = false := decide_eq_false h0
      have x2 : decide (op < 24) = false := decide_eq_false (by omega)
      have x3 : ¬ op < 24 := by omega
      clear h
      go_enter Tryz.func75, Tryz.ntmps75
      go_wp2_with fail
      go_ret
      exact ⟨rfl, (Still.refl w).alloc _⟩
  · have hc : op = 0 ∨ op = 1 ∨ op = 2 ∨ op = 3 ∨ op = 4 ∨ op = 5 ∨ op = 6 ∨ op = 7 ∨ op = 8 ∨ op = 9 ∨ op = 10 ∨ op = 11 ∨ op = 12 ∨ op = 13 ∨ op = 14 ∨ op = 15 ∨ op = 16 ∨ op = 17 ∨ op = 18 ∨ op = 19 ∨ op = 20 ∨ op = 21 ∨ op = 22 ∨ op = 23 := by omega
    clear h
    rcases hc with rfl | rfl | rfl | rfl | rfl | rfl | rfl | rfl | rfl | rfl | rfl | rfl | rfl | rfl | rfl | rfl | rfl | rfl | rfl | rfl | rfl | rfl | rfl | rfl
    all_goals
      go_enter Tryz.func75, Tryz.ntmps75
      go_wp2_with fail
      go_ret
      exact ⟨rfl, (Still.refl w).alloc _⟩
end Go.Proofs.YthlifflapgccbaaGreat
/- Has a text this letter? -/
namespace Go.Proofs.YthlifflapgccbaaGreat
set_option linter.unusedVariables false
open Go.ChangeShapes Go.WideShapes Go.ChangeAt Go.RowKit
open M (W)
def M.hasB (s : ByteArray) (c : Nat) : Bool := decide (0 ≤ firstIdx s c.toUInt8)
theorem indexByte_any (s : ByteArray) (c : Nat) (w : World) : Calls Tryz.prog 112 #[.string s, .int .u8 c] w fun e w' => e = .returned (.int .i64 (firstIdx s c.toUInt8)) ∧ w' = w := by
  have hc : (callFunc 118 #[.string s, .int .u8 c]).run Tryz.prog w = .ok (.value (.int .i64 (firstIdx s c.toUInt8))) w := by
    rw [run_callFunc_extern (e := Extern.BytealgIndexByte.indexByte) Tryz.func118 (by kernel_rfl) (by kernel_rfl) (by kernel_rfl) (by kernel_rfl), run_indexByte_string]
    rfl
  go_enter Tryz.func112, Tryz.ntmps112
  go_wp2_with fail
  go_ret
  exact ⟨rfl, rfl⟩
theorem first_none {s : ByteArray} {c : UInt8} (h : ∀ k, k < s.size → s[k]! ≠ c) : firstIdx s c = -1 := by
  unfold firstIdx
  have : (List.range s.size).find? (fun i => s[i]! == c) = none := List.find?_eq_none.2 fun k hk => by
    have := h k (List.mem_range.1 hk)
    simpa using this
  rw [this]
theorem first_some {s : ByteArray} {c : UInt8} {i : Nat} (hi : i < s.size) (h : s[i]! = c) : 0 ≤ firstIdx s c := by
  unfold firstIdx
  cases hf : (List.range s.size).find? (fun i => s[i]! == c) with
  | none =>
    have := List.find?_eq_none.1 hf i (List.mem_range.2 hi)
    simp [h] at this
  | some j => simp
theorem first_one (c : Nat) {s : ByteArray} (h : ([UInt8.ofNat c] == s.toList) = true) : firstIdx s c.toUInt8 = 0 := by
  have h1 : [UInt8.ofNat c] = s.toList := by simpa using h
  rw [ByteArray.toList_eq] at h1
  have h2 : s = ⟨#[UInt8.ofNat c]⟩ := by
    cases s with
    | mk d =>
      congr 1
      exact Array.toList_inj.1 h1.symm
  subst h2
  unfold firstIdx
  have e : (List.range (ByteArray.mk #[UInt8.ofNat c]).size) = [0] := rfl
  rw [e]
  have e2 : ((ByteArray.mk #[UInt8.ofNat c])[0]! == c.toUInt8) = true := by
    have : (ByteArray.mk #[UInt8.ofNat c])[0]! = UInt8.ofNat c := rfl
    rw [this]; simp
  simp [e2]
set_option maxRecDepth 100000 in
theorem sindex_any (s : ByteArray) (c : Nat) (hc : c < 256) (w : World) : Calls Tryz.prog 104 #[.string s, .string ⟨#[c.toUInt8]⟩] w fun e w' => e = .returned (.int .i64 (firstIdx s c.toUInt8)) ∧ w' = w := by
  have H := Lib.hid (indexByte_any s c w)
  have F := Lib.hid (first_one c (s := s))
  have ec : (({ data := #[UInt8.ofNat c] } : ByteArray)[0]'(Nat.zero_lt_one)).toNat = c := by
    show (UInt8.ofNat c).toNat = c
    simp; omega
  cases hb : ([UInt8.ofNat c] == s.toList) with
  | false =>
    go_enter Tryz.func104, Tryz.ntmps104
    go_wp2_with fail
    refine H.out.mono ?_; rintro e w1 ⟨rfl, rfl⟩
    go_wp2_with fail
    go_ret
    exact ⟨rfl, rfl⟩
  | true =>
    have f := F.out hb
    go_enter Tryz.func104, Tryz.ntmps104
    go_wp2_with fail
    go_ret
    exact ⟨by rw [f]; rfl, rfl⟩
set_option maxRecDepth 100000 in
theorem has_any (s : ByteArray) (hs : s.size ≤ 1000) (c : Nat) (hc : c < 256) (w : World) : Calls Tryz.prog 76 #[.string s, .int .u8 c] w fun e w' => e = .returned (.bool (M.hasB s c)) ∧ w' = w := by
  go_enter Tryz.func76, Tryz.ntmps76
  go_wp2_with fail
  go_loop [5] (fun v => ∃ i : Nat, v = .int .i64 i ∧ i ≤ s.size ∧ ∀ k, k < i → s[k]! ≠ c.toUInt8) (fun v => s.size - (intOf v).toNat)
  case atStart => exact ⟨0, rfl, by omega, fun k hk => by omega⟩
  case round =>
    obtain ⟨i, rfl, hi, hn⟩ := hrel
    by_cases hlt : i < s.size
    · have eq1 : s[i]! = s[i] := getElem!_pos s i hlt
      cases hx : (((s[i].toNat : Nat) : Int) == (c : Int)) with
      | false =>
        go_wp2_with fail
        go_round
        case rel =>
          refine ⟨i + 1, by go_num, by omega, fun k hk => ?_⟩
          by_cases e : k = i
          · subst e
            rw [eq1]
            intro e
            have : s[k].toNat = c := by rw [e]; show (UInt8.ofNat c).toNat = c; simp; omega
            rw [this] at hx
            simp at hx
          · exact hn k (by omega)
        case measure => simp [intOf]; omega
      | true =>
        go_wp2_with fail
        go_ret
        have e1 : s[i].toNat = c := by have := beq_iff_eq.1 hx; omega
        have e2 : s[i]! = c.toUInt8 := by
          rw [eq1]
          apply UInt8.toNat_inj.1
          rw [e1]; show c = (UInt8.ofNat c).toNat; simp; omega
        have : M.hasB s c = true := decide_eq_true (first_some hlt e2)
        exact ⟨by rw [this]; rfl, rfl⟩
    · have e : i = s.size := by omega
      have : M.hasB s c = false := decide_eq_false (by rw [first_none (fun k hk => hn k (by omega))]; decide)
      clear hn
      go_wp2_with fail
      go_ret
      exact ⟨rfl, rfl⟩
theorem index_any (s : ByteArray) (c : Nat) (hc : c < 256) (w : World) : Calls Tryz.prog 88 #[.string s, .string ⟨#[c.toUInt8]⟩] w fun e w' => e = .returned (.int .i64 (firstIdx s c.toUInt8)) ∧ w' = w := by
  have H := Lib.hid (sindex_any s c hc w)
  go_enter Tryz.func88, Tryz.ntmps88
  go_wp2_with fail
  refine H.out.mono ?_; rintro e w1 ⟨rfl, rfl⟩
  go_wp2_with fail
  go_ret
  exact ⟨rfl, rfl⟩
theorem contains_any (s : ByteArray) (c : Nat) (hc : c < 256) (w : World) : Calls Tryz.prog 55 #[.string s, .string ⟨#[c.toUInt8]⟩] w fun e w' => e = .returned (.bool (M.hasB s c)) ∧ w' = w := by
  have H := Lib.hid (index_any s c hc w)
  unfold M.hasB
  go_enter Tryz.func55, Tryz.ntmps55
  go_wp2_with fail
  refine H.out.mono ?_; rintro e w1 ⟨rfl, rfl⟩
  go_wp2_with fail
  go_ret
  exact ⟨by simp, rfl⟩
theorem may_any (s : ByteArray) (c : Nat) (hc : c < 256) (b : Bool) (k : Nat) (w : World) (hb : w.cell? ⟨k, 0, none⟩ = some (.string s)) (hl : k < w.heap.size) :
    Calls Tryz.prog 54 #[.string ⟨#[c.toUInt8]⟩, .bool b, .pointer (some ⟨k, 0, none⟩)] w fun e w' => e = .returned (.bool (b || M.hasB s c)) ∧ w' = w := by
  have H := Lib.hid (contains_any s c hc w)
  cases b with
  | true =>
    go_enter Tryz.func54, Tryz.ntmps54
    go_wp2_with fail
    go_ret
    exact ⟨rfl, rfl⟩
  | false =>
    go_enter Tryz.func54, Tryz.ntmps54
    go_wp2_with (go_at_call 55; (with_reducible refine H.out.mono ?_); rintro e w1 ⟨rfl, rfl⟩)
    go_ret
    exact ⟨by simp, rfl⟩
end Go.Proofs.YthlifflapgccbaaGreat
/- Plain. -/
namespace Go.Proofs.YthlifflapgccbaaGreat
set_option linter.unusedVariables false
open Go.ChangeShapes Go.WideShapes Go.ChangeAt Go.RowKit
open M (W)
/-- An instruction's cells. -/
def M.ins (op d a b c n : Int) (la : Option Addr) (ll lc : Nat) (ma : Option Addr) (ml mc : Nat) (va : Option Addr) (vl vc : Nat) : Array Value :=
  #[.int .i64 op, .int .i64 d, .int .i64 a, .int .i64 b, .int .i64 c, .int .i64 n, .slice la ll lc, .slice ma ml mc, .slice va vl vc]
def M.may (s : ByteArray) (c : Nat) (z : Bool) : Bool := z || M.hasB s c
def M.plain (s : ByteArray) (d a b c n : Int) (ll ml vl : Nat) : Bool :=
  (!(s.toList == [])) && M.may s 68 (d == 0) && M.may s 65 (a == 0) && M.may s 66 (b == 0) && M.may s 67 (c == 0) && M.may s 78 (n == 0) && M.may s 76 ((ll : Int) == 0) && M.may s 77 ((ml : Int) == 0) && M.may s 108 ((vl : Int) == 0)
set_option maxRecDepth 100000 in
set_option maxHeartbeats 4000000 in
theorem plain_any (op d a b c n : Int) (la : Option Addr) (ll lc : Nat) (ma : Option Addr) (ml mc : Nat) (va : Option Addr) (vl vc : Nat) (w : World) :
    Calls Tryz.prog 28 #[.agg #[.int .i64 op, .int .i64 d, .int .i64 a, .int .i64 b, .int .i64 c, .int .i64 n, .slice la ll lc, .slice ma ml mc, .slice va vl vc]] w fun e w' => e = .returned (.bool (M.plain (M.uses op) d a b c n ll ml vl)) ∧ Still w w' := by
  have HU := Lib.hid (uses_any op (w.alloc (.cells #[.int .i64 op, .int .i64 d, .int .i64 a, .int .i64 b, .int .i64 c, .int .i64 n, .slice la ll lc, .slice ma ml mc, .slice va vl vc] 70)))
  generalize M.uses op = s at *
  have HM : Hid (∀ (k : Nat) (z : Bool), k < 256 → Calls Tryz.prog 54 #[.string ⟨#[k.toUInt8]⟩, .bool z, .pointer (some ⟨w.heap.size + 1, 0, none⟩)] ((w.alloc (.cells #[.int .i64 op, .int .i64 d, .int .i64 a, .int .i64 b, .int .i64 c, .int .i64 n, .slice la ll lc, .slice ma ml mc, .slice va vl vc] 70)).alloc (.cells #[.string s] 9)) fun e w' => e = .returned (.bool (M.may s k z)) ∧ w' = ((w.alloc (.cells #[.int .i64 op, .int .i64 d, .int .i64 a, .int .i64 b, .int .i64 c, .int .i64 n, .slice la ll lc, .slice ma ml mc, .slice va vl vc] 70)).alloc (.cells #[.string s] 9))) := fun k z hk =>
    may_any s k hk z (w.heap.size + 1) _ (Go.Joins.cell_alloc_mark_at _ #[.string s] _ _ _ 0 (by simp)) (by simp)
  have S2 : Hid (Still w ((w.alloc (.cells #[.int .i64 op, .int .i64 d, .int .i64 a, .int .i64 b, .int .i64 c, .int .i64 n, .slice la ll lc, .slice ma ml mc, .slice va vl vc] 70)).alloc (.cells #[.string s] 9))) := ((Still.refl w).alloc _).alloc _
  have m1 : Hid (Calls Tryz.prog 54 #[.string ⟨#[68]⟩, .bool (d == 0), .pointer (some ⟨w.heap.size + 1, 0, none⟩)] ((w.alloc (.cells #[.int .i64 op, .int .i64 d, .int .i64 a, .int .i64 b, .int .i64 c, .int .i64 n, .slice la ll lc, .slice ma ml mc, .slice va vl vc] 70)).alloc (.cells #[.string s] 9)) fun e w' => e = .returned (.bool (M.may s 68 (d == 0))) ∧ w' = ((w.alloc (.cells #[.int .i64 op, .int .i64 d, .int .i64 a, .int .i64 b, .int .i64 c, .int .i64 n, .slice la ll lc, .slice ma ml mc, .slice va vl vc] 70)).alloc (.cells #[.string s] 9))) := HM.out 68 (d == 0) (by decide)
  have m2 : Hid (Calls Tryz.prog 54 #[.string ⟨#[65]⟩, .bool (a == 0), .pointer (some ⟨w.heap.size + 1, 0, none⟩)] ((w.alloc (.cells #[.int .i64 op, .int .i64 d, .int .i64 a, .int .i64 b, .int .i64 c, .int .i64 n, .slice la ll lc, .slice ma ml mc, .slice va vl vc] 70)).alloc (.cells #[.string s] 9)) fun e w' => e = .returned (.bool (M.may s 65 (a == 0))) ∧ w' = ((w.alloc (.cells #[.int .i64 op, .int .i64 d, .int .i64 a, .int .i64 b, .int .i64 c, .int .i64 n, .slice la ll lc, .slice ma ml mc, .slice va vl vc] 70)).alloc (.cells #[.string s] 9))) := HM.out 65 (a == 0) (by decide)
  have m3 : Hid (Calls Tryz.prog 54 #[.string ⟨#[66]⟩, .bool (b == 0), .pointer (some ⟨w.heap.size + 1, 0, none⟩)] ((w.alloc (.cells #[.int .i64 op, .int .i64 d, .int .i64 a, .int .i64 b, .int .i64 c, .int .i64 n, .slice la ll lc, .slice ma ml mc, .slice va vl vc] 70)).alloc (.cells #[.string s] 9)) fun e w' => e = .returned (.bool (M.may s 66 (b == 0))) ∧ w' = ((w.alloc (.cells #[.int .i64 op, .int .i64 d, .int .i64 a, .int .i64 b, .int .i64 c, .int .i64 n, .slice la ll lc, .slice ma ml mc, .slice va vl vc] 70)).alloc (.cells #[.string s] 9))) := HM.out 66 (b == 0) (by decide)
  have m4 : Hid (Calls Tryz.prog 54 #[.string ⟨#[67]⟩, .bool (c == 0), .pointer (some ⟨w.heap.size + 1, 0, none⟩)] ((w.alloc (.cells #[.int .i64 op, .int .i64 d, .int .i64 a, .int .i64 b, .int .i64 c, .int .i64 n, .slice la ll lc, .slice ma ml mc, .slice va vl vc] 70)).alloc (.cells #[.string s] 9)) fun e w' => e = .returned (.bool (M.may s 67 (c == 0))) ∧ w' = ((w.alloc (.cells #[.int .i64 op, .int .i64 d, .int .i64 a, .int .i64 b, .int .i64 c, .int .i64 n, .slice la ll lc, .slice ma ml mc, .slice va vl vc] 70)).alloc (.cells #[.string s] 9))) := HM.out 67 (c == 0) (by decide)
  have m5 : Hid (Calls Tryz.prog 54 #[.string ⟨#[78]⟩, .bool (n == 0), .pointer (some ⟨w.heap.size + 1, 0, none⟩)] ((w.alloc (.cells #[.int .i64 op, .int .i64 d, .int .i64 a, .int .i64 b, .int .i64 c, .int .i64 n, .slice la ll lc, .slice ma ml mc, .slice va vl vc] 70)).alloc (.cells #[.string s] 9)) fun e w' => e = .returned (.bool (M.may s 78 (n == 0))) ∧ w' = ((w.alloc (.cells #[.int .i64 op, .int .i64 d, .int .i64 a, .int .i64 b, .int .i64 c, .int .i64 n, .slice la ll lc, .slice ma ml mc, .slice va vl vc] 70)).alloc (.cells #[.string s] 9))) := HM.out 78 (n == 0) (by decide)
  have m6 : Hid (Calls Tryz.prog 54 #[.string ⟨#[76]⟩, .bool ((ll : Int) == 0), .pointer (some ⟨w.heap.size + 1, 0, none⟩)] ((w.alloc (.cells #[.int .i64 op, .int .i64 d, .int .i64 a, .int .i64 b, .int .i64 c, .int .i64 n, .slice la ll lc, .slice ma ml mc, .slice va vl vc] 70)).alloc (.cells #[.string s] 9)) fun e w' => e = .returned (.bool (M.may s 76 ((ll : Int) == 0))) ∧ w' = ((w.alloc (.cells #[.int .i64 op, .int .i64 d, .int .i64 a, .int .i64 b, .int .i64 c, .int .i64 n, .slice la ll lc, .slice ma ml mc, .slice va vl vc] 70)).alloc (.cells #[.string s] 9))) := HM.out 76 ((ll : Int) == 0) (by decide)
  have m7 : Hid (Calls Tryz.prog 54 #[.string ⟨#[77]⟩, .bool ((ml : Int) == 0), .pointer (some ⟨w.heap.size + 1, 0, none⟩)] ((w.alloc (.cells #[.int .i64 op, .int .i64 d, .int .i64 a, .int .i64 b, .int .i64 c, .int .i64 n, .slice la ll lc, .slice ma ml mc, .slice va vl vc] 70)).alloc (.cells #[.string s] 9)) fun e w' => e = .returned (.bool (M.may s 77 ((ml : Int) == 0))) ∧ w' = ((w.alloc (.cells #[.int .i64 op, .int .i64 d, .int .i64 a, .int .i64 b, .int .i64 c, .int .i64 n, .slice la ll lc, .slice ma ml mc, .slice va vl vc] 70)).alloc (.cells #[.string s] 9))) := HM.out 77 ((ml : Int) == 0) (by decide)
  have m8 : Hid (Calls Tryz.prog 54 #[.string ⟨#[108]⟩, .bool ((vl : Int) == 0), .pointer (some ⟨w.heap.size + 1, 0, none⟩)] ((w.alloc (.cells #[.int .i64 op, .int .i64 d, .int .i64 a, .int .i64 b, .int .i64 c, .int .i64 n, .slice la ll lc, .slice ma ml mc, .slice va vl vc] 70)).alloc (.cells #[.string s] 9)) fun e w' => e = .returned (.bool (M.may s 108 ((vl : Int) == 0))) ∧ w' = ((w.alloc (.cells #[.int .i64 op, .int .i64 d, .int .i64 a, .int .i64 b, .int .i64 c, .int .i64 n, .slice la ll lc, .slice ma ml mc, .slice va vl vc] 70)).alloc (.cells #[.string s] 9))) := HM.out 108 ((vl : Int) == 0) (by decide)
  have hpl : Hid (M.plain s d a b c n ll ml vl = ((!(s.toList == [])) && M.may s 68 (d == 0) && M.may s 65 (a == 0) && M.may s 66 (b == 0) && M.may s 67 (c == 0) && M.may s 78 (n == 0) && M.may s 76 ((ll : Int) == 0) && M.may s 77 ((ml : Int) == 0) && M.may s 108 ((vl : Int) == 0))) := rfl
  generalize M.plain s d a b c n ll ml vl = pl at *
  generalize M.may s 68 (d == 0) = q1 at m1 hpl
  generalize M.may s 65 (a == 0) = q2 at m2 hpl
  generalize M.may s 66 (b == 0) = q3 at m3 hpl
  generalize M.may s 67 (c == 0) = q4 at m4 hpl
  generalize M.may s 78 (n == 0) = q5 at m5 hpl
  generalize M.may s 76 ((ll : Int) == 0) = q6 at m6 hpl
  generalize M.may s 77 ((ml : Int) == 0) = q7 at m7 hpl
  generalize M.may s 108 ((vl : Int) == 0) = q8 at m8 hpl
  clear HM
  go_enter Tryz.func28, Tryz.ntmps28
  go_wp2_with fail
  refine HU.out.mono ?_; rintro e w1 ⟨rfl, rfl⟩
  cases he : (s.toList == [])
  all_goals
    go_wp2_with (first
    | (go_at_call 54; (with_reducible refine m1.out.mono ?_); rintro e w9 ⟨rfl, rfl⟩)
    | (go_at_call 54; (with_reducible refine m2.out.mono ?_); rintro e w9 ⟨rfl, rfl⟩)
    | (go_at_call 54; (with_reducible refine m3.out.mono ?_); rintro e w9 ⟨rfl, rfl⟩)
    | (go_at_call 54; (with_reducible refine m4.out.mono ?_); rintro e w9 ⟨rfl, rfl⟩)
    | (go_at_call 54; (with_reducible refine m5.out.mono ?_); rintro e w9 ⟨rfl, rfl⟩)
    | (go_at_call 54; (with_reducible refine m6.out.mono ?_); rintro e w9 ⟨rfl, rfl⟩)
    | (go_at_call 54; (with_reducible refine m7.out.mono ?_); rintro e w9 ⟨rfl, rfl⟩)
    | (go_at_call 54; (with_reducible refine m8.out.mono ?_); rintro e w9 ⟨rfl, rfl⟩))
    all_goals
      go_ret
      refine ⟨?_, S2.out⟩
      have := hpl.out
      rw [this]
      simp_all
end Go.Proofs.YthlifflapgccbaaGreat
/- The examples of layer 4's laws. -/
namespace Go.Proofs.YthlifflapgccbaaGreat
set_option linter.unusedVariables false
open Go.ChangeShapes Go.WideShapes Go.ChangeAt Go.RowKit
open M (W)
theorem conv11 {w : World} {B : Nat} {a : Option Addr} {c : Nat} (h : w.ownsRow B 5 1 (.slice a 11 c) 11 (M.bel.map (Value.int .u8))) :
    (convert 22 9 (.slice a 11 c)).run Tryz.prog w = .ok (.string ⟨#[66, 69, 76, 49, 0, 0, 0, 0, 0, 0, 0]⟩) w := by
  obtain ⟨r, rfl, hr, hnc, hcm, hcell, _⟩ := own_form h (by decide)
  exact run_convert_bytes_arg w 22 5 Tryz.underlying22 Tryz.underlying5 r 0 11 c M.bel rfl (fun j hj => by
    have h11 : j = 0 ∨ j = 1 ∨ j = 2 ∨ j = 3 ∨ j = 4 ∨ j = 5 ∨ j = 6 ∨ j = 7 ∨ j = 8 ∨ j = 9 ∨ j = 10 := by omega
    rcases h11 with rfl | rfl | rfl | rfl | rfl | rfl | rfl | rfl | rfl | rfl | rfl <;> (rw [Nat.zero_add]; exact hcell _ _ rfl)) 9 Tryz.underlying9
theorem plain_jump : M.plain (M.uses 18) 0 3 0 0 0 0 0 0 = true := by unfold M.plain; rw [ByteArray.toList_eq]; first | decide | rfl | kernel_rfl
theorem plain_jumpD : M.plain (M.uses 18) 1 3 0 0 0 0 0 0 = false := by unfold M.plain; rw [ByteArray.toList_eq]; first | decide | rfl | kernel_rfl
theorem uses_if (W : World) : Calls Tryz.prog 27 #[.int .i64 19] W fun e w' => e = .returned (.string ⟨#[65, 66, 67]⟩) ∧ w' = W := uses_any 19 W
theorem jump_plain (W : World) : Calls Tryz.prog 28 #[.agg #[.int .i64 18, .int .i64 0, .int .i64 3, .int .i64 0, .int .i64 0, .int .i64 0, .slice none 0 0, .slice none 0 0, .slice none 0 0]] W fun e w' => e = .returned (.bool true) ∧ Still W w' := by
  have := plain_any 18 0 3 0 0 0 none 0 0 none 0 0 none 0 0 W
  rwa [plain_jump] at this
theorem jumpD_plain (W : World) : Calls Tryz.prog 28 #[.agg #[.int .i64 18, .int .i64 1, .int .i64 3, .int .i64 0, .int .i64 0, .int .i64 0, .slice none 0 0, .slice none 0 0, .slice none 0 0]] W fun e w' => e = .returned (.bool false) ∧ Still W w' := by
  have := plain_any 18 1 3 0 0 0 none 0 0 none 0 0 none 0 0 W
  rwa [plain_jumpD] at this
set_option maxRecDepth 100000 in
set_option maxHeartbeats 4000000 in
theorem lives4_any (w : World) : Calls Tryz.prog 8 #[] w fun e w' => e = .returned (.bool true) ∧ Below w.heap.size w w' := by
  go_enter Tryz.func8, Tryz.ntmps8
  go_wp2_with fail
  refine (encode_nil _).mono ?_; rintro e w1 ⟨a, c, rfl, ho1, hb1⟩
  have hcv := Go.Joins.run_convert_bytes_const_at (P := Tryz.prog) w1 22 5 #[.int .u8 66, .int .u8 69, .int .u8 76] 3 3 w1.heap.size rfl Tryz.underlying22 Tryz.underlying5
  have HO1 := Lib.hid ho1
  have HB1 := Lib.hid hb1
  clear ho1 hb1
  go_wp2_with fail
  refine (decode_short _ _ 3).mono ?_; rintro e w2 ⟨rfl, t2⟩
  have S2 : Hid (Still w1 w2) := Still.trans ((Still.refl w1).alloc _) t2
  clear t2
  go_wp2_with fail
  have S3 : Hid (Still w1 (w2.alloc (.cells #[.slice none 0 0, .slice none 0 0, .slice none 0 0, .slice none 0 0, .slice none 0 0, .int .i64 0, .int .i64 0] 28))) := S2.out.alloc _
  refine (decode_bel (own_keep HO1.out S3.out (fun _ _ e => e))).mono ?_; rintro e w3 ⟨rfl, t3⟩
  have S4 : Hid (Still w1 w3) := Still.trans S3.out t3
  have S5 : Hid (Still w1 (w3.alloc (.cells #[.slice none 0 0, .slice none 0 0, .slice none 0 0, .slice none 0 0, .slice none 0 0, .int .i64 0, .int .i64 0] 28))) := S4.out.alloc _
  have cv := conv11 (own_keep HO1.out S5.out (fun _ _ e => e))
  clear t3 hcv
  go_wp2_with (first
    | (go_at_call 27; (with_reducible refine (uses_if _).mono ?_); rintro e w8 ⟨rfl, rfl⟩)
    | (go_at_call 28; (with_reducible refine (jump_plain _).mono ?_); rintro e w6 ⟨rfl, t6⟩; have S6 := Lib.hid (Still.trans S5.out t6); clear t6)
    | (go_at_call 28; (with_reducible refine (jumpD_plain _).mono ?_); rintro e w7 ⟨rfl, t7⟩; have S7 := Lib.hid (Still.trans S6.out t7); clear t7))
  go_ret
  exact ⟨rfl, HB1.out.trans ((Still.below S7.out).mono HB1.out.size)⟩
end Go.Proofs.YthlifflapgccbaaGreat
