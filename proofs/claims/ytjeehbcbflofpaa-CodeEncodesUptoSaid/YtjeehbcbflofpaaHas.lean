/- Has a text this letter? -/
import Derived.Test.YtjeehbcbflofpaaStill
import Derived.Laws.Externs
namespace Go.Proofs.Ytjeehbcbflofpaa
set_option linter.unusedVariables false
open Go.ChangeShapes Go.WideShapes Go.ChangeAt Go.RowKit
open M (W)
def M.hasB (s : ByteArray) (c : Nat) : Bool := decide (0 ≤ firstIdx s c.toUInt8)
theorem indexByte_any (s : ByteArray) (c : Nat) (w : World) : Calls Try.prog 105 #[.string s, .int .u8 c] w fun e w' => e = .returned (.int .i64 (firstIdx s c.toUInt8)) ∧ w' = w := by
  have hc : (callFunc 114 #[.string s, .int .u8 c]).run Try.prog w = .ok (.value (.int .i64 (firstIdx s c.toUInt8))) w := by
    rw [run_callFunc_extern (e := Extern.BytealgIndexByte.indexByte) Try.func114 (by kernel_rfl) (by kernel_rfl) (by kernel_rfl) (by kernel_rfl), run_indexByte_string]
    rfl
  go_enter Try.func105, Try.ntmps105
  go_wp2_with fail
  go_ret
  exact ⟨rfl, rfl⟩
theorem first_none {s : ByteArray} {c : UInt8} (h : ∀ k, k < s.size → s[k]! ≠ c) : firstIdx s c = -1 := by
  unfold firstIdx
  have : (List.range s.size).find? (fun i => s[i]! == c) = none := List.find?_eq_none.2 fun k hk => by
    have := h k (List.mem_range.1 hk)
    simpa using this
  rw [this]
theorem first_some {s : ByteArray} {c : UInt8} {i : Nat} (hi : i < s.size) (h : s[i]! = c) : 0 ≤ firstIdx s c := by
  unfold firstIdx
  cases hf : (List.range s.size).find? (fun i => s[i]! == c) with
  | none =>
    have := List.find?_eq_none.1 hf i (List.mem_range.2 hi)
    simp [h] at this
  | some j => simp
theorem first_one (c : Nat) {s : ByteArray} (h : ([UInt8.ofNat c] == s.toList) = true) : firstIdx s c.toUInt8 = 0 := by
  have h1 : [UInt8.ofNat c] = s.toList := by simpa using h
  rw [ByteArray.toList_eq] at h1
  have h2 : s = ⟨#[UInt8.ofNat c]⟩ := by
    cases s with
    | mk d =>
      congr 1
      exact Array.toList_inj.1 h1.symm
  subst h2
  unfold firstIdx
  have e : (List.range (ByteArray.mk #[UInt8.ofNat c]).size) = [0] := rfl
  rw [e]
  have e2 : ((ByteArray.mk #[UInt8.ofNat c])[0]! == c.toUInt8) = true := by
    have : (ByteArray.mk #[UInt8.ofNat c])[0]! = UInt8.ofNat c := rfl
    rw [this]; simp
  simp [e2]
set_option maxRecDepth 100000 in
theorem sindex_any (s : ByteArray) (c : Nat) (hc : c < 256) (w : World) : Calls Try.prog 97 #[.string s, .string ⟨#[c.toUInt8]⟩] w fun e w' => e = .returned (.int .i64 (firstIdx s c.toUInt8)) ∧ w' = w := by
  have H := Lib.hid (indexByte_any s c w)
  have F := Lib.hid (first_one c (s := s))
  have ec : (({ data := #[UInt8.ofNat c] } : ByteArray)[0]'(Nat.zero_lt_one)).toNat = c := by
    show (UInt8.ofNat c).toNat = c
    simp; omega
  cases hb : ([UInt8.ofNat c] == s.toList) with
  | false =>
    go_enter Try.func97, Try.ntmps97
    go_wp2_with fail
    refine H.out.mono ?_; rintro e w1 ⟨rfl, rfl⟩
    go_wp2_with fail
    go_ret
    exact ⟨rfl, rfl⟩
  | true =>
    have f := F.out hb
    go_enter Try.func97, Try.ntmps97
    go_wp2_with fail
    go_ret
    exact ⟨by rw [f]; rfl, rfl⟩
set_option maxRecDepth 100000 in
theorem has_any (s : ByteArray) (hs : s.size ≤ 1000) (c : Nat) (hc : c < 256) (w : World) : Calls Try.prog 38 #[.string s, .int .u8 c] w fun e w' => e = .returned (.bool (M.hasB s c)) ∧ w' = w := by
  go_enter Try.func38, Try.ntmps38
  go_wp2_with fail
  go_loop [5] (fun v => ∃ i : Nat, v = .int .i64 i ∧ i ≤ s.size ∧ ∀ k, k < i → s[k]! ≠ c.toUInt8) (fun v => s.size - (intOf v).toNat)
  case atStart => exact ⟨0, rfl, by omega, fun k hk => by omega⟩
  case round =>
    obtain ⟨i, rfl, hi, hn⟩ := hrel
    by_cases hlt : i < s.size
    · have eq1 : s[i]! = s[i] := getElem!_pos s i hlt
      cases hx : (((s[i].toNat : Nat) : Int) == (c : Int)) with
      | false =>
        go_wp2_with fail
        go_round
        case rel =>
          refine ⟨i + 1, by go_num, by omega, fun k hk => ?_⟩
          by_cases e : k = i
          · subst e
            rw [eq1]
            intro e
            have : s[k].toNat = c := by rw [e]; show (UInt8.ofNat c).toNat = c; simp; omega
            rw [this] at hx
            simp at hx
          · exact hn k (by omega)
        case measure => simp [intOf]; omega
      | true =>
        go_wp2_with fail
        go_ret
        have e1 : s[i].toNat = c := by have := beq_iff_eq.1 hx; omega
        have e2 : s[i]! = c.toUInt8 := by
          rw [eq1]
          apply UInt8.toNat_inj.1
          rw [e1]; show c = (UInt8.ofNat c).toNat; simp; omega
        have : M.hasB s c = true := decide_eq_true (first_some hlt e2)
        exact ⟨by rw [this]; rfl, rfl⟩
    · have e : i = s.size := by omega
      have : M.hasB s c = false := decide_eq_false (by rw [first_none (fun k hk => hn k (by omega))]; decide)
      clear hn
      go_wp2_with fail
      go_ret
      exact ⟨rfl, rfl⟩
theorem index_any (s : ByteArray) (c : Nat) (hc : c < 256) (w : World) : Calls Try.prog 75 #[.string s, .string ⟨#[c.toUInt8]⟩] w fun e w' => e = .returned (.int .i64 (firstIdx s c.toUInt8)) ∧ w' = w := by
  have H := Lib.hid (sindex_any s c hc w)
  go_enter Try.func75, Try.ntmps75
  go_wp2_with fail
  refine H.out.mono ?_; rintro e w1 ⟨rfl, rfl⟩
  go_wp2_with fail
  go_ret
  exact ⟨rfl, rfl⟩
theorem contains_any (s : ByteArray) (c : Nat) (hc : c < 256) (w : World) : Calls Try.prog 40 #[.string s, .string ⟨#[c.toUInt8]⟩] w fun e w' => e = .returned (.bool (M.hasB s c)) ∧ w' = w := by
  have H := Lib.hid (index_any s c hc w)
  unfold M.hasB
  go_enter Try.func40, Try.ntmps40
  go_wp2_with fail
  refine H.out.mono ?_; rintro e w1 ⟨rfl, rfl⟩
  go_wp2_with fail
  go_ret
  exact ⟨by simp, rfl⟩
theorem may_any (s : ByteArray) (c : Nat) (hc : c < 256) (b : Bool) (k : Nat) (w : World) (hb : w.cell? ⟨k, 0, none⟩ = some (.string s)) (hl : k < w.heap.size) :
    Calls Try.prog 39 #[.string ⟨#[c.toUInt8]⟩, .bool b, .pointer (some ⟨k, 0, none⟩)] w fun e w' => e = .returned (.bool (b || M.hasB s c)) ∧ w' = w := by
  have H := Lib.hid (contains_any s c hc w)
  cases b with
  | true =>
    go_enter Try.func39, Try.ntmps39
    go_wp2_with fail
    go_ret
    exact ⟨rfl, rfl⟩
  | false =>
    go_enter Try.func39, Try.ntmps39
    go_wp2_with (go_at_call 40; (with_reducible refine H.out.mono ?_); rintro e w1 ⟨rfl, rfl⟩)
    go_ret
    exact ⟨by simp, rfl⟩
end Go.Proofs.Ytjeehbcbflofpaa
