/- Contracts of layer 2's calls that only read: Need, Is, Fits, Size, Top, Load, and of what they call. -/
import Derived.Test.YteanlncnhncpbaaHeapSt
namespace Go.Proofs.Yteanlncnhncpbaa
set_option linter.unusedVariables false
open Go.ChangeShapes Go.WideShapes Go.ChangeAt Go.RowKit
open M (W)

/-- How many words an object of a kind needs, n of it, N being its layout's; and the error. -/
def M.need (kind N n : Int) : Int := if kind = 0 ∨ n < 0 ∨ (kind = 1 ∧ n ≠ N) then 0 else if 65536 < n then 0 else if kind = 3 then 1 + (n + 7) / 8 else 1 + n
def M.needE (kind N n : Int) : Int := if kind = 0 ∨ n < 0 ∨ (kind = 1 ∧ n ≠ N) then 1 else if 65536 < n then 2 else 0
def St.need (s : St) (sh n : Int) : Int := M.need (s.kind sh) (s.len sh) n
def St.needE (s : St) (sh n : Int) : Int := M.needE (s.kind sh) (s.len sh) n

theorem wordsOf_any (n : Int) (w : World) (h0 : 0 ≤ n) (h1 : n ≤ 65536) : Calls Try.prog 102 #[.int .i64 n] w fun e w' => e = .returned (.int .i64 ((n + 7) / 8)) ∧ w' = w := by
  go_enter Try.func102, Try.ntmps102
  go_wp2
  go_ret
  exact ⟨ret_int (by omega), rfl⟩

theorem ret_pair {a b c d : Int} {w : World} (h : a = c) (k : b = d) : Ending.returned (.tuple #[.int .i64 a, .int .i64 b]) = .returned (.tuple #[.int .i64 c, .int .i64 d]) ∧ w = w := by rw [h, k]; exact ⟨rfl, rfl⟩

theorem need_nil (sh n : Int) (w : World) : Calls Try.prog 76 #[.pointer none, .int .i64 sh, .int .i64 n] w fun e w' => e = .returned (.tuple #[.int .i64 0, .int .i64 1]) ∧ w' = w := by
  go_enter Try.func76, Try.ntmps76
  go_wp2_with (go_at_call 90; (with_reducible refine (kind_nil _ _).mono ?_); rintro e w ⟨rfl, rfl⟩)
  go_ret2
  exact ⟨rfl, rfl⟩
theorem need_out (s : St) (sh n : Int) (w : World) (h : HpIs w s) (hs : s.kind sh = 0) : Calls Try.prog 76 #[s.ptr, .int .i64 sh, .int .i64 n] w fun e w' => e = .returned (.tuple #[.int .i64 0, .int .i64 1]) ∧ w' = w := by
  have HK := kind_any s sh w h
  rw [hs] at HK
  clear h hs
  go_enter Try.func76, Try.ntmps76
  go_wp2_with (go_at_call 90; (with_reducible refine HK.mono ?_); rintro e w ⟨rfl, rfl⟩)
  go_ret2
  exact ⟨rfl, rfl⟩
theorem need_in (s : St) (k : Nat) (n : Int) (w : World) (h : HpIs w s) (hk : k < s.m) : Calls Try.prog 76 #[s.ptr, .int .i64 k, .int .i64 n] w fun e w' => e = .returned (.tuple #[.int .i64 (M.need (s.lk k) (s.ln k) n), .int .i64 (M.needE (s.lk k) (s.ln k) n)]) ∧ w' = w := by
  have HK := kind_in s k w h hk
  have c3 := h.c3
  have cn := h.cn k hk
  have hm := h.m_le
  have hkk := h.kinds k hk
  generalize s.lk k = K at *
  generalize s.ln k = N at *
  clear h
  by_cases hn : n < 0
  · have hz : ((K : Int) == 0) = false := by simp; omega
    go_enter Try.func76, Try.ntmps76
    go_wp2_with (go_at_call 90; (with_reducible refine HK.mono ?_); rintro e w ⟨rfl, rfl⟩)
    go_ret2
    exact ret_pair (by unfold M.need; rw [if_pos (by omega)]) (by unfold M.needE; rw [if_pos (by omega)])
  by_cases h1 : K = 1
  · subst h1
    by_cases hN : n = N
    · subst hN
      have hne : ((n : Int) != n) = false := by simp
      by_cases hb : 65536 < n
      · go_enter Try.func76, Try.ntmps76
        go_wp2_with (go_at_call 90; (with_reducible refine HK.mono ?_); rintro e w ⟨rfl, rfl⟩)
        go_ret2
        exact ret_pair (by unfold M.need; rw [if_neg (by omega), if_pos hb]) (by unfold M.needE; rw [if_neg (by omega), if_pos hb])
      · go_enter Try.func76, Try.ntmps76
        go_wp2_with (go_at_call 90; (with_reducible refine HK.mono ?_); rintro e w ⟨rfl, rfl⟩)
        go_ret2
        exact ret_pair (by unfold M.need; rw [if_neg (by omega), if_neg (by omega), if_neg (by omega)]) (by unfold M.needE; rw [if_neg (by omega), if_neg (by omega)])
    · have hne : ((n : Int) != N) = true := by simpa using hN
      go_enter Try.func76, Try.ntmps76
      go_wp2_with (go_at_call 90; (with_reducible refine HK.mono ?_); rintro e w ⟨rfl, rfl⟩)
      go_ret2
      exact ret_pair (by unfold M.need; rw [if_pos (by omega)]) (by unfold M.needE; rw [if_pos (by omega)])
  · by_cases hb : 65536 < n
    · rcases hkk with rfl | rfl | rfl
      · exact absurd rfl h1
      all_goals
        go_enter Try.func76, Try.ntmps76
        go_wp2_with (go_at_call 90; (with_reducible refine HK.mono ?_); rintro e w ⟨rfl, rfl⟩)
        go_ret2
        exact ret_pair (by unfold M.need; rw [if_neg (by omega), if_pos hb]) (by unfold M.needE; rw [if_neg (by omega), if_pos hb])
    · rcases hkk with rfl | rfl | rfl
      · exact absurd rfl h1
      · go_enter Try.func76, Try.ntmps76
        go_wp2_with (go_at_call 90; (with_reducible refine HK.mono ?_); rintro e w ⟨rfl, rfl⟩)
        go_ret2
        exact ret_pair (by unfold M.need; rw [if_neg (by omega), if_neg (by omega), if_neg (by omega)]) (by unfold M.needE; rw [if_neg (by omega), if_neg (by omega)])
      · go_enter Try.func76, Try.ntmps76
        go_wp2_with (first
          | (go_at_call 90; (with_reducible refine HK.mono ?_); rintro e w ⟨rfl, rfl⟩)
          | (go_at_call 102; (with_reducible refine (wordsOf_any _ _ (by omega) (by omega)).mono ?_); rintro e w ⟨rfl, rfl⟩))
        go_ret2
        exact ret_pair (by unfold M.need; rw [if_neg (by omega), if_neg (by omega), if_pos (by omega)]) (by unfold M.needE; rw [if_neg (by omega), if_neg (by omega)])
theorem need_any (s : St) (sh n : Int) (w : World) (h : HpIs w s) : Calls Try.prog 76 #[s.ptr, .int .i64 sh, .int .i64 n] w fun e w' => e = .returned (.tuple #[.int .i64 (s.need sh n), .int .i64 (s.needE sh n)]) ∧ w' = w := by
  unfold St.need St.needE
  by_cases hs : 0 ≤ sh ∧ sh < s.m
  · obtain ⟨k, rfl⟩ := Int.eq_ofNat_of_zero_le hs.1
    unfold St.kind St.len
    rw [if_pos hs, if_pos hs]
    exact need_in s k n w h (by omega)
  · have hk : s.kind sh = 0 := by unfold St.kind; rw [if_neg hs]
    rw [hk]
    exact (need_out s sh n w h hk).mono fun _ _ ⟨he, hw⟩ => ⟨by rw [he]; simp [M.need, M.needE], hw⟩

/-! bits -/
theorem bit_at (x j : Nat) (hx : x < 18446744073709551616) (hj : j < 64) : (bits .and .u64 ((x : Int) / ((2 : Int) ^ j)) 1 == 1) = x.testBit j := by
  have h2 : ((2 : Int) ^ j) = ((2 ^ j : Nat) : Int) := by simp
  have h3 : (x : Int) / ((2 : Int) ^ j) = ((x / 2 ^ j : Nat) : Int) := by rw [h2]; simp
  have h4 : x / 2 ^ j < 18446744073709551616 := Nat.lt_of_le_of_lt (Nat.div_le_self x (2 ^ j)) hx
  rw [h3]
  generalize hq : x / 2 ^ j = q at *
  rw [M.and1 _ (by omega) (by omega), Nat.testBit_eq_decide_div_mod_eq, hq, Bool.eq_iff_iff]
  simp
  omega

theorem has_out (g o : Nat) (i : Int) (w : World) (hi : i < 0 ∨ 65536 ≤ i) : Calls Try.prog 75 #[.pointer (some ⟨g, o, none⟩), .int .i64 i] w fun e w' => e = .returned (.bool false) ∧ w' = w := by
  by_cases h0 : i < 0
  · clear hi
    go_enter Try.func75, Try.ntmps75
    go_wp2
    go_ret
    exact ⟨rfl, rfl⟩
  · have h1 : 65536 ≤ i := by omega
    clear hi
    go_enter Try.func75, Try.ntmps75
    go_wp2
    go_ret
    exact ⟨rfl, rfl⟩
theorem has_in0 (g o : Nat) (i x : Int) (w : World) (h0 : 0 ≤ i) (h1 : i < 65536) (hc : w.cell? ⟨g, o + (i / 64).toNat, none⟩ = some (.int .u64 x)) : Calls Try.prog 75 #[.pointer (some ⟨g, o, none⟩), .int .i64 i] w fun e w' => e = .returned (.bool (bits .and .u64 (x / 2 ^ (i % 64).toNat) 1 == 1)) ∧ w' = w := by
  have q0 : 0 ≤ i / 64 := by omega
  have q1 : i / 64 < 1024 := by omega
  have r0 : 0 ≤ i % 64 := by omega
  have r1 : i % 64 < 64 := by omega
  go_enter Try.func75, Try.ntmps75
  go_wp2
  go_ret
  exact ⟨rfl, rfl⟩
/-- A set of places that stands at an address: its words x. -/
def SetAt (w : World) (g o : Nat) (x : Nat → Nat) : Prop := ∀ k, k < 1024 → w.cell? ⟨g, o + k, none⟩ = some (.int .u64 (x k)) ∧ x k < 18446744073709551616
def M.inSet (x : Nat → Nat) (k : Int) : Bool := decide (0 ≤ k) && decide (k < 65536) && (x (k.toNat / 64)).testBit (k.toNat % 64)
theorem HpIs.set {w : World} {s : St} (h : HpIs w s) : SetAt w s.g 2 s.hx := fun k hk => ⟨h.cx k hk, h.hx_lt k⟩
theorem has_any (g o : Nat) (x : Nat → Nat) (i : Int) (w : World) (h : SetAt w g o x) : Calls Try.prog 75 #[.pointer (some ⟨g, o, none⟩), .int .i64 i] w fun e w' => e = .returned (.bool (M.inSet x i)) ∧ w' = w := by
  unfold M.inSet
  by_cases hi : i < 0 ∨ 65536 ≤ i
  · have : (decide (0 ≤ i) && decide (i < 65536)) = false := by simp; omega
    rw [this]
    exact has_out g o i w hi
  · have : (decide (0 ≤ i) && decide (i < 65536)) = true := by simp; omega
    rw [this]
    have e1 : (i / 64).toNat = i.toNat / 64 := by omega
    have e2 : (i % 64).toNat = i.toNat % 64 := by omega
    obtain ⟨hc, hx⟩ := h (i.toNat / 64) (by omega)
    refine (has_in0 g o i (x (i.toNat / 64)) w (by omega) (by omega) (by rw [e1]; exact hc)).mono fun _ _ ⟨he, hw⟩ => ⟨?_, hw⟩
    rw [he, e2, bit_at _ _ hx (by omega)]; rfl
theorem is_nil (i : Int) (w : World) : Calls Try.prog 100 #[.pointer none, .int .i64 i] w fun e w' => e = .returned (.bool false) ∧ w' = w := by
  go_enter Try.func100, Try.ntmps100
  go_wp2
  go_ret
  exact ⟨rfl, rfl⟩
theorem is_any (s : St) (i : Int) (w : World) (h : HpIs w s) : Calls Try.prog 100 #[s.ptr, .int .i64 i] w fun e w' => e = .returned (.bool (s.is i)) ∧ w' = w := by
  have HH := has_any s.g 2 s.hx i w h.set
  clear h
  go_enter Try.func100, Try.ntmps100
  go_wp2_with (go_at_call 75; (with_reducible refine HH.mono ?_); rintro e w ⟨rfl, rfl⟩)
  go_ret
  exact ⟨rfl, rfl⟩
/-- May w be a field, if heads stand at x? -/
def M.fits (x : Nat → Nat) (v : Int) : Bool := (v % 2 == 1) || M.inSet x (v / 2)
def St.fits (s : St) (v : Int) : Bool := M.fits s.hx v
theorem pfits_any (g o : Nat) (x : Nat → Nat) (v : Int) (w : World) (h : SetAt w g o x) (v0 : 0 ≤ v) (v1 : v < 18446744073709551616) : Calls Try.prog 104 #[.pointer (some ⟨g, o, none⟩), .int .u64 v] w fun e w' => e = .returned (.bool (M.fits x v)) ∧ w' = w := by
  have HH := has_any g o x (v / 2) w h
  have HI := isImm_any v w v0 v1
  have HA := at_any v w v0 v1
  unfold M.fits
  clear h
  by_cases ho : v % 2 = 1
  · have e : (v % 2 == 1) = true := by simpa using ho
    rw [e] at HI ⊢
    clear ho e
    go_enter Try.func104, Try.ntmps104
    go_wp2_with (go_at_call 71; (with_reducible refine HI.mono ?_); rintro e w ⟨rfl, rfl⟩)
    go_ret
    exact ⟨rfl, rfl⟩
  · have e : (v % 2 == 1) = false := by simpa using ho
    rw [e] at HI ⊢
    clear ho e
    go_enter Try.func104, Try.ntmps104
    go_wp2_with (first
      | (go_at_call 71; (with_reducible refine HI.mono ?_); rintro e w ⟨rfl, rfl⟩)
      | (go_at_call 49; (with_reducible refine HA.mono ?_); rintro e w ⟨rfl, rfl⟩)
      | (go_at_call 75; (with_reducible refine HH.mono ?_); rintro e w ⟨rfl, rfl⟩))
    go_ret
    exact ⟨rfl, rfl⟩
theorem fits_nil (v : Int) (w : World) : Calls Try.prog 82 #[.pointer none, .int .u64 v] w fun e w' => e = .returned (.bool false) ∧ w' = w := by
  go_enter Try.func82, Try.ntmps82
  go_wp2
  go_ret
  exact ⟨rfl, rfl⟩
theorem fits_any (s : St) (v : Int) (w : World) (h : HpIs w s) (v0 : 0 ≤ v) (v1 : v < 18446744073709551616) : Calls Try.prog 82 #[s.ptr, .int .u64 v] w fun e w' => e = .returned (.bool (s.fits v)) ∧ w' = w := by
  have HH := pfits_any s.g 2 s.hx v w h.set v0 v1
  clear h
  go_enter Try.func82, Try.ntmps82
  go_wp2_with (go_at_call 104; (with_reducible refine HH.mono ?_); rintro e w ⟨rfl, rfl⟩)
  go_ret
  exact ⟨rfl, rfl⟩
theorem size_nil (w : World) : Calls Try.prog 39 #[.pointer none] w fun e w' => e = .returned (.int .i64 0) ∧ w' = w := by
  go_enter Try.func39, Try.ntmps39
  go_wp2
  go_ret
  exact ⟨rfl, rfl⟩
theorem size_any (s : St) (w : World) (h : HpIs w s) : Calls Try.prog 39 #[s.ptr] w fun e w' => e = .returned (.int .i64 s.n) ∧ w' = w := by
  have c0 := h.c0
  have hn := h.n_le
  clear h
  go_enter Try.func39, Try.ntmps39
  go_wp2
  go_ret
  exact ⟨rfl, rfl⟩
theorem top_nil (w : World) : Calls Try.prog 19 #[.pointer none] w fun e w' => e = .returned (.int .i64 0) ∧ w' = w := by
  go_enter Try.func19, Try.ntmps19
  go_wp2
  go_ret
  exact ⟨rfl, rfl⟩
theorem top_any (s : St) (w : World) (h : HpIs w s) : Calls Try.prog 19 #[s.ptr] w fun e w' => e = .returned (.int .i64 s.top) ∧ w' = w := by
  have c1 := h.c1
  clear h
  go_enter Try.func19, Try.ntmps19
  go_wp2
  go_ret
  exact ⟨rfl, rfl⟩
theorem load_nil (i : Int) (w : World) : Calls Try.prog 26 #[.pointer none, .int .i64 i] w fun e w' => e = .returned (.int .u64 0) ∧ w' = w := by
  by_cases hi : i < 0
  all_goals
    go_enter Try.func26, Try.ntmps26
    go_wp2_with (go_at_call 39; (with_reducible refine (size_nil _).mono ?_); rintro e w ⟨rfl, rfl⟩)
    go_ret
    exact ⟨rfl, rfl⟩
theorem load_out (s : St) (i : Int) (w : World) (h : HpIs w s) (hi : i < 0 ∨ (s.n : Int) ≤ i) : Calls Try.prog 26 #[s.ptr, .int .i64 i] w fun e w' => e = .returned (.int .u64 0) ∧ w' = w := by
  have HS := size_any s w h
  clear h
  by_cases h0 : i < 0
  · clear hi
    go_enter Try.func26, Try.ntmps26
    go_wp2_with (go_at_call 39; (with_reducible refine HS.mono ?_); rintro e w ⟨rfl, rfl⟩)
    go_ret
    exact ⟨rfl, rfl⟩
  · have h1 : (s.n : Int) ≤ i := by omega
    clear hi
    go_enter Try.func26, Try.ntmps26
    go_wp2_with (go_at_call 39; (with_reducible refine HS.mono ?_); rintro e w ⟨rfl, rfl⟩)
    go_ret
    exact ⟨rfl, rfl⟩
theorem load_in (s : St) (k : Nat) (w : World) (h : HpIs w s) (hk : k < s.n) : Calls Try.prog 26 #[s.ptr, .int .i64 k] w fun e w' => e = .returned (.int .u64 (s.ws k)) ∧ w' = w := by
  have HS := size_any s w h
  have c0 := h.c0
  have cw := h.cw k hk
  have hn := h.n_le
  clear h
  go_enter Try.func26, Try.ntmps26
  go_wp2_with (go_at_call 39; (with_reducible refine HS.mono ?_); rintro e w ⟨rfl, rfl⟩)
  go_ret
  exact ⟨rfl, rfl⟩
end Go.Proofs.Yteanlncnhncpbaa
