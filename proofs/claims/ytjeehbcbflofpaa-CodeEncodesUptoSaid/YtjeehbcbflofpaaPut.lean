/- Contracts of layer 1's bytes: word.Put and the document's own Put. -/
import Derived.Test.YtjeehbcbflofpaaWords
import Derived.Test.YtjeehbcbflofpaaEnc
import Derived.Maps.AppendAt
namespace Go.Proofs.Ytjeehbcbflofpaa
set_option linter.unusedVariables false
set_option maxRecDepth 100000
open Go.ChangeShapes Go.WideShapes Go.ChangeAt Go.RowKit
open M (W)

theorem infoU8 : (Try.prog.info? 5).map (fun i => (i.zero, i.size, i.bytes)) = some (some (.int .u8 0), 1, 1) := by kernel_rfl

theorem fold_any (n : Int) (w : World) (h0 : -9223372036854775808 ≤ n) (h1 : n ≤ 9223372036854775807) : Calls Try.prog 110 #[.int .i64 n] w fun e w' => e = .returned (.int .u64 (M.zig n)) ∧ w' = w := by
  by_cases hn : n < 0
  · go_enter Try.func110, Try.ntmps110
    go_wp2
    go_ret
    exact ret_u (M.fold_n hn h0)
  · have h2 : 0 ≤ n := by omega
    clear hn
    go_enter Try.func110, Try.ntmps110
    go_wp2
    go_ret
    exact ret_u (M.fold_p h2 h1)
theorem unfold_any (u : Nat) (w : World) (h1 : u < 18446744073709551616) : Calls Try.prog 113 #[.int .u64 u] w fun e w' => e = .returned (.int .i64 (M.zag u)) ∧ w' = w := by
  go_enter Try.func113, Try.ntmps113
  go_wp2
  go_ret
  exact ret_u (M.unfold_u u h1)
theorem mayEnd_any (i : Nat) (c : Int) (w : World) (h0 : 0 ≤ c) (h1 : c < 256) : Calls Try.prog 112 #[.int .i64 i, .int .u8 c] w fun e w' => e = .returned (.bool ((decide (i = 0) || c != 0) && (decide (i < 9) || decide (c ≤ 1)))) ∧ w' = w := by
  by_cases hi : 0 < i
  · by_cases hc : c = 0
    · subst hc
      go_enter Try.func112, Try.ntmps112
      go_wp2
      go_ret
      exact ret_b (by simp; omega)
    · have hz : ((c : Int) == 0) = false := by simpa using hc
      by_cases h9 : (i : Int) < 9
      · go_enter Try.func112, Try.ntmps112
        go_wp2
        go_ret
        exact ret_b (by simp; omega)
      · go_enter Try.func112, Try.ntmps112
        go_wp2
        go_ret
        exact ret_b (by have e : decide (i < 9) = false := by simp; omega
                        have e2 : (c != 0) = true := by simpa using hc
                        rw [e, e2]; simp)
  · have hi0 : i = 0 := by omega
    subst hi0
    go_enter Try.func112, Try.ntmps112
    go_wp2
    go_ret
    exact ret_b (by simp)

theorem and127 (x : Int) (h0 : 0 ≤ x) (h1 : x < 18446744073709551616) : bits .and .u64 x 127 = x % 128 :=
  bits_mask .u64 64 (by decide) M.wraps_u64 7 (by decide) x h0 (by omega)
theorem or128 (x : Int) (h0 : 0 ≤ x) (h1 : x < 128) : bits .or .u64 x 128 = x + 128 := by
  obtain ⟨a, rfl⟩ := Int.eq_ofNat_of_zero_le h0
  have e := u64_or_nat a 128 (by omega) (by decide)
  have e2 := Nat.two_pow_add_eq_or_of_lt (i := 7) (b := a) (by omega) 1
  rw [Nat.or_comm] at e2
  simp only [Nat.reducePow, Nat.mul_one] at e2
  rw [← e2] at e
  have e3 : (128 : Int) = ((128 : Nat) : Int) := rfl
  rw [e3, e]; simp; omega
theorem group_u8 (x : Nat) (h : x < 18446744073709551616) : bits .or .u64 (bits .and .u64 (x : Int) 127) 128 % 256 = (x : Int) % 128 + 128 := by
  rw [and127 _ (by omega) (by omega), or128 _ (by omega) (by omega)]; omega

set_option maxHeartbeats 1000000 in
theorem put_any (n : Int) (w : World) (h0 : -9223372036854775808 ≤ n) (h1 : n ≤ 9223372036854775807) : Calls Try.prog 100 #[.int .i64 n] w fun e w' =>
    ∃ v, e = .returned v ∧ w'.ownsRow w.heap.size 5 1 v (M.enc (M.zig n)).length ((M.enc (M.zig n)).map (Value.int .u8)) ∧ Below w.heap.size w w' := by
  obtain ⟨i0, hi, hz0, hz1, hz2⟩ := info_parts infoU8
  have hZ := M.zig_lt h0 h1
  have hL := M.enc_len10 hZ
  generalize hz : M.zig n = Z at *
  have HZ := Lib.hid hz; clear hz
  go_enter Try.func100, Try.ntmps100
  go_wp2_with fail
  refine (fold_any n _ h0 h1).mono ?_; rintro e w ⟨rfl, rfl⟩
  rw [HZ.out]
  clear h0 h1
  go_wp2_with fail
  go_loopw [3, 4] (fun v x wr => ∃ (acc : List Int) (X : Nat), x = .int .u64 X ∧ X < 18446744073709551616 ∧ wr.ownsRow w.heap.size 5 1 v acc.length (acc.map (Value.int .u8)) ∧ acc ++ M.enc X = M.enc Z ∧ Below w.heap.size w wr)
    (fun _ x _ => (intOf x).toNat)
  case atStart => exact ⟨[], Z, rfl, hZ, World.ownsRow_nil _ _ _ _, rfl, Below.refl _ _⟩
  case round =>
    obtain ⟨acc, X, rfl, hX, hown, hacc, hb⟩ := hrel
    have hal : acc.length + (M.enc X).length ≤ 10 := by rw [← List.length_append, hacc]; exact hL
    have hHL : acc.length ≤ 10 := by omega
    have HA := Lib.hid hacc; clear hacc
    have hbs := hb.size
    by_cases hc : 127 < X
    · have hg := M.enc_big (x := X) (by omega)
      have hu := group_u8 X hX
      have HG := Lib.hid hg; clear hg
      clear hal
      go_wp2_with (at_builtin; refine wpList_append_own _ rfl _ _ 30 rfl w.heap.size 5 i0 (.int .u8 0) 1 1 Try.underlying30 hi hz0 hz1 hz2 rfl (by decide) _ _ _ rfl (hown.alloc _) ⟨wr.heap.size, 0, none⟩ 1 1 [.int .u8 ((X : Int) % 128 + 128)] rfl rfl ?c1 ?c2 ?c3 ?c4 ?c5 ?_)
      case c1 => exact cell_one_new _ _ _
      case c2 => simp [Value.oneCell']
      case c3 => unfold maxLen; omega
      case c4 => omega
      case c5 => simp; omega
      intro v' w1 hown1 hgrow _
      have hb1 : Below w.heap.size w w1 := (hb.alloc hbs _).grown hgrow (by simp; omega) (fun k hk => (hown.lt k hk).1)
      have HO := Lib.hid hown1; clear hown1 hown hb hgrow
      go_wp2
      go_roundw
      case rel =>
        refine ⟨acc ++ [(X : Int) % 128 + 128], X / 128, by simp, by omega, ?_, ?_, hb1⟩
        · have := HO.out; simpa using this
        · rw [← HA.out, HG.out, List.append_assoc]; simp
      case measure => simp [intOf]; omega
    · have hg := M.enc_small (x := X) (by omega)
      have hu : (X : Int) % 256 = X := by omega
      have HG := Lib.hid hg; clear hg
      clear hal
      go_wp2_with (at_builtin; refine wpList_append_own _ rfl _ _ 30 rfl w.heap.size 5 i0 (.int .u8 0) 1 1 Try.underlying30 hi hz0 hz1 hz2 rfl (by decide) _ _ _ rfl (hown.alloc _) ⟨wr.heap.size, 0, none⟩ 1 1 [.int .u8 (X : Int)] rfl rfl ?c1 ?c2 ?c3 ?c4 ?c5 ?_)
      case c1 => exact cell_one_new _ _ _
      case c2 => simp [Value.oneCell']
      case c3 => unfold maxLen; omega
      case c4 => omega
      case c5 => simp; omega
      intro v' w1 hown1 hgrow _
      have hb1 : Below w.heap.size w w1 := (hb.alloc hbs _).grown hgrow (by simp; omega) (fun k hk => (hown.lt k hk).1)
      have HO := Lib.hid hown1; clear hown1 hown hb hgrow
      go_wp2
      go_ret
      refine ⟨_, rfl, ?_, hb1⟩
      have := HO.out
      rw [← HA.out, HG.out]
      simpa using this

set_option maxHeartbeats 1000000 in
theorem refPut_neg (n : Int) (w : World) (h0 : -9223372036854775808 ≤ n) (h1 : n ≤ 9223372036854775807) (hn : n < 0) : Calls Try.prog 61 #[.int .i64 n] w fun e w' =>
    ∃ v, e = .returned v ∧ w'.ownsRow w.heap.size 5 1 v (M.enc (M.zig n)).length ((M.enc (M.zig n)).map (Value.int .u8)) ∧ Below w.heap.size w w' := by
  obtain ⟨i0, hi, hz0, hz1, hz2⟩ := info_parts infoU8
  have hZ := M.zig_lt h0 h1
  have hL := M.enc_len10 hZ
  have hzz : (-(n + 1)) * 2 + 1 = (M.zig n : Int) := by unfold M.zig; split <;> omega
  generalize hz : M.zig n = Z at *
  clear hz
  go_enter Try.func61, Try.ntmps61
  go_wp2_with fail
  clear hzz h0 h1 hn
  go_loopw [4, 3] (fun v x wr => ∃ (acc : List Int) (X : Nat), x = .int .u64 X ∧ X < 18446744073709551616 ∧ wr.ownsRow w.heap.size 5 1 v acc.length (acc.map (Value.int .u8)) ∧ acc ++ M.enc X = M.enc Z ∧ Below w.heap.size w wr)
    (fun _ x _ => (intOf x).toNat)
  case atStart => exact ⟨[], Z, rfl, hZ, World.ownsRow_nil _ _ _ _, rfl, Below.refl _ _⟩
  case round =>
    obtain ⟨acc, X, rfl, hX, hown, hacc, hb⟩ := hrel
    have hal : acc.length + (M.enc X).length ≤ 10 := by rw [← List.length_append, hacc]; exact hL
    have hHL : acc.length ≤ 10 := by omega
    have HA := Lib.hid hacc; clear hacc
    have hbs := hb.size
    by_cases hc : 127 < X
    · have hg := M.enc_big (x := X) (by omega)
      have HG := Lib.hid hg; clear hg
      clear hal
      go_wp2_with (at_builtin; refine wpList_append_own _ rfl _ _ 30 rfl w.heap.size 5 i0 (.int .u8 0) 1 1 Try.underlying30 hi hz0 hz1 hz2 rfl (by decide) _ _ _ rfl (hown.alloc _) ⟨wr.heap.size, 0, none⟩ 1 1 [.int .u8 ((X : Int) % 128 + 128)] rfl rfl ?c1 ?c2 ?c3 ?c4 ?c5 ?_)
      case c1 => exact cell_one_new _ _ _
      case c2 => simp [Value.oneCell']
      case c3 => unfold maxLen; omega
      case c4 => omega
      case c5 => simp; omega
      intro v' w1 hown1 hgrow _
      have hb1 : Below w.heap.size w w1 := (hb.alloc hbs _).grown hgrow (by simp; omega) (fun k hk => (hown.lt k hk).1)
      have HO := Lib.hid hown1; clear hown1 hown hb hgrow
      go_wp2
      go_roundw
      case rel =>
        refine ⟨acc ++ [(X : Int) % 128 + 128], X / 128, by simp, by omega, ?_, ?_, hb1⟩
        · have := HO.out; simpa using this
        · rw [← HA.out, HG.out, List.append_assoc]; simp
      case measure => simp [intOf]; omega
    · have hg := M.enc_small (x := X) (by omega)
      have hu : (X : Int) % 256 = X := by omega
      have HG := Lib.hid hg; clear hg
      clear hal
      go_wp2_with (at_builtin; refine wpList_append_own _ rfl _ _ 30 rfl w.heap.size 5 i0 (.int .u8 0) 1 1 Try.underlying30 hi hz0 hz1 hz2 rfl (by decide) _ _ _ rfl (hown.alloc _) ⟨wr.heap.size, 0, none⟩ 1 1 [.int .u8 (X : Int)] rfl rfl ?c1 ?c2 ?c3 ?c4 ?c5 ?_)
      case c1 => exact cell_one_new _ _ _
      case c2 => simp [Value.oneCell']
      case c3 => unfold maxLen; omega
      case c4 => omega
      case c5 => simp; omega
      intro v' w1 hown1 hgrow _
      have hb1 : Below w.heap.size w w1 := (hb.alloc hbs _).grown hgrow (by simp; omega) (fun k hk => (hown.lt k hk).1)
      have HO := Lib.hid hown1; clear hown1 hown hb hgrow
      go_wp2
      go_ret
      refine ⟨_, rfl, ?_, hb1⟩
      have := HO.out
      rw [← HA.out, HG.out]
      simpa using this

set_option maxHeartbeats 1000000 in
theorem refPut_pos (n : Int) (w : World) (h0 : -9223372036854775808 ≤ n) (h1 : n ≤ 9223372036854775807) (hn : ¬ n < 0) : Calls Try.prog 61 #[.int .i64 n] w fun e w' =>
    ∃ v, e = .returned v ∧ w'.ownsRow w.heap.size 5 1 v (M.enc (M.zig n)).length ((M.enc (M.zig n)).map (Value.int .u8)) ∧ Below w.heap.size w w' := by
  obtain ⟨i0, hi, hz0, hz1, hz2⟩ := info_parts infoU8
  have hZ := M.zig_lt h0 h1
  have hL := M.enc_len10 hZ
  have hzz : n * 2 = (M.zig n : Int) := by unfold M.zig; split <;> omega
  generalize hz : M.zig n = Z at *
  clear hz
  go_enter Try.func61, Try.ntmps61
  go_wp2_with fail
  clear hzz h0 h1 hn
  go_loopw [4, 3] (fun v x wr => ∃ (acc : List Int) (X : Nat), x = .int .u64 X ∧ X < 18446744073709551616 ∧ wr.ownsRow w.heap.size 5 1 v acc.length (acc.map (Value.int .u8)) ∧ acc ++ M.enc X = M.enc Z ∧ Below w.heap.size w wr)
    (fun _ x _ => (intOf x).toNat)
  case atStart => exact ⟨[], Z, rfl, hZ, World.ownsRow_nil _ _ _ _, rfl, Below.refl _ _⟩
  case round =>
    obtain ⟨acc, X, rfl, hX, hown, hacc, hb⟩ := hrel
    have hal : acc.length + (M.enc X).length ≤ 10 := by rw [← List.length_append, hacc]; exact hL
    have hHL : acc.length ≤ 10 := by omega
    have HA := Lib.hid hacc; clear hacc
    have hbs := hb.size
    by_cases hc : 127 < X
    · have hg := M.enc_big (x := X) (by omega)
      have HG := Lib.hid hg; clear hg
      clear hal
      go_wp2_with (at_builtin; refine wpList_append_own _ rfl _ _ 30 rfl w.heap.size 5 i0 (.int .u8 0) 1 1 Try.underlying30 hi hz0 hz1 hz2 rfl (by decide) _ _ _ rfl (hown.alloc _) ⟨wr.heap.size, 0, none⟩ 1 1 [.int .u8 ((X : Int) % 128 + 128)] rfl rfl ?c1 ?c2 ?c3 ?c4 ?c5 ?_)
      case c1 => exact cell_one_new _ _ _
      case c2 => simp [Value.oneCell']
      case c3 => unfold maxLen; omega
      case c4 => omega
      case c5 => simp; omega
      intro v' w1 hown1 hgrow _
      have hb1 : Below w.heap.size w w1 := (hb.alloc hbs _).grown hgrow (by simp; omega) (fun k hk => (hown.lt k hk).1)
      have HO := Lib.hid hown1; clear hown1 hown hb hgrow
      go_wp2
      go_roundw
      case rel =>
        refine ⟨acc ++ [(X : Int) % 128 + 128], X / 128, by simp, by omega, ?_, ?_, hb1⟩
        · have := HO.out; simpa using this
        · rw [← HA.out, HG.out, List.append_assoc]; simp
      case measure => simp [intOf]; omega
    · have hg := M.enc_small (x := X) (by omega)
      have hu : (X : Int) % 256 = X := by omega
      have HG := Lib.hid hg; clear hg
      clear hal
      go_wp2_with (at_builtin; refine wpList_append_own _ rfl _ _ 30 rfl w.heap.size 5 i0 (.int .u8 0) 1 1 Try.underlying30 hi hz0 hz1 hz2 rfl (by decide) _ _ _ rfl (hown.alloc _) ⟨wr.heap.size, 0, none⟩ 1 1 [.int .u8 (X : Int)] rfl rfl ?c1 ?c2 ?c3 ?c4 ?c5 ?_)
      case c1 => exact cell_one_new _ _ _
      case c2 => simp [Value.oneCell']
      case c3 => unfold maxLen; omega
      case c4 => omega
      case c5 => simp; omega
      intro v' w1 hown1 hgrow _
      have hb1 : Below w.heap.size w w1 := (hb.alloc hbs _).grown hgrow (by simp; omega) (fun k hk => (hown.lt k hk).1)
      have HO := Lib.hid hown1; clear hown1 hown hb hgrow
      go_wp2
      go_ret
      refine ⟨_, rfl, ?_, hb1⟩
      have := HO.out
      rw [← HA.out, HG.out]
      simpa using this
theorem refPut_any (n : Int) (w : World) (h0 : -9223372036854775808 ≤ n) (h1 : n ≤ 9223372036854775807) : Calls Try.prog 61 #[.int .i64 n] w fun e w' =>
    ∃ v, e = .returned v ∧ w'.ownsRow w.heap.size 5 1 v (M.enc (M.zig n)).length ((M.enc (M.zig n)).map (Value.int .u8)) ∧ Below w.heap.size w w' := by
  by_cases hn : n < 0
  · exact refPut_neg n w h0 h1 hn
  · exact refPut_pos n w h0 h1 hn
end Go.Proofs.Ytjeehbcbflofpaa
