/- The document's own digits. -/
import Derived.Test.YtpccfimjkffkfaaDoorLxRf5
import Derived.Lib.ItoaNum
namespace Go.Proofs.YtpccfimjkffkfaaDoor
set_option linter.unusedVariables false
set_option linter.unusedSimpArgs false
open Go.ChangeShapes Go.WideShapes Go.ChangeAt Go.RowKit
def dgB (n : Nat) : ByteArray := ⟨(Lib.decDigits n).toArray⟩
theorem dgB_small {n : Nat} (h : n < 10) : dgB n = Lx.str [48 + n] := by
  unfold dgB Lx.str
  rw [Lib.decDigits, dif_pos h]; rfl
theorem dgB_step {n : Nat} (h : ¬ n < 10) : dgB n = dgB (n / 10) ++ Lx.str [48 + n % 10] := by
  have e : (dgB n).data.toList = (dgB (n / 10) ++ Lx.str [48 + n % 10]).data.toList := by
    unfold dgB Lx.str
    rw [ByteArray.data_append, Array.toList_append]
    show Lib.decDigits n = Lib.decDigits (n / 10) ++ [UInt8.ofNat (48 + n % 10)]
    conv => lhs; rw [Lib.decDigits, dif_neg h]
  cases h1 : dgB n with
  | mk a => cases h2 : (dgB (n / 10) ++ Lx.str [48 + n % 10]) with
    | mk b =>
      rw [h1, h2] at e
      have hab : a = b := Array.toList_inj.1 e
      rw [hab]
theorem dgB_len : ∀ (k n : Nat), n < 10 ^ (k + 1) → (dgB n).size ≤ k + 1
  | 0, n, h => by rw [dgB_small (by omega)]; exact Nat.le_refl _
  | k + 1, n, h => by
    by_cases hs : n < 10
    · rw [dgB_small hs]; show 1 ≤ _; omega
    · have ih := dgB_len k (n / 10) (by rw [Nat.pow_succ] at h; omega)
      rw [dgB_step hs, ByteArray.size_append]
      show (dgB (n / 10)).size + 1 ≤ _
      omega
theorem conv_later {W0 W : World} {v : Nat} (h : Still (W0.alloc (.cells #[.int .u8 (v : Int)] 5)) W) : (convert 40 9 (.slice (some ⟨W0.heap.size, 0, none⟩) 1 1)).run Tryd.prog W = .ok (.string (Lx.str [v])) W :=
  run_convert_bytes_arg W 40 5 Tryd.underlying40 Tryd.underlying5 W0.heap.size 0 1 1 [(v : Int)] rfl (fun i hi => by
    obtain rfl : i = 0 := by omega
    exact (h.blk (Blk.new W0 5 #[.int .u8 (v : Int)])).cell 0) 9 Tryd.underlying9
set_option maxRecDepth 100000 in
set_option maxHeartbeats 8000000 in
theorem digits_step (n : Nat) (hn : n ≤ 9223372036854775807) (ih : 10 ≤ n → ∀ w : World, Calls Tryd.prog 31 #[.int .i64 ((n / 10 : Nat) : Int)] w fun e w' => e = .returned (.string (dgB (n / 10))) ∧ Still w w') (w : World) :
    Calls Tryd.prog 31 #[.int .i64 (n : Int)] w fun e w' => e = .returned (.string (dgB n)) ∧ Still w w' := by
  have x0 : ¬ (n : Int) < 0 := by omega
  have x1 : decide ((n : Int) < 0) = false := decide_eq_false x0
  by_cases hs : n < 10
  · have x2 : (n : Int) < 10 := by omega
    have x3 : decide (n < 10) = true := decide_eq_true hs
    have HB := Lib.hid (dgB_small hs)
    obtain ⟨v, hv⟩ : ∃ v, 48 + n = v := ⟨_, rfl⟩
    have e1 : (48 : Int) + (n : Int) = (v : Int) := by omega
    have e2 : (v : Int) % 256 = (v : Int) := by omega
    have e3 : IntKind.i64.wrap (v : Int) = (v : Int) := by rw [IntKind.wrap_i64]; omega
    have hcv := fun W : World => conv_one W v
    rw [hv] at HB
    clear ih hs hv
    go_enter Tryd.func31, Tryd.ntmps31
    go_wp2_with fail
    go_ret
    exact ⟨by rw [HB.out]; rfl, (Still.refl _).alloc _⟩
  · have x2 : ¬ (n : Int) < 10 := by omega
    have x3 : decide (n < 10) = false := decide_eq_false hs
    have HB := Lib.hid (dgB_step hs)
    obtain ⟨q, hq⟩ : ∃ q, n / 10 = q := ⟨_, rfl⟩
    obtain ⟨r, hr⟩ : ∃ r, n % 10 = r := ⟨_, rfl⟩
    obtain ⟨v, hv⟩ : ∃ v, 48 + r = v := ⟨_, rfl⟩
    have HI := Lib.hid (ih (by omega))
    have hql : (dgB q).size ≤ 19 := dgB_len 18 q (by omega)
    rw [hr, hv] at HB
    rw [hq] at HB HI
    have e1 : (48 : Int) + (r : Int) = (v : Int) := by omega
    have e2 : (v : Int) % 256 = (v : Int) := by omega
    have e3 : (n : Int) / 10 = (q : Int) := by omega
    have e4 : (n : Int) % 10 = (r : Int) := by omega
    have e7 : IntKind.i64.wrap (q : Int) = (q : Int) := by rw [IntKind.wrap_i64]; omega
    have e8 : IntKind.i64.wrap (v : Int) = (v : Int) := by rw [IntKind.wrap_i64]; omega
    have e9 : IntKind.u8.wrap (v : Int) = (v : Int) := by rw [IntKind.wrap_u8]; omega
    have e5 : (n : Int).tdiv 10 = (q : Int) := by rw [Int.tdiv_eq_ediv_of_nonneg (by omega)]; exact e3
    have e6 : (n : Int).tmod 10 = (r : Int) := by rw [Int.tmod_eq_emod_of_nonneg (by omega)]; exact e4
    have z2 : ¬ 9223372036854775807 < (dgB q).size + (Lx.str [v]).size := by
      have z1 : (Lx.str [v]).size = 1 := rfl
      omega
    have hcv := fun W : World => conv_one W v
    clear ih hs hv hq hr
    go_enter Tryd.func31, Tryd.ntmps31
    go_wp2_with fail
    obtain ⟨wD, hwD⟩ : ∃ wD, w.drew = wD := ⟨_, rfl⟩
    have SD := Lib.hid (show Still w wD by rw [← hwD]; exact drew_still w)
    refine wp_region_any (by kernel_rfl) ?_
    change wpAny _ _ _ _ _ _ _ (World.drew _)
    rw [hwD]
    clear hwD
    refine wpAny_take (i := 0) (v := ?_) rfl (by kernel_rfl) (by kernel_rfl) (by kernel_rfl) (fun _ _ _ h => h) (Or.inl ⟨by rfl, ?_⟩) ?_
    rotate_left
    · intro w; go_simp; try with_reducible rfl
    go_simp
    refine wpAny_take (i := 1) (v := ?_) rfl (by kernel_rfl) (by kernel_rfl) (by kernel_rfl) (fun _ _ _ h => h) (Or.inl ⟨by rfl, ?_⟩) ?_
    rotate_left
    · intro w; go_simp; try with_reducible rfl
    go_simp
    refine wpAny_take (i := 3) (v := ?_) rfl (by kernel_rfl) (by kernel_rfl) (by kernel_rfl) (fun _ _ _ h => h) (Or.inl ⟨by rfl, ?_⟩) ?_
    rotate_left
    · intro w; go_simp; try with_reducible rfl
    go_simp
    refine wpAny_take (i := 4) (v := ?_) rfl (by kernel_rfl) (by kernel_rfl) (by kernel_rfl) (fun _ _ _ h => h) (Or.inl ⟨by rfl, ?_⟩) ?_
    rotate_left
    · intro w; go_simp; try with_reducible rfl
    go_simp
    refine wpAny_take (i := 5) (v := ?_) rfl (by kernel_rfl) (by kernel_rfl) (by kernel_rfl) (fun _ _ _ h => h) (Or.inl ⟨by rfl, ?_⟩) ?_
    rotate_left
    · intro w; go_simp; try with_reducible rfl
    go_simp
    refine wpAny_take (i := 6) (v := ?_) rfl (by kernel_rfl) (by kernel_rfl) (by kernel_rfl) (fun _ _ _ h => h) (Or.inl ⟨by rfl, ?_⟩) ?_
    rotate_left
    · intro w; go_simp; try with_reducible rfl
    go_simp
    refine wpAny_ready (rs := [2, 7]) (by kernel_rfl) (by simp) ?_
    refine AllReady.cons rfl (fun K hK => ?_) (AllReady.cons rfl (fun K hK => ?_) AllReady.nil)
    · go_simp
      refine (HI.out wD).mono ?_; rintro e w5 ⟨rfl, t5⟩
      refine hK _ _ ?_; clear hK K
      refine wpAny_ready (rs := [7]) (by kernel_rfl) (by simp) ?_
      refine AllReady.cons rfl (fun K hK => ?_) AllReady.nil
      go_simp
      refine hK _ _ ?_; clear hK K
      refine wpAny_ready (rs := [8]) (by kernel_rfl) (by simp) ?_
      refine AllReady.cons rfl (fun K hK => ?_) AllReady.nil
      go_simp
      refine hK _ _ ?_; clear hK K
      refine wpAny_take (i := 9) (v := ?_) rfl (by kernel_rfl) (by kernel_rfl) (by kernel_rfl) (fun _ _ _ h => h) (Or.inl ⟨by rfl, ?_⟩) ?_
      rotate_left
      · intro w; go_simp; try with_reducible rfl
      go_simp
      refine wpAny_take (i := 10) (v := ?_) rfl (by kernel_rfl) (by kernel_rfl) (by kernel_rfl) (fun _ _ _ h => h) (Or.inl ⟨by rfl, ?_⟩) ?_
      rotate_left
      · intro w; go_simp; try with_reducible rfl
      go_simp
      refine wpAny_done (by kernel_rfl) ?_ _
      go_wp2_with fail
      go_ret
      exact ⟨by rw [HB.out]; rfl, ((SD.out.trans t5).alloc _)⟩
    · go_simp
      refine hK _ _ ?_; clear hK K
      have hcl := fun W (h : Still (wD.alloc (.cells #[.int .u8 (v : Int)] 5)) W) => conv_later h
      have HCL := Lib.hid hcl
      clear hcl
      refine wpAny_ready (rs := [2, 8]) (by kernel_rfl) (by simp) ?_
      refine AllReady.cons rfl (fun K hK => ?_) (AllReady.cons rfl (fun K hK => ?_) AllReady.nil)
      · go_simp
        refine (HI.out _).mono ?_; rintro e w5 ⟨rfl, t5⟩
        refine hK _ _ ?_; clear hK K
        have hc5 := HCL.out w5 t5
        refine wpAny_ready (rs := [8]) (by kernel_rfl) (by simp) ?_
        refine AllReady.cons rfl (fun K hK => ?_) AllReady.nil
        go_simp
        refine hK _ _ ?_; clear hK K
        refine wpAny_take (i := 9) (v := ?_) rfl (by kernel_rfl) (by kernel_rfl) (by kernel_rfl) (fun _ _ _ h => h) (Or.inl ⟨by rfl, ?_⟩) ?_
        rotate_left
        · intro w; go_simp; try with_reducible rfl
        go_simp
        refine wpAny_take (i := 10) (v := ?_) rfl (by kernel_rfl) (by kernel_rfl) (by kernel_rfl) (fun _ _ _ h => h) (Or.inl ⟨by rfl, ?_⟩) ?_
        rotate_left
        · intro w; go_simp; try with_reducible rfl
        go_simp
        refine wpAny_done (by kernel_rfl) ?_ _
        go_wp2_with fail
        go_ret
        exact ⟨by rw [HB.out]; rfl, (SD.out.alloc _).trans t5⟩
      · go_simp
        refine hK _ _ ?_; clear hK K
        refine wpAny_ready (rs := [2]) (by kernel_rfl) (by simp) ?_
        refine AllReady.cons rfl (fun K hK => ?_) AllReady.nil
        go_simp
        refine (HI.out _).mono ?_; rintro e w5 ⟨rfl, t5⟩
        refine hK _ _ ?_; clear hK K
        refine wpAny_take (i := 9) (v := ?_) rfl (by kernel_rfl) (by kernel_rfl) (by kernel_rfl) (fun _ _ _ h => h) (Or.inl ⟨by rfl, ?_⟩) ?_
        rotate_left
        · intro w; go_simp; try with_reducible rfl
        go_simp
        refine wpAny_take (i := 10) (v := ?_) rfl (by kernel_rfl) (by kernel_rfl) (by kernel_rfl) (fun _ _ _ h => h) (Or.inl ⟨by rfl, ?_⟩) ?_
        rotate_left
        · intro w; go_simp; try with_reducible rfl
        go_simp
        refine wpAny_done (by kernel_rfl) ?_ _
        go_wp2_with fail
        go_ret
        exact ⟨by rw [HB.out]; rfl, (SD.out.alloc _).trans t5⟩
theorem digits_nat : ∀ (k n : Nat), n < 10 ^ (k + 1) → n ≤ 9223372036854775807 → ∀ w : World, Calls Tryd.prog 31 #[.int .i64 (n : Int)] w fun e w' => e = .returned (.string (dgB n)) ∧ Still w w'
  | 0, n, h, hn, w => digits_step n hn (fun h10 => absurd h (by omega)) w
  | k + 1, n, h, hn, w => digits_step n hn (fun _ w => digits_nat k (n / 10) (by rw [Nat.pow_succ] at h; omega) (by omega) w) w
end Go.Proofs.YtpccfimjkffkfaaDoor
