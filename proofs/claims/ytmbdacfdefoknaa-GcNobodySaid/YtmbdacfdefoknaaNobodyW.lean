/- Of no heap, and of roots that are no object's, nothing is told. -/
import Derived.Test.YtmbdacfdefoknaaK17
namespace Go.Proofs.Ytmbdacfdefoknaa
set_option linter.unusedVariables false
open Go.ChangeShapes Go.WideShapes Go.ChangeAt Go.RowKit
open M (W)

theorem collect_nil (a : Option Addr) (n cap : Nat) (w : World) : Calls Try.prog 25 #[.pointer none, .slice a n cap] w fun e w' => e = .returned (.tuple #[.slice none 0 0, .int .i64 1]) ∧ w' = w := by
  have hb := begin_nil a n cap w
  go_enter Try.func25, Try.ntmps25
  go_wp2_with fail
  refine hb.mono ?_; rintro e w1 ⟨rfl, rfl⟩
  go_wp2_with fail
  go_ret2
  exact ⟨rfl, rfl⟩
theorem marks_nil (a : Option Addr) (n cap : Nat) (w : World) : Calls Try.prog 29 #[.pointer none, .slice a n cap] w fun e w' => e = .returned (.tuple #[.slice none 0 0, .int .i64 1]) ∧ w' = w := by
  have hb := begin_nil a n cap w
  go_enter Try.func29, Try.ntmps29
  go_wp2_with fail
  refine hb.mono ?_; rintro e w1 ⟨rfl, rfl⟩
  go_wp2_with fail
  go_ret2
  exact ⟨rfl, rfl⟩
theorem live_nil (a : Option Addr) (n cap : Nat) (w : World) : Calls Try.prog 30 #[.pointer none, .slice a n cap] w fun e w' => e = .returned (.tuple #[.int .i64 0, .int .i64 1]) ∧ w' = w := by
  have hb := begin_nil a n cap w
  go_enter Try.func30, Try.ntmps30
  go_wp2_with fail
  refine hb.mono ?_; rintro e w1 ⟨rfl, rfl⟩
  go_wp2_with fail
  go_ret2
  exact ⟨rfl, rfl⟩
theorem Owned.unfit {w0 w : World} {g gw n : Nat} {K N : Int} {s : St} {L : List RO} (h : Owned w0 w g gw n K N s L) (a : Option Addr) (m cap : Nat) (rl : List Nat) (hm : rl.length = m) (hrow : RootL w s a rl) (hcap : m ≤ cap) (hcm : cap ≤ maxLen) (hno : ∃ v ∈ rl, s.fits (v : Nat) = false) :
    Calls Try.prog 25 #[.pointer (some ⟨g, 0, none⟩), .slice a m cap] w fun e w' => e = .returned (.tuple #[.slice none 0 0, .int .i64 1]) ∧ ∃ s', Owned w0 w' g gw n K N s' L ∧ s'.top = s.top := by
  have hr := collect_l h.right a m cap rl hm hrow hcap hcm
  rw [h.ptr] at hr
  refine hr.mono ?_
  rintro e w' (⟨rfl, hu⟩ | ⟨mk, gr, s', rfl, hf⟩)
  · exact ⟨rfl, _, h.step hu.right hu.turn ⟨rfl, rfl, rfl, rfl, rfl, rfl⟩, rfl⟩
  · obtain ⟨v, hv, hx⟩ := hno
    rw [hf.fit v hv] at hx; simp at hx
theorem imm_3 (w : World) : Calls Try.prog 38 #[.int .i64 3] w fun e w' => e = .returned (.int .u64 7) ∧ w' = w := imm_any 3 w
set_option maxRecDepth 100000 in
set_option maxHeartbeats 4000000 in
theorem gcNobody_w (v at_ : Int) (w : World) (hat : -9223372036854775808 ≤ at_ ∧ at_ ≤ 9223372036854775807) : Calls Try.prog 12 #[.int .u64 v, .int .i64 at_] w fun e w' => e = .returned (.bool true) ∧ Below w.heap.size w w' := by
  go_enter Try.func12, Try.ntmps12
  go_wp2_with fail
  refine (collect_nil _ _ _ _).mono ?_; rintro e w1 ⟨rfl, rfl⟩
  have S1 : Hid (Still w (w.alloc (.cells #[.int .u64 v] 33))) := (Still.refl w).alloc _
  go_wp2_with fail
  refine (marks_nil _ _ _ _).mono ?_; rintro e w2 ⟨rfl, rfl⟩
  go_wp2_with fail
  refine (live_nil _ _ _ _).mono ?_; rintro e w3 ⟨rfl, rfl⟩
  generalize w.alloc (.cells #[.int .u64 v] 33) = w1 at *
  go_wp2_with fail
  refine (owned_new w1 20 3 0 (by decide) (by decide) _).mono ?_; rintro e w4 ⟨g, gw, s, rfl, h4, t4⟩
  have HA := Lib.hid (h4.allocB 9 (by decide) (by omega))
  have T4 := Lib.hid t4
  clear h4 t4
  go_wp2_with fail
  refine HA.out.mono ?_; rintro e w5 ⟨rfl, s5, h5, t5⟩
  have HT5 : Hid (s5.top = 3) := by rw [t5, T4.out]; rfl
  have h5 : Owned w1 w5 g gw 20 3 0 s5 [M.objB s.top 0 9 (List.replicate 9 0)] := h5
  rw [T4.out] at h5
  have HO5 := Lib.hid h5
  clear h5 t5 HA
  go_wp2_with fail
  refine (imm_3 _).mono ?_; rintro e w6 ⟨rfl, rfl⟩
  go_wp2_with fail
  refine (ptr_any _ _).mono ?_; rintro e w6 ⟨rfl, rfl⟩
  clear h5
  obtain ⟨q, hq⟩ : ∃ q : Nat, M.ptr at_ = q := ⟨(M.ptr at_).toNat, (Int.toNat_of_nonneg (M.ptr_lo at_)).symm⟩
  have hq1 : q < 18446744073709551616 := by have := M.ptr_hi at_; omega
  have hq2 : q % 2 = 0 := by have := hq; unfold M.ptr at this; omega
  have HPT : Hid (∀ W, Calls Try.prog 37 #[.int .i64 at_] W fun e w' => e = .returned (.int .u64 q) ∧ w' = W) := fun W => by rw [← hq]; exact ptr_any at_ W
  have HAT : Hid (∀ W, Calls Try.prog 43 #[.int .u64 q] W fun e w' => e = .returned (.int .i64 ((q / 2 : Nat) : Int)) ∧ w' = W) := fun W => by
    have := at_any (q : Int) W (by omega) (by omega)
    rwa [show (q : Int) / 2 = ((q / 2 : Nat) : Int) by omega] at this
  have hroot := root_lit HO5.out [7, q] (by simp; omega) (by simp)
  have HSTL := Lib.hid (HO5.out.still ((Still.refl w6).alloc (.cells (([7, q] : List Nat).map fun v : Nat => Value.int .u64 (v : Int)).toArray 33)))
  rw [hq]
  have HQ0 : Hid (at_ = 0 → q = 0) := fun e => by have := hq; rw [e] at this; unfold M.ptr at this; omega
  have HB1 : Hid (∀ W, Below w1.heap.size w1 W → Below w.heap.size w W) := fun W hb => (Still.below S1.out).trans (hb.mono S1.out.size)
  clear hq
  by_cases hz : q / 2 = 0
  · have hfit : ∀ v ∈ ([7, q] : List Nat), s5.fits (v : Nat) = true := by
      intro v hv
      simp at hv
      rcases hv with rfl | rfl
      · exact fits_odd _ (by decide)
      · exact HO5.out.right.fits_at (o := M.objB 0 0 9 (List.replicate 9 0)) (by simp) (by show ((v : Nat) : Int) / 2 = 0; omega)
    have HC := Lib.hid (HSTL.out.collect (some ⟨w6.heap.size, 0, none⟩) 2 2 [7, q] rfl hroot (by decide) (by decide) hfit)
    change Hid (Calls _ _ _ (w6.alloc (.cells #[.int .u64 7, .int .u64 q] 33)) _) at HC
    clear hroot hfit HSTL
    go_wp2_with fail
    refine HC.out.mono ?_; rintro e w7 ⟨mk, gr, hmk, rfl, hrow, hgr, s7, h7, t7⟩
    have HO7 := Lib.hid h7
    have HZ := Lib.hid hz
    clear hrow hgr h7 t7 hmk HC hz
    by_cases ha0 : at_ = 0
    · subst ha0
      go_wp2_with fail
      refine (lives3_any _).mono ?_; rintro e w8 ⟨rfl, b8⟩
      go_wp2_with fail
      go_ret
      exact ⟨rfl, HB1.out _ (HO7.out.below.trans (b8.mono HO7.out.below.size))⟩
    · have hne : (at_ == 0) = false := by simpa using ha0
      go_wp2_with fail
      refine (HPT.out _).mono ?_; rintro e w8 ⟨rfl, rfl⟩
      go_wp2_with fail
      refine (HAT.out _).mono ?_; rintro e w8 ⟨rfl, rfl⟩
      rw [HZ.out]
      go_wp2_with fail
      refine (lives3_any _).mono ?_; rintro e w8 ⟨rfl, b8⟩
      go_wp2_with fail
      go_ret
      exact ⟨rfl, HB1.out _ (HO7.out.below.trans (b8.mono HO7.out.below.size))⟩
  · have hno : ∃ v ∈ ([7, q] : List Nat), s5.fits (v : Nat) = false := by
      refine ⟨q, by simp, ?_⟩
      unfold St.fits M.fits
      rw [Bool.or_eq_false_iff]
      refine ⟨beq_eq_false_iff_ne.2 (by omega), ?_⟩
      have h2 := HO5.out.right.sim.heads ((q : Int) / 2)
      unfold St.is at h2
      unfold M.inSet
      rw [h2]
      simp [M.objB]
      omega
    have HC := Lib.hid (HSTL.out.unfit (some ⟨w6.heap.size, 0, none⟩) 2 2 [7, q] rfl hroot (by decide) (by decide) hno)
    change Hid (Calls _ _ _ (w6.alloc (.cells #[.int .u64 7, .int .u64 q] 33)) _) at HC
    have hne : (at_ == 0) = false := by
      rw [beq_eq_false_iff_ne]
      intro e
      have := HQ0.out e
      omega
    have hne2 : (((q / 2 : Nat) : Int) == 0) = false := by
      rw [beq_eq_false_iff_ne]
      omega
    clear hroot hno HSTL
    go_wp2_with fail
    refine HC.out.mono ?_; rintro e w7 ⟨rfl, s7, h7, t7⟩
    have HT7 : Hid (s7.top = 3) := t7.trans HT5.out
    have HO7 := Lib.hid h7
    clear h7 t7 HC
    obtain ⟨z, hzz⟩ : ∃ z, q / 2 = z := ⟨_, rfl⟩
    rw [hzz] at hne2 HAT
    clear hzz hz
    go_wp2_with fail
    refine (HPT.out _).mono ?_; rintro e w8 ⟨rfl, rfl⟩
    go_wp2_with fail
    refine (HAT.out _).mono ?_; rintro e w8 ⟨rfl, rfl⟩
    have HTP := HO7.out.top
    rw [HT7.out] at HTP
    have HTP := Lib.hid HTP
    go_wp2_with fail
    refine HTP.out.mono ?_; rintro e w9 ⟨rfl, rfl⟩
    go_wp2_with fail
    refine (lives3_any _).mono ?_; rintro e w10 ⟨rfl, b8⟩
    go_wp2_with fail
    go_ret
    exact ⟨rfl, HB1.out _ (HO7.out.below.trans (b8.mono HO7.out.below.size))⟩
end Go.Proofs.Ytmbdacfdefoknaa
