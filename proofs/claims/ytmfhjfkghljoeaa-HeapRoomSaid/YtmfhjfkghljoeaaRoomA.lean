/- HeapRoom's walk: kind 2. -/
import Derived.Test.YtmfhjfkghljoeaaRoom
namespace Go.Proofs.Ytmfhjfkghljoeaa
set_option linter.unusedVariables false
open Go.ChangeShapes Go.WideShapes Go.ChangeAt Go.RowKit
open M (W)

set_option maxHeartbeats 4000000 in
set_option maxRecDepth 100000 in
theorem room_lo2 (a0 : Int) (ha : a0 < 0) (a2 : Int) (A : Option Addr) (len cap : Nat) (zs : List Int) (w : World) (hm : (IntKind.u64.wrap a2).tmod 2 = 0)
    (hlm : len ≤ maxLen) (hc : ∀ k, k < len → ∃ b off, A = some ⟨b, off, none⟩ ∧ b < w.heap.size ∧ w.cell? ⟨b, off + k, none⟩ = some (.int .i64 (zs.getD k 0))) :
    Calls Try.prog 9 #[.int .i64 a0, .slice A len cap, .int .i64 a2] w fun e w' => e = .returned (.bool true) ∧ Below w.heap.size w w' := by
  unfold maxLen at hlm
  have HC := Lib.hid hc
  clear hc
  have hkd : (2 : Int) = 2 ∨ (2 : Int) = 3 := by decide
  have HKD := Lib.hid hkd
  clear hkd
  go_enter Try.func9, Try.ntmps9
  go_wp2_with fail
  refine (room_new _ 0 _ 2 (by decide) (by omega)).mono ?_; rintro e w1 ⟨g, rfl, hR⟩
  have HR := Lib.hid hR
  clear hR
  go_wp2_with fail
  go_loopw [9, 10] (fun t i wr => ∃ k top : Nat, i = .int .i64 k ∧ t = .int .i64 top ∧ k ≤ len ∧ k ≤ 200 ∧ Room w wr g 0 2 top) (fun _ i _ => 200 - (intOf i).toNat)
  case atStart => exact ⟨0, 0, rfl, rfl, by omega, by omega, HR.out⟩
  case round =>
    obtain ⟨k, top, rfl, rfl, hkl, hk2, hR⟩ := hrel
    have htop := hR.top_le
    have HR2 := Lib.hid hR
    clear hR HR
    by_cases hlt : k < len ∧ k < 200
    · obtain ⟨b, off, rfl, hb, hc⟩ := HC.out k hlt.1
      have hc' : wr.cell? ⟨b, off + k, none⟩ = some (.int .i64 (zs.getD k 0)) := by rw [HR2.out.below.cell (p := ⟨b, off + k, none⟩) hb]; exact hc
      obtain ⟨z, hz⟩ : ∃ z, zs.getD k 0 = z := ⟨_, rfl⟩
      rw [hz] at hc'
      obtain ⟨hlt1, hlt2⟩ := hlt
      clear hc hz hkl hk2
      by_cases z0 : z < 0
      · go_wp2_with fail
        refine (room_neg HR2.out (by decide) z z0).mono ?_; rintro e w2 ⟨rfl, hR2⟩
        have HR3 := Lib.hid hR2; clear hR2
        go_wp2_with fail
        refine (room_top HR3.out).mono ?_; rintro e w2 ⟨rfl, rfl⟩
        have et : ((top : Int) != top) = false := by simp
        go_wp2_with fail
        go_roundw
        case rel => exact ⟨k + 1, top, by go_num, rfl, by omega, by omega, HR3.out⟩
        case measure => simp [intOf]; omega
      by_cases z1 : 65536 < z
      · go_wp2_with fail
        refine (room_big HR2.out (by decide) z z1).mono ?_; rintro e w2 ⟨rfl, hR2⟩
        have HR3 := Lib.hid hR2; clear hR2
        go_wp2_with fail
        refine (room_top HR3.out).mono ?_; rintro e w2 ⟨rfl, rfl⟩
        have et : ((top : Int) != top) = false := by simp
        go_wp2_with fail
        go_roundw
        case rel => exact ⟨k + 1, top, by go_num, rfl, by omega, by omega, HR3.out⟩
        case measure => simp [intOf]; omega
      obtain ⟨D, hD⟩ : ∃ D : Nat, 1 + z = (D : Int) := ⟨(1 + z).toNat, by omega⟩
      have hDr : M.room 2 z = D := by unfold M.room; rw [if_neg (by decide)]; exact hD
      have hD2 : D ≤ 70000 := by omega
      have z2 : z ≤ 65536 := by omega
      have z3 : 0 ≤ z := by omega
      have HDR := Lib.hid hDr
      clear hDr z0 z1
      by_cases hf : 0 < D + top
      · have hf2 : ((0 : Nat) : Int) - top < D := by omega
        have HF := Lib.hid hf2
        have hf3 : ((0 : Nat) : Int) - top < D := hf2
        clear hf2 hf
        go_wp2_with fail
        refine (room_full HR2.out (by decide) z z3 z2 (by rw [HDR.out]; exact HF.out)).mono ?_; rintro e w2 ⟨rfl, hR2⟩
        have HR3 := Lib.hid hR2; clear hR2
        go_wp2_with fail
        refine (room_top HR3.out).mono ?_; rintro e w2 ⟨rfl, rfl⟩
        have et : ((top : Int) != top) = false := by simp
        go_wp2_with fail
        go_roundw
        case rel => exact ⟨k + 1, top, by go_num, rfl, by omega, by omega, HR3.out⟩
        case measure => simp [intOf]; omega
      · omega
    · have hge : len ≤ k ∨ 200 ≤ k := by omega
      clear hlt
      rcases hge with hx | hx
      · go_wp2_with (go_at_call 17; (with_reducible refine (lives_any _).mono ?_); rintro e w9 ⟨rfl, hb⟩)
        go_ret
        exact ⟨rfl, HR2.out.below.trans (hb.mono HR2.out.below.size)⟩
      · by_cases hx2 : len ≤ k
        · go_wp2_with (go_at_call 17; (with_reducible refine (lives_any _).mono ?_); rintro e w9 ⟨rfl, hb⟩)
          go_ret
          exact ⟨rfl, HR2.out.below.trans (hb.mono HR2.out.below.size)⟩
        · go_wp2_with (go_at_call 17; (with_reducible refine (lives_any _).mono ?_); rintro e w9 ⟨rfl, hb⟩)
          go_ret
          exact ⟨rfl, HR2.out.below.trans (hb.mono HR2.out.below.size)⟩

set_option maxHeartbeats 4000000 in
set_option maxRecDepth 100000 in
theorem room_nil2  (a2 : Int) (A : Option Addr) (len cap : Nat) (zs : List Int) (w : World) (hm : (IntKind.u64.wrap a2).tmod 2 = 0)
    (hlm : len ≤ maxLen) (hc : ∀ k, k < len → ∃ b off, A = some ⟨b, off, none⟩ ∧ b < w.heap.size ∧ w.cell? ⟨b, off + k, none⟩ = some (.int .i64 (zs.getD k 0))) :
    Calls Try.prog 9 #[.int .i64 0, .slice A len cap, .int .i64 a2] w fun e w' => e = .returned (.bool true) ∧ Below w.heap.size w w' := by
  unfold maxLen at hlm
  have HC := Lib.hid hc
  clear hc
  have hkd : (2 : Int) = 2 ∨ (2 : Int) = 3 := by decide
  have HKD := Lib.hid hkd
  clear hkd
  go_enter Try.func9, Try.ntmps9
  go_wp2_with fail
  refine (room_new _ 0 _ 2 (by decide) (by omega)).mono ?_; rintro e w1 ⟨g, rfl, hR⟩
  have HR := Lib.hid hR
  clear hR
  go_wp2_with fail
  go_loopw [9, 10] (fun t i wr => ∃ k top : Nat, i = .int .i64 k ∧ t = .int .i64 top ∧ k ≤ len ∧ k ≤ 200 ∧ Room w wr g 0 2 top) (fun _ i _ => 200 - (intOf i).toNat)
  case atStart => exact ⟨0, 0, rfl, rfl, by omega, by omega, HR.out⟩
  case round =>
    obtain ⟨k, top, rfl, rfl, hkl, hk2, hR⟩ := hrel
    have htop := hR.top_le
    have HR2 := Lib.hid hR
    clear hR HR
    by_cases hlt : k < len ∧ k < 200
    · obtain ⟨b, off, rfl, hb, hc⟩ := HC.out k hlt.1
      have hc' : wr.cell? ⟨b, off + k, none⟩ = some (.int .i64 (zs.getD k 0)) := by rw [HR2.out.below.cell (p := ⟨b, off + k, none⟩) hb]; exact hc
      obtain ⟨z, hz⟩ : ∃ z, zs.getD k 0 = z := ⟨_, rfl⟩
      rw [hz] at hc'
      obtain ⟨hlt1, hlt2⟩ := hlt
      clear hc hz hkl hk2
      by_cases z0 : z < 0
      · go_wp2_with fail
        refine (room_neg HR2.out (by decide) z z0).mono ?_; rintro e w2 ⟨rfl, hR2⟩
        have HR3 := Lib.hid hR2; clear hR2
        go_wp2_with fail
        refine (room_top HR3.out).mono ?_; rintro e w2 ⟨rfl, rfl⟩
        have et : ((top : Int) != top) = false := by simp
        go_wp2_with fail
        go_roundw
        case rel => exact ⟨k + 1, top, by go_num, rfl, by omega, by omega, HR3.out⟩
        case measure => simp [intOf]; omega
      by_cases z1 : 65536 < z
      · go_wp2_with fail
        refine (room_big HR2.out (by decide) z z1).mono ?_; rintro e w2 ⟨rfl, hR2⟩
        have HR3 := Lib.hid hR2; clear hR2
        go_wp2_with fail
        refine (room_top HR3.out).mono ?_; rintro e w2 ⟨rfl, rfl⟩
        have et : ((top : Int) != top) = false := by simp
        go_wp2_with fail
        go_roundw
        case rel => exact ⟨k + 1, top, by go_num, rfl, by omega, by omega, HR3.out⟩
        case measure => simp [intOf]; omega
      obtain ⟨D, hD⟩ : ∃ D : Nat, 1 + z = (D : Int) := ⟨(1 + z).toNat, by omega⟩
      have hDr : M.room 2 z = D := by unfold M.room; rw [if_neg (by decide)]; exact hD
      have hD2 : D ≤ 70000 := by omega
      have z2 : z ≤ 65536 := by omega
      have z3 : 0 ≤ z := by omega
      have HDR := Lib.hid hDr
      clear hDr z0 z1
      by_cases hf : 0 < D + top
      · have hf2 : ((0 : Nat) : Int) - top < D := by omega
        have HF := Lib.hid hf2
        have hf3 : ((0 : Nat) : Int) - top < D := hf2
        clear hf2 hf
        go_wp2_with fail
        refine (room_full HR2.out (by decide) z z3 z2 (by rw [HDR.out]; exact HF.out)).mono ?_; rintro e w2 ⟨rfl, hR2⟩
        have HR3 := Lib.hid hR2; clear hR2
        go_wp2_with fail
        refine (room_top HR3.out).mono ?_; rintro e w2 ⟨rfl, rfl⟩
        have et : ((top : Int) != top) = false := by simp
        go_wp2_with fail
        go_roundw
        case rel => exact ⟨k + 1, top, by go_num, rfl, by omega, by omega, HR3.out⟩
        case measure => simp [intOf]; omega
      · omega
    · have hge : len ≤ k ∨ 200 ≤ k := by omega
      clear hlt
      rcases hge with hx | hx
      · go_wp2_with (go_at_call 17; (with_reducible refine (lives_any _).mono ?_); rintro e w9 ⟨rfl, hb⟩)
        go_ret
        exact ⟨rfl, HR2.out.below.trans (hb.mono HR2.out.below.size)⟩
      · by_cases hx2 : len ≤ k
        · go_wp2_with (go_at_call 17; (with_reducible refine (lives_any _).mono ?_); rintro e w9 ⟨rfl, hb⟩)
          go_ret
          exact ⟨rfl, HR2.out.below.trans (hb.mono HR2.out.below.size)⟩
        · go_wp2_with (go_at_call 17; (with_reducible refine (lives_any _).mono ?_); rintro e w9 ⟨rfl, hb⟩)
          go_ret
          exact ⟨rfl, HR2.out.below.trans (hb.mono HR2.out.below.size)⟩
end Go.Proofs.Ytmfhjfkghljoeaa
