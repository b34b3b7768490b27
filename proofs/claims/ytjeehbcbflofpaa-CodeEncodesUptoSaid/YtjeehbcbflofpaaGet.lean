/- Contracts of layer 1's bytes: word.Get and the document's own Get. -/
import Derived.Test.YtjeehbcbflofpaaPut
namespace Go.Proofs.Ytjeehbcbflofpaa
set_option linter.unusedVariables false
set_option maxRecDepth 100000
open Go.ChangeShapes Go.WideShapes Go.ChangeAt Go.RowKit
open M (W)

/-- What Get answers: the number, where it ends, and true; or nothing. -/
def getRes (L : List Int) (i : Int) : Value :=
  if i < 0 ∨ (L.length : Int) ≤ i then .tuple #[.int .i64 0, .int .i64 0, .bool false]
  else match M.got (L.drop i.toNat) with
    | none => .tuple #[.int .i64 0, .int .i64 0, .bool false]
    | some (x, k) => .tuple #[.int .i64 (M.zag x), .int .i64 (i + k), .bool true]
theorem getRes_neg {L : List Int} {i : Int} (h : i < 0) : getRes L i = .tuple #[.int .i64 0, .int .i64 0, .bool false] := by unfold getRes; rw [if_pos (.inl h)]
theorem getRes_far {L : List Int} {i : Int} (h : (L.length : Int) ≤ i) : getRes L i = .tuple #[.int .i64 0, .int .i64 0, .bool false] := by unfold getRes; rw [if_pos (.inr h)]
theorem getRes_none {L : List Int} {k : Nat} (h : k < L.length) (hg : M.got (L.drop k) = none) : getRes L k = .tuple #[.int .i64 0, .int .i64 0, .bool false] := by
  unfold getRes; rw [if_neg (by omega)]; simp [hg]
theorem getRes_some {L : List Int} {k x n : Nat} (h : k < L.length) (hg : M.got (L.drop k) = some (x, n)) : getRes L k = .tuple #[.int .i64 (M.zag x), .int .i64 ((k : Int) + n), .bool true] := by
  unfold getRes; rw [if_neg (by omega)]; simp [hg]

theorem mayEnd_yes (p : List Int) (i : Nat) (c : Int) (w : World) (h0 : 0 ≤ c) (h1 : c < 256) (hl : p.length = i) (hf : M.fits (p ++ [c]) = true) : Calls Try.prog 112 #[.int .i64 i, .int .u8 c] w fun e w' => e = .returned (.bool true) ∧ w' = w :=
  (mayEnd_any i c w h0 h1).mono fun _ _ ⟨he, hw⟩ => ⟨by rw [he, ← hl, ← M.fits_snoc, hf], hw⟩
theorem mayEnd_no (p : List Int) (i : Nat) (c : Int) (w : World) (h0 : 0 ≤ c) (h1 : c < 256) (hl : p.length = i) (hf : M.fits (p ++ [c]) = false) : Calls Try.prog 112 #[.int .i64 i, .int .u8 c] w fun e w' => e = .returned (.bool false) ∧ w' = w :=
  (mayEnd_any i c w h0 h1).mono fun _ _ ⟨he, hw⟩ => ⟨by rw [he, ← hl, ← M.fits_snoc, hf], hw⟩

/-- Below 0. -/
theorem get_neg (a : Option Addr) (len cap : Nat) (i : Int) (w : World) (h : i < 0) : Calls Try.prog 104 #[.slice a len cap, .int .i64 i] w fun e w' => e = .returned (.tuple #[.int .i64 0, .int .i64 0, .bool false]) ∧ w' = w := by
  go_enter Try.func104, Try.ntmps104
  go_wp2
  go_ret3
  exact ⟨rfl, rfl⟩
theorem get_far (a : Option Addr) (len cap : Nat) (i : Int) (w : World) (h0 : 0 ≤ i) (h : (len : Int) ≤ i) : Calls Try.prog 104 #[.slice a len cap, .int .i64 i] w fun e w' => e = .returned (.tuple #[.int .i64 0, .int .i64 0, .bool false]) ∧ w' = w := by
  go_enter Try.func104, Try.ntmps104
  go_wp2
  go_ret3
  exact ⟨rfl, rfl⟩
/-- The i-th byte behind k, and what lies ahead of it. -/
theorem at_byte {L : List Int} {k i : Nat} (h : k + i < L.length) : ∃ (p r : List Int) (c : Int), L.drop k = p ++ c :: r ∧ p = (L.drop k).take i ∧ p.length = i ∧ c = L.getD (k + i) 0 ∧ c ∈ L ∧ p ++ [c] = (L.drop k).take (i + 1) := by
  have hd : i < (L.drop k).length := by simp; omega
  have e : (L.drop k)[i] = L[k + i] := by simp
  refine ⟨(L.drop k).take i, (L.drop k).drop (i + 1), L[k + i], ?_, rfl, by simp; omega, by simp [List.getD, h], List.getElem_mem _, ?_⟩
  · rw [← e, List.getElem_cons_drop, List.take_append_drop]
  · rw [← e, List.take_succ_eq_append_getElem hd]
theorem or_step {p : List Int} {c : Int} {i : Nat} (hp : p.length = i) (hi : i ≤ 9) (c0 : 0 ≤ c) :
    bits .or .u64 (M.val p : Int) (IntKind.u64.wrap (c % 128 * 2 ^ (7 * i))) = ((M.val (p ++ [c]) % 18446744073709551616 : Nat) : Int) := by
  have hv : M.val p < 128 ^ i := by rw [← hp]; exact M.val_lt p
  have h := M.or_group (M.val p) (c.toNat % 128) i hv hi
  have e : ((c.toNat % 128 : Nat) : Int) * ((2 ^ (7 * i) : Nat) : Int) = c % 128 * 2 ^ (7 * i) := by
    have : ((c.toNat % 128 : Nat) : Int) = c % 128 := by omega
    rw [this]; simp
  rw [e] at h
  rw [h, M.val_append, hp]
theorem all8_snoc {p : List Int} {c : Int} (h : M.all8 p) (h0 : 128 ≤ c) (h1 : c ≤ 255) : M.all8 (p ++ [c]) := by
  intro x hx; rw [List.mem_append] at hx
  rcases hx with hx | hx
  · exact h x hx
  · simp at hx; omega
set_option maxRecDepth 100000 in
theorem and128 {c : Int} (h0 : 0 ≤ c) (h1 : c ≤ 255) : bits .and .u8 c 128 = if 128 ≤ c then 128 else 0 := by
  obtain ⟨a, rfl⟩ := Int.eq_ofNat_of_zero_le h0
  have : ∀ a : Fin 256, bits .and .u8 ((a.val : Nat) : Int) 128 = if 128 ≤ ((a.val : Nat) : Int) then 128 else 0 := by decide
  exact this ⟨a, by omega⟩
set_option maxRecDepth 100000 in
theorem and127u8 {c : Int} (h0 : 0 ≤ c) (h1 : c ≤ 255) : bits .and .u8 c 127 = c % 128 := by
  obtain ⟨a, rfl⟩ := Int.eq_ofNat_of_zero_le h0
  have : ∀ a : Fin 256, bits .and .u8 ((a.val : Nat) : Int) 127 = ((a.val : Nat) : Int) % 128 := by decide
  exact this ⟨a, by omega⟩
theorem get_in (b off cap : Nat) (L : List Int) (k : Nat) (w : World) (hm : L.length ≤ 140737488351232) (hk : k < L.length)
    (hc : ∀ j, j < L.length → w.cell? ⟨b, off + j, none⟩ = some (.int .u8 (L.getD j 0))) (hr : ∀ c ∈ L, 0 ≤ c ∧ c ≤ 255) :
    Calls Try.prog 104 #[.slice (some ⟨b, off, none⟩) L.length cap, .int .i64 k] w fun e w' => e = .returned (getRes L k) ∧ w' = w := by
  by_cases h10 : (10 : Int) ≤ L.length - k
  · have hlim : 10 ≤ L.length - k := by omega
    go_enter Try.func104, Try.ntmps104
    go_wp2_with fail
    go_loop [7, 23] (fun v x => ∃ i : Nat, i ≤ 10 ∧ k + i ≤ L.length ∧ x = .int .i64 i ∧ v = .int .u64 ((M.val ((L.drop k).take i) % 18446744073709551616 : Nat) : Int) ∧ M.all8 ((L.drop k).take i)) (fun _ x => 10 - (intOf x).toNat)
    case atStart => exact ⟨0, by omega, by omega, rfl, rfl, by intro c hc; simp at hc⟩
    case round =>
      obtain ⟨i, hi, hi2, rfl, rfl, h8⟩ := hrel
      by_cases hlt : i < 10 ∧ k + i < L.length
      · obtain ⟨hlt, hlt2⟩ := hlt
        obtain ⟨p, r, c, hD, hp, hpl, hcv, hcm, hsn⟩ := at_byte (L := L) (k := k) (i := i) hlt2
        have hcell := hc (k + i) (by omega)
        rw [← hcv] at hcell
        obtain ⟨c0, c1⟩ := hr c hcm
        rw [← hp] at h8 ⊢
        have hv : M.val p < 128 ^ i := by rw [← hpl]; exact M.val_lt p
        have hv9 : M.val p < 18446744073709551616 := by
          have h1 : 128 ^ i ≤ 128 ^ 9 := Nat.pow_le_pow_right (by decide) (by omega)
          have h2 : (128 : Nat) ^ 9 = 9223372036854775808 := by decide
          omega
        rw [Nat.mod_eq_of_lt hv9]
        have h127 := and127u8 c0 c1
        have HO := Lib.hid (or_step (c := c) hpl (by omega) c0)
        have HC := Lib.hid hc; have HR := Lib.hid hr; have HD := Lib.hid hD; have HP := Lib.hid hp; have HL := Lib.hid hpl; have HS := Lib.hid hsn; have HV := Lib.hid hcv; have H8 := Lib.hid h8
        clear hc hr hD hp hpl hsn hcv h8 hv hcm
        by_cases hcont : 128 ≤ c
        · have hbit : bits .and .u8 c 128 = 128 := by rw [and128 c0 c1, if_pos hcont]
          go_wp2_with fail
          go_round
          case rel => exact ⟨i + 1, by omega, by omega, by go_num, by rw [HO.out, HS.out], by rw [← HS.out]; exact all8_snoc H8.out hcont c1⟩
          case measure => simp [intOf]; omega
        · have hbit : bits .and .u8 c 128 = 0 := by rw [and128 c0 c1, if_neg hcont]
          cases hf : M.fits (p ++ [c]) with
          | false =>
            have HF := Lib.hid hf; clear hf
            go_wp2_with (go_at_call 112; (with_reducible refine (mayEnd_no p i c _ c0 (by omega) HL.out HF.out).mono ?_); rintro e w ⟨rfl, rfl⟩)
            go_ret3
            refine ⟨?_, rfl⟩
            rw [getRes_none hk (by rw [HD.out]; exact M.got_no H8.out (by have := HL.out; omega) (by omega) HF.out)]; rfl
          | true =>
            have HF := Lib.hid hf; clear hf
            have HT := Lib.hid (M.fits_lt (c := c) (by have := HL.out; omega) c0 HF.out)
            go_wp2_with (go_at_call 112; (with_reducible refine (mayEnd_yes p i c _ c0 (by omega) HL.out HF.out).mono ?_); rintro e w ⟨rfl, rfl⟩)
            rw [HO.out, Nat.mod_eq_of_lt HT.out]
            refine (unfold_any _ _ HT.out).mono ?_; rintro e w ⟨rfl, rfl⟩
            go_wp2_with fail
            go_ret3
            refine ⟨?_, rfl⟩
            rw [getRes_some hk (by rw [HD.out]; exact M.got_yes H8.out (by have := HL.out; omega) (by omega) HF.out), HL.out]
            go_num
      · have HE := Lib.hid (show M.got (L.drop k) = none by
          have h := M.got_end (r := (L.drop k).drop i) h8 (by left; rw [List.length_take]; simp; omega)
          rwa [List.take_append_drop] at h)
        clear hc hr h8
        go_wp2_with fail
        go_ret3
        refine ⟨?_, rfl⟩
        rw [getRes_none hk HE.out]; rfl
  · have hlim : L.length - k < 10 := by omega
    go_enter Try.func104, Try.ntmps104
    go_wp2_with fail
    go_loop [7, 23] (fun v x => ∃ i : Nat, i ≤ 10 ∧ k + i ≤ L.length ∧ x = .int .i64 i ∧ v = .int .u64 ((M.val ((L.drop k).take i) % 18446744073709551616 : Nat) : Int) ∧ M.all8 ((L.drop k).take i)) (fun _ x => 10 - (intOf x).toNat)
    case atStart => exact ⟨0, by omega, by omega, rfl, rfl, by intro c hc; simp at hc⟩
    case round =>
      obtain ⟨i, hi, hi2, rfl, rfl, h8⟩ := hrel
      by_cases hlt : i < 10 ∧ k + i < L.length
      · obtain ⟨hlt, hlt2⟩ := hlt
        obtain ⟨p, r, c, hD, hp, hpl, hcv, hcm, hsn⟩ := at_byte (L := L) (k := k) (i := i) hlt2
        have hcell := hc (k + i) (by omega)
        rw [← hcv] at hcell
        obtain ⟨c0, c1⟩ := hr c hcm
        rw [← hp] at h8 ⊢
        have hv : M.val p < 128 ^ i := by rw [← hpl]; exact M.val_lt p
        have hv9 : M.val p < 18446744073709551616 := by
          have h1 : 128 ^ i ≤ 128 ^ 9 := Nat.pow_le_pow_right (by decide) (by omega)
          have h2 : (128 : Nat) ^ 9 = 9223372036854775808 := by decide
          omega
        rw [Nat.mod_eq_of_lt hv9]
        have h127 := and127u8 c0 c1
        have HO := Lib.hid (or_step (c := c) hpl (by omega) c0)
        have HC := Lib.hid hc; have HR := Lib.hid hr; have HD := Lib.hid hD; have HP := Lib.hid hp; have HL := Lib.hid hpl; have HS := Lib.hid hsn; have HV := Lib.hid hcv; have H8 := Lib.hid h8
        clear hc hr hD hp hpl hsn hcv h8 hv hcm
        by_cases hcont : 128 ≤ c
        · have hbit : bits .and .u8 c 128 = 128 := by rw [and128 c0 c1, if_pos hcont]
          go_wp2_with fail
          go_round
          case rel => exact ⟨i + 1, by omega, by omega, by go_num, by rw [HO.out, HS.out], by rw [← HS.out]; exact all8_snoc H8.out hcont c1⟩
          case measure => simp [intOf]; omega
        · have hbit : bits .and .u8 c 128 = 0 := by rw [and128 c0 c1, if_neg hcont]
          cases hf : M.fits (p ++ [c]) with
          | false =>
            have HF := Lib.hid hf; clear hf
            go_wp2_with (go_at_call 112; (with_reducible refine (mayEnd_no p i c _ c0 (by omega) HL.out HF.out).mono ?_); rintro e w ⟨rfl, rfl⟩)
            go_ret3
            refine ⟨?_, rfl⟩
            rw [getRes_none hk (by rw [HD.out]; exact M.got_no H8.out (by have := HL.out; omega) (by omega) HF.out)]; rfl
          | true =>
            have HF := Lib.hid hf; clear hf
            have HT := Lib.hid (M.fits_lt (c := c) (by have := HL.out; omega) c0 HF.out)
            go_wp2_with (go_at_call 112; (with_reducible refine (mayEnd_yes p i c _ c0 (by omega) HL.out HF.out).mono ?_); rintro e w ⟨rfl, rfl⟩)
            rw [HO.out, Nat.mod_eq_of_lt HT.out]
            refine (unfold_any _ _ HT.out).mono ?_; rintro e w ⟨rfl, rfl⟩
            go_wp2_with fail
            go_ret3
            refine ⟨?_, rfl⟩
            rw [getRes_some hk (by rw [HD.out]; exact M.got_yes H8.out (by have := HL.out; omega) (by omega) HF.out), HL.out]
            go_num
      · have HE := Lib.hid (show M.got (L.drop k) = none by
          have h := M.got_end (r := (L.drop k).drop i) h8 (by right; simp; omega)
          rwa [List.take_append_drop] at h)
        clear hc hr h8
        go_wp2_with fail
        go_ret3
        refine ⟨?_, rfl⟩
        rw [getRes_none hk HE.out]; rfl
end Go.Proofs.Ytjeehbcbflofpaa
