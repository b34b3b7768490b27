/- slices.ContainsFunc over what lies in memory, for any test that leaves memory as it is. -/
import Derived.Test.YtjeehbcbflofpaaImgLen
namespace Go.Proofs.Ytjeehbcbflofpaa
set_option linter.unusedVariables false
open Go.ChangeShapes Go.WideShapes Go.ChangeAt Go.RowKit
open M (W)
theorem indexTy_any (p : M.Ty → Bool) (fid : FuncId) (hfid : ∀ args W, (callFunc fid args).run Try.prog W = .ok (.enter fid args) W) {B : Nat} {w : World} {a : Option Addr} {n c : Nat} {l : List M.Ty}
    (hl : Lies B w 2 (TyIs B w) a n l) (hB : B ≤ w.heap.size) (hn : n ≤ maxLen)
    (hf : ∀ (a2 : Option Addr) (n2 c2 : Nat) (x : M.Ty) (W : World), x ∈ l → (TyIs B W) [.bool x.imm, .slice a2 n2 c2] x → B ≤ W.heap.size → Calls Try.prog fid #[.agg #[.bool x.imm, .slice a2 n2 c2]] W fun e w' => e = .returned (.bool (p x)) ∧ Still W w') :
    Calls Try.prog 81 #[.slice a n c, .func (.func fid) #[] #[]] w fun e w' => ∃ z : Int, e = .returned (.int .i64 z) ∧ decide (0 ≤ z) = l.any p ∧ Still w w' := by
  have HL := Lib.hid hl
  have HB := Lib.hid hB
  have HF := Lib.hid hf
  have HFID := Lib.hid hfid
  have hlen := hl.len
  have HLEN := Lib.hid hlen
  have hn63 : n ≤ 9223372036854775807 := by unfold maxLen at hn; omega
  clear hl hB hn hf hfid hlen
  go_enter Try.func81, Try.ntmps81
  go_wp2_with fail
  go_loopw [8] (fun v wr => ∃ i : Nat, v = .int .i64 i ∧ i ≤ n ∧ (l.take i).any p = false ∧ Still w wr) (fun v _ => n - (intOf v).toNat)
  case atStart => exact ⟨0, rfl, by omega, by simp, Still.refl _⟩
  case round =>
    obtain ⟨i, rfl, hi, hany, ht⟩ := hrel
    by_cases hlt : i < n
    · obtain ⟨b, off, x, cs, rfl, hbB, hxi, hcl, hPx, hcell⟩ := HL.out.here hlt
      have hPw := TyIs.keep hPx (Still.below ht |>.mono HB.out) HB.out
      obtain ⟨a2, n2, c2, rfl, hp⟩ := hPx
      have hmem : x ∈ l := List.mem_of_getElem? hxi
      have hbl : b < wr.heap.size := Nat.lt_of_lt_of_le (Nat.lt_of_lt_of_le hbB HB.out) ht.size
      have d0 : wr.cell? ⟨b, off + i * 2, none⟩ = some (.bool x.imm) := (Still.cell ht (p := ⟨b, _, none⟩) (Nat.lt_of_lt_of_le hbB HB.out)).trans (by simpa using hcell 0 (by decide))
      have d1 : wr.cell? ⟨b, off + i * 2 + 1, none⟩ = some (.slice a2 n2 c2) := (Still.cell ht (p := ⟨b, _, none⟩) (Nat.lt_of_lt_of_le hbB HB.out)).trans (by simpa using hcell 1 (by decide))
      have HC := Lib.hid (HF.out a2 n2 c2 x wr hmem hPw (Nat.le_trans HB.out ht.size))
      have htk : (l.take (i + 1)).any p = p x := by
        rw [List.take_add_one, hxi, List.any_append, hany]; simp
      have HT := Lib.hid ht
      have HK := Lib.hid htk
      have HM := Lib.hid hmem
      have hfid := HFID.out
      clear hxi hcl hp hPw hcell htk hmem ht hany
      cases hpx : p x with
      | true =>
        rw [hpx] at HC
        go_wp2_with fail
        refine HC.out.mono ?_; rintro e w3 ⟨rfl, t3⟩
        have HT3 := Lib.hid (HT.out.trans t3)
        clear t3 hfid
        go_wp2_with fail
        go_ret
        refine ⟨i, rfl, ?_, HT3.out⟩
        have : l.any p = true := List.any_eq_true.2 ⟨x, HM.out, hpx⟩
        rw [this]
        simp
      | false =>
        rw [hpx] at HC
        go_wp2_with fail
        refine HC.out.mono ?_; rintro e w3 ⟨rfl, t3⟩
        have HT3 := Lib.hid (HT.out.trans t3)
        clear t3 hfid
        go_wp2_with fail
        go_roundw
        case rel => exact ⟨i + 1, rfl, by omega, by rw [HK.out, hpx], HT3.out⟩
        case measure => simp [intOf]; omega
    · obtain rfl : i = n := by omega
      have hfin : l.any p = false := by
        rw [← HLEN.out, List.take_length] at hany; exact hany
      have HFIN := Lib.hid hfin
      have HT := Lib.hid ht
      clear ht hany hfin
      go_wp2_with fail
      go_ret
      exact ⟨-1, rfl, by rw [HFIN.out]; rfl, HT.out⟩
theorem containsTy_any (p : M.Ty → Bool) (fid : FuncId) (hfid : ∀ args W, (callFunc fid args).run Try.prog W = .ok (.enter fid args) W) {B : Nat} {w : World} {a : Option Addr} {n c : Nat} {l : List M.Ty}
    (hl : Lies B w 2 (TyIs B w) a n l) (hB : B ≤ w.heap.size) (hn : n ≤ maxLen)
    (hf : ∀ (a2 : Option Addr) (n2 c2 : Nat) (x : M.Ty) (W : World), x ∈ l → (TyIs B W) [.bool x.imm, .slice a2 n2 c2] x → B ≤ W.heap.size → Calls Try.prog fid #[.agg #[.bool x.imm, .slice a2 n2 c2]] W fun e w' => e = .returned (.bool (p x)) ∧ Still W w') :
    Calls Try.prog 50 #[.slice a n c, .func (.func fid) #[] #[]] w fun e w' => e = .returned (.bool (l.any p)) ∧ Still w w' := by
  have H := Lib.hid (indexTy_any (c := c) p fid hfid hl hB hn hf)
  clear hl hB hn hf hfid
  go_enter Try.func50, Try.ntmps50
  go_wp2_with fail
  refine H.out.mono ?_; rintro e w1 ⟨z, rfl, hz, t1⟩
  have HZ := Lib.hid hz
  have HT := Lib.hid t1
  clear hz t1
  go_wp2_with fail
  go_ret
  refine ⟨?_, HT.out⟩
  show Ending.returned (.bool (decide (0 ≤ z))) = _
  rw [HZ.out]
theorem indexSh_any (p : M.Sh → Bool) (fid : FuncId) (hfid : ∀ args W, (callFunc fid args).run Try.prog W = .ok (.enter fid args) W) {B : Nat} {w : World} {a : Option Addr} {n c : Nat} {l : List M.Sh}
    (hl : Lies B w 3 (ShIs B w) a n l) (hB : B ≤ w.heap.size) (hn : n ≤ maxLen)
    (hf : ∀ (a2 : Option Addr) (n2 c2 : Nat) (x : M.Sh) (W : World), x ∈ l → (ShIs B W) [.int .i64 x.kind, .slice a2 n2 c2, .string x.name] x → B ≤ W.heap.size → Calls Try.prog fid #[.agg #[.int .i64 x.kind, .slice a2 n2 c2, .string x.name]] W fun e w' => e = .returned (.bool (p x)) ∧ Still W w') :
    Calls Try.prog 82 #[.slice a n c, .func (.func fid) #[] #[]] w fun e w' => ∃ z : Int, e = .returned (.int .i64 z) ∧ decide (0 ≤ z) = l.any p ∧ Still w w' := by
  have HL := Lib.hid hl
  have HB := Lib.hid hB
  have HF := Lib.hid hf
  have HFID := Lib.hid hfid
  have hlen := hl.len
  have HLEN := Lib.hid hlen
  have hn63 : n ≤ 9223372036854775807 := by unfold maxLen at hn; omega
  clear hl hB hn hf hfid hlen
  go_enter Try.func82, Try.ntmps82
  go_wp2_with fail
  go_loopw [8] (fun v wr => ∃ i : Nat, v = .int .i64 i ∧ i ≤ n ∧ (l.take i).any p = false ∧ Still w wr) (fun v _ => n - (intOf v).toNat)
  case atStart => exact ⟨0, rfl, by omega, by simp, Still.refl _⟩
  case round =>
    obtain ⟨i, rfl, hi, hany, ht⟩ := hrel
    by_cases hlt : i < n
    · obtain ⟨b, off, x, cs, rfl, hbB, hxi, hcl, hPx, hcell⟩ := HL.out.here hlt
      have hPw := ShIs.keep hPx (Still.below ht |>.mono HB.out) HB.out
      obtain ⟨a2, n2, c2, rfl, hp⟩ := hPx
      have hmem : x ∈ l := List.mem_of_getElem? hxi
      have hbl : b < wr.heap.size := Nat.lt_of_lt_of_le (Nat.lt_of_lt_of_le hbB HB.out) ht.size
      have d0 : wr.cell? ⟨b, off + i * 3, none⟩ = some (.int .i64 x.kind) := (Still.cell ht (p := ⟨b, _, none⟩) (Nat.lt_of_lt_of_le hbB HB.out)).trans (by simpa using hcell 0 (by decide))
      have d1 : wr.cell? ⟨b, off + i * 3 + 1, none⟩ = some (.slice a2 n2 c2) := (Still.cell ht (p := ⟨b, _, none⟩) (Nat.lt_of_lt_of_le hbB HB.out)).trans (by simpa using hcell 1 (by decide))
      have d2 : wr.cell? ⟨b, off + i * 3 + 2, none⟩ = some (.string x.name) := (Still.cell ht (p := ⟨b, _, none⟩) (Nat.lt_of_lt_of_le hbB HB.out)).trans (by simpa using hcell 2 (by decide))
      have HC := Lib.hid (HF.out a2 n2 c2 x wr hmem hPw (Nat.le_trans HB.out ht.size))
      have htk : (l.take (i + 1)).any p = p x := by
        rw [List.take_add_one, hxi, List.any_append, hany]; simp
      have HT := Lib.hid ht
      have HK := Lib.hid htk
      have HM := Lib.hid hmem
      have hfid := HFID.out
      clear hxi hcl hp hPw hcell htk hmem ht hany
      cases hpx : p x with
      | true =>
        rw [hpx] at HC
        go_wp2_with fail
        refine HC.out.mono ?_; rintro e w3 ⟨rfl, t3⟩
        have HT3 := Lib.hid (HT.out.trans t3)
        clear t3 hfid
        go_wp2_with fail
        go_ret
        refine ⟨i, rfl, ?_, HT3.out⟩
        have : l.any p = true := List.any_eq_true.2 ⟨x, HM.out, hpx⟩
        rw [this]
        simp
      | false =>
        rw [hpx] at HC
        go_wp2_with fail
        refine HC.out.mono ?_; rintro e w3 ⟨rfl, t3⟩
        have HT3 := Lib.hid (HT.out.trans t3)
        clear t3 hfid
        go_wp2_with fail
        go_roundw
        case rel => exact ⟨i + 1, rfl, by omega, by rw [HK.out, hpx], HT3.out⟩
        case measure => simp [intOf]; omega
    · obtain rfl : i = n := by omega
      have hfin : l.any p = false := by
        rw [← HLEN.out, List.take_length] at hany; exact hany
      have HFIN := Lib.hid hfin
      have HT := Lib.hid ht
      clear ht hany hfin
      go_wp2_with fail
      go_ret
      exact ⟨-1, rfl, by rw [HFIN.out]; rfl, HT.out⟩
theorem containsSh_any (p : M.Sh → Bool) (fid : FuncId) (hfid : ∀ args W, (callFunc fid args).run Try.prog W = .ok (.enter fid args) W) {B : Nat} {w : World} {a : Option Addr} {n c : Nat} {l : List M.Sh}
    (hl : Lies B w 3 (ShIs B w) a n l) (hB : B ≤ w.heap.size) (hn : n ≤ maxLen)
    (hf : ∀ (a2 : Option Addr) (n2 c2 : Nat) (x : M.Sh) (W : World), x ∈ l → (ShIs B W) [.int .i64 x.kind, .slice a2 n2 c2, .string x.name] x → B ≤ W.heap.size → Calls Try.prog fid #[.agg #[.int .i64 x.kind, .slice a2 n2 c2, .string x.name]] W fun e w' => e = .returned (.bool (p x)) ∧ Still W w') :
    Calls Try.prog 52 #[.slice a n c, .func (.func fid) #[] #[]] w fun e w' => e = .returned (.bool (l.any p)) ∧ Still w w' := by
  have H := Lib.hid (indexSh_any (c := c) p fid hfid hl hB hn hf)
  clear hl hB hn hf hfid
  go_enter Try.func52, Try.ntmps52
  go_wp2_with fail
  refine H.out.mono ?_; rintro e w1 ⟨z, rfl, hz, t1⟩
  have HZ := Lib.hid hz
  have HT := Lib.hid t1
  clear hz t1
  go_wp2_with fail
  go_ret
  refine ⟨?_, HT.out⟩
  show Ending.returned (.bool (decide (0 ≤ z))) = _
  rw [HZ.out]
theorem indexTx_any (p : ByteArray → Bool) (fid : FuncId) (hfid : ∀ args W, (callFunc fid args).run Try.prog W = .ok (.enter fid args) W) {B : Nat} {w : World} {a : Option Addr} {n c : Nat} {l : List ByteArray}
    (hl : Lies B w 1 TxIs a n l) (hB : B ≤ w.heap.size) (hn : n ≤ maxLen)
    (hf : ∀  (x : ByteArray) (W : World), x ∈ l → TxIs [.string x] x → B ≤ W.heap.size → Calls Try.prog fid #[.string x] W fun e w' => e = .returned (.bool (p x)) ∧ Still W w') :
    Calls Try.prog 83 #[.slice a n c, .func (.func fid) #[] #[]] w fun e w' => ∃ z : Int, e = .returned (.int .i64 z) ∧ decide (0 ≤ z) = l.any p ∧ Still w w' := by
  have HL := Lib.hid hl
  have HB := Lib.hid hB
  have HF := Lib.hid hf
  have HFID := Lib.hid hfid
  have hlen := hl.len
  have HLEN := Lib.hid hlen
  have hn63 : n ≤ 9223372036854775807 := by unfold maxLen at hn; omega
  clear hl hB hn hf hfid hlen
  go_enter Try.func83, Try.ntmps83
  go_wp2_with fail
  go_loopw [8] (fun v wr => ∃ i : Nat, v = .int .i64 i ∧ i ≤ n ∧ (l.take i).any p = false ∧ Still w wr) (fun v _ => n - (intOf v).toNat)
  case atStart => exact ⟨0, rfl, by omega, by simp, Still.refl _⟩
  case round =>
    obtain ⟨i, rfl, hi, hany, ht⟩ := hrel
    by_cases hlt : i < n
    · obtain ⟨b, off, x, cs, rfl, hbB, hxi, hcl, hPx, hcell⟩ := HL.out.here hlt
      have hPw := hPx
      obtain ⟨rfl, hp⟩ := hPx
      have hmem : x ∈ l := List.mem_of_getElem? hxi
      have hbl : b < wr.heap.size := Nat.lt_of_lt_of_le (Nat.lt_of_lt_of_le hbB HB.out) ht.size
      have d0 : wr.cell? ⟨b, off + i, none⟩ = some (.string x) := (Still.cell ht (p := ⟨b, _, none⟩) (Nat.lt_of_lt_of_le hbB HB.out)).trans (by simpa using hcell 0 (by decide))
      have HC := Lib.hid (HF.out  x wr hmem hPw (Nat.le_trans HB.out ht.size))
      have htk : (l.take (i + 1)).any p = p x := by
        rw [List.take_add_one, hxi, List.any_append, hany]; simp
      have HT := Lib.hid ht
      have HK := Lib.hid htk
      have HM := Lib.hid hmem
      have hfid := HFID.out
      clear hxi hcl hp hPw hcell htk hmem ht hany
      cases hpx : p x with
      | true =>
        rw [hpx] at HC
        go_wp2_with fail
        refine HC.out.mono ?_; rintro e w3 ⟨rfl, t3⟩
        have HT3 := Lib.hid (HT.out.trans t3)
        clear t3 hfid
        go_wp2_with fail
        go_ret
        refine ⟨i, rfl, ?_, HT3.out⟩
        have : l.any p = true := List.any_eq_true.2 ⟨x, HM.out, hpx⟩
        rw [this]
        simp
      | false =>
        rw [hpx] at HC
        go_wp2_with fail
        refine HC.out.mono ?_; rintro e w3 ⟨rfl, t3⟩
        have HT3 := Lib.hid (HT.out.trans t3)
        clear t3 hfid
        go_wp2_with fail
        go_roundw
        case rel => exact ⟨i + 1, rfl, by omega, by rw [HK.out, hpx], HT3.out⟩
        case measure => simp [intOf]; omega
    · obtain rfl : i = n := by omega
      have hfin : l.any p = false := by
        rw [← HLEN.out, List.take_length] at hany; exact hany
      have HFIN := Lib.hid hfin
      have HT := Lib.hid ht
      clear ht hany hfin
      go_wp2_with fail
      go_ret
      exact ⟨-1, rfl, by rw [HFIN.out]; rfl, HT.out⟩
theorem containsTx_any (p : ByteArray → Bool) (fid : FuncId) (hfid : ∀ args W, (callFunc fid args).run Try.prog W = .ok (.enter fid args) W) {B : Nat} {w : World} {a : Option Addr} {n c : Nat} {l : List ByteArray}
    (hl : Lies B w 1 TxIs a n l) (hB : B ≤ w.heap.size) (hn : n ≤ maxLen)
    (hf : ∀  (x : ByteArray) (W : World), x ∈ l → TxIs [.string x] x → B ≤ W.heap.size → Calls Try.prog fid #[.string x] W fun e w' => e = .returned (.bool (p x)) ∧ Still W w') :
    Calls Try.prog 54 #[.slice a n c, .func (.func fid) #[] #[]] w fun e w' => e = .returned (.bool (l.any p)) ∧ Still w w' := by
  have H := Lib.hid (indexTx_any (c := c) p fid hfid hl hB hn hf)
  clear hl hB hn hf hfid
  go_enter Try.func54, Try.ntmps54
  go_wp2_with fail
  refine H.out.mono ?_; rintro e w1 ⟨z, rfl, hz, t1⟩
  have HZ := Lib.hid hz
  have HT := Lib.hid t1
  clear hz t1
  go_wp2_with fail
  go_ret
  refine ⟨?_, HT.out⟩
  show Ending.returned (.bool (decide (0 ≤ z))) = _
  rw [HZ.out]
theorem indexFn_any (p : M.Fn → Bool) (fid : FuncId) (hfid : ∀ args W, (callFunc fid args).run Try.prog W = .ok (.enter fid args) W) {B : Nat} {w : World} {a : Option Addr} {n c : Nat} {l : List M.Fn}
    (hl : Lies B w 4 (FnIs B w) a n l) (hB : B ≤ w.heap.size) (hn : n ≤ maxLen)
    (hf : ∀ (a2 : Option Addr) (n2 c2 : Nat) (a3 : Option Addr) (n3 c3 : Nat) (x : M.Fn) (W : World), x ∈ l → (FnIs B W) [.slice a2 n2 c2, .int .i64 x.result, .int .i64 x.slots, .slice a3 n3 c3] x → B ≤ W.heap.size → Calls Try.prog fid #[.agg #[.slice a2 n2 c2, .int .i64 x.result, .int .i64 x.slots, .slice a3 n3 c3]] W fun e w' => e = .returned (.bool (p x)) ∧ Still W w') :
    Calls Try.prog 84 #[.slice a n c, .func (.func fid) #[] #[]] w fun e w' => ∃ z : Int, e = .returned (.int .i64 z) ∧ decide (0 ≤ z) = l.any p ∧ Still w w' := by
  have HL := Lib.hid hl
  have HB := Lib.hid hB
  have HF := Lib.hid hf
  have HFID := Lib.hid hfid
  have hlen := hl.len
  have HLEN := Lib.hid hlen
  have hn63 : n ≤ 9223372036854775807 := by unfold maxLen at hn; omega
  clear hl hB hn hf hfid hlen
  go_enter Try.func84, Try.ntmps84
  go_wp2_with fail
  go_loopw [8] (fun v wr => ∃ i : Nat, v = .int .i64 i ∧ i ≤ n ∧ (l.take i).any p = false ∧ Still w wr) (fun v _ => n - (intOf v).toNat)
  case atStart => exact ⟨0, rfl, by omega, by simp, Still.refl _⟩
  case round =>
    obtain ⟨i, rfl, hi, hany, ht⟩ := hrel
    by_cases hlt : i < n
    · obtain ⟨b, off, x, cs, rfl, hbB, hxi, hcl, hPx, hcell⟩ := HL.out.here hlt
      have hPw := FnIs.keep hPx (Still.below ht |>.mono HB.out) HB.out
      obtain ⟨a2, n2, c2, a3, n3, c3, rfl, hp⟩ := hPx
      have hmem : x ∈ l := List.mem_of_getElem? hxi
      have hbl : b < wr.heap.size := Nat.lt_of_lt_of_le (Nat.lt_of_lt_of_le hbB HB.out) ht.size
      have d0 : wr.cell? ⟨b, off + i * 4, none⟩ = some (.slice a2 n2 c2) := (Still.cell ht (p := ⟨b, _, none⟩) (Nat.lt_of_lt_of_le hbB HB.out)).trans (by simpa using hcell 0 (by decide))
      have d1 : wr.cell? ⟨b, off + i * 4 + 1, none⟩ = some (.int .i64 x.result) := (Still.cell ht (p := ⟨b, _, none⟩) (Nat.lt_of_lt_of_le hbB HB.out)).trans (by simpa using hcell 1 (by decide))
      have d2 : wr.cell? ⟨b, off + i * 4 + 2, none⟩ = some (.int .i64 x.slots) := (Still.cell ht (p := ⟨b, _, none⟩) (Nat.lt_of_lt_of_le hbB HB.out)).trans (by simpa using hcell 2 (by decide))
      have d3 : wr.cell? ⟨b, off + i * 4 + 3, none⟩ = some (.slice a3 n3 c3) := (Still.cell ht (p := ⟨b, _, none⟩) (Nat.lt_of_lt_of_le hbB HB.out)).trans (by simpa using hcell 3 (by decide))
      have HC := Lib.hid (HF.out a2 n2 c2 a3 n3 c3 x wr hmem hPw (Nat.le_trans HB.out ht.size))
      have htk : (l.take (i + 1)).any p = p x := by
        rw [List.take_add_one, hxi, List.any_append, hany]; simp
      have HT := Lib.hid ht
      have HK := Lib.hid htk
      have HM := Lib.hid hmem
      have hfid := HFID.out
      clear hxi hcl hp hPw hcell htk hmem ht hany
      cases hpx : p x with
      | true =>
        rw [hpx] at HC
        go_wp2_with fail
        refine HC.out.mono ?_; rintro e w3 ⟨rfl, t3⟩
        have HT3 := Lib.hid (HT.out.trans t3)
        clear t3 hfid
        go_wp2_with fail
        go_ret
        refine ⟨i, rfl, ?_, HT3.out⟩
        have : l.any p = true := List.any_eq_true.2 ⟨x, HM.out, hpx⟩
        rw [this]
        simp
      | false =>
        rw [hpx] at HC
        go_wp2_with fail
        refine HC.out.mono ?_; rintro e w3 ⟨rfl, t3⟩
        have HT3 := Lib.hid (HT.out.trans t3)
        clear t3 hfid
        go_wp2_with fail
        go_roundw
        case rel => exact ⟨i + 1, rfl, by omega, by rw [HK.out, hpx], HT3.out⟩
        case measure => simp [intOf]; omega
    · obtain rfl : i = n := by omega
      have hfin : l.any p = false := by
        rw [← HLEN.out, List.take_length] at hany; exact hany
      have HFIN := Lib.hid hfin
      have HT := Lib.hid ht
      clear ht hany hfin
      go_wp2_with fail
      go_ret
      exact ⟨-1, rfl, by rw [HFIN.out]; rfl, HT.out⟩
theorem containsFn_any (p : M.Fn → Bool) (fid : FuncId) (hfid : ∀ args W, (callFunc fid args).run Try.prog W = .ok (.enter fid args) W) {B : Nat} {w : World} {a : Option Addr} {n c : Nat} {l : List M.Fn}
    (hl : Lies B w 4 (FnIs B w) a n l) (hB : B ≤ w.heap.size) (hn : n ≤ maxLen)
    (hf : ∀ (a2 : Option Addr) (n2 c2 : Nat) (a3 : Option Addr) (n3 c3 : Nat) (x : M.Fn) (W : World), x ∈ l → (FnIs B W) [.slice a2 n2 c2, .int .i64 x.result, .int .i64 x.slots, .slice a3 n3 c3] x → B ≤ W.heap.size → Calls Try.prog fid #[.agg #[.slice a2 n2 c2, .int .i64 x.result, .int .i64 x.slots, .slice a3 n3 c3]] W fun e w' => e = .returned (.bool (p x)) ∧ Still W w') :
    Calls Try.prog 56 #[.slice a n c, .func (.func fid) #[] #[]] w fun e w' => e = .returned (.bool (l.any p)) ∧ Still w w' := by
  have H := Lib.hid (indexFn_any (c := c) p fid hfid hl hB hn hf)
  clear hl hB hn hf hfid
  go_enter Try.func56, Try.ntmps56
  go_wp2_with fail
  refine H.out.mono ?_; rintro e w1 ⟨z, rfl, hz, t1⟩
  have HZ := Lib.hid hz
  have HT := Lib.hid t1
  clear hz t1
  go_wp2_with fail
  go_ret
  refine ⟨?_, HT.out⟩
  show Ending.returned (.bool (decide (0 ≤ z))) = _
  rw [HZ.out]
theorem indexBk_any (p : M.Bk → Bool) (fid : FuncId) (hfid : ∀ args W, (callFunc fid args).run Try.prog W = .ok (.enter fid args) W) {B : Nat} {w : World} {a : Option Addr} {n c : Nat} {l : List M.Bk}
    (hl : Lies B w 2 (BkIs B w) a n l) (hB : B ≤ w.heap.size) (hn : n ≤ maxLen)
    (hf : ∀ (a2 : Option Addr) (n2 c2 : Nat) (a3 : Option Addr) (n3 c3 : Nat) (x : M.Bk) (W : World), x ∈ l → (BkIs B W) [.slice a2 n2 c2, .slice a3 n3 c3] x → B ≤ W.heap.size → Calls Try.prog fid #[.agg #[.slice a2 n2 c2, .slice a3 n3 c3]] W fun e w' => e = .returned (.bool (p x)) ∧ Still W w') :
    Calls Try.prog 101 #[.slice a n c, .func (.func fid) #[] #[]] w fun e w' => ∃ z : Int, e = .returned (.int .i64 z) ∧ decide (0 ≤ z) = l.any p ∧ Still w w' := by
  have HL := Lib.hid hl
  have HB := Lib.hid hB
  have HF := Lib.hid hf
  have HFID := Lib.hid hfid
  have hlen := hl.len
  have HLEN := Lib.hid hlen
  have hn63 : n ≤ 9223372036854775807 := by unfold maxLen at hn; omega
  clear hl hB hn hf hfid hlen
  go_enter Try.func101, Try.ntmps101
  go_wp2_with fail
  go_loopw [8] (fun v wr => ∃ i : Nat, v = .int .i64 i ∧ i ≤ n ∧ (l.take i).any p = false ∧ Still w wr) (fun v _ => n - (intOf v).toNat)
  case atStart => exact ⟨0, rfl, by omega, by simp, Still.refl _⟩
  case round =>
    obtain ⟨i, rfl, hi, hany, ht⟩ := hrel
    by_cases hlt : i < n
    · obtain ⟨b, off, x, cs, rfl, hbB, hxi, hcl, hPx, hcell⟩ := HL.out.here hlt
      have hPw := BkIs.keep hPx (Still.below ht |>.mono HB.out) HB.out
      obtain ⟨a2, n2, c2, a3, n3, c3, rfl, hp⟩ := hPx
      have hmem : x ∈ l := List.mem_of_getElem? hxi
      have hbl : b < wr.heap.size := Nat.lt_of_lt_of_le (Nat.lt_of_lt_of_le hbB HB.out) ht.size
      have d0 : wr.cell? ⟨b, off + i * 2, none⟩ = some (.slice a2 n2 c2) := (Still.cell ht (p := ⟨b, _, none⟩) (Nat.lt_of_lt_of_le hbB HB.out)).trans (by simpa using hcell 0 (by decide))
      have d1 : wr.cell? ⟨b, off + i * 2 + 1, none⟩ = some (.slice a3 n3 c3) := (Still.cell ht (p := ⟨b, _, none⟩) (Nat.lt_of_lt_of_le hbB HB.out)).trans (by simpa using hcell 1 (by decide))
      have HC := Lib.hid (HF.out a2 n2 c2 a3 n3 c3 x wr hmem hPw (Nat.le_trans HB.out ht.size))
      have htk : (l.take (i + 1)).any p = p x := by
        rw [List.take_add_one, hxi, List.any_append, hany]; simp
      have HT := Lib.hid ht
      have HK := Lib.hid htk
      have HM := Lib.hid hmem
      have hfid := HFID.out
      clear hxi hcl hp hPw hcell htk hmem ht hany
      cases hpx : p x with
      | true =>
        rw [hpx] at HC
        go_wp2_with fail
        refine HC.out.mono ?_; rintro e w3 ⟨rfl, t3⟩
        have HT3 := Lib.hid (HT.out.trans t3)
        clear t3 hfid
        go_wp2_with fail
        go_ret
        refine ⟨i, rfl, ?_, HT3.out⟩
        have : l.any p = true := List.any_eq_true.2 ⟨x, HM.out, hpx⟩
        rw [this]
        simp
      | false =>
        rw [hpx] at HC
        go_wp2_with fail
        refine HC.out.mono ?_; rintro e w3 ⟨rfl, t3⟩
        have HT3 := Lib.hid (HT.out.trans t3)
        clear t3 hfid
        go_wp2_with fail
        go_roundw
        case rel => exact ⟨i + 1, rfl, by omega, by rw [HK.out, hpx], HT3.out⟩
        case measure => simp [intOf]; omega
    · obtain rfl : i = n := by omega
      have hfin : l.any p = false := by
        rw [← HLEN.out, List.take_length] at hany; exact hany
      have HFIN := Lib.hid hfin
      have HT := Lib.hid ht
      clear ht hany hfin
      go_wp2_with fail
      go_ret
      exact ⟨-1, rfl, by rw [HFIN.out]; rfl, HT.out⟩
theorem containsBk_any (p : M.Bk → Bool) (fid : FuncId) (hfid : ∀ args W, (callFunc fid args).run Try.prog W = .ok (.enter fid args) W) {B : Nat} {w : World} {a : Option Addr} {n c : Nat} {l : List M.Bk}
    (hl : Lies B w 2 (BkIs B w) a n l) (hB : B ≤ w.heap.size) (hn : n ≤ maxLen)
    (hf : ∀ (a2 : Option Addr) (n2 c2 : Nat) (a3 : Option Addr) (n3 c3 : Nat) (x : M.Bk) (W : World), x ∈ l → (BkIs B W) [.slice a2 n2 c2, .slice a3 n3 c3] x → B ≤ W.heap.size → Calls Try.prog fid #[.agg #[.slice a2 n2 c2, .slice a3 n3 c3]] W fun e w' => e = .returned (.bool (p x)) ∧ Still W w') :
    Calls Try.prog 85 #[.slice a n c, .func (.func fid) #[] #[]] w fun e w' => e = .returned (.bool (l.any p)) ∧ Still w w' := by
  have H := Lib.hid (indexBk_any (c := c) p fid hfid hl hB hn hf)
  clear hl hB hn hf hfid
  go_enter Try.func85, Try.ntmps85
  go_wp2_with fail
  refine H.out.mono ?_; rintro e w1 ⟨z, rfl, hz, t1⟩
  have HZ := Lib.hid hz
  have HT := Lib.hid t1
  clear hz t1
  go_wp2_with fail
  go_ret
  refine ⟨?_, HT.out⟩
  show Ending.returned (.bool (decide (0 ≤ z))) = _
  rw [HZ.out]
theorem indexIns_any (p : M.Ins → Bool) (fid : FuncId) (hfid : ∀ args W, (callFunc fid args).run Try.prog W = .ok (.enter fid args) W) {B : Nat} {w : World} {a : Option Addr} {n c : Nat} {l : List M.Ins}
    (hl : Lies B w 9 (InsIs B w) a n l) (hB : B ≤ w.heap.size) (hn : n ≤ maxLen)
    (hf : ∀ (la : Option Addr) (ln lc : Nat) (ma : Option Addr) (mn mc : Nat) (va : Option Addr) (vn vc : Nat) (x : M.Ins) (W : World), x ∈ l → (InsIs B W) [.int .i64 x.op, .int .i64 x.d, .int .i64 x.a, .int .i64 x.b, .int .i64 x.c, .int .i64 x.n, .slice la ln lc, .slice ma mn mc, .slice va vn vc] x → B ≤ W.heap.size → Calls Try.prog fid #[.agg #[.int .i64 x.op, .int .i64 x.d, .int .i64 x.a, .int .i64 x.b, .int .i64 x.c, .int .i64 x.n, .slice la ln lc, .slice ma mn mc, .slice va vn vc]] W fun e w' => e = .returned (.bool (p x)) ∧ Still W w') :
    Calls Try.prog 87 #[.slice a n c, .func (.func fid) #[] #[]] w fun e w' => ∃ z : Int, e = .returned (.int .i64 z) ∧ decide (0 ≤ z) = l.any p ∧ Still w w' := by
  have HL := Lib.hid hl
  have HB := Lib.hid hB
  have HF := Lib.hid hf
  have HFID := Lib.hid hfid
  have hlen := hl.len
  have HLEN := Lib.hid hlen
  have hn63 : n ≤ 9223372036854775807 := by unfold maxLen at hn; omega
  clear hl hB hn hf hfid hlen
  go_enter Try.func87, Try.ntmps87
  go_wp2_with fail
  go_loopw [8] (fun v wr => ∃ i : Nat, v = .int .i64 i ∧ i ≤ n ∧ (l.take i).any p = false ∧ Still w wr) (fun v _ => n - (intOf v).toNat)
  case atStart => exact ⟨0, rfl, by omega, by simp, Still.refl _⟩
  case round =>
    obtain ⟨i, rfl, hi, hany, ht⟩ := hrel
    by_cases hlt : i < n
    · obtain ⟨b, off, x, cs, rfl, hbB, hxi, hcl, hPx, hcell⟩ := HL.out.here hlt
      have hPw := InsIs.keep hPx (Still.below ht |>.mono HB.out) HB.out
      obtain ⟨la, ln, lc, ma, mn, mc, va, vn, vc, rfl, hp⟩ := hPx
      have hmem : x ∈ l := List.mem_of_getElem? hxi
      have hbl : b < wr.heap.size := Nat.lt_of_lt_of_le (Nat.lt_of_lt_of_le hbB HB.out) ht.size
      have d0 : wr.cell? ⟨b, off + i * 9, none⟩ = some (.int .i64 x.op) := (Still.cell ht (p := ⟨b, _, none⟩) (Nat.lt_of_lt_of_le hbB HB.out)).trans (by simpa using hcell 0 (by decide))
      have d1 : wr.cell? ⟨b, off + i * 9 + 1, none⟩ = some (.int .i64 x.d) := (Still.cell ht (p := ⟨b, _, none⟩) (Nat.lt_of_lt_of_le hbB HB.out)).trans (by simpa using hcell 1 (by decide))
      have d2 : wr.cell? ⟨b, off + i * 9 + 2, none⟩ = some (.int .i64 x.a) := (Still.cell ht (p := ⟨b, _, none⟩) (Nat.lt_of_lt_of_le hbB HB.out)).trans (by simpa using hcell 2 (by decide))
      have d3 : wr.cell? ⟨b, off + i * 9 + 3, none⟩ = some (.int .i64 x.b) := (Still.cell ht (p := ⟨b, _, none⟩) (Nat.lt_of_lt_of_le hbB HB.out)).trans (by simpa using hcell 3 (by decide))
      have d4 : wr.cell? ⟨b, off + i * 9 + 4, none⟩ = some (.int .i64 x.c) := (Still.cell ht (p := ⟨b, _, none⟩) (Nat.lt_of_lt_of_le hbB HB.out)).trans (by simpa using hcell 4 (by decide))
      have d5 : wr.cell? ⟨b, off + i * 9 + 5, none⟩ = some (.int .i64 x.n) := (Still.cell ht (p := ⟨b, _, none⟩) (Nat.lt_of_lt_of_le hbB HB.out)).trans (by simpa using hcell 5 (by decide))
      have d6 : wr.cell? ⟨b, off + i * 9 + 6, none⟩ = some (.slice la ln lc) := (Still.cell ht (p := ⟨b, _, none⟩) (Nat.lt_of_lt_of_le hbB HB.out)).trans (by simpa using hcell 6 (by decide))
      have d7 : wr.cell? ⟨b, off + i * 9 + 7, none⟩ = some (.slice ma mn mc) := (Still.cell ht (p := ⟨b, _, none⟩) (Nat.lt_of_lt_of_le hbB HB.out)).trans (by simpa using hcell 7 (by decide))
      have d8 : wr.cell? ⟨b, off + i * 9 + 8, none⟩ = some (.slice va vn vc) := (Still.cell ht (p := ⟨b, _, none⟩) (Nat.lt_of_lt_of_le hbB HB.out)).trans (by simpa using hcell 8 (by decide))
      have HC := Lib.hid (HF.out la ln lc ma mn mc va vn vc x wr hmem hPw (Nat.le_trans HB.out ht.size))
      have htk : (l.take (i + 1)).any p = p x := by
        rw [List.take_add_one, hxi, List.any_append, hany]; simp
      have HT := Lib.hid ht
      have HK := Lib.hid htk
      have HM := Lib.hid hmem
      have hfid := HFID.out
      clear hxi hcl hp hPw hcell htk hmem ht hany
      cases hpx : p x with
      | true =>
        rw [hpx] at HC
        go_wp2_with fail
        refine HC.out.mono ?_; rintro e w3 ⟨rfl, t3⟩
        have HT3 := Lib.hid (HT.out.trans t3)
        clear t3 hfid
        go_wp2_with fail
        go_ret
        refine ⟨i, rfl, ?_, HT3.out⟩
        have : l.any p = true := List.any_eq_true.2 ⟨x, HM.out, hpx⟩
        rw [this]
        simp
      | false =>
        rw [hpx] at HC
        go_wp2_with fail
        refine HC.out.mono ?_; rintro e w3 ⟨rfl, t3⟩
        have HT3 := Lib.hid (HT.out.trans t3)
        clear t3 hfid
        go_wp2_with fail
        go_roundw
        case rel => exact ⟨i + 1, rfl, by omega, by rw [HK.out, hpx], HT3.out⟩
        case measure => simp [intOf]; omega
    · obtain rfl : i = n := by omega
      have hfin : l.any p = false := by
        rw [← HLEN.out, List.take_length] at hany; exact hany
      have HFIN := Lib.hid hfin
      have HT := Lib.hid ht
      clear ht hany hfin
      go_wp2_with fail
      go_ret
      exact ⟨-1, rfl, by rw [HFIN.out]; rfl, HT.out⟩
theorem containsIns_any (p : M.Ins → Bool) (fid : FuncId) (hfid : ∀ args W, (callFunc fid args).run Try.prog W = .ok (.enter fid args) W) {B : Nat} {w : World} {a : Option Addr} {n c : Nat} {l : List M.Ins}
    (hl : Lies B w 9 (InsIs B w) a n l) (hB : B ≤ w.heap.size) (hn : n ≤ maxLen)
    (hf : ∀ (la : Option Addr) (ln lc : Nat) (ma : Option Addr) (mn mc : Nat) (va : Option Addr) (vn vc : Nat) (x : M.Ins) (W : World), x ∈ l → (InsIs B W) [.int .i64 x.op, .int .i64 x.d, .int .i64 x.a, .int .i64 x.b, .int .i64 x.c, .int .i64 x.n, .slice la ln lc, .slice ma mn mc, .slice va vn vc] x → B ≤ W.heap.size → Calls Try.prog fid #[.agg #[.int .i64 x.op, .int .i64 x.d, .int .i64 x.a, .int .i64 x.b, .int .i64 x.c, .int .i64 x.n, .slice la ln lc, .slice ma mn mc, .slice va vn vc]] W fun e w' => e = .returned (.bool (p x)) ∧ Still W w') :
    Calls Try.prog 60 #[.slice a n c, .func (.func fid) #[] #[]] w fun e w' => e = .returned (.bool (l.any p)) ∧ Still w w' := by
  have H := Lib.hid (indexIns_any (c := c) p fid hfid hl hB hn hf)
  clear hl hB hn hf hfid
  go_enter Try.func60, Try.ntmps60
  go_wp2_with fail
  refine H.out.mono ?_; rintro e w1 ⟨z, rfl, hz, t1⟩
  have HZ := Lib.hid hz
  have HT := Lib.hid t1
  clear hz t1
  go_wp2_with fail
  go_ret
  refine ⟨?_, HT.out⟩
  show Ending.returned (.bool (decide (0 ≤ z))) = _
  rw [HZ.out]
end Go.Proofs.Ytjeehbcbflofpaa
