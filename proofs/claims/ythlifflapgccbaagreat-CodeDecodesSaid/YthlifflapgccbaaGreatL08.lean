/- Lemmas, put together: AnyOf Big Check Size BigAll. -/
import Derived.Test.YthlifflapgccbaaGreatL07
import Derived.Test.YthlifflapgccbaaGreatL05
import Derived.Test.YthlifflapgccbaaGreatL03
import Derived.Shelf.Abstract
/- slices.ContainsFunc over what lies in memory, for any test that leaves memory as it is. -/
namespace Go.Proofs.YthlifflapgccbaaGreat
set_option linter.unusedVariables false
open Go.ChangeShapes Go.WideShapes Go.ChangeAt Go.RowKit
open M (W)
theorem indexTy_any (p : M.Ty → Bool) (fid : FuncId) (hfid : ∀ args W, (callFunc fid args).run Tryz.prog W = .ok (.enter fid args) W) {B : Nat} {w : World} {a : Option Addr} {n c : Nat} {l : List M.Ty}
    (hl : Lies B w 2 (TyIs B w) a n l) (hB : B ≤ w.heap.size) (hn : n ≤ maxLen)
    (hf : ∀ (a2 : Option Addr) (n2 c2 : Nat) (x : M.Ty) (W : World), x ∈ l → (TyIs B W) [.bool x.imm, .slice a2 n2 c2] x → B ≤ W.heap.size → Calls Tryz.prog fid #[.agg #[.bool x.imm, .slice a2 n2 c2]] W fun e w' => e = .returned (.bool (p x)) ∧ Still W w') :
    Calls Tryz.prog 92 #[.slice a n c, .func (.func fid) #[] #[]] w fun e w' => ∃ z : Int, e = .returned (.int .i64 z) ∧ decide (0 ≤ z) = l.any p ∧ Still w w' := by
  have HL := Lib.hid hl
  have HB := Lib.hid hB
  have HF := Lib.hid hf
  have HFID := Lib.hid hfid
  have hlen := hl.len
  have HLEN := Lib.hid hlen
  have hn63 : n ≤ 9223372036854775807 := by unfold maxLen at hn; omega
  clear hl hB hn hf hfid hlen
  go_enter Tryz.func92, Tryz.ntmps92
  go_wp2_with fail
  go_loopw [8] (fun v wr => ∃ i : Nat, v = .int .i64 i ∧ i ≤ n ∧ (l.take i).any p = false ∧ Still w wr) (fun v _ => n - (intOf v).toNat)
  case atStart => exact ⟨0, rfl, by omega, by simp, Still.refl _⟩
  case round =>
    obtain ⟨i, rfl, hi, hany, ht⟩ := hrel
    by_cases hlt : i < n
    · obtain ⟨b, off, x, cs, rfl, hbB, hxi, hcl, hPx, hcell⟩ := HL.out.here hlt
      have hPw := TyIs.keep hPx (Still.below ht |>.mono HB.out) HB.out
      obtain ⟨a2, n2, c2, rfl, hp⟩ := hPx
      have hmem : x ∈ l := List.mem_of_getElem? hxi
      have hbl : b < wr.heap.size := Nat.lt_of_lt_of_le (Nat.lt_of_lt_of_le hbB HB.out) ht.size
      have d0 : wr.cell? ⟨b, off + i * 2, none⟩ = some (.bool x.imm) := (Still.cell ht (p := ⟨b, _, none⟩) (Nat.lt_of_lt_of_le hbB HB.out)).trans (by simpa using hcell 0 (by decide))
      have d1 : wr.cell? ⟨b, off + i * 2 + 1, none⟩ = some (.slice a2 n2 c2) := (Still.cell ht (p := ⟨b, _, none⟩) (Nat.lt_of_lt_of_le hbB HB.out)).trans (by simpa using hcell 1 (by decide))
      have HC := Lib.hid (HF.out a2 n2 c2 x wr hmem hPw (Nat.le_trans HB.out ht.size))
      have htk : (l.take (i + 1)).any p = p x := by
        rw [List.take_add_one, hxi, List.any_append, hany]; simp
      have HT := Lib.hid ht
      have HK := Lib.hid htk
      have HM := Lib.hid hmem
      have hfid := HFID.out
      clear hxi hcl hp hPw hcell htk hmem ht hany
      cases hpx : p x with
      | true =>
        rw [hpx] at HC
        go_wp2_with fail
        refine HC.out.mono ?_; rintro e w3 ⟨rfl, t3⟩
        have HT3 := Lib.hid (HT.out.trans t3)
        clear t3 hfid
        go_wp2_with fail
        go_ret
        refine ⟨i, rfl, ?_, HT3.out⟩
        have : l.any p = true := List.any_eq_true.2 ⟨x, HM.out, hpx⟩
        rw [this]
        simp
      | false =>
        rw [hpx] at HC
        go_wp2_with fail
        refine HC.out.mono ?_; rintro e w3 ⟨rfl, t3⟩
        have HT3 := Lib.hid (HT.out.trans t3)
        clear t3 hfid
        go_wp2_with fail
        go_roundw
        case rel => exact ⟨i + 1, rfl, by omega, by rw [HK.out, hpx], HT3.out⟩
        case measure => simp [intOf]; omega
    · obtain rfl : i = n := by omega
      have hfin : l.any p = false := by
        rw [← HLEN.out, List.take_length] at hany; exact hany
      have HFIN := Lib.hid hfin
      have HT := Lib.hid ht
      clear ht hany hfin
      go_wp2_with fail
      go_ret
      exact ⟨-1, rfl, by rw [HFIN.out]; rfl, HT.out⟩
theorem containsTy_any (p : M.Ty → Bool) (fid : FuncId) (hfid : ∀ args W, (callFunc fid args).run Tryz.prog W = .ok (.enter fid args) W) {B : Nat} {w : World} {a : Option Addr} {n c : Nat} {l : List M.Ty}
    (hl : Lies B w 2 (TyIs B w) a n l) (hB : B ≤ w.heap.size) (hn : n ≤ maxLen)
    (hf : ∀ (a2 : Option Addr) (n2 c2 : Nat) (x : M.Ty) (W : World), x ∈ l → (TyIs B W) [.bool x.imm, .slice a2 n2 c2] x → B ≤ W.heap.size → Calls Tryz.prog fid #[.agg #[.bool x.imm, .slice a2 n2 c2]] W fun e w' => e = .returned (.bool (p x)) ∧ Still W w') :
    Calls Tryz.prog 63 #[.slice a n c, .func (.func fid) #[] #[]] w fun e w' => e = .returned (.bool (l.any p)) ∧ Still w w' := by
  have H := Lib.hid (indexTy_any (c := c) p fid hfid hl hB hn hf)
  clear hl hB hn hf hfid
  go_enter Tryz.func63, Tryz.ntmps63
  go_wp2_with fail
  refine H.out.mono ?_; rintro e w1 ⟨z, rfl, hz, t1⟩
  have HZ := Lib.hid hz
  have HT := Lib.hid t1
  clear hz t1
  go_wp2_with fail
  go_ret
  refine ⟨?_, HT.out⟩
  show Ending.returned (.bool (decide (0 ≤ z))) = _
  rw [HZ.out]
theorem indexSh_any (p : M.Sh → Bool) (fid : FuncId) (hfid : ∀ args W, (callFunc fid args).run Tryz.prog W = .ok (.enter fid args) W) {B : Nat} {w : World} {a : Option Addr} {n c : Nat} {l : List M.Sh}
    (hl : Lies B w 3 (ShIs B w) a n l) (hB : B ≤ w.heap.size) (hn : n ≤ maxLen)
    (hf : ∀ (a2 : Option Addr) (n2 c2 : Nat) (x : M.Sh) (W : World), x ∈ l → (ShIs B W) [.int .i64 x.kind, .slice a2 n2 c2, .string x.name] x → B ≤ W.heap.size → Calls Tryz.prog fid #[.agg #[.int .i64 x.kind, .slice a2 n2 c2, .string x.name]] W fun e w' => e = .returned (.bool (p x)) ∧ Still W w') :
    Calls Tryz.prog 93 #[.slice a n c, .func (.func fid) #[] #[]] w fun e w' => ∃ z : Int, e = .returned (.int .i64 z) ∧ decide (0 ≤ z) = l.any p ∧ Still w w' := by
  have HL := Lib.hid hl
  have HB := Lib.hid hB
  have HF := Lib.hid hf
  have HFID := Lib.hid hfid
  have hlen := hl.len
  have HLEN := Lib.hid hlen
  have hn63 : n ≤ 9223372036854775807 := by unfold maxLen at hn; omega
  clear hl hB hn hf hfid hlen
  go_enter Tryz.func93, Tryz.ntmps93
  go_wp2_with fail
  go_loopw [8] (fun v wr => ∃ i : Nat, v = .int .i64 i ∧ i ≤ n ∧ (l.take i).any p = false ∧ Still w wr) (fun v _ => n - (intOf v).toNat)
  case atStart => exact ⟨0, rfl, by omega, by simp, Still.refl _⟩
  case round =>
    obtain ⟨i, rfl, hi, hany, ht⟩ := hrel
    by_cases hlt : i < n
    · obtain ⟨b, off, x, cs, rfl, hbB, hxi, hcl, hPx, hcell⟩ := HL.out.here hlt
      have hPw := ShIs.keep hPx (Still.below ht |>.mono HB.out) HB.out
      obtain ⟨a2, n2, c2, rfl, hp⟩ := hPx
      have hmem : x ∈ l := List.mem_of_getElem? hxi
      have hbl : b < wr.heap.size := Nat.lt_of_lt_of_le (Nat.lt_of_lt_of_le hbB HB.out) ht.size
      have d0 : wr.cell? ⟨b, off + i * 3, none⟩ = some (.int .i64 x.kind) := (Still.cell ht (p := ⟨b, _, none⟩) (Nat.lt_of_lt_of_le hbB HB.out)).trans (by simpa using hcell 0 (by decide))
      have d1 : wr.cell? ⟨b, off + i * 3 + 1, none⟩ = some (.slice a2 n2 c2) := (Still.cell ht (p := ⟨b, _, none⟩) (Nat.lt_of_lt_of_le hbB HB.out)).trans (by simpa using hcell 1 (by decide))
      have d2 : wr.cell? ⟨b, off + i * 3 + 2, none⟩ = some (.string x.name) := (Still.cell ht (p := ⟨b, _, none⟩) (Nat.lt_of_lt_of_le hbB HB.out)).trans (by simpa using hcell 2 (by decide))
      have HC := Lib.hid (HF.out a2 n2 c2 x wr hmem hPw (Nat.le_trans HB.out ht.size))
      have htk : (l.take (i + 1)).any p = p x := by
        rw [List.take_add_one, hxi, List.any_append, hany]; simp
      have HT := Lib.hid ht
      have HK := Lib.hid htk
      have HM := Lib.hid hmem
      have hfid := HFID.out
      clear hxi hcl hp hPw hcell htk hmem ht hany
      cases hpx : p x with
      | true =>
        rw [hpx] at HC
        go_wp2_with fail
        refine HC.out.mono ?_; rintro e w3 ⟨rfl, t3⟩
        have HT3 := Lib.hid (HT.out.trans t3)
        clear t3 hfid
        go_wp2_with fail
        go_ret
        refine ⟨i, rfl, ?_, HT3.out⟩
        have : l.any p = true := List.any_eq_true.2 ⟨x, HM.out, hpx⟩
        rw [this]
        simp
      | false =>
        rw [hpx] at HC
        go_wp2_with fail
        refine HC.out.mono ?_; rintro e w3 ⟨rfl, t3⟩
        have HT3 := Lib.hid (HT.out.trans t3)
        clear t3 hfid
        go_wp2_with fail
        go_roundw
        case rel => exact ⟨i + 1, rfl, by omega, by rw [HK.out, hpx], HT3.out⟩
        case measure => simp [intOf]; omega
    · obtain rfl : i = n := by omega
      have hfin : l.any p = false := by
        rw [← HLEN.out, List.take_length] at hany; exact hany
      have HFIN := Lib.hid hfin
      have HT := Lib.hid ht
      clear ht hany hfin
      go_wp2_with fail
      go_ret
      exact ⟨-1, rfl, by rw [HFIN.out]; rfl, HT.out⟩
theorem containsSh_any (p : M.Sh → Bool) (fid : FuncId) (hfid : ∀ args W, (callFunc fid args).run Tryz.prog W = .ok (.enter fid args) W) {B : Nat} {w : World} {a : Option Addr} {n c : Nat} {l : List M.Sh}
    (hl : Lies B w 3 (ShIs B w) a n l) (hB : B ≤ w.heap.size) (hn : n ≤ maxLen)
    (hf : ∀ (a2 : Option Addr) (n2 c2 : Nat) (x : M.Sh) (W : World), x ∈ l → (ShIs B W) [.int .i64 x.kind, .slice a2 n2 c2, .string x.name] x → B ≤ W.heap.size → Calls Tryz.prog fid #[.agg #[.int .i64 x.kind, .slice a2 n2 c2, .string x.name]] W fun e w' => e = .returned (.bool (p x)) ∧ Still W w') :
    Calls Tryz.prog 65 #[.slice a n c, .func (.func fid) #[] #[]] w fun e w' => e = .returned (.bool (l.any p)) ∧ Still w w' := by
  have H := Lib.hid (indexSh_any (c := c) p fid hfid hl hB hn hf)
  clear hl hB hn hf hfid
  go_enter Tryz.func65, Tryz.ntmps65
  go_wp2_with fail
  refine H.out.mono ?_; rintro e w1 ⟨z, rfl, hz, t1⟩
  have HZ := Lib.hid hz
  have HT := Lib.hid t1
  clear hz t1
  go_wp2_with fail
  go_ret
  refine ⟨?_, HT.out⟩
  show Ending.returned (.bool (decide (0 ≤ z))) = _
  rw [HZ.out]
theorem indexTx_any (p : ByteArray → Bool) (fid : FuncId) (hfid : ∀ args W, (callFunc fid args).run Tryz.prog W = .ok (.enter fid args) W) {B : Nat} {w : World} {a : Option Addr} {n c : Nat} {l : List ByteArray}
    (hl : Lies B w 1 TxIs a n l) (hB : B ≤ w.heap.size) (hn : n ≤ maxLen)
    (hf : ∀  (x : ByteArray) (W : World), x ∈ l → TxIs [.string x] x → B ≤ W.heap.size → Calls Tryz.prog fid #[.string x] W fun e w' => e = .returned (.bool (p x)) ∧ Still W w') :
    Calls Tryz.prog 94 #[.slice a n c, .func (.func fid) #[] #[]] w fun e w' => ∃ z : Int, e = .returned (.int .i64 z) ∧ decide (0 ≤ z) = l.any p ∧ Still w w' := by
  have HL := Lib.hid hl
  have HB := Lib.hid hB
  have HF := Lib.hid hf
  have HFID := Lib.hid hfid
  have hlen := hl.len
  have HLEN := Lib.hid hlen
  have hn63 : n ≤ 9223372036854775807 := by unfold maxLen at hn; omega
  clear hl hB hn hf hfid hlen
  go_enter Tryz.func94, Tryz.ntmps94
  go_wp2_with fail
  go_loopw [8] (fun v wr => ∃ i : Nat, v = .int .i64 i ∧ i ≤ n ∧ (l.take i).any p = false ∧ Still w wr) (fun v _ => n - (intOf v).toNat)
  case atStart => exact ⟨0, rfl, by omega, by simp, Still.refl _⟩
  case round =>
    obtain ⟨i, rfl, hi, hany, ht⟩ := hrel
    by_cases hlt : i < n
    · obtain ⟨b, off, x, cs, rfl, hbB, hxi, hcl, hPx, hcell⟩ := HL.out.here hlt
      have hPw := hPx
      obtain ⟨rfl, hp⟩ := hPx
      have hmem : x ∈ l := List.mem_of_getElem? hxi
      have hbl : b < wr.heap.size := Nat.lt_of_lt_of_le (Nat.lt_of_lt_of_le hbB HB.out) ht.size
      have d0 : wr.cell? ⟨b, off + i, none⟩ = some (.string x) := (Still.cell ht (p := ⟨b, _, none⟩) (Nat.lt_of_lt_of_le hbB HB.out)).trans (by simpa using hcell 0 (by decide))
      have HC := Lib.hid (HF.out  x wr hmem hPw (Nat.le_trans HB.out ht.size))
      have htk : (l.take (i + 1)).any p = p x := by
        rw [List.take_add_one, hxi, List.any_append, hany]; simp
      have HT := Lib.hid ht
      have HK := Lib.hid htk
      have HM := Lib.hid hmem
      have hfid := HFID.out
      clear hxi hcl hp hPw hcell htk hmem ht hany
      cases hpx : p x with
      | true =>
        rw [hpx] at HC
        go_wp2_with fail
        refine HC.out.mono ?_; rintro e w3 ⟨rfl, t3⟩
        have HT3 := Lib.hid (HT.out.trans t3)
        clear t3 hfid
        go_wp2_with fail
        go_ret
        refine ⟨i, rfl, ?_, HT3.out⟩
        have : l.any p = true := List.any_eq_true.2 ⟨x, HM.out, hpx⟩
        rw [this]
        simp
      | false =>
        rw [hpx] at HC
        go_wp2_with fail
        refine HC.out.mono ?_; rintro e w3 ⟨rfl, t3⟩
        have HT3 := Lib.hid (HT.out.trans t3)
        clear t3 hfid
        go_wp2_with fail
        go_roundw
        case rel => exact ⟨i + 1, rfl, by omega, by rw [HK.out, hpx], HT3.out⟩
        case measure => simp [intOf]; omega
    · obtain rfl : i = n := by omega
      have hfin : l.any p = false := by
        rw [← HLEN.out, List.take_length] at hany; exact hany
      have HFIN := Lib.hid hfin
      have HT := Lib.hid ht
      clear ht hany hfin
      go_wp2_with fail
      go_ret
      exact ⟨-1, rfl, by rw [HFIN.out]; rfl, HT.out⟩
theorem containsTx_any (p : ByteArray → Bool) (fid : FuncId) (hfid : ∀ args W, (callFunc fid args).run Tryz.prog W = .ok (.enter fid args) W) {B : Nat} {w : World} {a : Option Addr} {n c : Nat} {l : List ByteArray}
    (hl : Lies B w 1 TxIs a n l) (hB : B ≤ w.heap.size) (hn : n ≤ maxLen)
    (hf : ∀  (x : ByteArray) (W : World), x ∈ l → TxIs [.string x] x → B ≤ W.heap.size → Calls Tryz.prog fid #[.string x] W fun e w' => e = .returned (.bool (p x)) ∧ Still W w') :
    Calls Tryz.prog 67 #[.slice a n c, .func (.func fid) #[] #[]] w fun e w' => e = .returned (.bool (l.any p)) ∧ Still w w' := by
  have H := Lib.hid (indexTx_any (c := c) p fid hfid hl hB hn hf)
  clear hl hB hn hf hfid
  go_enter Tryz.func67, Tryz.ntmps67
  go_wp2_with fail
  refine H.out.mono ?_; rintro e w1 ⟨z, rfl, hz, t1⟩
  have HZ := Lib.hid hz
  have HT := Lib.hid t1
  clear hz t1
  go_wp2_with fail
  go_ret
  refine ⟨?_, HT.out⟩
  show Ending.returned (.bool (decide (0 ≤ z))) = _
  rw [HZ.out]
theorem indexFn_any (p : M.Fn → Bool) (fid : FuncId) (hfid : ∀ args W, (callFunc fid args).run Tryz.prog W = .ok (.enter fid args) W) {B : Nat} {w : World} {a : Option Addr} {n c : Nat} {l : List M.Fn}
    (hl : Lies B w 4 (FnIs B w) a n l) (hB : B ≤ w.heap.size) (hn : n ≤ maxLen)
    (hf : ∀ (a2 : Option Addr) (n2 c2 : Nat) (a3 : Option Addr) (n3 c3 : Nat) (x : M.Fn) (W : World), x ∈ l → (FnIs B W) [.slice a2 n2 c2, .int .i64 x.result, .int .i64 x.slots, .slice a3 n3 c3] x → B ≤ W.heap.size → Calls Tryz.prog fid #[.agg #[.slice a2 n2 c2, .int .i64 x.result, .int .i64 x.slots, .slice a3 n3 c3]] W fun e w' => e = .returned (.bool (p x)) ∧ Still W w') :
    Calls Tryz.prog 95 #[.slice a n c, .func (.func fid) #[] #[]] w fun e w' => ∃ z : Int, e = .returned (.int .i64 z) ∧ decide (0 ≤ z) = l.any p ∧ Still w w' := by
  have HL := Lib.hid hl
  have HB := Lib.hid hB
  have HF := Lib.hid hf
  have HFID := Lib.hid hfid
  have hlen := hl.len
  have HLEN := Lib.hid hlen
  have hn63 : n ≤ 9223372036854775807 := by unfold maxLen at hn; omega
  clear hl hB hn hf hfid hlen
  go_enter Tryz.func95, Tryz.ntmps95
  go_wp2_with fail
  go_loopw [8] (fun v wr => ∃ i : Nat, v = .int .i64 i ∧ i ≤ n ∧ (l.take i).any p = false ∧ Still w wr) (fun v _ => n - (intOf v).toNat)
  case atStart => exact ⟨0, rfl, by omega, by simp, Still.refl _⟩
  case round =>
    obtain ⟨i, rfl, hi, hany, ht⟩ := hrel
    by_cases hlt : i < n
    · obtain ⟨b, off, x, cs, rfl, hbB, hxi, hcl, hPx, hcell⟩ := HL.out.here hlt
      have hPw := FnIs.keep hPx (Still.below ht |>.mono HB.out) HB.out
      obtain ⟨a2, n2, c2, a3, n3, c3, rfl, hp⟩ := hPx
      have hmem : x ∈ l := List.mem_of_getElem? hxi
      have hbl : b < wr.heap.size := Nat.lt_of_lt_of_le (Nat.lt_of_lt_of_le hbB HB.out) ht.size
      have d0 : wr.cell? ⟨b, off + i * 4, none⟩ = some (.slice a2 n2 c2) := (Still.cell ht (p := ⟨b, _, none⟩) (Nat.lt_of_lt_of_le hbB HB.out)).trans (by simpa using hcell 0 (by decide))
      have d1 : wr.cell? ⟨b, off + i * 4 + 1, none⟩ = some (.int .i64 x.result) := (Still.cell ht (p := ⟨b, _, none⟩) (Nat.lt_of_lt_of_le hbB HB.out)).trans (by simpa using hcell 1 (by decide))
      have d2 : wr.cell? ⟨b, off + i * 4 + 2, none⟩ = some (.int .i64 x.slots) := (Still.cell ht (p := ⟨b, _, none⟩) (Nat.lt_of_lt_of_le hbB HB.out)).trans (by simpa using hcell 2 (by decide))
      have d3 : wr.cell? ⟨b, off + i * 4 + 3, none⟩ = some (.slice a3 n3 c3) := (Still.cell ht (p := ⟨b, _, none⟩) (Nat.lt_of_lt_of_le hbB HB.out)).trans (by simpa using hcell 3 (by decide))
      have HC := Lib.hid (HF.out a2 n2 c2 a3 n3 c3 x wr hmem hPw (Nat.le_trans HB.out ht.size))
      have htk : (l.take (i + 1)).any p = p x := by
        rw [List.take_add_one, hxi, List.any_append, hany]; simp
      have HT := Lib.hid ht
      have HK := Lib.hid htk
      have HM := Lib.hid hmem
      have hfid := HFID.out
      clear hxi hcl hp hPw hcell htk hmem ht hany
      cases hpx : p x with
      | true =>
        rw [hpx] at HC
        go_wp2_with fail
        refine HC.out.mono ?_; rintro e w3 ⟨rfl, t3⟩
        have HT3 := Lib.hid (HT.out.trans t3)
        clear t3 hfid
        go_wp2_with fail
        go_ret
        refine ⟨i, rfl, ?_, HT3.out⟩
        have : l.any p = true := List.any_eq_true.2 ⟨x, HM.out, hpx⟩
        rw [this]
        simp
      | false =>
        rw [hpx] at HC
        go_wp2_with fail
        refine HC.out.mono ?_; rintro e w3 ⟨rfl, t3⟩
        have HT3 := Lib.hid (HT.out.trans t3)
        clear t3 hfid
        go_wp2_with fail
        go_roundw
        case rel => exact ⟨i + 1, rfl, by omega, by rw [HK.out, hpx], HT3.out⟩
        case measure => simp [intOf]; omega
    · obtain rfl : i = n := by omega
      have hfin : l.any p = false := by
        rw [← HLEN.out, List.take_length] at hany; exact hany
      have HFIN := Lib.hid hfin
      have HT := Lib.hid ht
      clear ht hany hfin
      go_wp2_with fail
      go_ret
      exact ⟨-1, rfl, by rw [HFIN.out]; rfl, HT.out⟩
theorem containsFn_any (p : M.Fn → Bool) (fid : FuncId) (hfid : ∀ args W, (callFunc fid args).run Tryz.prog W = .ok (.enter fid args) W) {B : Nat} {w : World} {a : Option Addr} {n c : Nat} {l : List M.Fn}
    (hl : Lies B w 4 (FnIs B w) a n l) (hB : B ≤ w.heap.size) (hn : n ≤ maxLen)
    (hf : ∀ (a2 : Option Addr) (n2 c2 : Nat) (a3 : Option Addr) (n3 c3 : Nat) (x : M.Fn) (W : World), x ∈ l → (FnIs B W) [.slice a2 n2 c2, .int .i64 x.result, .int .i64 x.slots, .slice a3 n3 c3] x → B ≤ W.heap.size → Calls Tryz.prog fid #[.agg #[.slice a2 n2 c2, .int .i64 x.result, .int .i64 x.slots, .slice a3 n3 c3]] W fun e w' => e = .returned (.bool (p x)) ∧ Still W w') :
    Calls Tryz.prog 69 #[.slice a n c, .func (.func fid) #[] #[]] w fun e w' => e = .returned (.bool (l.any p)) ∧ Still w w' := by
  have H := Lib.hid (indexFn_any (c := c) p fid hfid hl hB hn hf)
  clear hl hB hn hf hfid
  go_enter Tryz.func69, Tryz.ntmps69
  go_wp2_with fail
  refine H.out.mono ?_; rintro e w1 ⟨z, rfl, hz, t1⟩
  have HZ := Lib.hid hz
  have HT := Lib.hid t1
  clear hz t1
  go_wp2_with fail
  go_ret
  refine ⟨?_, HT.out⟩
  show Ending.returned (.bool (decide (0 ≤ z))) = _
  rw [HZ.out]
theorem indexBk_any (p : M.Bk → Bool) (fid : FuncId) (hfid : ∀ args W, (callFunc fid args).run Tryz.prog W = .ok (.enter fid args) W) {B : Nat} {w : World} {a : Option Addr} {n c : Nat} {l : List M.Bk}
    (hl : Lies B w 2 (BkIs B w) a n l) (hB : B ≤ w.heap.size) (hn : n ≤ maxLen)
    (hf : ∀ (a2 : Option Addr) (n2 c2 : Nat) (a3 : Option Addr) (n3 c3 : Nat) (x : M.Bk) (W : World), x ∈ l → (BkIs B W) [.slice a2 n2 c2, .slice a3 n3 c3] x → B ≤ W.heap.size → Calls Tryz.prog fid #[.agg #[.slice a2 n2 c2, .slice a3 n3 c3]] W fun e w' => e = .returned (.bool (p x)) ∧ Still W w') :
    Calls Tryz.prog 108 #[.slice a n c, .func (.func fid) #[] #[]] w fun e w' => ∃ z : Int, e = .returned (.int .i64 z) ∧ decide (0 ≤ z) = l.any p ∧ Still w w' := by
  have HL := Lib.hid hl
  have HB := Lib.hid hB
  have HF := Lib.hid hf
  have HFID := Lib.hid hfid
  have hlen := hl.len
  have HLEN := Lib.hid hlen
  have hn63 : n ≤ 9223372036854775807 := by unfold maxLen at hn; omega
  clear hl hB hn hf hfid hlen
  go_enter Tryz.func108, Tryz.ntmps108
  go_wp2_with fail
  go_loopw [8] (fun v wr => ∃ i : Nat, v = .int .i64 i ∧ i ≤ n ∧ (l.take i).any p = false ∧ Still w wr) (fun v _ => n - (intOf v).toNat)
  case atStart => exact ⟨0, rfl, by omega, by simp, Still.refl _⟩
  case round =>
    obtain ⟨i, rfl, hi, hany, ht⟩ := hrel
    by_cases hlt : i < n
    · obtain ⟨b, off, x, cs, rfl, hbB, hxi, hcl, hPx, hcell⟩ := HL.out.here hlt
      have hPw := BkIs.keep hPx (Still.below ht |>.mono HB.out) HB.out
      obtain ⟨a2, n2, c2, a3, n3, c3, rfl, hp⟩ := hPx
      have hmem : x ∈ l := List.mem_of_getElem? hxi
      have hbl : b < wr.heap.size := Nat.lt_of_lt_of_le (Nat.lt_of_lt_of_le hbB HB.out) ht.size
      have d0 : wr.cell? ⟨b, off + i * 2, none⟩ = some (.slice a2 n2 c2) := (Still.cell ht (p := ⟨b, _, none⟩) (Nat.lt_of_lt_of_le hbB HB.out)).trans (by simpa using hcell 0 (by decide))
      have d1 : wr.cell? ⟨b, off + i * 2 + 1, none⟩ = some (.slice a3 n3 c3) := (Still.cell ht (p := ⟨b, _, none⟩) (Nat.lt_of_lt_of_le hbB HB.out)).trans (by simpa using hcell 1 (by decide))
      have HC := Lib.hid (HF.out a2 n2 c2 a3 n3 c3 x wr hmem hPw (Nat.le_trans HB.out ht.size))
      have htk : (l.take (i + 1)).any p = p x := by
        rw [List.take_add_one, hxi, List.any_append, hany]; simp
      have HT := Lib.hid ht
      have HK := Lib.hid htk
      have HM := Lib.hid hmem
      have hfid := HFID.out
      clear hxi hcl hp hPw hcell htk hmem ht hany
      cases hpx : p x with
      | true =>
        rw [hpx] at HC
        go_wp2_with fail
        refine HC.out.mono ?_; rintro e w3 ⟨rfl, t3⟩
        have HT3 := Lib.hid (HT.out.trans t3)
        clear t3 hfid
        go_wp2_with fail
        go_ret
        refine ⟨i, rfl, ?_, HT3.out⟩
        have : l.any p = true := List.any_eq_true.2 ⟨x, HM.out, hpx⟩
        rw [this]
        simp
      | false =>
        rw [hpx] at HC
        go_wp2_with fail
        refine HC.out.mono ?_; rintro e w3 ⟨rfl, t3⟩
        have HT3 := Lib.hid (HT.out.trans t3)
        clear t3 hfid
        go_wp2_with fail
        go_roundw
        case rel => exact ⟨i + 1, rfl, by omega, by rw [HK.out, hpx], HT3.out⟩
        case measure => simp [intOf]; omega
    · obtain rfl : i = n := by omega
      have hfin : l.any p = false := by
        rw [← HLEN.out, List.take_length] at hany; exact hany
      have HFIN := Lib.hid hfin
      have HT := Lib.hid ht
      clear ht hany hfin
      go_wp2_with fail
      go_ret
      exact ⟨-1, rfl, by rw [HFIN.out]; rfl, HT.out⟩
theorem containsBk_any (p : M.Bk → Bool) (fid : FuncId) (hfid : ∀ args W, (callFunc fid args).run Tryz.prog W = .ok (.enter fid args) W) {B : Nat} {w : World} {a : Option Addr} {n c : Nat} {l : List M.Bk}
    (hl : Lies B w 2 (BkIs B w) a n l) (hB : B ≤ w.heap.size) (hn : n ≤ maxLen)
    (hf : ∀ (a2 : Option Addr) (n2 c2 : Nat) (a3 : Option Addr) (n3 c3 : Nat) (x : M.Bk) (W : World), x ∈ l → (BkIs B W) [.slice a2 n2 c2, .slice a3 n3 c3] x → B ≤ W.heap.size → Calls Tryz.prog fid #[.agg #[.slice a2 n2 c2, .slice a3 n3 c3]] W fun e w' => e = .returned (.bool (p x)) ∧ Still W w') :
    Calls Tryz.prog 96 #[.slice a n c, .func (.func fid) #[] #[]] w fun e w' => e = .returned (.bool (l.any p)) ∧ Still w w' := by
  have H := Lib.hid (indexBk_any (c := c) p fid hfid hl hB hn hf)
  clear hl hB hn hf hfid
  go_enter Tryz.func96, Tryz.ntmps96
  go_wp2_with fail
  refine H.out.mono ?_; rintro e w1 ⟨z, rfl, hz, t1⟩
  have HZ := Lib.hid hz
  have HT := Lib.hid t1
  clear hz t1
  go_wp2_with fail
  go_ret
  refine ⟨?_, HT.out⟩
  show Ending.returned (.bool (decide (0 ≤ z))) = _
  rw [HZ.out]
theorem indexIns_any (p : M.Ins → Bool) (fid : FuncId) (hfid : ∀ args W, (callFunc fid args).run Tryz.prog W = .ok (.enter fid args) W) {B : Nat} {w : World} {a : Option Addr} {n c : Nat} {l : List M.Ins}
    (hl : Lies B w 9 (InsIs B w) a n l) (hB : B ≤ w.heap.size) (hn : n ≤ maxLen)
    (hf : ∀ (la : Option Addr) (ln lc : Nat) (ma : Option Addr) (mn mc : Nat) (va : Option Addr) (vn vc : Nat) (x : M.Ins) (W : World), x ∈ l → (InsIs B W) [.int .i64 x.op, .int .i64 x.d, .int .i64 x.a, .int .i64 x.b, .int .i64 x.c, .int .i64 x.n, .slice la ln lc, .slice ma mn mc, .slice va vn vc] x → B ≤ W.heap.size → Calls Tryz.prog fid #[.agg #[.int .i64 x.op, .int .i64 x.d, .int .i64 x.a, .int .i64 x.b, .int .i64 x.c, .int .i64 x.n, .slice la ln lc, .slice ma mn mc, .slice va vn vc]] W fun e w' => e = .returned (.bool (p x)) ∧ Still W w') :
    Calls Tryz.prog 98 #[.slice a n c, .func (.func fid) #[] #[]] w fun e w' => ∃ z : Int, e = .returned (.int .i64 z) ∧ decide (0 ≤ z) = l.any p ∧ Still w w' := by
  have HL := Lib.hid hl
  have HB := Lib.hid hB
  have HF := Lib.hid hf
  have HFID := Lib.hid hfid
  have hlen := hl.len
  have HLEN := Lib.hid hlen
  have hn63 : n ≤ 9223372036854775807 := by unfold maxLen at hn; omega
  clear hl hB hn hf hfid hlen
  go_enter Tryz.func98, Tryz.ntmps98
  go_wp2_with fail
  go_loopw [8] (fun v wr => ∃ i : Nat, v = .int .i64 i ∧ i ≤ n ∧ (l.take i).any p = false ∧ Still w wr) (fun v _ => n - (intOf v).toNat)
  case atStart => exact ⟨0, rfl, by omega, by simp, Still.refl _⟩
  case round =>
    obtain ⟨i, rfl, hi, hany, ht⟩ := hrel
    by_cases hlt : i < n
    · obtain ⟨b, off, x, cs, rfl, hbB, hxi, hcl, hPx, hcell⟩ := HL.out.here hlt
      have hPw := InsIs.keep hPx (Still.below ht |>.mono HB.out) HB.out
      obtain ⟨la, ln, lc, ma, mn, mc, va, vn, vc, rfl, hp⟩ := hPx
      have hmem : x ∈ l := List.mem_of_getElem? hxi
      have hbl : b < wr.heap.size := Nat.lt_of_lt_of_le (Nat.lt_of_lt_of_le hbB HB.out) ht.size
      have d0 : wr.cell? ⟨b, off + i * 9, none⟩ = some (.int .i64 x.op) := (Still.cell ht (p := ⟨b, _, none⟩) (Nat.lt_of_lt_of_le hbB HB.out)).trans (by simpa using hcell 0 (by decide))
      have d1 : wr.cell? ⟨b, off + i * 9 + 1, none⟩ = some (.int .i64 x.d) := (Still.cell ht (p := ⟨b, _, none⟩) (Nat.lt_of_lt_of_le hbB HB.out)).trans (by simpa using hcell 1 (by decide))
      have d2 : wr.cell? ⟨b, off + i * 9 + 2, none⟩ = some (.int .i64 x.a) := (Still.cell ht (p := ⟨b, _, none⟩) (Nat.lt_of_lt_of_le hbB HB.out)).trans (by simpa using hcell 2 (by decide))
      have d3 : wr.cell? ⟨b, off + i * 9 + 3, none⟩ = some (.int .i64 x.b) := (Still.cell ht (p := ⟨b, _, none⟩) (Nat.lt_of_lt_of_le hbB HB.out)).trans (by simpa using hcell 3 (by decide))
      have d4 : wr.cell? ⟨b, off + i * 9 + 4, none⟩ = some (.int .i64 x.c) := (Still.cell ht (p := ⟨b, _, none⟩) (Nat.lt_of_lt_of_le hbB HB.out)).trans (by simpa using hcell 4 (by decide))
      have d5 : wr.cell? ⟨b, off + i * 9 + 5, none⟩ = some (.int .i64 x.n) := (Still.cell ht (p := ⟨b, _, none⟩) (Nat.lt_of_lt_of_le hbB HB.out)).trans (by simpa using hcell 5 (by decide))
      have d6 : wr.cell? ⟨b, off + i * 9 + 6, none⟩ = some (.slice la ln lc) := (Still.cell ht (p := ⟨b, _, none⟩) (Nat.lt_of_lt_of_le hbB HB.out)).trans (by simpa using hcell 6 (by decide))
      have d7 : wr.cell? ⟨b, off + i * 9 + 7, none⟩ = some (.slice ma mn mc) := (Still.cell ht (p := ⟨b, _, none⟩) (Nat.lt_of_lt_of_le hbB HB.out)).trans (by simpa using hcell 7 (by decide))
      have d8 : wr.cell? ⟨b, off + i * 9 + 8, none⟩ = some (.slice va vn vc) := (Still.cell ht (p := ⟨b, _, none⟩) (Nat.lt_of_lt_of_le hbB HB.out)).trans (by simpa using hcell 8 (by decide))
      have HC := Lib.hid (HF.out la ln lc ma mn mc va vn vc x wr hmem hPw (Nat.le_trans HB.out ht.size))
      have htk : (l.take (i + 1)).any p = p x := by
        rw [List.take_add_one, hxi, List.any_append, hany]; simp
      have HT := Lib.hid ht
      have HK := Lib.hid htk
      have HM := Lib.hid hmem
      have hfid := HFID.out
      clear hxi hcl hp hPw hcell htk hmem ht hany
      cases hpx : p x with
      | true =>
        rw [hpx] at HC
        go_wp2_with fail
        refine HC.out.mono ?_; rintro e w3 ⟨rfl, t3⟩
        have HT3 := Lib.hid (HT.out.trans t3)
        clear t3 hfid
        go_wp2_with fail
        go_ret
        refine ⟨i, rfl, ?_, HT3.out⟩
        have : l.any p = true := List.any_eq_true.2 ⟨x, HM.out, hpx⟩
        rw [this]
        simp
      | false =>
        rw [hpx] at HC
        go_wp2_with fail
        refine HC.out.mono ?_; rintro e w3 ⟨rfl, t3⟩
        have HT3 := Lib.hid (HT.out.trans t3)
        clear t3 hfid
        go_wp2_with fail
        go_roundw
        case rel => exact ⟨i + 1, rfl, by omega, by rw [HK.out, hpx], HT3.out⟩
        case measure => simp [intOf]; omega
    · obtain rfl : i = n := by omega
      have hfin : l.any p = false := by
        rw [← HLEN.out, List.take_length] at hany; exact hany
      have HFIN := Lib.hid hfin
      have HT := Lib.hid ht
      clear ht hany hfin
      go_wp2_with fail
      go_ret
      exact ⟨-1, rfl, by rw [HFIN.out]; rfl, HT.out⟩
theorem containsIns_any (p : M.Ins → Bool) (fid : FuncId) (hfid : ∀ args W, (callFunc fid args).run Tryz.prog W = .ok (.enter fid args) W) {B : Nat} {w : World} {a : Option Addr} {n c : Nat} {l : List M.Ins}
    (hl : Lies B w 9 (InsIs B w) a n l) (hB : B ≤ w.heap.size) (hn : n ≤ maxLen)
    (hf : ∀ (la : Option Addr) (ln lc : Nat) (ma : Option Addr) (mn mc : Nat) (va : Option Addr) (vn vc : Nat) (x : M.Ins) (W : World), x ∈ l → (InsIs B W) [.int .i64 x.op, .int .i64 x.d, .int .i64 x.a, .int .i64 x.b, .int .i64 x.c, .int .i64 x.n, .slice la ln lc, .slice ma mn mc, .slice va vn vc] x → B ≤ W.heap.size → Calls Tryz.prog fid #[.agg #[.int .i64 x.op, .int .i64 x.d, .int .i64 x.a, .int .i64 x.b, .int .i64 x.c, .int .i64 x.n, .slice la ln lc, .slice ma mn mc, .slice va vn vc]] W fun e w' => e = .returned (.bool (p x)) ∧ Still W w') :
    Calls Tryz.prog 73 #[.slice a n c, .func (.func fid) #[] #[]] w fun e w' => e = .returned (.bool (l.any p)) ∧ Still w w' := by
  have H := Lib.hid (indexIns_any (c := c) p fid hfid hl hB hn hf)
  clear hl hB hn hf hfid
  go_enter Tryz.func73, Tryz.ntmps73
  go_wp2_with fail
  refine H.out.mono ?_; rintro e w1 ⟨z, rfl, hz, t1⟩
  have HZ := Lib.hid hz
  have HT := Lib.hid t1
  clear hz t1
  go_wp2_with fail
  go_ret
  refine ⟨?_, HT.out⟩
  show Ending.returned (.bool (decide (0 ≤ z))) = _
  rw [HZ.out]
end Go.Proofs.YthlifflapgccbaaGreat
/- What is too great: code.big and its tests. -/
namespace Go.Proofs.YthlifflapgccbaaGreat
set_option linter.unusedVariables false
set_option linter.unusedSimpArgs false
open Go.ChangeShapes Go.WideShapes Go.ChangeAt Go.RowKit
open M (W)
def M.plainIns (x : M.Ins) : Bool := M.plain (M.uses x.op) x.d x.a x.b x.c x.n x.l.length x.m.length x.v.length
/-- What Check answers. -/
def M.check (m : M.Img) : Int := if M.big m then 2 else if M.anyIns (fun x => !(M.plainIns x)) m then 1 else 0
theorem dec_nat (a b : Nat) : decide ((a : Int) < (b : Int)) = decide (a < b) := by
  by_cases h : a < b
  · rw [decide_eq_true h, decide_eq_true (by omega)]
  · rw [decide_eq_false h, decide_eq_false (by omega)]
theorem TyIs.at_len {B : Nat} {w : World} {b : Bool} {a2 : Option Addr} {n2 c2 : Nat} {x : M.Ty} (h : TyIs B w [.bool b, .slice a2 n2 c2] x) : x.shapes.length = n2 ∧ Ints B w a2 n2 x.shapes ∧ n2 ≤ maxLen := by
  obtain ⟨a, n, c, he, hn, hi⟩ := h
  simp only [List.cons.injEq, Value.slice.injEq, and_true, true_and] at he
  obtain ⟨_, rfl, rfl, rfl⟩ := he
  exact ⟨hi.len, hi, hn⟩
theorem ShIs.at_len {B : Nat} {w : World} {k : Int} {s : ByteArray} {a2 : Option Addr} {n2 c2 : Nat} {x : M.Sh} (h : ShIs B w [.int .i64 k, .slice a2 n2 c2, .string s] x) : x.fields.length = n2 ∧ Ints B w a2 n2 x.fields ∧ n2 ≤ maxLen := by
  obtain ⟨a, n, c, he, hn, _, _, hi⟩ := h
  simp only [List.cons.injEq, Value.slice.injEq, and_true, true_and] at he
  obtain ⟨_, ⟨rfl, rfl, rfl⟩, _⟩ := he
  exact ⟨hi.len, hi, hn⟩
theorem FnIs.at_len {B : Nat} {w : World} {r s : Int} {a2 : Option Addr} {n2 c2 : Nat} {a3 : Option Addr} {n3 c3 : Nat} {x : M.Fn} (h : FnIs B w [.slice a2 n2 c2, .int .i64 r, .int .i64 s, .slice a3 n3 c3] x) : x.params.length = n2 ∧ Ints B w a2 n2 x.params ∧ n2 ≤ maxLen ∧ x.blocks.length = n3 ∧ Lies B w 2 (BkIs B w) a3 n3 x.blocks ∧ n3 ≤ maxLen ∧ In64 x.result ∧ In64 x.slots := by
  obtain ⟨pa, pn, pc, ba, bn, bc, he, h1, h2, h3, h4, h5, h6⟩ := h
  simp only [List.cons.injEq, Value.slice.injEq, and_true, true_and] at he
  obtain ⟨⟨rfl, rfl, rfl⟩, _, _, ⟨rfl, rfl, rfl⟩⟩ := he
  exact ⟨h5.len, h5, h1, h6.len, h6, h2, h3, h4⟩
theorem BkIs.at_len {B : Nat} {w : World} {a2 : Option Addr} {n2 c2 : Nat} {a3 : Option Addr} {n3 c3 : Nat} {x : M.Bk} (h : BkIs B w [.slice a2 n2 c2, .slice a3 n3 c3] x) : x.inn.length = n2 ∧ Ints B w a2 n2 x.inn ∧ n2 ≤ maxLen ∧ x.code.length = n3 ∧ Lies B w 9 (InsIs B w) a3 n3 x.code ∧ n3 ≤ maxLen := by
  obtain ⟨pa, pn, pc, ba, bn, bc, he, h1, h2, h5, h6⟩ := h
  simp only [List.cons.injEq, Value.slice.injEq, and_true] at he
  obtain ⟨⟨rfl, rfl, rfl⟩, ⟨rfl, rfl, rfl⟩⟩ := he
  exact ⟨h5.len, h5, h1, h6.len, h6, h2⟩
theorem InsIs.at_len {B : Nat} {w : World} {o d a b c n : Int} {la : Option Addr} {ln lc : Nat} {ma : Option Addr} {mn mc : Nat} {va : Option Addr} {vn vc : Nat} {x : M.Ins} (h : InsIs B w [.int .i64 o, .int .i64 d, .int .i64 a, .int .i64 b, .int .i64 c, .int .i64 n, .slice la ln lc, .slice ma mn mc, .slice va vn vc] x) : x.l.length = ln ∧ x.m.length = mn ∧ x.v.length = vn ∧ ln ≤ maxLen ∧ mn ≤ maxLen ∧ vn ≤ maxLen := by
  obtain ⟨la', ln', lc', ma', mn', mc', va', vn', vc', he, h1, h2, h3, h4, h5, h6, h7⟩ := h
  simp only [List.cons.injEq, Value.slice.injEq, and_true, true_and] at he
  obtain ⟨_, _, _, _, _, _, ⟨rfl, rfl, rfl⟩, ⟨rfl, rfl, rfl⟩, ⟨rfl, rfl, rfl⟩⟩ := he
  exact ⟨h5.len, h6.len, h7.len, h1, h2, h3⟩
theorem bigType_any {B : Nat} {w : World} {a2 : Option Addr} {n2 c2 : Nat} {x : M.Ty} (h : TyIs B w [.bool x.imm, .slice a2 n2 c2] x) :
    Calls Tryz.prog 64 #[.agg #[.bool x.imm, .slice a2 n2 c2]] w fun e w' => e = .returned (.bool (M.bigTy x)) ∧ Still w w' := by
  have hl := h.at_len.1
  have he : M.bigTy x = decide ((512 : Int) < n2) := by unfold M.bigTy; rw [hl]; exact (dec_nat 512 n2).symm
  have HE := Lib.hid he
  clear h hl he
  go_enter Tryz.func64, Tryz.ntmps64
  go_wp2_with fail
  go_ret
  refine ⟨?_, (Still.refl w).alloc _⟩
  rw [HE.out]
  rfl
theorem bigText_any (s : ByteArray) (w : World) : Calls Tryz.prog 68 #[.string s] w fun e w' => e = .returned (.bool (M.bigTx s)) ∧ w' = w := by
  have he : M.bigTx s = decide ((16384 : Int) < s.size) := by unfold M.bigTx; exact (dec_nat 16384 s.size).symm
  have HE := Lib.hid he
  clear he
  go_enter Tryz.func68, Tryz.ntmps68
  go_wp2_with fail
  go_ret
  refine ⟨?_, rfl⟩
  rw [HE.out]
  rfl
theorem bigShape_any {B : Nat} {w : World} {a2 : Option Addr} {n2 c2 : Nat} {x : M.Sh} (h : ShIs B w [.int .i64 x.kind, .slice a2 n2 c2, .string x.name] x) :
    Calls Tryz.prog 66 #[.agg #[.int .i64 x.kind, .slice a2 n2 c2, .string x.name]] w fun e w' => e = .returned (.bool (M.bigSh x)) ∧ Still w w' := by
  have hl := h.at_len.1
  have he : M.bigSh x = (decide ((200 : Int) < n2) || M.bigTx x.name) := by
    unfold M.bigSh
    have e1 : decide ((200 : Int) < n2) = decide (200 < n2) := dec_nat 200 n2
    rw [hl, e1]; rfl
  have HE := Lib.hid he
  clear h hl he
  have HT := Lib.hid (fun W => bigText_any x.name W)
  by_cases hb : (200 : Int) < n2
  · go_enter Tryz.func66, Tryz.ntmps66
    go_wp2_with fail
    go_ret
    refine ⟨?_, (Still.refl w).alloc _⟩
    rw [HE.out, decide_eq_true (by omega)]
    rfl
  · go_enter Tryz.func66, Tryz.ntmps66
    go_wp2_with fail
    refine (HT.out _).mono ?_; rintro e w1 ⟨rfl, rfl⟩
    go_wp2_with fail
    go_ret
    refine ⟨?_, (Still.refl w).alloc _⟩
    rw [HE.out, decide_eq_false (by omega)]
    rfl
theorem bigBlock_any {B : Nat} {w : World} {a2 : Option Addr} {n2 c2 : Nat} {a3 : Option Addr} {n3 c3 : Nat} {x : M.Bk} (h : BkIs B w [.slice a2 n2 c2, .slice a3 n3 c3] x) :
    Calls Tryz.prog 97 #[.agg #[.slice a2 n2 c2, .slice a3 n3 c3]] w fun e w' => e = .returned (.bool (M.bigBk x)) ∧ Still w w' := by
  have hl := h.at_len.1
  have he : M.bigBk x = decide ((200 : Int) < n2) := by unfold M.bigBk; rw [hl]; exact (dec_nat 200 n2).symm
  have HE := Lib.hid he
  clear h hl he
  go_enter Tryz.func97, Tryz.ntmps97
  go_wp2_with fail
  go_ret
  refine ⟨?_, (Still.refl w).alloc _⟩
  rw [HE.out]
  rfl
theorem bigInstr_any {B : Nat} {w : World} {la : Option Addr} {ln lc : Nat} {ma : Option Addr} {mn mc : Nat} {va : Option Addr} {vn vc : Nat} {x : M.Ins} (h : InsIs B w [.int .i64 x.op, .int .i64 x.d, .int .i64 x.a, .int .i64 x.b, .int .i64 x.c, .int .i64 x.n, .slice la ln lc, .slice ma mn mc, .slice va vn vc] x) :
    Calls Tryz.prog 72 #[.agg #[.int .i64 x.op, .int .i64 x.d, .int .i64 x.a, .int .i64 x.b, .int .i64 x.c, .int .i64 x.n, .slice la ln lc, .slice ma mn mc, .slice va vn vc]] w fun e w' => e = .returned (.bool (M.bigIns x)) ∧ Still w w' := by
  obtain ⟨h1, h2, h3, _⟩ := h.at_len
  have he : M.bigIns x = (decide ((1024 : Int) < ln) || decide ((1024 : Int) < mn) || decide ((200 : Int) < vn)) := by
    unfold M.bigIns
    have e1 : decide ((1024 : Int) < ln) = decide (1024 < ln) := dec_nat 1024 ln
    have e2 : decide ((1024 : Int) < mn) = decide (1024 < mn) := dec_nat 1024 mn
    have e3 : decide ((200 : Int) < vn) = decide (200 < vn) := dec_nat 200 vn
    rw [h1, h2, h3, e1, e2, e3]
  have HE := Lib.hid he
  clear h h1 h2 h3 he
  by_cases hb : (1024 : Int) < ln
  · skip
    go_enter Tryz.func72, Tryz.ntmps72
    go_wp2_with fail
    go_ret
    refine ⟨?_, (Still.refl w).alloc _⟩
    rw [HE.out]
    have e0 : decide ((1024 : Int) < ln) = true := decide_eq_true (by omega)
    rw [e0]
    rfl
  · by_cases hc : (1024 : Int) < mn
    · skip
      go_enter Tryz.func72, Tryz.ntmps72
      go_wp2_with fail
      go_ret
      refine ⟨?_, (Still.refl w).alloc _⟩
      rw [HE.out]
      have e0 : decide ((1024 : Int) < ln) = false := decide_eq_false (by omega)
      have e1 : decide ((1024 : Int) < mn) = true := decide_eq_true (by omega)
      rw [e0, e1]
      rfl
    · by_cases hd : (200 : Int) < vn
      · skip
        go_enter Tryz.func72, Tryz.ntmps72
        go_wp2_with fail
        go_ret
        refine ⟨?_, (Still.refl w).alloc _⟩
        rw [HE.out]
        have e0 : decide ((1024 : Int) < ln) = false := decide_eq_false (by omega)
        have e1 : decide ((1024 : Int) < mn) = false := decide_eq_false (by omega)
        have e2 : decide ((200 : Int) < vn) = true := decide_eq_true (by omega)
        rw [e0, e1, e2]
        rfl
      · skip
        go_enter Tryz.func72, Tryz.ntmps72
        go_wp2_with fail
        go_ret
        refine ⟨?_, (Still.refl w).alloc _⟩
        rw [HE.out]
        have e0 : decide ((1024 : Int) < ln) = false := decide_eq_false (by omega)
        have e1 : decide ((1024 : Int) < mn) = false := decide_eq_false (by omega)
        have e2 : decide ((200 : Int) < vn) = false := decide_eq_false (by omega)
        rw [e0, e1, e2]
        rfl
theorem notPlain_any {B : Nat} {w : World} {la : Option Addr} {ln lc : Nat} {ma : Option Addr} {mn mc : Nat} {va : Option Addr} {vn vc : Nat} {x : M.Ins} (h : InsIs B w [.int .i64 x.op, .int .i64 x.d, .int .i64 x.a, .int .i64 x.b, .int .i64 x.c, .int .i64 x.n, .slice la ln lc, .slice ma mn mc, .slice va vn vc] x) :
    Calls Tryz.prog 41 #[.agg #[.int .i64 x.op, .int .i64 x.d, .int .i64 x.a, .int .i64 x.b, .int .i64 x.c, .int .i64 x.n, .slice la ln lc, .slice ma mn mc, .slice va vn vc]] w fun e w' => e = .returned (.bool (!(M.plainIns x))) ∧ Still w w' := by
  obtain ⟨h1, h2, h3, _⟩ := h.at_len
  have he : M.plainIns x = M.plain (M.uses x.op) x.d x.a x.b x.c x.n ln mn vn := by unfold M.plainIns; rw [h1, h2, h3]
  rw [he]
  have HP := Lib.hid (fun W => plain_any x.op x.d x.a x.b x.c x.n la ln lc ma mn mc va vn vc W)
  clear h h1 h2 h3 he
  generalize M.plain (M.uses x.op) x.d x.a x.b x.c x.n ln mn vn = p at *
  go_enter Tryz.func41, Tryz.ntmps41
  go_wp2_with fail
  refine (HP.out _).mono ?_; rintro e w1 ⟨rfl, t1⟩
  have HT := Lib.hid (((Still.refl w).alloc _).trans t1)
  clear t1
  go_wp2_with fail
  go_ret
  exact ⟨rfl, HT.out⟩
theorem bigFunc_any {B : Nat} {w : World} {a2 : Option Addr} {n2 c2 : Nat} {a3 : Option Addr} {n3 c3 : Nat} {x : M.Fn} (h : FnIs B w [.slice a2 n2 c2, .int .i64 x.result, .int .i64 x.slots, .slice a3 n3 c3] x) (hB : B ≤ w.heap.size) :
    Calls Tryz.prog 70 #[.agg #[.slice a2 n2 c2, .int .i64 x.result, .int .i64 x.slots, .slice a3 n3 c3]] w fun e w' => e = .returned (.bool (M.bigFn x)) ∧ Still w w' := by
  obtain ⟨h1, _, _, h2, h3, h4, _⟩ := h.at_len
  have he : M.bigFn x = (decide ((200 : Int) < x.slots) || decide ((200 : Int) < n2) || decide ((2000 : Int) < n3) || x.blocks.any M.bigBk) := by
    unfold M.bigFn
    have e1 : decide ((200 : Int) < n2) = decide (200 < n2) := dec_nat 200 n2
    have e2 : decide ((2000 : Int) < n3) = decide (2000 < n3) := dec_nat 2000 n3
    rw [h1, h2, e1, e2]
  have HE := Lib.hid he
  have hw : Below B w (w.alloc (.cells #[.slice a2 n2 c2, .int .i64 x.result, .int .i64 x.slots, .slice a3 n3 c3] 55)) := (Still.below ((Still.refl w).alloc _)).mono hB
  have HC := Lib.hid (containsBk_any (c := c3) M.bigBk 97 (enters_of Tryz.func97 (by kernel_rfl) rfl) (h3.keep hw hB fun _ _ _ h => h.keep hw hB) (by simp; omega) h4 (fun a2 n2 c2 a3 n3 c3 y W _ hp _ => bigBlock_any hp))
  clear h h1 h2 h3 he hw h4
  by_cases hb : (200 : Int) < x.slots
  · go_enter Tryz.func70, Tryz.ntmps70
    go_wp2_with fail
    go_ret
    refine ⟨?_, (Still.refl w).alloc _⟩
    rw [HE.out, decide_eq_true (by omega)]
    rfl
  · by_cases hc : (200 : Int) < n2
    · go_enter Tryz.func70, Tryz.ntmps70
      go_wp2_with fail
      go_ret
      refine ⟨?_, (Still.refl w).alloc _⟩
      rw [HE.out, decide_eq_false (by omega), decide_eq_true (by omega)]
      rfl
    · by_cases hd : (2000 : Int) < n3
      · go_enter Tryz.func70, Tryz.ntmps70
        go_wp2_with fail
        go_ret
        refine ⟨?_, (Still.refl w).alloc _⟩
        rw [HE.out, decide_eq_false (by omega), decide_eq_false (by omega), decide_eq_true (by omega)]
        rfl
      · generalize x.blocks.any M.bigBk = q at *
        go_enter Tryz.func70, Tryz.ntmps70
        go_wp2_with fail
        refine HC.out.mono ?_; rintro e w1 ⟨rfl, t1⟩
        have HT := Lib.hid (((Still.refl w).alloc _).trans t1)
        clear t1
        go_wp2_with fail
        go_ret
        refine ⟨?_, HT.out⟩
        rw [HE.out, decide_eq_false (by omega), decide_eq_false (by omega), decide_eq_false (by omega)]
        rfl
end Go.Proofs.YthlifflapgccbaaGreat
/- code.Size, anyInstr, big and Check of any image. -/
namespace Go.Proofs.YthlifflapgccbaaGreat
set_option linter.unusedVariables false
set_option linter.unusedSimpArgs false
open Go.ChangeShapes Go.WideShapes Go.ChangeAt Go.RowKit
open M (W)
theorem any_step {α : Type} (p : α → Bool) {l : List α} {i : Nat} {x : α} (hx : l[i]? = some x) (h : (l.take i).any p = false) : (l.take (i + 1)).any p = p x := by
  rw [List.take_add_one, hx, List.any_append, h]; simp
theorem any_hit {α : Type} (p : α → Bool) {l : List α} {i : Nat} {x : α} (hx : l[i]? = some x) (h : p x = true) : l.any p = true := List.any_eq_true.2 ⟨x, List.mem_of_getElem? hx, h⟩
theorem any_end {α : Type} (p : α → Bool) {l : List α} {n : Nat} (hn : l.length = n) (h : (l.take n).any p = false) : l.any p = false := by
  rw [← hn, List.take_length] at h; exact h
theorem sum_step {α : Type} (f : α → Nat) {l : List α} {i : Nat} {x : α} (hx : l[i]? = some x) : ((l.take (i + 1)).map f).sum = ((l.take i).map f).sum + f x := by
  rw [List.take_add_one, hx, List.map_append, List.sum_append]; simp
theorem sum_end {α : Type} (f : α → Nat) {l : List α} {n : Nat} (hn : l.length = n) : ((l.take n).map f).sum = (l.map f).sum := by
  rw [← hn, List.take_length]
set_option maxRecDepth 100000 in
set_option maxHeartbeats 2000000 in
theorem anyInstr_any (p : M.Ins → Bool) (fid : FuncId) (hfid : ∀ args W, (callFunc fid args).run Tryz.prog W = .ok (.enter fid args) W) {B : Nat} {w : World} {v : ImgV} {m : M.Img} (hB : B ≤ w.heap.size) (hp : ImgIs B w v m)
    (hf : ∀ (la : Option Addr) (ln lc : Nat) (ma : Option Addr) (mn mc : Nat) (va : Option Addr) (vn vc : Nat) (x : M.Ins) (W : World), InsIs B W [.int .i64 x.op, .int .i64 x.d, .int .i64 x.a, .int .i64 x.b, .int .i64 x.c, .int .i64 x.n, .slice la ln lc, .slice ma mn mc, .slice va vn vc] x → B ≤ W.heap.size → Calls Tryz.prog fid #[.agg #[.int .i64 x.op, .int .i64 x.d, .int .i64 x.a, .int .i64 x.b, .int .i64 x.c, .int .i64 x.n, .slice la ln lc, .slice ma mn mc, .slice va vn vc]] W fun e w' => e = .returned (.bool (p x)) ∧ Still W w') :
    Calls Tryz.prog 40 #[.agg #[.slice v.ta v.tn v.tc, .slice v.sa v.sn v.sc, .slice v.xa v.xn v.xc, .slice v.na v.nn v.nc, .slice v.fa v.fn v.fc, .int .i64 v.main, .int .i64 v.exn], .func (.func fid) #[] #[]] w fun e w' => e = .returned (.bool (M.anyIns p m)) ∧ Still w w' := by
  have hL := hp.funcs
  have hle := hp.le.2.2.2.2
  obtain ⟨ta, tn, tc, sa, sn, sc, xa, xn, xc, na, nn, nc, fa, fn, fc, mi, ei⟩ := v
  dsimp only at hL hle ⊢
  have HL := Lib.hid hL
  have HB := Lib.hid hB
  have HLEN := Lib.hid hL.len
  have hfn : fn ≤ 9223372036854775807 := by unfold maxLen at hle; omega
  clear hL hle
  have HF := Lib.hid hf
  have HFID := Lib.hid hfid
  have HA : Hid (M.anyIns p m = m.funcs.any fun f => f.blocks.any fun b => b.code.any p) := rfl
  generalize m.funcs = fl at *
  generalize M.anyIns p m = r at *
  clear hB hp hf hfid
  go_enter Tryz.func40, Tryz.ntmps40
  go_wp2_with fail
  go_loopw [12] (fun q wr => ∃ i : Nat, q = .int .i64 i ∧ i ≤ fn ∧ (fl.take i).any (fun f => f.blocks.any fun b => b.code.any p) = false ∧ Still w wr) (fun q _ => fn - (intOf q).toNat)
  case atStart => exact ⟨0, rfl, by omega, by simp, (Still.refl w).alloc _⟩
  case round =>
    obtain ⟨i, rfl, hi, hany, ht⟩ := hrel
    obtain ⟨wo, hwo⟩ : ∃ wo, wo = wr := ⟨_, rfl⟩
    subst hwo
    by_cases hlt : i < fn
    · obtain ⟨b, off, x, cs, rfl, hbB, hxi, hcl, hPx, hcell⟩ := HL.out.here hlt
      have hPw := FnIs.keep hPx (Still.below ht |>.mono HB.out) HB.out
      obtain ⟨a2, n2, c2, a3, n3, c3, rfl, hp⟩ := hPx
      obtain ⟨_, _, _, hbl3, hbll, hn3, _, _⟩ := hPw.at_len
      have HBLK := Lib.hid hbll
      have HBL3 := Lib.hid hbl3
      have hbl : b < wo.heap.size := Nat.lt_of_lt_of_le (Nat.lt_of_lt_of_le hbB HB.out) ht.size
      have d0 : wo.cell? ⟨b, off + i * 4, none⟩ = some (.slice a2 n2 c2) := (Still.cell ht (p := ⟨b, _, none⟩) (Nat.lt_of_lt_of_le hbB HB.out)).trans (by simpa using hcell 0 (by decide))
      have d1 : wo.cell? ⟨b, off + i * 4 + 1, none⟩ = some (.int .i64 x.result) := (Still.cell ht (p := ⟨b, _, none⟩) (Nat.lt_of_lt_of_le hbB HB.out)).trans (by simpa using hcell 1 (by decide))
      have d2 : wo.cell? ⟨b, off + i * 4 + 2, none⟩ = some (.int .i64 x.slots) := (Still.cell ht (p := ⟨b, _, none⟩) (Nat.lt_of_lt_of_le hbB HB.out)).trans (by simpa using hcell 2 (by decide))
      have d3 : wo.cell? ⟨b, off + i * 4 + 3, none⟩ = some (.slice a3 n3 c3) := (Still.cell ht (p := ⟨b, _, none⟩) (Nat.lt_of_lt_of_le hbB HB.out)).trans (by simpa using hcell 3 (by decide))
      have HTK := Lib.hid (any_step (fun f => f.blocks.any fun b => b.code.any p) hxi hany)
      have HHIT := Lib.hid (any_hit (fun (f : M.Fn) => f.blocks.any fun b => b.code.any p) hxi)
      have hn63 : n3 ≤ 9223372036854775807 := by unfold maxLen at hn3; omega
      have HT := Lib.hid ht
      clear hxi hcl hp hPw hcell ht hany hbl3 hbll hn3
      go_wp2_with fail
      go_loopw [19] (fun q wr => ∃ j : Nat, q = .int .i64 j ∧ j ≤ n3 ∧ (x.blocks.take j).any (fun b => b.code.any p) = false ∧ Still wo wr) (fun q _ => n3 - (intOf q).toNat)
      case atStart => exact ⟨0, rfl, by omega, by simp, (Still.refl _).alloc _⟩
      case round =>
        obtain ⟨j, rfl, hj, hanyj, htj⟩ := hrel
        have htw := HT.out.trans htj
        by_cases hlt2 : j < n3
        · obtain ⟨b2, off2, y, cs2, rfl, hbB2, hyj, hcl2, hPy, hcell2⟩ := HBLK.out.here hlt2
          have hPyw := BkIs.keep hPy (Still.below htj |>.mono (Nat.le_trans HB.out HT.out.size)) (Nat.le_trans HB.out HT.out.size)
          obtain ⟨a4, n4, c4, a5, n5, c5, rfl, hpy⟩ := hPy
          obtain ⟨_, _, _, hcl3, hcll, hn5⟩ := hPyw.at_len
          have hbl2 : b2 < wr.heap.size := Nat.lt_of_lt_of_le (Nat.lt_of_lt_of_le hbB2 HB.out) htw.size
          have q0 : wr.cell? ⟨b2, off2 + j * 2, none⟩ = some (.slice a4 n4 c4) := (Still.cell htj (p := ⟨b2, _, none⟩) (Nat.lt_of_lt_of_le (Nat.lt_of_lt_of_le hbB2 HB.out) HT.out.size)).trans (by simpa using hcell2 0 (by decide))
          have q1 : wr.cell? ⟨b2, off2 + j * 2 + 1, none⟩ = some (.slice a5 n5 c5) := (Still.cell htj (p := ⟨b2, _, none⟩) (Nat.lt_of_lt_of_le (Nat.lt_of_lt_of_le hbB2 HB.out) HT.out.size)).trans (by simpa using hcell2 1 (by decide))
          have hW : Below B wr (wr.alloc (.cells #[.slice a4 n4 c4, .slice a5 n5 c5] 85)) := (Still.below ((Still.refl wr).alloc _)).mono (Nat.le_trans HB.out htw.size)
          have HC := Lib.hid (containsIns_any (c := c5) p fid HFID.out (hcll.keep hW (Nat.le_trans HB.out htw.size) fun _ _ _ h => h.keep hW (Nat.le_trans HB.out htw.size)) (by have := HB.out; have := htw.size; simp; omega) hn5 (fun la ln lc ma mn mc va vn vc z W _ hp hb => HF.out la ln lc ma mn mc va vn vc z W hp hb))
          have HTK2 := Lib.hid (any_step (fun b => b.code.any p) hyj hanyj)
          have HHIT2 := Lib.hid (any_hit (fun (b : M.Bk) => b.code.any p) hyj)
          have HTW := Lib.hid htw
          have HTJ := Lib.hid htj
          clear hyj hcl2 hpy hPyw hcell2 htj hanyj hcl3 hcll hn5 hW htw
          cases hpx : y.code.any p with
          | true =>
            rw [hpx] at HC
            go_wp2_with fail
            refine HC.out.mono ?_; rintro e w3 ⟨rfl, t3⟩
            have HT3 := Lib.hid ((HTW.out.alloc _).trans t3)
            clear t3
            go_wp2_with fail
            go_ret
            refine ⟨?_, HT3.out⟩
            rw [HA.out, HHIT.out (HHIT2.out hpx)]
            rfl
          | false =>
            rw [hpx] at HC
            go_wp2_with fail
            refine HC.out.mono ?_; rintro e w3 ⟨rfl, t3⟩
            have HT3 := Lib.hid ((HTJ.out.alloc _).trans t3)
            clear t3
            go_wp2_with fail
            go_roundw
            case rel => exact ⟨j + 1, rfl, by omega, by rw [HTK2.out, hpx], HT3.out⟩
            case measure => simp [intOf]; omega
        · obtain rfl : j = n3 := by omega
          have HEND := Lib.hid (any_end (fun (b : M.Bk) => b.code.any p) HBL3.out hanyj)
          have HT4 := Lib.hid htw
          clear htj hanyj htw
          go_wp2_with fail
          go_roundw
          case rel => exact ⟨i + 1, rfl, by omega, by rw [HTK.out]; exact HEND.out, HT4.out⟩
          case measure => simp [intOf]; omega
    · obtain rfl : i = fn := by omega
      have HEND := Lib.hid (any_end (fun (f : M.Fn) => f.blocks.any fun b => b.code.any p) HLEN.out hany)
      have HT := Lib.hid ht
      clear ht hany
      go_wp2_with fail
      go_ret
      exact ⟨by rw [HA.out, HEND.out]; rfl, HT.out⟩
end Go.Proofs.YthlifflapgccbaaGreat
/- code.Size of any image. -/
namespace Go.Proofs.YthlifflapgccbaaGreat
set_option linter.unusedVariables false
set_option linter.unusedSimpArgs false
open Go.ChangeShapes Go.WideShapes Go.ChangeAt Go.RowKit
open M (W)
def M.sizeFn (f : M.Fn) : Nat := (f.blocks.map fun b => b.code.length).sum
theorem sum_take_le {α : Type} (f : α → Nat) (l : List α) (i : Nat) : ((l.take i).map f).sum ≤ (l.map f).sum := by
  have h : (l.map f).sum = ((l.take i).map f).sum + ((l.drop i).map f).sum := by
    rw [← List.sum_append, ← List.map_append, List.take_append_drop]
  omega
theorem sum_le_sum {α : Type} (f g : α → Nat) : ∀ (l : List α), (∀ x ∈ l, f x ≤ g x) → (l.map f).sum ≤ (l.map g).sum
  | [], _ => by simp
  | x :: l, h => by
    have h1 := h x (by simp)
    have h2 := sum_le_sum f g l (fun y hy => h y (by simp [hy]))
    simp only [List.map_cons, List.sum_cons]
    omega
theorem sizeFn_le (f : M.Fn) : M.sizeFn f ≤ M.wFn f := by
  unfold M.sizeFn M.wFn
  have := sum_le_sum (fun b : M.Bk => b.code.length) M.wBk f.blocks (fun b _ => by unfold M.wBk; omega)
  omega
theorem size_le (m : M.Img) : M.size m ≤ M.wImg m := by
  unfold M.size M.wImg
  have := sum_le_sum M.sizeFn M.wFn m.funcs (fun f _ => sizeFn_le f)
  unfold M.sizeFn at this
  omega
set_option maxRecDepth 100000 in
set_option maxHeartbeats 2000000 in
theorem size_any {B : Nat} {w : World} {v : ImgV} {m : M.Img} (hB : B ≤ w.heap.size) (hp : ImgIs B w v m) (hw : M.size m ≤ 1000000000) :
    Calls Tryz.prog 71 #[.agg #[.slice v.ta v.tn v.tc, .slice v.sa v.sn v.sc, .slice v.xa v.xn v.xc, .slice v.na v.nn v.nc, .slice v.fa v.fn v.fc, .int .i64 v.main, .int .i64 v.exn]] w fun e w' => e = .returned (.int .i64 (M.size m : Nat)) ∧ Still w w' := by
  have hL := hp.funcs
  have hle := hp.le.2.2.2.2
  obtain ⟨ta, tn, tc, sa, sn, sc, xa, xn, xc, na, nn, nc, fa, fn, fc, mi, ei⟩ := v
  dsimp only at hL hle ⊢
  have HL := Lib.hid hL
  have HB := Lib.hid hB
  have HLEN := Lib.hid hL.len
  have hfn : fn ≤ 9223372036854775807 := by unfold maxLen at hle; omega
  have HA : Hid (M.size m = (m.funcs.map M.sizeFn).sum) := rfl
  generalize m.funcs = fl at *
  generalize M.size m = r at *
  have HW : Hid (∀ i, ((fl.take i).map M.sizeFn).sum ≤ 1000000000) := fun i => by
    have := sum_take_le M.sizeFn fl i
    have := HA.out
    omega
  clear hB hp hL hle hw
  go_enter Tryz.func71, Tryz.ntmps71
  go_wp2_with fail
  go_loopw [3, 11] (fun z q wr => ∃ i n : Nat, q = .int .i64 i ∧ z = .int .i64 n ∧ i ≤ fn ∧ n = ((fl.take i).map M.sizeFn).sum ∧ Still w wr) (fun _ q _ => fn - (intOf q).toNat)
  case atStart => exact ⟨0, 0, rfl, rfl, by omega, by simp, (Still.refl w).alloc _⟩
  case round =>
    obtain ⟨i, n, rfl, rfl, hi, hn, ht⟩ := hrel
    have HN := Lib.hid hn
    clear hn
    by_cases hlt : i < fn
    · skip
      obtain ⟨b1, off1, f, cs1, rfl, hbB1, hx1, hcl1, hq1, hc1⟩ := HL.out.here hlt
      have hP1 := hq1
      obtain ⟨pa, pn, pc, ba, bn, bc, rfl, hr1⟩ := hq1
      have hbl1 : b1 < wr.heap.size := Nat.lt_of_lt_of_le (Nat.lt_of_lt_of_le hbB1 HB.out) ht.size
      have d10 : wr.cell? ⟨b1, off1 + i * 4, none⟩ = some (.slice pa pn pc) := (Still.cell ht (p := ⟨b1, _, none⟩) (Nat.lt_of_lt_of_le hbB1 HB.out)).trans (by simpa using hc1 0 (by decide))
      have d11 : wr.cell? ⟨b1, off1 + i * 4 + 1, none⟩ = some (.int .i64 f.result) := (Still.cell ht (p := ⟨b1, _, none⟩) (Nat.lt_of_lt_of_le hbB1 HB.out)).trans (by simpa using hc1 1 (by decide))
      have d12 : wr.cell? ⟨b1, off1 + i * 4 + 2, none⟩ = some (.int .i64 f.slots) := (Still.cell ht (p := ⟨b1, _, none⟩) (Nat.lt_of_lt_of_le hbB1 HB.out)).trans (by simpa using hc1 2 (by decide))
      have d13 : wr.cell? ⟨b1, off1 + i * 4 + 3, none⟩ = some (.slice ba bn bc) := (Still.cell ht (p := ⟨b1, _, none⟩) (Nat.lt_of_lt_of_le hbB1 HB.out)).trans (by simpa using hc1 3 (by decide))
      clear hcl1 hr1 hc1
      obtain ⟨_, _, _, hbl3, hbll, hn3, _, _⟩ := hP1.at_len
      have HBLK := Lib.hid hbll
      have HBL3 := Lib.hid hbl3
      have HST := Lib.hid (sum_step M.sizeFn hx1)
      have hn63 : bn ≤ 9223372036854775807 := by unfold maxLen at hn3; omega
      have HT := Lib.hid ht
      have HSF : Hid (M.sizeFn f = (f.blocks.map fun b => b.code.length).sum) := rfl
      have HTO := Lib.hid (HW.out (i + 1))
      clear hx1 hP1 ht hbl3 hbll hn3
      go_wp2_with fail
      go_loopw [3, 18] (fun z q wr => ∃ j n2 : Nat, q = .int .i64 j ∧ z = .int .i64 n2 ∧ j ≤ bn ∧ n2 = n + ((f.blocks.take j).map fun b => b.code.length).sum ∧ Still w wr) (fun _ q _ => bn - (intOf q).toNat)
      case atStart => exact ⟨0, n, rfl, rfl, by omega, by simp, HT.out.alloc _⟩
      case round =>
        obtain ⟨j, n2, rfl, rfl, hj, hn2, ht⟩ := hrel
        have HN2 := Lib.hid hn2
        clear hn2
        by_cases hlt2 : j < bn
        · skip
          obtain ⟨b2, off2, k, cs2, rfl, hbB2, hx2, hcl2, hq2, hc2⟩ := HBLK.out.here hlt2
          have hP2 := hq2
          obtain ⟨ia, inn, ic, ca, cn, cc, rfl, hr2⟩ := hq2
          have hbl2 : b2 < wr.heap.size := Nat.lt_of_lt_of_le (Nat.lt_of_lt_of_le hbB2 HB.out) ht.size
          have d20 : wr.cell? ⟨b2, off2 + j * 2, none⟩ = some (.slice ia inn ic) := (Still.cell ht (p := ⟨b2, _, none⟩) (Nat.lt_of_lt_of_le hbB2 HB.out)).trans (by simpa using hc2 0 (by decide))
          have d21 : wr.cell? ⟨b2, off2 + j * 2 + 1, none⟩ = some (.slice ca cn cc) := (Still.cell ht (p := ⟨b2, _, none⟩) (Nat.lt_of_lt_of_le hbB2 HB.out)).trans (by simpa using hc2 1 (by decide))
          clear hcl2 hr2 hc2
          obtain ⟨_, _, _, hcl3, _, _⟩ := hP2.at_len
          have HST2 := Lib.hid (sum_step (fun b : M.Bk => b.code.length) hx2)
          have HTK2 := Lib.hid (sum_take_le (fun b : M.Bk => b.code.length) f.blocks (j + 1))
          have HT := Lib.hid ht
          have hcn : n2 + cn ≤ 1000000000 := by
            have := HN2.out; have := HST2.out; have := HTK2.out; have := HTO.out; have := HST.out; have := HSF.out; have := HN.out
            try dsimp only at *
            omega
          have HC3 := Lib.hid hcl3
          clear hx2 hP2 ht hcl3
          go_wp2_with fail
          go_roundw
          case rel => exact ⟨j + 1, n2 + cn, by go_num, by go_num, by omega, by rw [HST2.out, HN2.out, HC3.out]; omega, HT.out.alloc _⟩
          case measure => simp [intOf]; omega
        · obtain rfl : j = bn := by omega
          have HE := Lib.hid (sum_end (fun b : M.Bk => b.code.length) HBL3.out)
          have HT := Lib.hid ht
          clear ht
          go_wp2_with fail
          go_roundw
          case rel => exact ⟨i + 1, n2, by go_num, rfl, by omega, by rw [HST.out, HN2.out, HN.out, HE.out, HSF.out], HT.out⟩
          case measure => simp [intOf]; omega
    · obtain rfl : i = fn := by omega
      have HE := Lib.hid (sum_end M.sizeFn HLEN.out)
      have HT := Lib.hid ht
      clear ht
      go_wp2_with fail
      go_ret
      refine ⟨?_, HT.out⟩
      have : r = n := by rw [HA.out, HN.out, HE.out]
      rw [this]
      rfl
end Go.Proofs.YthlifflapgccbaaGreat
/- code.big and code.Check of any image. -/
namespace Go.Proofs.YthlifflapgccbaaGreat
set_option linter.unusedVariables false
set_option linter.unusedSimpArgs false
open Go.ChangeShapes Go.WideShapes Go.ChangeAt Go.RowKit
open M (W)
theorem imgBox {w : World} {k : Nat} {t : TypeId} {a b c d e f g : Value} (h : Blk w k t #[a, b, c, d, e, f, g]) :
    k < w.heap.size ∧ w.cell? ⟨k, 0, none⟩ = some a ∧ w.cell? ⟨k, 1, none⟩ = some b ∧ w.cell? ⟨k, 2, none⟩ = some c ∧ w.cell? ⟨k, 3, none⟩ = some d ∧ w.cell? ⟨k, 4, none⟩ = some e ∧ w.cell? ⟨k, 5, none⟩ = some f ∧ w.cell? ⟨k, 6, none⟩ = some g :=
  ⟨h.lt, h.cell 0, h.cell 1, h.cell 2, h.cell 3, h.cell 4, h.cell 5, h.cell 6⟩
set_option maxRecDepth 100000 in
set_option maxHeartbeats 4000000 in
theorem big_any {B : Nat} {w : World} {v : ImgV} {m : M.Img} (hB : B ≤ w.heap.size) (hp : ImgIs B w v m) (hw : M.size m ≤ 1000000000) :
    Calls Tryz.prog 39 #[.agg #[.slice v.ta v.tn v.tc, .slice v.sa v.sn v.sc, .slice v.xa v.xn v.xc, .slice v.na v.nn v.nc, .slice v.fa v.fn v.fc, .int .i64 v.main, .int .i64 v.exn]] w fun e w' => e = .returned (.bool (M.big m)) ∧ Still w w' := by
  obtain ⟨l1, l2, l3, l4, l5⟩ := hp.le
  have e1 := hp.types.len
  have e2 := hp.shapes.len
  have e3 := hp.strings.len
  have e4 := hp.names.len
  have e5 := hp.funcs.len
  have HC1 := Lib.hid (fun W (hW : Still w W) => have ht : Below B w W := (Still.below hW).mono hB; containsTy_any (c := v.tc) M.bigTy 64 (enters_of Tryz.func64 (by kernel_rfl) rfl) (Lies.keep hp.types ht hB (fun _ _ _ h => h.keep ht hB)) (Nat.le_trans hB hW.size) l1 (fun a2 n2 c2 y W _ hp _ => bigType_any hp))
  have HC2 := Lib.hid (fun W (hW : Still w W) => have ht : Below B w W := (Still.below hW).mono hB; containsSh_any (c := v.sc) M.bigSh 66 (enters_of Tryz.func66 (by kernel_rfl) rfl) (Lies.keep hp.shapes ht hB (fun _ _ _ h => h.keep ht hB)) (Nat.le_trans hB hW.size) l2 (fun a2 n2 c2 y W _ hp _ => bigShape_any hp))
  have HC3 := Lib.hid (fun W (hW : Still w W) => have ht : Below B w W := (Still.below hW).mono hB; containsTx_any (c := v.xc) M.bigTx 68 (enters_of Tryz.func68 (by kernel_rfl) rfl) (Lies.keep hp.strings ht hB (fun _ _ _ h => h)) (Nat.le_trans hB hW.size) l3 (fun y W _ hp _ => (bigText_any y W).mono (fun e w' h => ⟨h.1, by rw [h.2]; exact Still.refl _⟩)))
  have HC4 := Lib.hid (fun W (hW : Still w W) => have ht : Below B w W := (Still.below hW).mono hB; containsTx_any (c := v.nc) M.bigTx 68 (enters_of Tryz.func68 (by kernel_rfl) rfl) (Lies.keep hp.names ht hB (fun _ _ _ h => h)) (Nat.le_trans hB hW.size) l4 (fun y W _ hp _ => (bigText_any y W).mono (fun e w' h => ⟨h.1, by rw [h.2]; exact Still.refl _⟩)))
  have HC5 := Lib.hid (fun W (hW : Still w W) => have ht : Below B w W := (Still.below hW).mono hB; containsFn_any (c := v.fc) M.bigFn 70 (enters_of Tryz.func70 (by kernel_rfl) rfl) (Lies.keep hp.funcs ht hB (fun _ _ _ h => h.keep ht hB)) (Nat.le_trans hB hW.size) l5 (fun a2 n2 c2 a3 n3 c3 y W _ hp hb => bigFunc_any hp hb))
  have HSZ := Lib.hid (fun W (hW : Still w W) => size_any (Nat.le_trans hB hW.size) (hp.keep ((Still.below hW).mono hB) hB) hw)
  have HAI := Lib.hid (fun W (hW : Still w W) => anyInstr_any M.bigIns 72 (enters_of Tryz.func72 (by kernel_rfl) rfl) (Nat.le_trans hB hW.size) (hp.keep ((Still.below hW).mono hB) hB) (fun la ln lc ma mn mc va vn vc x W hp _ => bigInstr_any hp))
  obtain ⟨ta, tn, tc, sa, sn, sc, xa, xn, xc, na, nn, nc, fa, fn, fc, mi, ei⟩ := v
  dsimp only at l1 l2 l3 l4 l5 e1 e2 e3 e4 e5 HC1 HC2 HC3 HC4 HC5 HSZ HAI ⊢
  have HA : Hid (M.big m = (decide (1024 < tn) || decide (512 < sn) || decide (256 < xn) || decide (256 < nn) || decide (1024 < fn) ||
      m.types.any M.bigTy || m.shapes.any M.bigSh || m.strings.any M.bigTx || m.names.any M.bigTx || m.funcs.any M.bigFn || decide (20000 < M.size m) || M.anyIns M.bigIns m)) := by
    unfold M.big
    rw [e1, e2, e3, e4, e5]
    rfl
  generalize M.big m = r at *
  generalize m.types.any M.bigTy = q1 at *
  generalize m.shapes.any M.bigSh = q2 at *
  generalize m.strings.any M.bigTx = q3 at *
  generalize m.names.any M.bigTx = q4 at *
  generalize m.funcs.any M.bigFn = q5 at *
  generalize M.size m = z at *
  generalize M.anyIns M.bigIns m = q7 at *
  have HZ := Lib.hid hw
  clear hB hp e1 e2 e3 e4 e5 hw
  by_cases hb0 : (1024 : Int) < tn
  · skip
    go_enter Tryz.func39, Tryz.ntmps39
    go_wp2_with fail
    go_ret
    refine ⟨?_, (Still.refl w).alloc _⟩
    rw [HA.out]
    have e0 : decide (1024 < tn) = true := decide_eq_true (by omega)
    simp only [e0, Bool.or_true, Bool.true_or, Bool.or_false, Bool.false_or]
    rfl
  · skip
    by_cases hb1 : (512 : Int) < sn
    · skip
      go_enter Tryz.func39, Tryz.ntmps39
      go_wp2_with fail
      go_ret
      refine ⟨?_, (Still.refl w).alloc _⟩
      rw [HA.out]
      have e0 : decide (1024 < tn) = false := decide_eq_false (by omega)
      have e1 : decide (512 < sn) = true := decide_eq_true (by omega)
      simp only [e0, e1, Bool.or_true, Bool.true_or, Bool.or_false, Bool.false_or]
      rfl
    · skip
      by_cases hb2 : (256 : Int) < xn
      · skip
        go_enter Tryz.func39, Tryz.ntmps39
        go_wp2_with fail
        go_ret
        refine ⟨?_, (Still.refl w).alloc _⟩
        rw [HA.out]
        have e0 : decide (1024 < tn) = false := decide_eq_false (by omega)
        have e1 : decide (512 < sn) = false := decide_eq_false (by omega)
        have e2 : decide (256 < xn) = true := decide_eq_true (by omega)
        simp only [e0, e1, e2, Bool.or_true, Bool.true_or, Bool.or_false, Bool.false_or]
        rfl
      · skip
        by_cases hb3 : (256 : Int) < nn
        · skip
          go_enter Tryz.func39, Tryz.ntmps39
          go_wp2_with fail
          go_ret
          refine ⟨?_, (Still.refl w).alloc _⟩
          rw [HA.out]
          have e0 : decide (1024 < tn) = false := decide_eq_false (by omega)
          have e1 : decide (512 < sn) = false := decide_eq_false (by omega)
          have e2 : decide (256 < xn) = false := decide_eq_false (by omega)
          have e3 : decide (256 < nn) = true := decide_eq_true (by omega)
          simp only [e0, e1, e2, e3, Bool.or_true, Bool.true_or, Bool.or_false, Bool.false_or]
          rfl
        · skip
          by_cases hb4 : (1024 : Int) < fn
          · skip
            go_enter Tryz.func39, Tryz.ntmps39
            go_wp2_with fail
            go_ret
            refine ⟨?_, (Still.refl w).alloc _⟩
            rw [HA.out]
            have e0 : decide (1024 < tn) = false := decide_eq_false (by omega)
            have e1 : decide (512 < sn) = false := decide_eq_false (by omega)
            have e2 : decide (256 < xn) = false := decide_eq_false (by omega)
            have e3 : decide (256 < nn) = false := decide_eq_false (by omega)
            have e4 : decide (1024 < fn) = true := decide_eq_true (by omega)
            simp only [e0, e1, e2, e3, e4, Bool.or_true, Bool.true_or, Bool.or_false, Bool.false_or]
            rfl
          · skip
            go_enter Tryz.func39, Tryz.ntmps39
            go_wp2_with fail
            have HT0 : Hid (Still w (w.alloc (.cells #[.slice ta tn tc, .slice sa sn sc, .slice xa xn xc, .slice na nn nc, .slice fa fn fc, .int .i64 mi, .int .i64 ei] 28))) := (Still.refl w).alloc _
            have HX0 : Hid (Blk (w.alloc (.cells #[.slice ta tn tc, .slice sa sn sc, .slice xa xn xc, .slice na nn nc, .slice fa fn fc, .int .i64 mi, .int .i64 ei] 28)) w.heap.size 28 #[.slice ta tn tc, .slice sa sn sc, .slice xa xn xc, .slice na nn nc, .slice fa fn fc, .int .i64 mi, .int .i64 ei]) := Blk.new w _ _
            refine (HC1.out _ HT0.out).mono ?_; rintro e w1 ⟨rfl, t1⟩
            have HT1 := Lib.hid (HT0.out.trans t1)
            have HX1 := Lib.hid (t1.blk HX0.out)
            clear t1
            have bf1 := imgBox HX1.out
            obtain ⟨b0, b1, b2, b3, b4, b5, b6, b7⟩ := bf1
            cases q1 with
            | true =>
              go_wp2_with fail
              go_ret
              refine ⟨?_, HT1.out⟩
              rw [HA.out]
              have e0 : decide (1024 < tn) = false := decide_eq_false (by omega)
              have e1 : decide (512 < sn) = false := decide_eq_false (by omega)
              have e2 : decide (256 < xn) = false := decide_eq_false (by omega)
              have e3 : decide (256 < nn) = false := decide_eq_false (by omega)
              have e4 : decide (1024 < fn) = false := decide_eq_false (by omega)
              simp only [e0, e1, e2, e3, e4, Bool.or_true, Bool.true_or, Bool.or_false, Bool.false_or]
              rfl
            | false =>
              go_wp2_with fail
              clear b0 b1 b2 b3 b4 b5 b6 b7
              refine (HC2.out _ HT1.out).mono ?_; rintro e w2 ⟨rfl, t2⟩
              have HT2 := Lib.hid (HT1.out.trans t2)
              have HX2 := Lib.hid (t2.blk HX1.out)
              clear t2
              have bf2 := imgBox HX2.out
              obtain ⟨b0, b1, b2, b3, b4, b5, b6, b7⟩ := bf2
              cases q2 with
              | true =>
                go_wp2_with fail
                go_ret
                refine ⟨?_, HT2.out⟩
                rw [HA.out]
                have e0 : decide (1024 < tn) = false := decide_eq_false (by omega)
                have e1 : decide (512 < sn) = false := decide_eq_false (by omega)
                have e2 : decide (256 < xn) = false := decide_eq_false (by omega)
                have e3 : decide (256 < nn) = false := decide_eq_false (by omega)
                have e4 : decide (1024 < fn) = false := decide_eq_false (by omega)
                simp only [e0, e1, e2, e3, e4, Bool.or_true, Bool.true_or, Bool.or_false, Bool.false_or]
                rfl
              | false =>
                go_wp2_with fail
                clear b0 b1 b2 b3 b4 b5 b6 b7
                refine (HC3.out _ HT2.out).mono ?_; rintro e w3 ⟨rfl, t3⟩
                have HT3 := Lib.hid (HT2.out.trans t3)
                have HX3 := Lib.hid (t3.blk HX2.out)
                clear t3
                have bf3 := imgBox HX3.out
                obtain ⟨b0, b1, b2, b3, b4, b5, b6, b7⟩ := bf3
                cases q3 with
                | true =>
                  go_wp2_with fail
                  go_ret
                  refine ⟨?_, HT3.out⟩
                  rw [HA.out]
                  have e0 : decide (1024 < tn) = false := decide_eq_false (by omega)
                  have e1 : decide (512 < sn) = false := decide_eq_false (by omega)
                  have e2 : decide (256 < xn) = false := decide_eq_false (by omega)
                  have e3 : decide (256 < nn) = false := decide_eq_false (by omega)
                  have e4 : decide (1024 < fn) = false := decide_eq_false (by omega)
                  simp only [e0, e1, e2, e3, e4, Bool.or_true, Bool.true_or, Bool.or_false, Bool.false_or]
                  rfl
                | false =>
                  go_wp2_with fail
                  clear b0 b1 b2 b3 b4 b5 b6 b7
                  refine (HC4.out _ HT3.out).mono ?_; rintro e w4 ⟨rfl, t4⟩
                  have HT4 := Lib.hid (HT3.out.trans t4)
                  have HX4 := Lib.hid (t4.blk HX3.out)
                  clear t4
                  have bf4 := imgBox HX4.out
                  obtain ⟨b0, b1, b2, b3, b4, b5, b6, b7⟩ := bf4
                  cases q4 with
                  | true =>
                    go_wp2_with fail
                    go_ret
                    refine ⟨?_, HT4.out⟩
                    rw [HA.out]
                    have e0 : decide (1024 < tn) = false := decide_eq_false (by omega)
                    have e1 : decide (512 < sn) = false := decide_eq_false (by omega)
                    have e2 : decide (256 < xn) = false := decide_eq_false (by omega)
                    have e3 : decide (256 < nn) = false := decide_eq_false (by omega)
                    have e4 : decide (1024 < fn) = false := decide_eq_false (by omega)
                    simp only [e0, e1, e2, e3, e4, Bool.or_true, Bool.true_or, Bool.or_false, Bool.false_or]
                    rfl
                  | false =>
                    go_wp2_with fail
                    clear b0 b1 b2 b3 b4 b5 b6 b7
                    refine (HC5.out _ HT4.out).mono ?_; rintro e w5 ⟨rfl, t5⟩
                    have HT5 := Lib.hid (HT4.out.trans t5)
                    have HX5 := Lib.hid (t5.blk HX4.out)
                    clear t5
                    have bf5 := imgBox HX5.out
                    obtain ⟨b0, b1, b2, b3, b4, b5, b6, b7⟩ := bf5
                    cases q5 with
                    | true =>
                      go_wp2_with fail
                      go_ret
                      refine ⟨?_, HT5.out⟩
                      rw [HA.out]
                      have e0 : decide (1024 < tn) = false := decide_eq_false (by omega)
                      have e1 : decide (512 < sn) = false := decide_eq_false (by omega)
                      have e2 : decide (256 < xn) = false := decide_eq_false (by omega)
                      have e3 : decide (256 < nn) = false := decide_eq_false (by omega)
                      have e4 : decide (1024 < fn) = false := decide_eq_false (by omega)
                      simp only [e0, e1, e2, e3, e4, Bool.or_true, Bool.true_or, Bool.or_false, Bool.false_or]
                      rfl
                    | false =>
                      go_wp2_with fail
                      clear b0 b1 b2 b3 b4 b5 b6 b7
                      refine (HSZ.out _ HT5.out).mono ?_; rintro e w6 ⟨rfl, t6⟩
                      have HT6 := Lib.hid (HT5.out.trans t6)
                      have HX6 := Lib.hid (t6.blk HX5.out)
                      clear t6
                      have bf6 := imgBox HX6.out
                      obtain ⟨b0, b1, b2, b3, b4, b5, b6, b7⟩ := bf6
                      by_cases hz : (20000 : Int) < z
                      · skip
                        go_wp2_with fail
                        go_ret
                        refine ⟨?_, HT6.out⟩
                        rw [HA.out]
                        have e0 : decide (1024 < tn) = false := decide_eq_false (by omega)
                        have e1 : decide (512 < sn) = false := decide_eq_false (by omega)
                        have e2 : decide (256 < xn) = false := decide_eq_false (by omega)
                        have e3 : decide (256 < nn) = false := decide_eq_false (by omega)
                        have e4 : decide (1024 < fn) = false := decide_eq_false (by omega)
                        have e5 : decide (20000 < z) = true := decide_eq_true (by omega)
                        simp only [e0, e1, e2, e3, e4, e5, Bool.or_true, Bool.true_or, Bool.or_false, Bool.false_or]
                        rfl
                      · skip
                        go_wp2_with fail
                        clear b0 b1 b2 b3 b4 b5 b6 b7
                        refine (HAI.out _ HT6.out).mono ?_; rintro e w7 ⟨rfl, t7⟩
                        have HT7 := Lib.hid (HT6.out.trans t7)
                        have HX7 := Lib.hid (t7.blk HX6.out)
                        clear t7
                        have bf7 := imgBox HX7.out
                        obtain ⟨b0, b1, b2, b3, b4, b5, b6, b7⟩ := bf7
                        clear b0 b1 b2 b3 b4 b5 b6 b7
                        go_wp2_with fail
                        go_ret
                        refine ⟨?_, HT7.out⟩
                        rw [HA.out]
                        have e0 : decide (1024 < tn) = false := decide_eq_false (by omega)
                        have e1 : decide (512 < sn) = false := decide_eq_false (by omega)
                        have e2 : decide (256 < xn) = false := decide_eq_false (by omega)
                        have e3 : decide (256 < nn) = false := decide_eq_false (by omega)
                        have e4 : decide (1024 < fn) = false := decide_eq_false (by omega)
                        have e5 : decide (20000 < z) = false := decide_eq_false (by omega)
                        simp only [e0, e1, e2, e3, e4, e5, Bool.or_true, Bool.true_or, Bool.or_false, Bool.false_or]
                        show Ending.returned (.bool (decide ((20000 : Int) < z) || q7)) = _
                        rw [decide_eq_false (by omega)]
                        rfl
set_option maxRecDepth 100000 in
set_option maxHeartbeats 4000000 in
theorem check_any {B : Nat} {w : World} {v : ImgV} {m : M.Img} (hB : B ≤ w.heap.size) (hp : ImgIs B w v m) (hw : M.size m ≤ 1000000000) :
    Calls Tryz.prog 11 #[.agg #[.slice v.ta v.tn v.tc, .slice v.sa v.sn v.sc, .slice v.xa v.xn v.xc, .slice v.na v.nn v.nc, .slice v.fa v.fn v.fc, .int .i64 v.main, .int .i64 v.exn]] w fun e w' => e = .returned (.int .i64 (M.check m)) ∧ Still w w' := by
  have HBG := Lib.hid (fun W (hW : Still w W) => big_any (Nat.le_trans hB hW.size) (hp.keep ((Still.below hW).mono hB) hB) hw)
  have HAI := Lib.hid (fun W (hW : Still w W) => anyInstr_any (fun x => !(M.plainIns x)) 41 (enters_of Tryz.func41 (by kernel_rfl) rfl) (Nat.le_trans hB hW.size) (hp.keep ((Still.below hW).mono hB) hB) (fun la ln lc ma mn mc va vn vc x W hp _ => notPlain_any hp))
  obtain ⟨ta, tn, tc, sa, sn, sc, xa, xn, xc, na, nn, nc, fa, fn, fc, mi, ei⟩ := v
  dsimp only at HBG HAI ⊢
  have HA : Hid (M.check m = if M.big m then 2 else if M.anyIns (fun x => !(M.plainIns x)) m then 1 else 0) := rfl
  generalize M.check m = r at *
  generalize M.big m = q1 at *
  generalize M.anyIns (fun x => !(M.plainIns x)) m = q2 at *
  clear hB hp hw
  have HT0 : Hid (Still w (w.alloc (.cells #[.slice ta tn tc, .slice sa sn sc, .slice xa xn xc, .slice na nn nc, .slice fa fn fc, .int .i64 mi, .int .i64 ei] 28))) := (Still.refl w).alloc _
  have HX0 : Hid (Blk (w.alloc (.cells #[.slice ta tn tc, .slice sa sn sc, .slice xa xn xc, .slice na nn nc, .slice fa fn fc, .int .i64 mi, .int .i64 ei] 28)) w.heap.size 28 #[.slice ta tn tc, .slice sa sn sc, .slice xa xn xc, .slice na nn nc, .slice fa fn fc, .int .i64 mi, .int .i64 ei]) := Blk.new w _ _
  go_enter Tryz.func11, Tryz.ntmps11
  go_wp2_with fail
  refine (HBG.out _ HT0.out).mono ?_; rintro e w1 ⟨rfl, t1⟩
  have HT1 := Lib.hid (HT0.out.trans t1)
  have HX1 := Lib.hid (t1.blk HX0.out)
  clear t1
  obtain ⟨b0, b1, b2, b3, b4, b5, b6, b7⟩ := imgBox HX1.out
  cases q1 with
  | true =>
    go_wp2_with fail
    go_ret
    exact ⟨by rw [HA.out]; rfl, HT1.out⟩
  | false =>
    go_wp2_with fail
    clear b0 b1 b2 b3 b4 b5 b6 b7
    refine (HAI.out _ HT1.out).mono ?_; rintro e w2 ⟨rfl, t2⟩
    have HT2 := Lib.hid (HT1.out.trans t2)
    clear t2
    cases q2 with
    | true =>
      go_wp2_with fail
      go_ret
      exact ⟨by rw [HA.out]; rfl, HT2.out⟩
    | false =>
      go_wp2_with fail
      go_ret
      exact ⟨by rw [HA.out]; rfl, HT2.out⟩
end Go.Proofs.YthlifflapgccbaaGreat
