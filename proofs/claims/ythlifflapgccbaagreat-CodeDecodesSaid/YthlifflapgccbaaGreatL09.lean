/- Lemmas, put together: Equal Same Pre. -/
import Derived.Test.YthlifflapgccbaaGreatL08
import Derived.Test.YthlifflapgccbaaGreatL07
/- slices.Equal, slices.EqualFunc over what lies in memory. -/
namespace Go.Proofs.YthlifflapgccbaaGreat
set_option linter.unusedVariables false
set_option linter.unusedSimpArgs false
open Go.ChangeShapes Go.WideShapes Go.ChangeAt Go.RowKit
open M (W)
theorem eq_of_get {α : Type} {l m : List α} {n : Nat} (hl : l.length = n) (hm : m.length = n) (h : ∀ j, j < n → l[j]? = m[j]?) : l = m := by
  apply List.ext_getElem?
  intro i
  by_cases hi : i < n
  · exact h i hi
  · rw [List.getElem?_eq_none (by omega), List.getElem?_eq_none (by omega)]
theorem ne_of_get {α : Type} {l m : List α} {i : Nat} {x y : α} (hx : l[i]? = some x) (hy : m[i]? = some y) (h : x ≠ y) : l ≠ m := by
  rintro rfl
  rw [hx] at hy
  injection hy with hy
  exact h hy
theorem str_beq (s t : ByteArray) : (s.toList == t.toList) = true ↔ s = t := by
  rw [beq_iff_eq, ByteArray.toList_eq, ByteArray.toList_eq]
  constructor
  · intro h
    cases s; cases t
    congr 1
    exact Array.toList_inj.1 h
  · rintro rfl; rfl
set_option maxRecDepth 100000 in
theorem equalInt_any {B : Nat} {w : World} {a : Option Addr} {n c : Nat} {l : List Int} {a' : Option Addr} {n' c' : Nat} {m : List Int} (hl : Lies B w 1 IntIs a n l) (hm : Lies B w 1 IntIs a' n' m) (hB : B ≤ w.heap.size) (hn : n ≤ maxLen) (hn' : n' ≤ maxLen) :
    Calls Tryz.prog 50 #[.slice a n c, .slice a' n' c'] w fun e w' => ∃ r, e = .returned (.bool r) ∧ (r = true ↔ l = m) ∧ Still w w' := by
  have HL := Lib.hid hl
  have HM := Lib.hid hm
  have HB := Lib.hid hB
  have HLL := Lib.hid hl.len
  have HML := Lib.hid hm.len
  have hn63 : n ≤ 9223372036854775807 := by unfold maxLen at hn; omega
  have hm63 : n' ≤ 9223372036854775807 := by unfold maxLen at hn'; omega
  clear hl hm hB hn hn'
  by_cases hnn : n = n'
  · subst hnn
    have hnn : ((n : Int) != n) = false := by simp
    go_enter Tryz.func50, Tryz.ntmps50
    go_wp2_with fail
    go_loopw [13] (fun q wr => ∃ i : Nat, q = .int .i64 i ∧ i ≤ n ∧ (∀ j, j < i → l[j]? = m[j]?) ∧ Still w wr) (fun q _ => n - (intOf q).toNat)
    case atStart => exact ⟨0, rfl, by omega, fun j hj => by omega, Still.refl _⟩
    case round =>
      obtain ⟨i, rfl, hi, hall, ht⟩ := hrel
      by_cases hlt : i < n
      · skip
        obtain ⟨b1, off1, z, cs1, rfl, hbB1, hx1, hcl1, hq1, hc1⟩ := HL.out.here hlt
        have hP1 := hq1
        obtain ⟨rfl, hr1⟩ := hq1
        have hbl1 : b1 < wr.heap.size := Nat.lt_of_lt_of_le (Nat.lt_of_lt_of_le hbB1 HB.out) ht.size
        have d10 : wr.cell? ⟨b1, off1 + i, none⟩ = some (.int .i64 z) := (Still.cell ht (p := ⟨b1, _, none⟩) (Nat.lt_of_lt_of_le hbB1 HB.out)).trans (by simpa using hc1 0 (by decide))
        clear hcl1 hr1 hc1
        obtain ⟨b2, off2, z', cs2, rfl, hbB2, hx2, hcl2, hq2, hc2⟩ := HM.out.here hlt
        have hP2 := hq2
        obtain ⟨rfl, hr2⟩ := hq2
        have hbl2 : b2 < wr.heap.size := Nat.lt_of_lt_of_le (Nat.lt_of_lt_of_le hbB2 HB.out) ht.size
        have d20 : wr.cell? ⟨b2, off2 + i, none⟩ = some (.int .i64 z') := (Still.cell ht (p := ⟨b2, _, none⟩) (Nat.lt_of_lt_of_le hbB2 HB.out)).trans (by simpa using hc2 0 (by decide))
        clear hcl2 hr2 hc2
        have HT := Lib.hid ((ht.drew : Still w wr.drew))
        have HALL := Lib.hid hall
        have HX := Lib.hid (And.intro hx1 hx2)
        clear hx1 hx2 hP1 hP2 ht hall
        by_cases h : z = z'
        · skip
          have hne : ((z : Int) != z') = false := by simp [h]
          go_wp2_with fail
          go_region
          go_wp2_with fail
          go_roundw
          case rel => exact ⟨i + 1, by go_num, by omega, fun j hj => by
            by_cases hji : j = i
            · subst hji; rw [HX.out.1, HX.out.2, h]
            · exact HALL.out j (by omega), HT.out⟩
          case measure => simp [intOf]; omega
        · skip
          have hne : ((z : Int) != z') = true := by simp [h]
          go_wp2_with fail
          go_region
          go_wp2_with fail
          go_ret
          exact ⟨_, rfl, iff_of_false (by decide) (ne_of_get HX.out.1 HX.out.2 h), HT.out⟩
      · obtain rfl : n = i := by omega
        have HEQ := Lib.hid (eq_of_get HLL.out HML.out hall)
        have HT := Lib.hid ht
        clear hall ht
        go_wp2_with fail
        go_ret
        exact ⟨_, rfl, iff_of_true rfl HEQ.out, HT.out⟩
  · have hne : ((n : Int) != n') = true := by simp; omega
    have HNE : Hid (l ≠ m) := fun e => hnn (by rw [← HLL.out, ← HML.out, e])
    clear hnn
    go_enter Tryz.func50, Tryz.ntmps50
    go_wp2_with fail
    go_ret
    exact ⟨_, rfl, iff_of_false (by decide) HNE.out, Still.refl _⟩
set_option maxRecDepth 100000 in
theorem equalTx_any {B : Nat} {w : World} {a : Option Addr} {n c : Nat} {l : List ByteArray} {a' : Option Addr} {n' c' : Nat} {m : List ByteArray} (hl : Lies B w 1 TxIs a n l) (hm : Lies B w 1 TxIs a' n' m) (hB : B ≤ w.heap.size) (hn : n ≤ maxLen) (hn' : n' ≤ maxLen) :
    Calls Tryz.prog 23 #[.slice a n c, .slice a' n' c'] w fun e w' => ∃ r, e = .returned (.bool r) ∧ (r = true ↔ l = m) ∧ Still w w' := by
  have HL := Lib.hid hl
  have HM := Lib.hid hm
  have HB := Lib.hid hB
  have HLL := Lib.hid hl.len
  have HML := Lib.hid hm.len
  have hn63 : n ≤ 9223372036854775807 := by unfold maxLen at hn; omega
  have hm63 : n' ≤ 9223372036854775807 := by unfold maxLen at hn'; omega
  clear hl hm hB hn hn'
  by_cases hnn : n = n'
  · subst hnn
    have hnn : ((n : Int) != n) = false := by simp
    go_enter Tryz.func23, Tryz.ntmps23
    go_wp2_with fail
    go_loopw [13] (fun q wr => ∃ i : Nat, q = .int .i64 i ∧ i ≤ n ∧ (∀ j, j < i → l[j]? = m[j]?) ∧ Still w wr) (fun q _ => n - (intOf q).toNat)
    case atStart => exact ⟨0, rfl, by omega, fun j hj => by omega, Still.refl _⟩
    case round =>
      obtain ⟨i, rfl, hi, hall, ht⟩ := hrel
      by_cases hlt : i < n
      · skip
        obtain ⟨b1, off1, s, cs1, rfl, hbB1, hx1, hcl1, hq1, hc1⟩ := HL.out.here hlt
        have hP1 := hq1
        obtain ⟨rfl, hr1⟩ := hq1
        have hbl1 : b1 < wr.heap.size := Nat.lt_of_lt_of_le (Nat.lt_of_lt_of_le hbB1 HB.out) ht.size
        have d10 : wr.cell? ⟨b1, off1 + i, none⟩ = some (.string s) := (Still.cell ht (p := ⟨b1, _, none⟩) (Nat.lt_of_lt_of_le hbB1 HB.out)).trans (by simpa using hc1 0 (by decide))
        clear hcl1 hr1 hc1
        obtain ⟨b2, off2, s', cs2, rfl, hbB2, hx2, hcl2, hq2, hc2⟩ := HM.out.here hlt
        have hP2 := hq2
        obtain ⟨rfl, hr2⟩ := hq2
        have hbl2 : b2 < wr.heap.size := Nat.lt_of_lt_of_le (Nat.lt_of_lt_of_le hbB2 HB.out) ht.size
        have d20 : wr.cell? ⟨b2, off2 + i, none⟩ = some (.string s') := (Still.cell ht (p := ⟨b2, _, none⟩) (Nat.lt_of_lt_of_le hbB2 HB.out)).trans (by simpa using hc2 0 (by decide))
        clear hcl2 hr2 hc2
        have HT := Lib.hid ((ht.drew : Still w wr.drew))
        have HALL := Lib.hid hall
        have HX := Lib.hid (And.intro hx1 hx2)
        clear hx1 hx2 hP1 hP2 ht hall
        by_cases h : s = s'
        · skip
          have hne : (s.toList == s'.toList) = true := by
            have := str_beq s s'
            cases hq : (s.toList == s'.toList) <;> simp_all
          go_wp2_with fail
          go_region
          go_wp2_with fail
          go_roundw
          case rel => exact ⟨i + 1, by go_num, by omega, fun j hj => by
            by_cases hji : j = i
            · subst hji; rw [HX.out.1, HX.out.2, h]
            · exact HALL.out j (by omega), HT.out⟩
          case measure => simp [intOf]; omega
        · skip
          have hne : (s.toList == s'.toList) = false := by
            have := str_beq s s'
            cases hq : (s.toList == s'.toList) <;> simp_all
          go_wp2_with fail
          go_region
          go_wp2_with fail
          go_ret
          exact ⟨_, rfl, iff_of_false (by decide) (ne_of_get HX.out.1 HX.out.2 h), HT.out⟩
      · obtain rfl : n = i := by omega
        have HEQ := Lib.hid (eq_of_get HLL.out HML.out hall)
        have HT := Lib.hid ht
        clear hall ht
        go_wp2_with fail
        go_ret
        exact ⟨_, rfl, iff_of_true rfl HEQ.out, HT.out⟩
  · have hne : ((n : Int) != n') = true := by simp; omega
    have HNE : Hid (l ≠ m) := fun e => hnn (by rw [← HLL.out, ← HML.out, e])
    clear hnn
    go_enter Tryz.func23, Tryz.ntmps23
    go_wp2_with fail
    go_ret
    exact ⟨_, rfl, iff_of_false (by decide) HNE.out, Still.refl _⟩
set_option maxRecDepth 100000 in
set_option maxHeartbeats 2000000 in
theorem equalTy_any {B : Nat} {w : World} {a : Option Addr} {n c : Nat} {l : List M.Ty} {a' : Option Addr} {n' c' : Nat} {m : List M.Ty} (hl : Lies B w 2 (TyIs B w) a n l) (hm : Lies B w 2 (TyIs B w) a' n' m) (hB : B ≤ w.heap.size) (hn : n ≤ maxLen) (hn' : n' ≤ maxLen) (fid : FuncId) (hfid : ∀ args W, (callFunc fid args).run Tryz.prog W = .ok (.enter fid args) W)
    (hf : ∀ (ta2 : Option Addr) (tn2 tc2 : Nat) (t : M.Ty) (ta2' : Option Addr) (tn2' tc2' : Nat) (t' : M.Ty) (W : World), (TyIs B W) [.bool t.imm, .slice ta2 tn2 tc2] t → (TyIs B W) [.bool t'.imm, .slice ta2' tn2' tc2'] t' → B ≤ W.heap.size → Calls Tryz.prog fid #[.agg #[.bool t.imm, .slice ta2 tn2 tc2], .agg #[.bool t'.imm, .slice ta2' tn2' tc2']] W fun e w' => ∃ r, e = .returned (.bool r) ∧ (r = true ↔ t = t') ∧ Still W w') :
    Calls Tryz.prog 19 #[.slice a n c, .slice a' n' c', .func (.func fid) #[] #[]] w fun e w' => ∃ r, e = .returned (.bool r) ∧ (r = true ↔ l = m) ∧ Still w w' := by
  have HF := Lib.hid hf
  have HFID := Lib.hid hfid
  clear hf hfid
  have HL := Lib.hid hl
  have HM := Lib.hid hm
  have HB := Lib.hid hB
  have HLL := Lib.hid hl.len
  have HML := Lib.hid hm.len
  have hn63 : n ≤ 9223372036854775807 := by unfold maxLen at hn; omega
  have hm63 : n' ≤ 9223372036854775807 := by unfold maxLen at hn'; omega
  clear hl hm hB hn hn'
  by_cases hnn : n = n'
  · subst hnn
    have hnn : ((n : Int) != n) = false := by simp
    go_enter Tryz.func19, Tryz.ntmps19
    go_wp2_with fail
    go_loopw [17] (fun q wr => ∃ i : Nat, q = .int .i64 i ∧ i ≤ n ∧ (∀ j, j < i → l[j]? = m[j]?) ∧ Still w wr) (fun q _ => n - (intOf q).toNat)
    case atStart => exact ⟨0, rfl, by omega, fun j hj => by omega, Still.refl _⟩
    case round =>
      obtain ⟨i, rfl, hi, hall, ht⟩ := hrel
      by_cases hlt : i < n
      · skip
        obtain ⟨b1, off1, t, cs1, rfl, hbB1, hx1, hcl1, hq1, hc1⟩ := HL.out.here hlt
        have hP1 := hq1
        obtain ⟨ta2, tn2, tc2, rfl, hr1⟩ := hq1
        have hbl1 : b1 < wr.heap.size := Nat.lt_of_lt_of_le (Nat.lt_of_lt_of_le hbB1 HB.out) ht.size
        have d10 : wr.cell? ⟨b1, off1 + i * 2, none⟩ = some (.bool t.imm) := (Still.cell ht (p := ⟨b1, _, none⟩) (Nat.lt_of_lt_of_le hbB1 HB.out)).trans (by simpa using hc1 0 (by decide))
        have d11 : wr.cell? ⟨b1, off1 + i * 2 + 1, none⟩ = some (.slice ta2 tn2 tc2) := (Still.cell ht (p := ⟨b1, _, none⟩) (Nat.lt_of_lt_of_le hbB1 HB.out)).trans (by simpa using hc1 1 (by decide))
        clear hcl1 hr1 hc1
        obtain ⟨b2, off2, t', cs2, rfl, hbB2, hx2, hcl2, hq2, hc2⟩ := HM.out.here hlt
        have hP2 := hq2
        obtain ⟨ta2', tn2', tc2', rfl, hr2⟩ := hq2
        have hbl2 : b2 < wr.heap.size := Nat.lt_of_lt_of_le (Nat.lt_of_lt_of_le hbB2 HB.out) ht.size
        have d20 : wr.cell? ⟨b2, off2 + i * 2, none⟩ = some (.bool t'.imm) := (Still.cell ht (p := ⟨b2, _, none⟩) (Nat.lt_of_lt_of_le hbB2 HB.out)).trans (by simpa using hc2 0 (by decide))
        have d21 : wr.cell? ⟨b2, off2 + i * 2 + 1, none⟩ = some (.slice ta2' tn2' tc2') := (Still.cell ht (p := ⟨b2, _, none⟩) (Nat.lt_of_lt_of_le hbB2 HB.out)).trans (by simpa using hc2 1 (by decide))
        clear hcl2 hr2 hc2
        have ht2 : Still w ((wr.alloc (.cells #[.bool t.imm, .slice ta2 tn2 tc2] 49)).alloc (.cells #[.bool t'.imm, .slice ta2' tn2' tc2'] 49)) := (ht.alloc _).alloc _
        have HBL := Lib.hid ((Still.below ht2).mono HB.out)
        have HC := Lib.hid (HF.out ta2 tn2 tc2 t ta2' tn2' tc2' t' _ (TyIs.keep hP1 HBL.out HB.out) (TyIs.keep hP2 HBL.out HB.out) (Nat.le_trans HB.out ht2.size))
        have HT := Lib.hid ht2
        have HALL := Lib.hid hall
        have HX := Lib.hid (And.intro hx1 hx2)
        have hfid := HFID.out
        clear hx1 hx2 hP1 hP2 ht ht2 hall
        go_wp2_with fail
        refine HC.out.mono ?_; rintro e w3 ⟨r, rfl, hr, t3⟩
        have HT3 := Lib.hid (HT.out.trans t3)
        have HR := Lib.hid hr
        clear t3 hr hfid
        cases r with
        | true =>
          go_wp2_with fail
          go_roundw
          case rel => exact ⟨i + 1, by go_num, by omega, fun j hj => by
            by_cases hji : j = i
            · subst hji; rw [HX.out.1, HX.out.2, HR.out.1 (by trivial)]
            · exact HALL.out j (by omega), HT3.out⟩
          case measure => simp [intOf]; omega
        | false =>
          go_wp2_with fail
          go_ret
          exact ⟨_, rfl, iff_of_false (by decide) (ne_of_get HX.out.1 HX.out.2 (fun e => absurd (HR.out.2 e) (by decide))), HT3.out⟩
      · obtain rfl : n = i := by omega
        have HEQ := Lib.hid (eq_of_get HLL.out HML.out hall)
        have HT := Lib.hid ht
        clear hall ht
        go_wp2_with fail
        go_ret
        exact ⟨_, rfl, iff_of_true rfl HEQ.out, HT.out⟩
  · have hne : ((n : Int) != n') = true := by simp; omega
    have HNE : Hid (l ≠ m) := fun e => hnn (by rw [← HLL.out, ← HML.out, e])
    clear hnn
    go_enter Tryz.func19, Tryz.ntmps19
    go_wp2_with fail
    go_ret
    exact ⟨_, rfl, iff_of_false (by decide) HNE.out, Still.refl _⟩
set_option maxRecDepth 100000 in
set_option maxHeartbeats 2000000 in
theorem equalSh_any {B : Nat} {w : World} {a : Option Addr} {n c : Nat} {l : List M.Sh} {a' : Option Addr} {n' c' : Nat} {m : List M.Sh} (hl : Lies B w 3 (ShIs B w) a n l) (hm : Lies B w 3 (ShIs B w) a' n' m) (hB : B ≤ w.heap.size) (hn : n ≤ maxLen) (hn' : n' ≤ maxLen) (fid : FuncId) (hfid : ∀ args W, (callFunc fid args).run Tryz.prog W = .ok (.enter fid args) W)
    (hf : ∀ (sa2 : Option Addr) (sn2 sc2 : Nat) (s : M.Sh) (sa2' : Option Addr) (sn2' sc2' : Nat) (s' : M.Sh) (W : World), (ShIs B W) [.int .i64 s.kind, .slice sa2 sn2 sc2, .string s.name] s → (ShIs B W) [.int .i64 s'.kind, .slice sa2' sn2' sc2', .string s'.name] s' → B ≤ W.heap.size → Calls Tryz.prog fid #[.agg #[.int .i64 s.kind, .slice sa2 sn2 sc2, .string s.name], .agg #[.int .i64 s'.kind, .slice sa2' sn2' sc2', .string s'.name]] W fun e w' => ∃ r, e = .returned (.bool r) ∧ (r = true ↔ s = s') ∧ Still W w') :
    Calls Tryz.prog 21 #[.slice a n c, .slice a' n' c', .func (.func fid) #[] #[]] w fun e w' => ∃ r, e = .returned (.bool r) ∧ (r = true ↔ l = m) ∧ Still w w' := by
  have HF := Lib.hid hf
  have HFID := Lib.hid hfid
  clear hf hfid
  have HL := Lib.hid hl
  have HM := Lib.hid hm
  have HB := Lib.hid hB
  have HLL := Lib.hid hl.len
  have HML := Lib.hid hm.len
  have hn63 : n ≤ 9223372036854775807 := by unfold maxLen at hn; omega
  have hm63 : n' ≤ 9223372036854775807 := by unfold maxLen at hn'; omega
  clear hl hm hB hn hn'
  by_cases hnn : n = n'
  · subst hnn
    have hnn : ((n : Int) != n) = false := by simp
    go_enter Tryz.func21, Tryz.ntmps21
    go_wp2_with fail
    go_loopw [17] (fun q wr => ∃ i : Nat, q = .int .i64 i ∧ i ≤ n ∧ (∀ j, j < i → l[j]? = m[j]?) ∧ Still w wr) (fun q _ => n - (intOf q).toNat)
    case atStart => exact ⟨0, rfl, by omega, fun j hj => by omega, Still.refl _⟩
    case round =>
      obtain ⟨i, rfl, hi, hall, ht⟩ := hrel
      by_cases hlt : i < n
      · skip
        obtain ⟨b1, off1, s, cs1, rfl, hbB1, hx1, hcl1, hq1, hc1⟩ := HL.out.here hlt
        have hP1 := hq1
        obtain ⟨sa2, sn2, sc2, rfl, hr1⟩ := hq1
        have hbl1 : b1 < wr.heap.size := Nat.lt_of_lt_of_le (Nat.lt_of_lt_of_le hbB1 HB.out) ht.size
        have d10 : wr.cell? ⟨b1, off1 + i * 3, none⟩ = some (.int .i64 s.kind) := (Still.cell ht (p := ⟨b1, _, none⟩) (Nat.lt_of_lt_of_le hbB1 HB.out)).trans (by simpa using hc1 0 (by decide))
        have d11 : wr.cell? ⟨b1, off1 + i * 3 + 1, none⟩ = some (.slice sa2 sn2 sc2) := (Still.cell ht (p := ⟨b1, _, none⟩) (Nat.lt_of_lt_of_le hbB1 HB.out)).trans (by simpa using hc1 1 (by decide))
        have d12 : wr.cell? ⟨b1, off1 + i * 3 + 2, none⟩ = some (.string s.name) := (Still.cell ht (p := ⟨b1, _, none⟩) (Nat.lt_of_lt_of_le hbB1 HB.out)).trans (by simpa using hc1 2 (by decide))
        clear hcl1 hr1 hc1
        obtain ⟨b2, off2, s', cs2, rfl, hbB2, hx2, hcl2, hq2, hc2⟩ := HM.out.here hlt
        have hP2 := hq2
        obtain ⟨sa2', sn2', sc2', rfl, hr2⟩ := hq2
        have hbl2 : b2 < wr.heap.size := Nat.lt_of_lt_of_le (Nat.lt_of_lt_of_le hbB2 HB.out) ht.size
        have d20 : wr.cell? ⟨b2, off2 + i * 3, none⟩ = some (.int .i64 s'.kind) := (Still.cell ht (p := ⟨b2, _, none⟩) (Nat.lt_of_lt_of_le hbB2 HB.out)).trans (by simpa using hc2 0 (by decide))
        have d21 : wr.cell? ⟨b2, off2 + i * 3 + 1, none⟩ = some (.slice sa2' sn2' sc2') := (Still.cell ht (p := ⟨b2, _, none⟩) (Nat.lt_of_lt_of_le hbB2 HB.out)).trans (by simpa using hc2 1 (by decide))
        have d22 : wr.cell? ⟨b2, off2 + i * 3 + 2, none⟩ = some (.string s'.name) := (Still.cell ht (p := ⟨b2, _, none⟩) (Nat.lt_of_lt_of_le hbB2 HB.out)).trans (by simpa using hc2 2 (by decide))
        clear hcl2 hr2 hc2
        have ht2 : Still w ((wr.alloc (.cells #[.int .i64 s.kind, .slice sa2 sn2 sc2, .string s.name] 51)).alloc (.cells #[.int .i64 s'.kind, .slice sa2' sn2' sc2', .string s'.name] 51)) := (ht.alloc _).alloc _
        have HBL := Lib.hid ((Still.below ht2).mono HB.out)
        have HC := Lib.hid (HF.out sa2 sn2 sc2 s sa2' sn2' sc2' s' _ (ShIs.keep hP1 HBL.out HB.out) (ShIs.keep hP2 HBL.out HB.out) (Nat.le_trans HB.out ht2.size))
        have HT := Lib.hid ht2
        have HALL := Lib.hid hall
        have HX := Lib.hid (And.intro hx1 hx2)
        have hfid := HFID.out
        clear hx1 hx2 hP1 hP2 ht ht2 hall
        go_wp2_with fail
        refine HC.out.mono ?_; rintro e w3 ⟨r, rfl, hr, t3⟩
        have HT3 := Lib.hid (HT.out.trans t3)
        have HR := Lib.hid hr
        clear t3 hr hfid
        cases r with
        | true =>
          go_wp2_with fail
          go_roundw
          case rel => exact ⟨i + 1, by go_num, by omega, fun j hj => by
            by_cases hji : j = i
            · subst hji; rw [HX.out.1, HX.out.2, HR.out.1 (by trivial)]
            · exact HALL.out j (by omega), HT3.out⟩
          case measure => simp [intOf]; omega
        | false =>
          go_wp2_with fail
          go_ret
          exact ⟨_, rfl, iff_of_false (by decide) (ne_of_get HX.out.1 HX.out.2 (fun e => absurd (HR.out.2 e) (by decide))), HT3.out⟩
      · obtain rfl : n = i := by omega
        have HEQ := Lib.hid (eq_of_get HLL.out HML.out hall)
        have HT := Lib.hid ht
        clear hall ht
        go_wp2_with fail
        go_ret
        exact ⟨_, rfl, iff_of_true rfl HEQ.out, HT.out⟩
  · have hne : ((n : Int) != n') = true := by simp; omega
    have HNE : Hid (l ≠ m) := fun e => hnn (by rw [← HLL.out, ← HML.out, e])
    clear hnn
    go_enter Tryz.func21, Tryz.ntmps21
    go_wp2_with fail
    go_ret
    exact ⟨_, rfl, iff_of_false (by decide) HNE.out, Still.refl _⟩
set_option maxRecDepth 100000 in
set_option maxHeartbeats 2000000 in
theorem equalFn_any {B : Nat} {w : World} {a : Option Addr} {n c : Nat} {l : List M.Fn} {a' : Option Addr} {n' c' : Nat} {m : List M.Fn} (hl : Lies B w 4 (FnIs B w) a n l) (hm : Lies B w 4 (FnIs B w) a' n' m) (hB : B ≤ w.heap.size) (hn : n ≤ maxLen) (hn' : n' ≤ maxLen) (fid : FuncId) (hfid : ∀ args W, (callFunc fid args).run Tryz.prog W = .ok (.enter fid args) W)
    (hf : ∀ (pa : Option Addr) (pn pc : Nat) (ba : Option Addr) (bn bc : Nat) (f : M.Fn) (pa' : Option Addr) (pn' pc' : Nat) (ba' : Option Addr) (bn' bc' : Nat) (f' : M.Fn) (W : World), (FnIs B W) [.slice pa pn pc, .int .i64 f.result, .int .i64 f.slots, .slice ba bn bc] f → (FnIs B W) [.slice pa' pn' pc', .int .i64 f'.result, .int .i64 f'.slots, .slice ba' bn' bc'] f' → B ≤ W.heap.size → Calls Tryz.prog fid #[.agg #[.slice pa pn pc, .int .i64 f.result, .int .i64 f.slots, .slice ba bn bc], .agg #[.slice pa' pn' pc', .int .i64 f'.result, .int .i64 f'.slots, .slice ba' bn' bc']] W fun e w' => ∃ r, e = .returned (.bool r) ∧ (r = true ↔ f = f') ∧ Still W w') :
    Calls Tryz.prog 24 #[.slice a n c, .slice a' n' c', .func (.func fid) #[] #[]] w fun e w' => ∃ r, e = .returned (.bool r) ∧ (r = true ↔ l = m) ∧ Still w w' := by
  have HF := Lib.hid hf
  have HFID := Lib.hid hfid
  clear hf hfid
  have HL := Lib.hid hl
  have HM := Lib.hid hm
  have HB := Lib.hid hB
  have HLL := Lib.hid hl.len
  have HML := Lib.hid hm.len
  have hn63 : n ≤ 9223372036854775807 := by unfold maxLen at hn; omega
  have hm63 : n' ≤ 9223372036854775807 := by unfold maxLen at hn'; omega
  clear hl hm hB hn hn'
  by_cases hnn : n = n'
  · subst hnn
    have hnn : ((n : Int) != n) = false := by simp
    go_enter Tryz.func24, Tryz.ntmps24
    go_wp2_with fail
    go_loopw [17] (fun q wr => ∃ i : Nat, q = .int .i64 i ∧ i ≤ n ∧ (∀ j, j < i → l[j]? = m[j]?) ∧ Still w wr) (fun q _ => n - (intOf q).toNat)
    case atStart => exact ⟨0, rfl, by omega, fun j hj => by omega, Still.refl _⟩
    case round =>
      obtain ⟨i, rfl, hi, hall, ht⟩ := hrel
      by_cases hlt : i < n
      · skip
        obtain ⟨b1, off1, f, cs1, rfl, hbB1, hx1, hcl1, hq1, hc1⟩ := HL.out.here hlt
        have hP1 := hq1
        obtain ⟨pa, pn, pc, ba, bn, bc, rfl, hr1⟩ := hq1
        have hbl1 : b1 < wr.heap.size := Nat.lt_of_lt_of_le (Nat.lt_of_lt_of_le hbB1 HB.out) ht.size
        have d10 : wr.cell? ⟨b1, off1 + i * 4, none⟩ = some (.slice pa pn pc) := (Still.cell ht (p := ⟨b1, _, none⟩) (Nat.lt_of_lt_of_le hbB1 HB.out)).trans (by simpa using hc1 0 (by decide))
        have d11 : wr.cell? ⟨b1, off1 + i * 4 + 1, none⟩ = some (.int .i64 f.result) := (Still.cell ht (p := ⟨b1, _, none⟩) (Nat.lt_of_lt_of_le hbB1 HB.out)).trans (by simpa using hc1 1 (by decide))
        have d12 : wr.cell? ⟨b1, off1 + i * 4 + 2, none⟩ = some (.int .i64 f.slots) := (Still.cell ht (p := ⟨b1, _, none⟩) (Nat.lt_of_lt_of_le hbB1 HB.out)).trans (by simpa using hc1 2 (by decide))
        have d13 : wr.cell? ⟨b1, off1 + i * 4 + 3, none⟩ = some (.slice ba bn bc) := (Still.cell ht (p := ⟨b1, _, none⟩) (Nat.lt_of_lt_of_le hbB1 HB.out)).trans (by simpa using hc1 3 (by decide))
        clear hcl1 hr1 hc1
        obtain ⟨b2, off2, f', cs2, rfl, hbB2, hx2, hcl2, hq2, hc2⟩ := HM.out.here hlt
        have hP2 := hq2
        obtain ⟨pa', pn', pc', ba', bn', bc', rfl, hr2⟩ := hq2
        have hbl2 : b2 < wr.heap.size := Nat.lt_of_lt_of_le (Nat.lt_of_lt_of_le hbB2 HB.out) ht.size
        have d20 : wr.cell? ⟨b2, off2 + i * 4, none⟩ = some (.slice pa' pn' pc') := (Still.cell ht (p := ⟨b2, _, none⟩) (Nat.lt_of_lt_of_le hbB2 HB.out)).trans (by simpa using hc2 0 (by decide))
        have d21 : wr.cell? ⟨b2, off2 + i * 4 + 1, none⟩ = some (.int .i64 f'.result) := (Still.cell ht (p := ⟨b2, _, none⟩) (Nat.lt_of_lt_of_le hbB2 HB.out)).trans (by simpa using hc2 1 (by decide))
        have d22 : wr.cell? ⟨b2, off2 + i * 4 + 2, none⟩ = some (.int .i64 f'.slots) := (Still.cell ht (p := ⟨b2, _, none⟩) (Nat.lt_of_lt_of_le hbB2 HB.out)).trans (by simpa using hc2 2 (by decide))
        have d23 : wr.cell? ⟨b2, off2 + i * 4 + 3, none⟩ = some (.slice ba' bn' bc') := (Still.cell ht (p := ⟨b2, _, none⟩) (Nat.lt_of_lt_of_le hbB2 HB.out)).trans (by simpa using hc2 3 (by decide))
        clear hcl2 hr2 hc2
        have ht2 : Still w ((wr.alloc (.cells #[.slice pa pn pc, .int .i64 f.result, .int .i64 f.slots, .slice ba bn bc] 55)).alloc (.cells #[.slice pa' pn' pc', .int .i64 f'.result, .int .i64 f'.slots, .slice ba' bn' bc'] 55)) := (ht.alloc _).alloc _
        have HBL := Lib.hid ((Still.below ht2).mono HB.out)
        have HC := Lib.hid (HF.out pa pn pc ba bn bc f pa' pn' pc' ba' bn' bc' f' _ (FnIs.keep hP1 HBL.out HB.out) (FnIs.keep hP2 HBL.out HB.out) (Nat.le_trans HB.out ht2.size))
        have HT := Lib.hid ht2
        have HALL := Lib.hid hall
        have HX := Lib.hid (And.intro hx1 hx2)
        have hfid := HFID.out
        clear hx1 hx2 hP1 hP2 ht ht2 hall
        go_wp2_with fail
        refine HC.out.mono ?_; rintro e w3 ⟨r, rfl, hr, t3⟩
        have HT3 := Lib.hid (HT.out.trans t3)
        have HR := Lib.hid hr
        clear t3 hr hfid
        cases r with
        | true =>
          go_wp2_with fail
          go_roundw
          case rel => exact ⟨i + 1, by go_num, by omega, fun j hj => by
            by_cases hji : j = i
            · subst hji; rw [HX.out.1, HX.out.2, HR.out.1 (by trivial)]
            · exact HALL.out j (by omega), HT3.out⟩
          case measure => simp [intOf]; omega
        | false =>
          go_wp2_with fail
          go_ret
          exact ⟨_, rfl, iff_of_false (by decide) (ne_of_get HX.out.1 HX.out.2 (fun e => absurd (HR.out.2 e) (by decide))), HT3.out⟩
      · obtain rfl : n = i := by omega
        have HEQ := Lib.hid (eq_of_get HLL.out HML.out hall)
        have HT := Lib.hid ht
        clear hall ht
        go_wp2_with fail
        go_ret
        exact ⟨_, rfl, iff_of_true rfl HEQ.out, HT.out⟩
  · have hne : ((n : Int) != n') = true := by simp; omega
    have HNE : Hid (l ≠ m) := fun e => hnn (by rw [← HLL.out, ← HML.out, e])
    clear hnn
    go_enter Tryz.func24, Tryz.ntmps24
    go_wp2_with fail
    go_ret
    exact ⟨_, rfl, iff_of_false (by decide) HNE.out, Still.refl _⟩
set_option maxRecDepth 100000 in
set_option maxHeartbeats 2000000 in
theorem equalBk_any {B : Nat} {w : World} {a : Option Addr} {n c : Nat} {l : List M.Bk} {a' : Option Addr} {n' c' : Nat} {m : List M.Bk} (hl : Lies B w 2 (BkIs B w) a n l) (hm : Lies B w 2 (BkIs B w) a' n' m) (hB : B ≤ w.heap.size) (hn : n ≤ maxLen) (hn' : n' ≤ maxLen) (fid : FuncId) (hfid : ∀ args W, (callFunc fid args).run Tryz.prog W = .ok (.enter fid args) W)
    (hf : ∀ (ia : Option Addr) (inn ic : Nat) (ca : Option Addr) (cn cc : Nat) (k : M.Bk) (ia' : Option Addr) (inn' ic' : Nat) (ca' : Option Addr) (cn' cc' : Nat) (k' : M.Bk) (W : World), (BkIs B W) [.slice ia inn ic, .slice ca cn cc] k → (BkIs B W) [.slice ia' inn' ic', .slice ca' cn' cc'] k' → B ≤ W.heap.size → Calls Tryz.prog fid #[.agg #[.slice ia inn ic, .slice ca cn cc], .agg #[.slice ia' inn' ic', .slice ca' cn' cc']] W fun e w' => ∃ r, e = .returned (.bool r) ∧ (r = true ↔ k = k') ∧ Still W w') :
    Calls Tryz.prog 51 #[.slice a n c, .slice a' n' c', .func (.func fid) #[] #[]] w fun e w' => ∃ r, e = .returned (.bool r) ∧ (r = true ↔ l = m) ∧ Still w w' := by
  have HF := Lib.hid hf
  have HFID := Lib.hid hfid
  clear hf hfid
  have HL := Lib.hid hl
  have HM := Lib.hid hm
  have HB := Lib.hid hB
  have HLL := Lib.hid hl.len
  have HML := Lib.hid hm.len
  have hn63 : n ≤ 9223372036854775807 := by unfold maxLen at hn; omega
  have hm63 : n' ≤ 9223372036854775807 := by unfold maxLen at hn'; omega
  clear hl hm hB hn hn'
  by_cases hnn : n = n'
  · subst hnn
    have hnn : ((n : Int) != n) = false := by simp
    go_enter Tryz.func51, Tryz.ntmps51
    go_wp2_with fail
    go_loopw [17] (fun q wr => ∃ i : Nat, q = .int .i64 i ∧ i ≤ n ∧ (∀ j, j < i → l[j]? = m[j]?) ∧ Still w wr) (fun q _ => n - (intOf q).toNat)
    case atStart => exact ⟨0, rfl, by omega, fun j hj => by omega, Still.refl _⟩
    case round =>
      obtain ⟨i, rfl, hi, hall, ht⟩ := hrel
      by_cases hlt : i < n
      · skip
        obtain ⟨b1, off1, k, cs1, rfl, hbB1, hx1, hcl1, hq1, hc1⟩ := HL.out.here hlt
        have hP1 := hq1
        obtain ⟨ia, inn, ic, ca, cn, cc, rfl, hr1⟩ := hq1
        have hbl1 : b1 < wr.heap.size := Nat.lt_of_lt_of_le (Nat.lt_of_lt_of_le hbB1 HB.out) ht.size
        have d10 : wr.cell? ⟨b1, off1 + i * 2, none⟩ = some (.slice ia inn ic) := (Still.cell ht (p := ⟨b1, _, none⟩) (Nat.lt_of_lt_of_le hbB1 HB.out)).trans (by simpa using hc1 0 (by decide))
        have d11 : wr.cell? ⟨b1, off1 + i * 2 + 1, none⟩ = some (.slice ca cn cc) := (Still.cell ht (p := ⟨b1, _, none⟩) (Nat.lt_of_lt_of_le hbB1 HB.out)).trans (by simpa using hc1 1 (by decide))
        clear hcl1 hr1 hc1
        obtain ⟨b2, off2, k', cs2, rfl, hbB2, hx2, hcl2, hq2, hc2⟩ := HM.out.here hlt
        have hP2 := hq2
        obtain ⟨ia', inn', ic', ca', cn', cc', rfl, hr2⟩ := hq2
        have hbl2 : b2 < wr.heap.size := Nat.lt_of_lt_of_le (Nat.lt_of_lt_of_le hbB2 HB.out) ht.size
        have d20 : wr.cell? ⟨b2, off2 + i * 2, none⟩ = some (.slice ia' inn' ic') := (Still.cell ht (p := ⟨b2, _, none⟩) (Nat.lt_of_lt_of_le hbB2 HB.out)).trans (by simpa using hc2 0 (by decide))
        have d21 : wr.cell? ⟨b2, off2 + i * 2 + 1, none⟩ = some (.slice ca' cn' cc') := (Still.cell ht (p := ⟨b2, _, none⟩) (Nat.lt_of_lt_of_le hbB2 HB.out)).trans (by simpa using hc2 1 (by decide))
        clear hcl2 hr2 hc2
        have ht2 : Still w ((wr.alloc (.cells #[.slice ia inn ic, .slice ca cn cc] 85)).alloc (.cells #[.slice ia' inn' ic', .slice ca' cn' cc'] 85)) := (ht.alloc _).alloc _
        have HBL := Lib.hid ((Still.below ht2).mono HB.out)
        have HC := Lib.hid (HF.out ia inn ic ca cn cc k ia' inn' ic' ca' cn' cc' k' _ (BkIs.keep hP1 HBL.out HB.out) (BkIs.keep hP2 HBL.out HB.out) (Nat.le_trans HB.out ht2.size))
        have HT := Lib.hid ht2
        have HALL := Lib.hid hall
        have HX := Lib.hid (And.intro hx1 hx2)
        have hfid := HFID.out
        clear hx1 hx2 hP1 hP2 ht ht2 hall
        go_wp2_with fail
        refine HC.out.mono ?_; rintro e w3 ⟨r, rfl, hr, t3⟩
        have HT3 := Lib.hid (HT.out.trans t3)
        have HR := Lib.hid hr
        clear t3 hr hfid
        cases r with
        | true =>
          go_wp2_with fail
          go_roundw
          case rel => exact ⟨i + 1, by go_num, by omega, fun j hj => by
            by_cases hji : j = i
            · subst hji; rw [HX.out.1, HX.out.2, HR.out.1 (by trivial)]
            · exact HALL.out j (by omega), HT3.out⟩
          case measure => simp [intOf]; omega
        | false =>
          go_wp2_with fail
          go_ret
          exact ⟨_, rfl, iff_of_false (by decide) (ne_of_get HX.out.1 HX.out.2 (fun e => absurd (HR.out.2 e) (by decide))), HT3.out⟩
      · obtain rfl : n = i := by omega
        have HEQ := Lib.hid (eq_of_get HLL.out HML.out hall)
        have HT := Lib.hid ht
        clear hall ht
        go_wp2_with fail
        go_ret
        exact ⟨_, rfl, iff_of_true rfl HEQ.out, HT.out⟩
  · have hne : ((n : Int) != n') = true := by simp; omega
    have HNE : Hid (l ≠ m) := fun e => hnn (by rw [← HLL.out, ← HML.out, e])
    clear hnn
    go_enter Tryz.func51, Tryz.ntmps51
    go_wp2_with fail
    go_ret
    exact ⟨_, rfl, iff_of_false (by decide) HNE.out, Still.refl _⟩
set_option maxRecDepth 100000 in
set_option maxHeartbeats 2000000 in
theorem equalIns_any {B : Nat} {w : World} {a : Option Addr} {n c : Nat} {l : List M.Ins} {a' : Option Addr} {n' c' : Nat} {m : List M.Ins} (hl : Lies B w 9 (InsIs B w) a n l) (hm : Lies B w 9 (InsIs B w) a' n' m) (hB : B ≤ w.heap.size) (hn : n ≤ maxLen) (hn' : n' ≤ maxLen) (fid : FuncId) (hfid : ∀ args W, (callFunc fid args).run Tryz.prog W = .ok (.enter fid args) W)
    (hf : ∀ (la : Option Addr) (ln lc : Nat) (ma : Option Addr) (mn mc : Nat) (va : Option Addr) (vn vc : Nat) (x : M.Ins) (la' : Option Addr) (ln' lc' : Nat) (ma' : Option Addr) (mn' mc' : Nat) (va' : Option Addr) (vn' vc' : Nat) (x' : M.Ins) (W : World), (InsIs B W) [.int .i64 x.op, .int .i64 x.d, .int .i64 x.a, .int .i64 x.b, .int .i64 x.c, .int .i64 x.n, .slice la ln lc, .slice ma mn mc, .slice va vn vc] x → (InsIs B W) [.int .i64 x'.op, .int .i64 x'.d, .int .i64 x'.a, .int .i64 x'.b, .int .i64 x'.c, .int .i64 x'.n, .slice la' ln' lc', .slice ma' mn' mc', .slice va' vn' vc'] x' → B ≤ W.heap.size → Calls Tryz.prog fid #[.agg #[.int .i64 x.op, .int .i64 x.d, .int .i64 x.a, .int .i64 x.b, .int .i64 x.c, .int .i64 x.n, .slice la ln lc, .slice ma mn mc, .slice va vn vc], .agg #[.int .i64 x'.op, .int .i64 x'.d, .int .i64 x'.a, .int .i64 x'.b, .int .i64 x'.c, .int .i64 x'.n, .slice la' ln' lc', .slice ma' mn' mc', .slice va' vn' vc']] W fun e w' => ∃ r, e = .returned (.bool r) ∧ (r = true ↔ x = x') ∧ Still W w') :
    Calls Tryz.prog 77 #[.slice a n c, .slice a' n' c', .func (.func fid) #[] #[]] w fun e w' => ∃ r, e = .returned (.bool r) ∧ (r = true ↔ l = m) ∧ Still w w' := by
  have HF := Lib.hid hf
  have HFID := Lib.hid hfid
  clear hf hfid
  have HL := Lib.hid hl
  have HM := Lib.hid hm
  have HB := Lib.hid hB
  have HLL := Lib.hid hl.len
  have HML := Lib.hid hm.len
  have hn63 : n ≤ 9223372036854775807 := by unfold maxLen at hn; omega
  have hm63 : n' ≤ 9223372036854775807 := by unfold maxLen at hn'; omega
  clear hl hm hB hn hn'
  by_cases hnn : n = n'
  · subst hnn
    have hnn : ((n : Int) != n) = false := by simp
    go_enter Tryz.func77, Tryz.ntmps77
    go_wp2_with fail
    go_loopw [17] (fun q wr => ∃ i : Nat, q = .int .i64 i ∧ i ≤ n ∧ (∀ j, j < i → l[j]? = m[j]?) ∧ Still w wr) (fun q _ => n - (intOf q).toNat)
    case atStart => exact ⟨0, rfl, by omega, fun j hj => by omega, Still.refl _⟩
    case round =>
      obtain ⟨i, rfl, hi, hall, ht⟩ := hrel
      by_cases hlt : i < n
      · skip
        obtain ⟨b1, off1, x, cs1, rfl, hbB1, hx1, hcl1, hq1, hc1⟩ := HL.out.here hlt
        have hP1 := hq1
        obtain ⟨la, ln, lc, ma, mn, mc, va, vn, vc, rfl, hr1⟩ := hq1
        have hbl1 : b1 < wr.heap.size := Nat.lt_of_lt_of_le (Nat.lt_of_lt_of_le hbB1 HB.out) ht.size
        have d10 : wr.cell? ⟨b1, off1 + i * 9, none⟩ = some (.int .i64 x.op) := (Still.cell ht (p := ⟨b1, _, none⟩) (Nat.lt_of_lt_of_le hbB1 HB.out)).trans (by simpa using hc1 0 (by decide))
        have d11 : wr.cell? ⟨b1, off1 + i * 9 + 1, none⟩ = some (.int .i64 x.d) := (Still.cell ht (p := ⟨b1, _, none⟩) (Nat.lt_of_lt_of_le hbB1 HB.out)).trans (by simpa using hc1 1 (by decide))
        have d12 : wr.cell? ⟨b1, off1 + i * 9 + 2, none⟩ = some (.int .i64 x.a) := (Still.cell ht (p := ⟨b1, _, none⟩) (Nat.lt_of_lt_of_le hbB1 HB.out)).trans (by simpa using hc1 2 (by decide))
        have d13 : wr.cell? ⟨b1, off1 + i * 9 + 3, none⟩ = some (.int .i64 x.b) := (Still.cell ht (p := ⟨b1, _, none⟩) (Nat.lt_of_lt_of_le hbB1 HB.out)).trans (by simpa using hc1 3 (by decide))
        have d14 : wr.cell? ⟨b1, off1 + i * 9 + 4, none⟩ = some (.int .i64 x.c) := (Still.cell ht (p := ⟨b1, _, none⟩) (Nat.lt_of_lt_of_le hbB1 HB.out)).trans (by simpa using hc1 4 (by decide))
        have d15 : wr.cell? ⟨b1, off1 + i * 9 + 5, none⟩ = some (.int .i64 x.n) := (Still.cell ht (p := ⟨b1, _, none⟩) (Nat.lt_of_lt_of_le hbB1 HB.out)).trans (by simpa using hc1 5 (by decide))
        have d16 : wr.cell? ⟨b1, off1 + i * 9 + 6, none⟩ = some (.slice la ln lc) := (Still.cell ht (p := ⟨b1, _, none⟩) (Nat.lt_of_lt_of_le hbB1 HB.out)).trans (by simpa using hc1 6 (by decide))
        have d17 : wr.cell? ⟨b1, off1 + i * 9 + 7, none⟩ = some (.slice ma mn mc) := (Still.cell ht (p := ⟨b1, _, none⟩) (Nat.lt_of_lt_of_le hbB1 HB.out)).trans (by simpa using hc1 7 (by decide))
        have d18 : wr.cell? ⟨b1, off1 + i * 9 + 8, none⟩ = some (.slice va vn vc) := (Still.cell ht (p := ⟨b1, _, none⟩) (Nat.lt_of_lt_of_le hbB1 HB.out)).trans (by simpa using hc1 8 (by decide))
        clear hcl1 hr1 hc1
        obtain ⟨b2, off2, x', cs2, rfl, hbB2, hx2, hcl2, hq2, hc2⟩ := HM.out.here hlt
        have hP2 := hq2
        obtain ⟨la', ln', lc', ma', mn', mc', va', vn', vc', rfl, hr2⟩ := hq2
        have hbl2 : b2 < wr.heap.size := Nat.lt_of_lt_of_le (Nat.lt_of_lt_of_le hbB2 HB.out) ht.size
        have d20 : wr.cell? ⟨b2, off2 + i * 9, none⟩ = some (.int .i64 x'.op) := (Still.cell ht (p := ⟨b2, _, none⟩) (Nat.lt_of_lt_of_le hbB2 HB.out)).trans (by simpa using hc2 0 (by decide))
        have d21 : wr.cell? ⟨b2, off2 + i * 9 + 1, none⟩ = some (.int .i64 x'.d) := (Still.cell ht (p := ⟨b2, _, none⟩) (Nat.lt_of_lt_of_le hbB2 HB.out)).trans (by simpa using hc2 1 (by decide))
        have d22 : wr.cell? ⟨b2, off2 + i * 9 + 2, none⟩ = some (.int .i64 x'.a) := (Still.cell ht (p := ⟨b2, _, none⟩) (Nat.lt_of_lt_of_le hbB2 HB.out)).trans (by simpa using hc2 2 (by decide))
        have d23 : wr.cell? ⟨b2, off2 + i * 9 + 3, none⟩ = some (.int .i64 x'.b) := (Still.cell ht (p := ⟨b2, _, none⟩) (Nat.lt_of_lt_of_le hbB2 HB.out)).trans (by simpa using hc2 3 (by decide))
        have d24 : wr.cell? ⟨b2, off2 + i * 9 + 4, none⟩ = some (.int .i64 x'.c) := (Still.cell ht (p := ⟨b2, _, none⟩) (Nat.lt_of_lt_of_le hbB2 HB.out)).trans (by simpa using hc2 4 (by decide))
        have d25 : wr.cell? ⟨b2, off2 + i * 9 + 5, none⟩ = some (.int .i64 x'.n) := (Still.cell ht (p := ⟨b2, _, none⟩) (Nat.lt_of_lt_of_le hbB2 HB.out)).trans (by simpa using hc2 5 (by decide))
        have d26 : wr.cell? ⟨b2, off2 + i * 9 + 6, none⟩ = some (.slice la' ln' lc') := (Still.cell ht (p := ⟨b2, _, none⟩) (Nat.lt_of_lt_of_le hbB2 HB.out)).trans (by simpa using hc2 6 (by decide))
        have d27 : wr.cell? ⟨b2, off2 + i * 9 + 7, none⟩ = some (.slice ma' mn' mc') := (Still.cell ht (p := ⟨b2, _, none⟩) (Nat.lt_of_lt_of_le hbB2 HB.out)).trans (by simpa using hc2 7 (by decide))
        have d28 : wr.cell? ⟨b2, off2 + i * 9 + 8, none⟩ = some (.slice va' vn' vc') := (Still.cell ht (p := ⟨b2, _, none⟩) (Nat.lt_of_lt_of_le hbB2 HB.out)).trans (by simpa using hc2 8 (by decide))
        clear hcl2 hr2 hc2
        have ht2 : Still w ((wr.alloc (.cells #[.int .i64 x.op, .int .i64 x.d, .int .i64 x.a, .int .i64 x.b, .int .i64 x.c, .int .i64 x.n, .slice la ln lc, .slice ma mn mc, .slice va vn vc] 70)).alloc (.cells #[.int .i64 x'.op, .int .i64 x'.d, .int .i64 x'.a, .int .i64 x'.b, .int .i64 x'.c, .int .i64 x'.n, .slice la' ln' lc', .slice ma' mn' mc', .slice va' vn' vc'] 70)) := (ht.alloc _).alloc _
        have HBL := Lib.hid ((Still.below ht2).mono HB.out)
        have HC := Lib.hid (HF.out la ln lc ma mn mc va vn vc x la' ln' lc' ma' mn' mc' va' vn' vc' x' _ (InsIs.keep hP1 HBL.out HB.out) (InsIs.keep hP2 HBL.out HB.out) (Nat.le_trans HB.out ht2.size))
        have HT := Lib.hid ht2
        have HALL := Lib.hid hall
        have HX := Lib.hid (And.intro hx1 hx2)
        have hfid := HFID.out
        clear hx1 hx2 hP1 hP2 ht ht2 hall
        go_wp2_with fail
        refine HC.out.mono ?_; rintro e w3 ⟨r, rfl, hr, t3⟩
        have HT3 := Lib.hid (HT.out.trans t3)
        have HR := Lib.hid hr
        clear t3 hr hfid
        cases r with
        | true =>
          go_wp2_with fail
          go_roundw
          case rel => exact ⟨i + 1, by go_num, by omega, fun j hj => by
            by_cases hji : j = i
            · subst hji; rw [HX.out.1, HX.out.2, HR.out.1 (by trivial)]
            · exact HALL.out j (by omega), HT3.out⟩
          case measure => simp [intOf]; omega
        | false =>
          go_wp2_with fail
          go_ret
          exact ⟨_, rfl, iff_of_false (by decide) (ne_of_get HX.out.1 HX.out.2 (fun e => absurd (HR.out.2 e) (by decide))), HT3.out⟩
      · obtain rfl : n = i := by omega
        have HEQ := Lib.hid (eq_of_get HLL.out HML.out hall)
        have HT := Lib.hid ht
        clear hall ht
        go_wp2_with fail
        go_ret
        exact ⟨_, rfl, iff_of_true rfl HEQ.out, HT.out⟩
  · have hne : ((n : Int) != n') = true := by simp; omega
    have HNE : Hid (l ≠ m) := fun e => hnn (by rw [← HLL.out, ← HML.out, e])
    clear hnn
    go_enter Tryz.func77, Tryz.ntmps77
    go_wp2_with fail
    go_ret
    exact ⟨_, rfl, iff_of_false (by decide) HNE.out, Still.refl _⟩
end Go.Proofs.YthlifflapgccbaaGreat
/- code.Same of what lies in memory. -/
namespace Go.Proofs.YthlifflapgccbaaGreat
set_option linter.unusedVariables false
set_option linter.unusedSimpArgs false
open Go.ChangeShapes Go.WideShapes Go.ChangeAt Go.RowKit
open M (W)
theorem Blk.new2' {w : World} {t t' : TypeId} {cs cs' : Array Value} : Blk ((w.alloc (.cells cs t)).alloc (.cells cs' t')) (w.heap.size + 1) t' cs' := by
  have := Blk.new (w.alloc (.cells cs t)) t' cs'
  rwa [show (w.alloc (.cells cs t)).heap.size = w.heap.size + 1 by simp] at this
theorem InsIs.rows {B : Nat} {w : World} {o d a b c n : Int} {la : Option Addr} {ln lc : Nat} {ma : Option Addr} {mn mc : Nat} {va : Option Addr} {vn vc : Nat} {x : M.Ins} (h : InsIs B w [.int .i64 o, .int .i64 d, .int .i64 a, .int .i64 b, .int .i64 c, .int .i64 n, .slice la ln lc, .slice ma mn mc, .slice va vn vc] x) : (Ints B w la ln x.l ∧ ln ≤ maxLen) ∧ (Ints B w ma mn x.m ∧ mn ≤ maxLen) ∧ (Ints B w va vn x.v ∧ vn ≤ maxLen) := by
  obtain ⟨la', ln', lc', ma', mn', mc', va', vn', vc', he, h1, h2, h3, h4, h5, h6, h7⟩ := h
  simp only [List.cons.injEq, Value.slice.injEq, and_true, true_and] at he
  obtain ⟨_, _, _, _, _, _, ⟨rfl, rfl, rfl⟩, ⟨rfl, rfl, rfl⟩, ⟨rfl, rfl, rfl⟩⟩ := he
  exact ⟨⟨h5, h1⟩, ⟨h6, h2⟩, ⟨h7, h3⟩⟩
set_option maxRecDepth 100000 in
set_option maxHeartbeats 4000000 in
theorem sameInstr_any {B : Nat} {w : World} {la : Option Addr} {ln lc : Nat} {ma : Option Addr} {mn mc : Nat} {va : Option Addr} {vn vc : Nat} {x : M.Ins} {la' : Option Addr} {ln' lc' : Nat} {ma' : Option Addr} {mn' mc' : Nat} {va' : Option Addr} {vn' vc' : Nat} {x' : M.Ins} (h1 : (InsIs B w) [.int .i64 x.op, .int .i64 x.d, .int .i64 x.a, .int .i64 x.b, .int .i64 x.c, .int .i64 x.n, .slice la ln lc, .slice ma mn mc, .slice va vn vc] x) (h2 : (InsIs B w) [.int .i64 x'.op, .int .i64 x'.d, .int .i64 x'.a, .int .i64 x'.b, .int .i64 x'.c, .int .i64 x'.n, .slice la' ln' lc', .slice ma' mn' mc', .slice va' vn' vc'] x') (hB : B ≤ w.heap.size) :
    Calls Tryz.prog 78 #[.agg #[.int .i64 x.op, .int .i64 x.d, .int .i64 x.a, .int .i64 x.b, .int .i64 x.c, .int .i64 x.n, .slice la ln lc, .slice ma mn mc, .slice va vn vc], .agg #[.int .i64 x'.op, .int .i64 x'.d, .int .i64 x'.a, .int .i64 x'.b, .int .i64 x'.c, .int .i64 x'.n, .slice la' ln' lc', .slice ma' mn' mc', .slice va' vn' vc']] w fun e w' => ∃ r, e = .returned (.bool r) ∧ (r = true ↔ x = x') ∧ Still w w' := by
  have g1 := h1.rows
  have g2 := h2.rows
  have HC0 := Lib.hid (fun W (hW : Still w W) => have ht : Below B w W := (Still.below hW).mono hB; equalInt_any (c := lc) (c' := lc') (g1.1.1.keep ht hB) (g2.1.1.keep ht hB) (Nat.le_trans hB hW.size) g1.1.2 g2.1.2)
  have HC1 := Lib.hid (fun W (hW : Still w W) => have ht : Below B w W := (Still.below hW).mono hB; equalInt_any (c := mc) (c' := mc') (g1.2.1.1.keep ht hB) (g2.2.1.1.keep ht hB) (Nat.le_trans hB hW.size) g1.2.1.2 g2.2.1.2)
  have HC2 := Lib.hid (fun W (hW : Still w W) => have ht : Below B w W := (Still.below hW).mono hB; equalInt_any (c := vc) (c' := vc') (g1.2.2.1.keep ht hB) (g2.2.2.1.keep ht hB) (Nat.le_trans hB hW.size) g1.2.2.2 g2.2.2.2)
  have HS0 : Hid (Still w ((w.alloc (.cells #[.int .i64 x.op, .int .i64 x.d, .int .i64 x.a, .int .i64 x.b, .int .i64 x.c, .int .i64 x.n, .slice la ln lc, .slice ma mn mc, .slice va vn vc] 70)).alloc (.cells #[.int .i64 x'.op, .int .i64 x'.d, .int .i64 x'.a, .int .i64 x'.b, .int .i64 x'.c, .int .i64 x'.n, .slice la' ln' lc', .slice ma' mn' mc', .slice va' vn' vc'] 70))) := ((Still.refl w).alloc _).alloc _
  have HX0 : Hid (Blk ((w.alloc (.cells #[.int .i64 x.op, .int .i64 x.d, .int .i64 x.a, .int .i64 x.b, .int .i64 x.c, .int .i64 x.n, .slice la ln lc, .slice ma mn mc, .slice va vn vc] 70)).alloc (.cells #[.int .i64 x'.op, .int .i64 x'.d, .int .i64 x'.a, .int .i64 x'.b, .int .i64 x'.c, .int .i64 x'.n, .slice la' ln' lc', .slice ma' mn' mc', .slice va' vn' vc'] 70)) w.heap.size 70 #[.int .i64 x.op, .int .i64 x.d, .int .i64 x.a, .int .i64 x.b, .int .i64 x.c, .int .i64 x.n, .slice la ln lc, .slice ma mn mc, .slice va vn vc]) := (Blk.new w _ _).alloc _
  have HY0 : Hid (Blk ((w.alloc (.cells #[.int .i64 x.op, .int .i64 x.d, .int .i64 x.a, .int .i64 x.b, .int .i64 x.c, .int .i64 x.n, .slice la ln lc, .slice ma mn mc, .slice va vn vc] 70)).alloc (.cells #[.int .i64 x'.op, .int .i64 x'.d, .int .i64 x'.a, .int .i64 x'.b, .int .i64 x'.c, .int .i64 x'.n, .slice la' ln' lc', .slice ma' mn' mc', .slice va' vn' vc'] 70)) (w.heap.size + 1) 70 #[.int .i64 x'.op, .int .i64 x'.d, .int .i64 x'.a, .int .i64 x'.b, .int .i64 x'.c, .int .i64 x'.n, .slice la' ln' lc', .slice ma' mn' mc', .slice va' vn' vc']) := Blk.new2'
  clear g1 g2 h1 h2
  by_cases s0 : x.op = x'.op
  · have f0 : (x.op == x'.op) = true := by simp [s0]
    by_cases s1 : x.d = x'.d
    · have f1 : (x.d == x'.d) = true := by simp [s1]
      by_cases s2 : x.a = x'.a
      · have f2 : (x.a == x'.a) = true := by simp [s2]
        by_cases s3 : x.b = x'.b
        · have f3 : (x.b == x'.b) = true := by simp [s3]
          by_cases s4 : x.c = x'.c
          · have f4 : (x.c == x'.c) = true := by simp [s4]
            by_cases s5 : x.n = x'.n
            · have f5 : (x.n == x'.n) = true := by simp [s5]
              have HSC := Lib.hid (show x.op = x'.op ∧ x.d = x'.d ∧ x.a = x'.a ∧ x.b = x'.b ∧ x.c = x'.c ∧ x.n = x'.n ∧ True from ⟨s0, s1, s2, s3, s4, s5, trivial⟩)
              clear s0 s1 s2 s3 s4 s5
              go_enter Tryz.func78, Tryz.ntmps78
              go_wp2_with fail
              refine (HC0.out _ HS0.out).mono ?_; rintro e w1 ⟨r0, rfl, hr0, t0⟩
              have HS1 := Lib.hid (HS0.out.trans t0)
              have HX1 := Lib.hid (t0.blk HX0.out)
              have HY1 := Lib.hid (t0.blk HY0.out)
              have HR0 := Lib.hid hr0
              clear t0 hr0
              cases r0 with
              | false =>
                have bx0 : w1.cell? ⟨w.heap.size, 0, none⟩ = some (.int .i64 x.op) := HX1.out.cell 0
                have bx1 : w1.cell? ⟨w.heap.size, 1, none⟩ = some (.int .i64 x.d) := HX1.out.cell 1
                have bx2 : w1.cell? ⟨w.heap.size, 2, none⟩ = some (.int .i64 x.a) := HX1.out.cell 2
                have bx3 : w1.cell? ⟨w.heap.size, 3, none⟩ = some (.int .i64 x.b) := HX1.out.cell 3
                have bx4 : w1.cell? ⟨w.heap.size, 4, none⟩ = some (.int .i64 x.c) := HX1.out.cell 4
                have bx5 : w1.cell? ⟨w.heap.size, 5, none⟩ = some (.int .i64 x.n) := HX1.out.cell 5
                have bx6 : w1.cell? ⟨w.heap.size, 6, none⟩ = some (.slice la ln lc) := HX1.out.cell 6
                have bx7 : w1.cell? ⟨w.heap.size, 7, none⟩ = some (.slice ma mn mc) := HX1.out.cell 7
                have bx8 : w1.cell? ⟨w.heap.size, 8, none⟩ = some (.slice va vn vc) := HX1.out.cell 8
                go_wp2_with fail
                go_ret
                exact ⟨_, rfl, iff_of_false (by decide) (fun e => absurd (HR0.out.2 (by rw [e])) (by simp)), HS1.out⟩
              | true =>
                have bx0 : w1.cell? ⟨w.heap.size, 0, none⟩ = some (.int .i64 x.op) := HX1.out.cell 0
                have bx1 : w1.cell? ⟨w.heap.size, 1, none⟩ = some (.int .i64 x.d) := HX1.out.cell 1
                have bx2 : w1.cell? ⟨w.heap.size, 2, none⟩ = some (.int .i64 x.a) := HX1.out.cell 2
                have bx3 : w1.cell? ⟨w.heap.size, 3, none⟩ = some (.int .i64 x.b) := HX1.out.cell 3
                have bx4 : w1.cell? ⟨w.heap.size, 4, none⟩ = some (.int .i64 x.c) := HX1.out.cell 4
                have bx5 : w1.cell? ⟨w.heap.size, 5, none⟩ = some (.int .i64 x.n) := HX1.out.cell 5
                have bx6 : w1.cell? ⟨w.heap.size, 6, none⟩ = some (.slice la ln lc) := HX1.out.cell 6
                have bx7 : w1.cell? ⟨w.heap.size, 7, none⟩ = some (.slice ma mn mc) := HX1.out.cell 7
                have bx8 : w1.cell? ⟨w.heap.size, 8, none⟩ = some (.slice va vn vc) := HX1.out.cell 8
                have by0 : w1.cell? ⟨w.heap.size + 1, 0, none⟩ = some (.int .i64 x'.op) := HY1.out.cell 0
                have by1 : w1.cell? ⟨w.heap.size + 1, 1, none⟩ = some (.int .i64 x'.d) := HY1.out.cell 1
                have by2 : w1.cell? ⟨w.heap.size + 1, 2, none⟩ = some (.int .i64 x'.a) := HY1.out.cell 2
                have by3 : w1.cell? ⟨w.heap.size + 1, 3, none⟩ = some (.int .i64 x'.b) := HY1.out.cell 3
                have by4 : w1.cell? ⟨w.heap.size + 1, 4, none⟩ = some (.int .i64 x'.c) := HY1.out.cell 4
                have by5 : w1.cell? ⟨w.heap.size + 1, 5, none⟩ = some (.int .i64 x'.n) := HY1.out.cell 5
                have by6 : w1.cell? ⟨w.heap.size + 1, 6, none⟩ = some (.slice la' ln' lc') := HY1.out.cell 6
                have by7 : w1.cell? ⟨w.heap.size + 1, 7, none⟩ = some (.slice ma' mn' mc') := HY1.out.cell 7
                have by8 : w1.cell? ⟨w.heap.size + 1, 8, none⟩ = some (.slice va' vn' vc') := HY1.out.cell 8
                have blx : w.heap.size < w1.heap.size := HX1.out.lt
                have bly : w.heap.size + 1 < w1.heap.size := HY1.out.lt
                go_wp2_with fail
                clear blx bly bx0 by0 bx1 by1 bx2 by2 bx3 by3 bx4 by4 bx5 by5 bx6 by6 bx7 by7 bx8 by8
                refine (HC1.out _ HS1.out).mono ?_; rintro e w2 ⟨r1, rfl, hr1, t1⟩
                have HS2 := Lib.hid (HS1.out.trans t1)
                have HX2 := Lib.hid (t1.blk HX1.out)
                have HY2 := Lib.hid (t1.blk HY1.out)
                have HR1 := Lib.hid hr1
                clear t1 hr1
                cases r1 with
                | false =>
                  have bx0 : w2.cell? ⟨w.heap.size, 0, none⟩ = some (.int .i64 x.op) := HX2.out.cell 0
                  have bx1 : w2.cell? ⟨w.heap.size, 1, none⟩ = some (.int .i64 x.d) := HX2.out.cell 1
                  have bx2 : w2.cell? ⟨w.heap.size, 2, none⟩ = some (.int .i64 x.a) := HX2.out.cell 2
                  have bx3 : w2.cell? ⟨w.heap.size, 3, none⟩ = some (.int .i64 x.b) := HX2.out.cell 3
                  have bx4 : w2.cell? ⟨w.heap.size, 4, none⟩ = some (.int .i64 x.c) := HX2.out.cell 4
                  have bx5 : w2.cell? ⟨w.heap.size, 5, none⟩ = some (.int .i64 x.n) := HX2.out.cell 5
                  have bx6 : w2.cell? ⟨w.heap.size, 6, none⟩ = some (.slice la ln lc) := HX2.out.cell 6
                  have bx7 : w2.cell? ⟨w.heap.size, 7, none⟩ = some (.slice ma mn mc) := HX2.out.cell 7
                  have bx8 : w2.cell? ⟨w.heap.size, 8, none⟩ = some (.slice va vn vc) := HX2.out.cell 8
                  go_wp2_with fail
                  go_ret
                  exact ⟨_, rfl, iff_of_false (by decide) (fun e => absurd (HR1.out.2 (by rw [e])) (by simp)), HS2.out⟩
                | true =>
                  have bx0 : w2.cell? ⟨w.heap.size, 0, none⟩ = some (.int .i64 x.op) := HX2.out.cell 0
                  have bx1 : w2.cell? ⟨w.heap.size, 1, none⟩ = some (.int .i64 x.d) := HX2.out.cell 1
                  have bx2 : w2.cell? ⟨w.heap.size, 2, none⟩ = some (.int .i64 x.a) := HX2.out.cell 2
                  have bx3 : w2.cell? ⟨w.heap.size, 3, none⟩ = some (.int .i64 x.b) := HX2.out.cell 3
                  have bx4 : w2.cell? ⟨w.heap.size, 4, none⟩ = some (.int .i64 x.c) := HX2.out.cell 4
                  have bx5 : w2.cell? ⟨w.heap.size, 5, none⟩ = some (.int .i64 x.n) := HX2.out.cell 5
                  have bx6 : w2.cell? ⟨w.heap.size, 6, none⟩ = some (.slice la ln lc) := HX2.out.cell 6
                  have bx7 : w2.cell? ⟨w.heap.size, 7, none⟩ = some (.slice ma mn mc) := HX2.out.cell 7
                  have bx8 : w2.cell? ⟨w.heap.size, 8, none⟩ = some (.slice va vn vc) := HX2.out.cell 8
                  have by0 : w2.cell? ⟨w.heap.size + 1, 0, none⟩ = some (.int .i64 x'.op) := HY2.out.cell 0
                  have by1 : w2.cell? ⟨w.heap.size + 1, 1, none⟩ = some (.int .i64 x'.d) := HY2.out.cell 1
                  have by2 : w2.cell? ⟨w.heap.size + 1, 2, none⟩ = some (.int .i64 x'.a) := HY2.out.cell 2
                  have by3 : w2.cell? ⟨w.heap.size + 1, 3, none⟩ = some (.int .i64 x'.b) := HY2.out.cell 3
                  have by4 : w2.cell? ⟨w.heap.size + 1, 4, none⟩ = some (.int .i64 x'.c) := HY2.out.cell 4
                  have by5 : w2.cell? ⟨w.heap.size + 1, 5, none⟩ = some (.int .i64 x'.n) := HY2.out.cell 5
                  have by6 : w2.cell? ⟨w.heap.size + 1, 6, none⟩ = some (.slice la' ln' lc') := HY2.out.cell 6
                  have by7 : w2.cell? ⟨w.heap.size + 1, 7, none⟩ = some (.slice ma' mn' mc') := HY2.out.cell 7
                  have by8 : w2.cell? ⟨w.heap.size + 1, 8, none⟩ = some (.slice va' vn' vc') := HY2.out.cell 8
                  have blx : w.heap.size < w2.heap.size := HX2.out.lt
                  have bly : w.heap.size + 1 < w2.heap.size := HY2.out.lt
                  go_wp2_with fail
                  clear blx bly bx0 by0 bx1 by1 bx2 by2 bx3 by3 bx4 by4 bx5 by5 bx6 by6 bx7 by7 bx8 by8
                  refine (HC2.out _ HS2.out).mono ?_; rintro e w3 ⟨r2, rfl, hr2, t2⟩
                  have HS3 := Lib.hid (HS2.out.trans t2)
                  have HX3 := Lib.hid (t2.blk HX2.out)
                  have HY3 := Lib.hid (t2.blk HY2.out)
                  have HR2 := Lib.hid hr2
                  clear t2 hr2
                  go_wp2_with fail
                  go_ret
                  refine ⟨_, rfl, ⟨fun e => ?_, fun e => HR2.out.2 (by rw [e])⟩, HS3.out⟩
                  have q2 := HR2.out.1 e
                  have q0 := HR0.out.1 (by trivial)
                  have q1 := HR1.out.1 (by trivial)
                  have hsc := HSC.out
                  cases x; cases x'; simp_all
            · have f5 : (x.n == x'.n) = false := by
                exact beq_eq_false_iff_ne.2 s5
              have hn5 := Lib.hid s5
              clear s0 s1 s2 s3 s4 s5
              go_enter Tryz.func78, Tryz.ntmps78
              go_wp2_with fail
              go_ret
              exact ⟨_, rfl, iff_of_false (by decide) (fun e => hn5.out (by rw [e])), HS0.out⟩
          · have f4 : (x.c == x'.c) = false := by
              exact beq_eq_false_iff_ne.2 s4
            have hn4 := Lib.hid s4
            clear s0 s1 s2 s3 s4
            go_enter Tryz.func78, Tryz.ntmps78
            go_wp2_with fail
            go_ret
            exact ⟨_, rfl, iff_of_false (by decide) (fun e => hn4.out (by rw [e])), HS0.out⟩
        · have f3 : (x.b == x'.b) = false := by
            exact beq_eq_false_iff_ne.2 s3
          have hn3 := Lib.hid s3
          clear s0 s1 s2 s3
          go_enter Tryz.func78, Tryz.ntmps78
          go_wp2_with fail
          go_ret
          exact ⟨_, rfl, iff_of_false (by decide) (fun e => hn3.out (by rw [e])), HS0.out⟩
      · have f2 : (x.a == x'.a) = false := by
          exact beq_eq_false_iff_ne.2 s2
        have hn2 := Lib.hid s2
        clear s0 s1 s2
        go_enter Tryz.func78, Tryz.ntmps78
        go_wp2_with fail
        go_ret
        exact ⟨_, rfl, iff_of_false (by decide) (fun e => hn2.out (by rw [e])), HS0.out⟩
    · have f1 : (x.d == x'.d) = false := by
        exact beq_eq_false_iff_ne.2 s1
      have hn1 := Lib.hid s1
      clear s0 s1
      go_enter Tryz.func78, Tryz.ntmps78
      go_wp2_with fail
      go_ret
      exact ⟨_, rfl, iff_of_false (by decide) (fun e => hn1.out (by rw [e])), HS0.out⟩
  · have f0 : (x.op == x'.op) = false := by
      exact beq_eq_false_iff_ne.2 s0
    have hn0 := Lib.hid s0
    clear s0
    go_enter Tryz.func78, Tryz.ntmps78
    go_wp2_with fail
    go_ret
    exact ⟨_, rfl, iff_of_false (by decide) (fun e => hn0.out (by rw [e])), HS0.out⟩
set_option maxRecDepth 100000 in
set_option maxHeartbeats 4000000 in
theorem sameBlock_any {B : Nat} {w : World} {ia : Option Addr} {inn ic : Nat} {ca : Option Addr} {cn cc : Nat} {k : M.Bk} {ia' : Option Addr} {inn' ic' : Nat} {ca' : Option Addr} {cn' cc' : Nat} {k' : M.Bk} (h1 : (BkIs B w) [.slice ia inn ic, .slice ca cn cc] k) (h2 : (BkIs B w) [.slice ia' inn' ic', .slice ca' cn' cc'] k') (hB : B ≤ w.heap.size) :
    Calls Tryz.prog 52 #[.agg #[.slice ia inn ic, .slice ca cn cc], .agg #[.slice ia' inn' ic', .slice ca' cn' cc']] w fun e w' => ∃ r, e = .returned (.bool r) ∧ (r = true ↔ k = k') ∧ Still w w' := by
  have g1 := h1.at_len
  have g2 := h2.at_len
  have HC0 := Lib.hid (fun W (hW : Still w W) => have ht : Below B w W := (Still.below hW).mono hB; equalInt_any (c := ic) (c' := ic') (g1.2.1.keep ht hB) (g2.2.1.keep ht hB) (Nat.le_trans hB hW.size) g1.2.2.1 g2.2.2.1)
  have HC1 := Lib.hid (fun W (hW : Still w W) => have ht : Below B w W := (Still.below hW).mono hB; equalIns_any (c := cc) (c' := cc') (Lies.keep g1.2.2.2.2.1 ht hB (fun _ _ _ h => h.keep ht hB)) (Lies.keep g2.2.2.2.2.1 ht hB (fun _ _ _ h => h.keep ht hB)) (Nat.le_trans hB hW.size) g1.2.2.2.2.2 g2.2.2.2.2.2 78 (enters_of Tryz.func78 (by kernel_rfl) rfl) (fun _ _ _ _ _ _ _ _ _ _ _ _ _ _ _ _ _ _ _ _ W p q b => sameInstr_any p q b))
  have HS0 : Hid (Still w ((w.alloc (.cells #[.slice ia inn ic, .slice ca cn cc] 85)).alloc (.cells #[.slice ia' inn' ic', .slice ca' cn' cc'] 85))) := ((Still.refl w).alloc _).alloc _
  have HX0 : Hid (Blk ((w.alloc (.cells #[.slice ia inn ic, .slice ca cn cc] 85)).alloc (.cells #[.slice ia' inn' ic', .slice ca' cn' cc'] 85)) w.heap.size 85 #[.slice ia inn ic, .slice ca cn cc]) := (Blk.new w _ _).alloc _
  have HY0 : Hid (Blk ((w.alloc (.cells #[.slice ia inn ic, .slice ca cn cc] 85)).alloc (.cells #[.slice ia' inn' ic', .slice ca' cn' cc'] 85)) (w.heap.size + 1) 85 #[.slice ia' inn' ic', .slice ca' cn' cc']) := Blk.new2'
  clear g1 g2 h1 h2
  go_enter Tryz.func52, Tryz.ntmps52
  go_wp2_with fail
  refine (HC0.out _ HS0.out).mono ?_; rintro e w1 ⟨r0, rfl, hr0, t0⟩
  have HS1 := Lib.hid (HS0.out.trans t0)
  have HX1 := Lib.hid (t0.blk HX0.out)
  have HY1 := Lib.hid (t0.blk HY0.out)
  have HR0 := Lib.hid hr0
  clear t0 hr0
  cases r0 with
  | false =>
    have bx0 : w1.cell? ⟨w.heap.size, 0, none⟩ = some (.slice ia inn ic) := HX1.out.cell 0
    have bx1 : w1.cell? ⟨w.heap.size, 1, none⟩ = some (.slice ca cn cc) := HX1.out.cell 1
    go_wp2_with fail
    go_ret
    exact ⟨_, rfl, iff_of_false (by decide) (fun e => absurd (HR0.out.2 (by rw [e])) (by simp)), HS1.out⟩
  | true =>
    have bx0 : w1.cell? ⟨w.heap.size, 0, none⟩ = some (.slice ia inn ic) := HX1.out.cell 0
    have bx1 : w1.cell? ⟨w.heap.size, 1, none⟩ = some (.slice ca cn cc) := HX1.out.cell 1
    have by0 : w1.cell? ⟨w.heap.size + 1, 0, none⟩ = some (.slice ia' inn' ic') := HY1.out.cell 0
    have by1 : w1.cell? ⟨w.heap.size + 1, 1, none⟩ = some (.slice ca' cn' cc') := HY1.out.cell 1
    have blx : w.heap.size < w1.heap.size := HX1.out.lt
    have bly : w.heap.size + 1 < w1.heap.size := HY1.out.lt
    go_wp2_with fail
    clear blx bly bx0 by0 bx1 by1
    refine (HC1.out _ HS1.out).mono ?_; rintro e w2 ⟨r1, rfl, hr1, t1⟩
    have HS2 := Lib.hid (HS1.out.trans t1)
    have HX2 := Lib.hid (t1.blk HX1.out)
    have HY2 := Lib.hid (t1.blk HY1.out)
    have HR1 := Lib.hid hr1
    clear t1 hr1
    go_wp2_with fail
    go_ret
    refine ⟨_, rfl, ⟨fun e => ?_, fun e => HR1.out.2 (by rw [e])⟩, HS2.out⟩
    have q1 := HR1.out.1 e
    have q0 := HR0.out.1 (by trivial)
    cases k; cases k'; simp_all
set_option maxRecDepth 100000 in
set_option maxHeartbeats 4000000 in
theorem sameType_any {B : Nat} {w : World} {ta2 : Option Addr} {tn2 tc2 : Nat} {t : M.Ty} {ta2' : Option Addr} {tn2' tc2' : Nat} {t' : M.Ty} (h1 : (TyIs B w) [.bool t.imm, .slice ta2 tn2 tc2] t) (h2 : (TyIs B w) [.bool t'.imm, .slice ta2' tn2' tc2'] t') (hB : B ≤ w.heap.size) :
    Calls Tryz.prog 20 #[.agg #[.bool t.imm, .slice ta2 tn2 tc2], .agg #[.bool t'.imm, .slice ta2' tn2' tc2']] w fun e w' => ∃ r, e = .returned (.bool r) ∧ (r = true ↔ t = t') ∧ Still w w' := by
  have g1 := h1.at_len
  have g2 := h2.at_len
  have HC0 := Lib.hid (fun W (hW : Still w W) => have ht : Below B w W := (Still.below hW).mono hB; equalInt_any (c := tc2) (c' := tc2') (g1.2.1.keep ht hB) (g2.2.1.keep ht hB) (Nat.le_trans hB hW.size) g1.2.2 g2.2.2)
  have HS0 : Hid (Still w ((w.alloc (.cells #[.bool t.imm, .slice ta2 tn2 tc2] 49)).alloc (.cells #[.bool t'.imm, .slice ta2' tn2' tc2'] 49))) := ((Still.refl w).alloc _).alloc _
  have HX0 : Hid (Blk ((w.alloc (.cells #[.bool t.imm, .slice ta2 tn2 tc2] 49)).alloc (.cells #[.bool t'.imm, .slice ta2' tn2' tc2'] 49)) w.heap.size 49 #[.bool t.imm, .slice ta2 tn2 tc2]) := (Blk.new w _ _).alloc _
  have HY0 : Hid (Blk ((w.alloc (.cells #[.bool t.imm, .slice ta2 tn2 tc2] 49)).alloc (.cells #[.bool t'.imm, .slice ta2' tn2' tc2'] 49)) (w.heap.size + 1) 49 #[.bool t'.imm, .slice ta2' tn2' tc2']) := Blk.new2'
  clear g1 g2 h1 h2
  by_cases s0 : t.imm = t'.imm
  · have f0 : (t.imm == t'.imm) = true := by simp [s0]
    have HSC := Lib.hid (show t.imm = t'.imm ∧ True from ⟨s0, trivial⟩)
    clear s0
    go_enter Tryz.func20, Tryz.ntmps20
    go_wp2_with fail
    refine (HC0.out _ HS0.out).mono ?_; rintro e w1 ⟨r0, rfl, hr0, t0⟩
    have HS1 := Lib.hid (HS0.out.trans t0)
    have HX1 := Lib.hid (t0.blk HX0.out)
    have HY1 := Lib.hid (t0.blk HY0.out)
    have HR0 := Lib.hid hr0
    clear t0 hr0
    go_wp2_with fail
    go_ret
    refine ⟨_, rfl, ⟨fun e => ?_, fun e => HR0.out.2 (by rw [e])⟩, HS1.out⟩
    have q0 := HR0.out.1 e
    have hsc := HSC.out
    cases t; cases t'; simp_all
  · have f0 : (t.imm == t'.imm) = false := by
      exact beq_eq_false_iff_ne.2 s0
    have hn0 := Lib.hid s0
    clear s0
    go_enter Tryz.func20, Tryz.ntmps20
    go_wp2_with fail
    go_ret
    exact ⟨_, rfl, iff_of_false (by decide) (fun e => hn0.out (by rw [e])), HS0.out⟩
set_option maxRecDepth 100000 in
set_option maxHeartbeats 4000000 in
theorem sameShape_any {B : Nat} {w : World} {sa2 : Option Addr} {sn2 sc2 : Nat} {s : M.Sh} {sa2' : Option Addr} {sn2' sc2' : Nat} {s' : M.Sh} (h1 : (ShIs B w) [.int .i64 s.kind, .slice sa2 sn2 sc2, .string s.name] s) (h2 : (ShIs B w) [.int .i64 s'.kind, .slice sa2' sn2' sc2', .string s'.name] s') (hB : B ≤ w.heap.size) :
    Calls Tryz.prog 22 #[.agg #[.int .i64 s.kind, .slice sa2 sn2 sc2, .string s.name], .agg #[.int .i64 s'.kind, .slice sa2' sn2' sc2', .string s'.name]] w fun e w' => ∃ r, e = .returned (.bool r) ∧ (r = true ↔ s = s') ∧ Still w w' := by
  have g1 := h1.at_len
  have g2 := h2.at_len
  have HC0 := Lib.hid (fun W (hW : Still w W) => have ht : Below B w W := (Still.below hW).mono hB; equalInt_any (c := sc2) (c' := sc2') (g1.2.1.keep ht hB) (g2.2.1.keep ht hB) (Nat.le_trans hB hW.size) g1.2.2 g2.2.2)
  have HS0 : Hid (Still w ((w.alloc (.cells #[.int .i64 s.kind, .slice sa2 sn2 sc2, .string s.name] 51)).alloc (.cells #[.int .i64 s'.kind, .slice sa2' sn2' sc2', .string s'.name] 51))) := ((Still.refl w).alloc _).alloc _
  have HX0 : Hid (Blk ((w.alloc (.cells #[.int .i64 s.kind, .slice sa2 sn2 sc2, .string s.name] 51)).alloc (.cells #[.int .i64 s'.kind, .slice sa2' sn2' sc2', .string s'.name] 51)) w.heap.size 51 #[.int .i64 s.kind, .slice sa2 sn2 sc2, .string s.name]) := (Blk.new w _ _).alloc _
  have HY0 : Hid (Blk ((w.alloc (.cells #[.int .i64 s.kind, .slice sa2 sn2 sc2, .string s.name] 51)).alloc (.cells #[.int .i64 s'.kind, .slice sa2' sn2' sc2', .string s'.name] 51)) (w.heap.size + 1) 51 #[.int .i64 s'.kind, .slice sa2' sn2' sc2', .string s'.name]) := Blk.new2'
  clear g1 g2 h1 h2
  by_cases s0 : s.kind = s'.kind
  · have f0 : (s.kind == s'.kind) = true := by simp [s0]
    by_cases s1 : s.name = s'.name
    · have f1 : (s.name.toList == s'.name.toList) = true := by simp [s1]
      have HSC := Lib.hid (show s.kind = s'.kind ∧ s.name = s'.name ∧ True from ⟨s0, s1, trivial⟩)
      clear s0 s1
      go_enter Tryz.func22, Tryz.ntmps22
      go_wp2_with fail
      refine (HC0.out _ HS0.out).mono ?_; rintro e w1 ⟨r0, rfl, hr0, t0⟩
      have HS1 := Lib.hid (HS0.out.trans t0)
      have HX1 := Lib.hid (t0.blk HX0.out)
      have HY1 := Lib.hid (t0.blk HY0.out)
      have HR0 := Lib.hid hr0
      clear t0 hr0
      go_wp2_with fail
      go_ret
      refine ⟨_, rfl, ⟨fun e => ?_, fun e => HR0.out.2 (by rw [e])⟩, HS1.out⟩
      have q0 := HR0.out.1 e
      have hsc := HSC.out
      cases s; cases s'; simp_all
    · have f1 : (s.name.toList == s'.name.toList) = false := by
        have := str_beq s.name s'.name
        cases hq : (s.name.toList == s'.name.toList) <;> simp_all
      have hn1 := Lib.hid s1
      clear s0 s1
      go_enter Tryz.func22, Tryz.ntmps22
      go_wp2_with fail
      go_ret
      exact ⟨_, rfl, iff_of_false (by decide) (fun e => hn1.out (by rw [e])), HS0.out⟩
  · have f0 : (s.kind == s'.kind) = false := by
      exact beq_eq_false_iff_ne.2 s0
    have hn0 := Lib.hid s0
    clear s0
    go_enter Tryz.func22, Tryz.ntmps22
    go_wp2_with fail
    go_ret
    exact ⟨_, rfl, iff_of_false (by decide) (fun e => hn0.out (by rw [e])), HS0.out⟩
set_option maxRecDepth 100000 in
set_option maxHeartbeats 4000000 in
theorem sameFunc_any {B : Nat} {w : World} {pa : Option Addr} {pn pc : Nat} {ba : Option Addr} {bn bc : Nat} {f : M.Fn} {pa' : Option Addr} {pn' pc' : Nat} {ba' : Option Addr} {bn' bc' : Nat} {f' : M.Fn} (h1 : (FnIs B w) [.slice pa pn pc, .int .i64 f.result, .int .i64 f.slots, .slice ba bn bc] f) (h2 : (FnIs B w) [.slice pa' pn' pc', .int .i64 f'.result, .int .i64 f'.slots, .slice ba' bn' bc'] f') (hB : B ≤ w.heap.size) :
    Calls Tryz.prog 25 #[.agg #[.slice pa pn pc, .int .i64 f.result, .int .i64 f.slots, .slice ba bn bc], .agg #[.slice pa' pn' pc', .int .i64 f'.result, .int .i64 f'.slots, .slice ba' bn' bc']] w fun e w' => ∃ r, e = .returned (.bool r) ∧ (r = true ↔ f = f') ∧ Still w w' := by
  have g1 := h1.at_len
  have g2 := h2.at_len
  have HC0 := Lib.hid (fun W (hW : Still w W) => have ht : Below B w W := (Still.below hW).mono hB; equalInt_any (c := pc) (c' := pc') (g1.2.1.keep ht hB) (g2.2.1.keep ht hB) (Nat.le_trans hB hW.size) g1.2.2.1 g2.2.2.1)
  have HC1 := Lib.hid (fun W (hW : Still w W) => have ht : Below B w W := (Still.below hW).mono hB; equalBk_any (c := bc) (c' := bc') (Lies.keep g1.2.2.2.2.1 ht hB (fun _ _ _ h => h.keep ht hB)) (Lies.keep g2.2.2.2.2.1 ht hB (fun _ _ _ h => h.keep ht hB)) (Nat.le_trans hB hW.size) g1.2.2.2.2.2.1 g2.2.2.2.2.2.1 52 (enters_of Tryz.func52 (by kernel_rfl) rfl) (fun _ _ _ _ _ _ _ _ _ _ _ _ _ _ W p q b => sameBlock_any p q b))
  have HS0 : Hid (Still w ((w.alloc (.cells #[.slice pa pn pc, .int .i64 f.result, .int .i64 f.slots, .slice ba bn bc] 55)).alloc (.cells #[.slice pa' pn' pc', .int .i64 f'.result, .int .i64 f'.slots, .slice ba' bn' bc'] 55))) := ((Still.refl w).alloc _).alloc _
  have HX0 : Hid (Blk ((w.alloc (.cells #[.slice pa pn pc, .int .i64 f.result, .int .i64 f.slots, .slice ba bn bc] 55)).alloc (.cells #[.slice pa' pn' pc', .int .i64 f'.result, .int .i64 f'.slots, .slice ba' bn' bc'] 55)) w.heap.size 55 #[.slice pa pn pc, .int .i64 f.result, .int .i64 f.slots, .slice ba bn bc]) := (Blk.new w _ _).alloc _
  have HY0 : Hid (Blk ((w.alloc (.cells #[.slice pa pn pc, .int .i64 f.result, .int .i64 f.slots, .slice ba bn bc] 55)).alloc (.cells #[.slice pa' pn' pc', .int .i64 f'.result, .int .i64 f'.slots, .slice ba' bn' bc'] 55)) (w.heap.size + 1) 55 #[.slice pa' pn' pc', .int .i64 f'.result, .int .i64 f'.slots, .slice ba' bn' bc']) := Blk.new2'
  clear g1 g2 h1 h2
  by_cases s0 : f.result = f'.result
  · have f0 : (f.result == f'.result) = true := by simp [s0]
    by_cases s1 : f.slots = f'.slots
    · have f1 : (f.slots == f'.slots) = true := by simp [s1]
      have HSC := Lib.hid (show f.result = f'.result ∧ f.slots = f'.slots ∧ True from ⟨s0, s1, trivial⟩)
      clear s0 s1
      go_enter Tryz.func25, Tryz.ntmps25
      go_wp2_with fail
      refine (HC0.out _ HS0.out).mono ?_; rintro e w1 ⟨r0, rfl, hr0, t0⟩
      have HS1 := Lib.hid (HS0.out.trans t0)
      have HX1 := Lib.hid (t0.blk HX0.out)
      have HY1 := Lib.hid (t0.blk HY0.out)
      have HR0 := Lib.hid hr0
      clear t0 hr0
      cases r0 with
      | false =>
        have bx0 : w1.cell? ⟨w.heap.size, 0, none⟩ = some (.slice pa pn pc) := HX1.out.cell 0
        have bx1 : w1.cell? ⟨w.heap.size, 1, none⟩ = some (.int .i64 f.result) := HX1.out.cell 1
        have bx2 : w1.cell? ⟨w.heap.size, 2, none⟩ = some (.int .i64 f.slots) := HX1.out.cell 2
        have bx3 : w1.cell? ⟨w.heap.size, 3, none⟩ = some (.slice ba bn bc) := HX1.out.cell 3
        go_wp2_with fail
        go_ret
        exact ⟨_, rfl, iff_of_false (by decide) (fun e => absurd (HR0.out.2 (by rw [e])) (by simp)), HS1.out⟩
      | true =>
        have bx0 : w1.cell? ⟨w.heap.size, 0, none⟩ = some (.slice pa pn pc) := HX1.out.cell 0
        have bx1 : w1.cell? ⟨w.heap.size, 1, none⟩ = some (.int .i64 f.result) := HX1.out.cell 1
        have bx2 : w1.cell? ⟨w.heap.size, 2, none⟩ = some (.int .i64 f.slots) := HX1.out.cell 2
        have bx3 : w1.cell? ⟨w.heap.size, 3, none⟩ = some (.slice ba bn bc) := HX1.out.cell 3
        have by0 : w1.cell? ⟨w.heap.size + 1, 0, none⟩ = some (.slice pa' pn' pc') := HY1.out.cell 0
        have by1 : w1.cell? ⟨w.heap.size + 1, 1, none⟩ = some (.int .i64 f'.result) := HY1.out.cell 1
        have by2 : w1.cell? ⟨w.heap.size + 1, 2, none⟩ = some (.int .i64 f'.slots) := HY1.out.cell 2
        have by3 : w1.cell? ⟨w.heap.size + 1, 3, none⟩ = some (.slice ba' bn' bc') := HY1.out.cell 3
        have blx : w.heap.size < w1.heap.size := HX1.out.lt
        have bly : w.heap.size + 1 < w1.heap.size := HY1.out.lt
        go_wp2_with fail
        clear blx bly bx0 by0 bx1 by1 bx2 by2 bx3 by3
        refine (HC1.out _ HS1.out).mono ?_; rintro e w2 ⟨r1, rfl, hr1, t1⟩
        have HS2 := Lib.hid (HS1.out.trans t1)
        have HX2 := Lib.hid (t1.blk HX1.out)
        have HY2 := Lib.hid (t1.blk HY1.out)
        have HR1 := Lib.hid hr1
        clear t1 hr1
        go_wp2_with fail
        go_ret
        refine ⟨_, rfl, ⟨fun e => ?_, fun e => HR1.out.2 (by rw [e])⟩, HS2.out⟩
        have q1 := HR1.out.1 e
        have q0 := HR0.out.1 (by trivial)
        have hsc := HSC.out
        cases f; cases f'; simp_all
    · have f1 : (f.slots == f'.slots) = false := by
        exact beq_eq_false_iff_ne.2 s1
      have hn1 := Lib.hid s1
      clear s0 s1
      go_enter Tryz.func25, Tryz.ntmps25
      go_wp2_with fail
      go_ret
      exact ⟨_, rfl, iff_of_false (by decide) (fun e => hn1.out (by rw [e])), HS0.out⟩
  · have f0 : (f.result == f'.result) = false := by
      exact beq_eq_false_iff_ne.2 s0
    have hn0 := Lib.hid s0
    clear s0
    go_enter Tryz.func25, Tryz.ntmps25
    go_wp2_with fail
    go_ret
    exact ⟨_, rfl, iff_of_false (by decide) (fun e => hn0.out (by rw [e])), HS0.out⟩
set_option maxRecDepth 100000 in
set_option maxHeartbeats 4000000 in
theorem Same_any {B : Nat} {w : World} {u v : ImgV} {ma mb : M.Img} (h1 : ImgIs B w u ma) (h2 : ImgIs B w v mb) (hB : B ≤ w.heap.size) :
    Calls Tryz.prog 7 #[.agg #[.slice u.ta u.tn u.tc, .slice u.sa u.sn u.sc, .slice u.xa u.xn u.xc, .slice u.na u.nn u.nc, .slice u.fa u.fn u.fc, .int .i64 u.main, .int .i64 u.exn], .agg #[.slice v.ta v.tn v.tc, .slice v.sa v.sn v.sc, .slice v.xa v.xn v.xc, .slice v.na v.nn v.nc, .slice v.fa v.fn v.fc, .int .i64 v.main, .int .i64 v.exn]] w fun e w' => ∃ r, e = .returned (.bool r) ∧ (r = true ↔ ma = mb) ∧ Still w w' := by
  have HC0 := Lib.hid (fun W (hW : Still w W) => have ht : Below B w W := (Still.below hW).mono hB; equalTy_any (c := u.tc) (c' := v.tc) (Lies.keep h1.types ht hB (fun _ _ _ h => h.keep ht hB)) (Lies.keep h2.types ht hB (fun _ _ _ h => h.keep ht hB)) (Nat.le_trans hB hW.size) h1.le.1 h2.le.1 20 (enters_of Tryz.func20 (by kernel_rfl) rfl) (fun _ _ _ _ _ _ _ _ W p q b => sameType_any p q b))
  have HC1 := Lib.hid (fun W (hW : Still w W) => have ht : Below B w W := (Still.below hW).mono hB; equalSh_any (c := u.sc) (c' := v.sc) (Lies.keep h1.shapes ht hB (fun _ _ _ h => h.keep ht hB)) (Lies.keep h2.shapes ht hB (fun _ _ _ h => h.keep ht hB)) (Nat.le_trans hB hW.size) h1.le.2.1 h2.le.2.1 22 (enters_of Tryz.func22 (by kernel_rfl) rfl) (fun _ _ _ _ _ _ _ _ W p q b => sameShape_any p q b))
  have HC2 := Lib.hid (fun W (hW : Still w W) => have ht : Below B w W := (Still.below hW).mono hB; equalTx_any (c := u.xc) (c' := v.xc) (Lies.keep h1.strings ht hB (fun _ _ _ h => h)) (Lies.keep h2.strings ht hB (fun _ _ _ h => h)) (Nat.le_trans hB hW.size) h1.le.2.2.1 h2.le.2.2.1)
  have HC3 := Lib.hid (fun W (hW : Still w W) => have ht : Below B w W := (Still.below hW).mono hB; equalTx_any (c := u.nc) (c' := v.nc) (Lies.keep h1.names ht hB (fun _ _ _ h => h)) (Lies.keep h2.names ht hB (fun _ _ _ h => h)) (Nat.le_trans hB hW.size) h1.le.2.2.2.1 h2.le.2.2.2.1)
  have HC4 := Lib.hid (fun W (hW : Still w W) => have ht : Below B w W := (Still.below hW).mono hB; equalFn_any (c := u.fc) (c' := v.fc) (Lies.keep h1.funcs ht hB (fun _ _ _ h => h.keep ht hB)) (Lies.keep h2.funcs ht hB (fun _ _ _ h => h.keep ht hB)) (Nat.le_trans hB hW.size) h1.le.2.2.2.2 h2.le.2.2.2.2 25 (enters_of Tryz.func25 (by kernel_rfl) rfl) (fun _ _ _ _ _ _ _ _ _ _ _ _ _ _ W p q b => sameFunc_any p q b))
  have HS0 : Hid (Still w ((w.alloc (.cells #[.slice u.ta u.tn u.tc, .slice u.sa u.sn u.sc, .slice u.xa u.xn u.xc, .slice u.na u.nn u.nc, .slice u.fa u.fn u.fc, .int .i64 u.main, .int .i64 u.exn] 28)).alloc (.cells #[.slice v.ta v.tn v.tc, .slice v.sa v.sn v.sc, .slice v.xa v.xn v.xc, .slice v.na v.nn v.nc, .slice v.fa v.fn v.fc, .int .i64 v.main, .int .i64 v.exn] 28))) := ((Still.refl w).alloc _).alloc _
  have HX0 : Hid (Blk ((w.alloc (.cells #[.slice u.ta u.tn u.tc, .slice u.sa u.sn u.sc, .slice u.xa u.xn u.xc, .slice u.na u.nn u.nc, .slice u.fa u.fn u.fc, .int .i64 u.main, .int .i64 u.exn] 28)).alloc (.cells #[.slice v.ta v.tn v.tc, .slice v.sa v.sn v.sc, .slice v.xa v.xn v.xc, .slice v.na v.nn v.nc, .slice v.fa v.fn v.fc, .int .i64 v.main, .int .i64 v.exn] 28)) w.heap.size 28 #[.slice u.ta u.tn u.tc, .slice u.sa u.sn u.sc, .slice u.xa u.xn u.xc, .slice u.na u.nn u.nc, .slice u.fa u.fn u.fc, .int .i64 u.main, .int .i64 u.exn]) := (Blk.new w _ _).alloc _
  have HY0 : Hid (Blk ((w.alloc (.cells #[.slice u.ta u.tn u.tc, .slice u.sa u.sn u.sc, .slice u.xa u.xn u.xc, .slice u.na u.nn u.nc, .slice u.fa u.fn u.fc, .int .i64 u.main, .int .i64 u.exn] 28)).alloc (.cells #[.slice v.ta v.tn v.tc, .slice v.sa v.sn v.sc, .slice v.xa v.xn v.xc, .slice v.na v.nn v.nc, .slice v.fa v.fn v.fc, .int .i64 v.main, .int .i64 v.exn] 28)) (w.heap.size + 1) 28 #[.slice v.ta v.tn v.tc, .slice v.sa v.sn v.sc, .slice v.xa v.xn v.xc, .slice v.na v.nn v.nc, .slice v.fa v.fn v.fc, .int .i64 v.main, .int .i64 v.exn]) := Blk.new2'
  have e1 := h1.main
  have e2 := h1.exn
  have e3 := h2.main
  have e4 := h2.exn
  clear h1 h2
  obtain ⟨ta, tn, tc, sa, sn, sc, xa, xn, xc, na, nn, nc, fa, fn, fc, mi, ei⟩ := u
  obtain ⟨ta', tn', tc', sa', sn', sc', xa', xn', xc', na', nn', nc', fa', fn', fc', mi', ei'⟩ := v
  dsimp only at HC0 HC1 HC2 HC3 HC4 HS0 HX0 HY0 e1 e2 e3 e4 ⊢
  subst e1 e2 e3 e4
  by_cases s0 : ma.main = mb.main
  · have f0 : (ma.main == mb.main) = true := by simp [s0]
    by_cases s1 : ma.exn = mb.exn
    · have f1 : (ma.exn == mb.exn) = true := by simp [s1]
      have HSC := Lib.hid (show ma.main = mb.main ∧ ma.exn = mb.exn ∧ True from ⟨s0, s1, trivial⟩)
      clear s0 s1
      go_enter Tryz.func7, Tryz.ntmps7
      go_wp2_with fail
      refine (HC0.out _ HS0.out).mono ?_; rintro e w1 ⟨r0, rfl, hr0, t0⟩
      have HS1 := Lib.hid (HS0.out.trans t0)
      have HX1 := Lib.hid (t0.blk HX0.out)
      have HY1 := Lib.hid (t0.blk HY0.out)
      have HR0 := Lib.hid hr0
      clear t0 hr0
      cases r0 with
      | false =>
        have bx0 : w1.cell? ⟨w.heap.size, 0, none⟩ = some (.slice ta tn tc) := HX1.out.cell 0
        have bx1 : w1.cell? ⟨w.heap.size, 1, none⟩ = some (.slice sa sn sc) := HX1.out.cell 1
        have bx2 : w1.cell? ⟨w.heap.size, 2, none⟩ = some (.slice xa xn xc) := HX1.out.cell 2
        have bx3 : w1.cell? ⟨w.heap.size, 3, none⟩ = some (.slice na nn nc) := HX1.out.cell 3
        have bx4 : w1.cell? ⟨w.heap.size, 4, none⟩ = some (.slice fa fn fc) := HX1.out.cell 4
        have bx5 : w1.cell? ⟨w.heap.size, 5, none⟩ = some (.int .i64 ma.main) := HX1.out.cell 5
        have bx6 : w1.cell? ⟨w.heap.size, 6, none⟩ = some (.int .i64 ma.exn) := HX1.out.cell 6
        go_wp2_with fail
        go_ret
        exact ⟨_, rfl, iff_of_false (by decide) (fun e => absurd (HR0.out.2 (by rw [e])) (by simp)), HS1.out⟩
      | true =>
        have bx0 : w1.cell? ⟨w.heap.size, 0, none⟩ = some (.slice ta tn tc) := HX1.out.cell 0
        have bx1 : w1.cell? ⟨w.heap.size, 1, none⟩ = some (.slice sa sn sc) := HX1.out.cell 1
        have bx2 : w1.cell? ⟨w.heap.size, 2, none⟩ = some (.slice xa xn xc) := HX1.out.cell 2
        have bx3 : w1.cell? ⟨w.heap.size, 3, none⟩ = some (.slice na nn nc) := HX1.out.cell 3
        have bx4 : w1.cell? ⟨w.heap.size, 4, none⟩ = some (.slice fa fn fc) := HX1.out.cell 4
        have bx5 : w1.cell? ⟨w.heap.size, 5, none⟩ = some (.int .i64 ma.main) := HX1.out.cell 5
        have bx6 : w1.cell? ⟨w.heap.size, 6, none⟩ = some (.int .i64 ma.exn) := HX1.out.cell 6
        have by0 : w1.cell? ⟨w.heap.size + 1, 0, none⟩ = some (.slice ta' tn' tc') := HY1.out.cell 0
        have by1 : w1.cell? ⟨w.heap.size + 1, 1, none⟩ = some (.slice sa' sn' sc') := HY1.out.cell 1
        have by2 : w1.cell? ⟨w.heap.size + 1, 2, none⟩ = some (.slice xa' xn' xc') := HY1.out.cell 2
        have by3 : w1.cell? ⟨w.heap.size + 1, 3, none⟩ = some (.slice na' nn' nc') := HY1.out.cell 3
        have by4 : w1.cell? ⟨w.heap.size + 1, 4, none⟩ = some (.slice fa' fn' fc') := HY1.out.cell 4
        have by5 : w1.cell? ⟨w.heap.size + 1, 5, none⟩ = some (.int .i64 mb.main) := HY1.out.cell 5
        have by6 : w1.cell? ⟨w.heap.size + 1, 6, none⟩ = some (.int .i64 mb.exn) := HY1.out.cell 6
        have blx : w.heap.size < w1.heap.size := HX1.out.lt
        have bly : w.heap.size + 1 < w1.heap.size := HY1.out.lt
        go_wp2_with fail
        clear blx bly bx0 by0 bx1 by1 bx2 by2 bx3 by3 bx4 by4 bx5 by5 bx6 by6
        refine (HC1.out _ HS1.out).mono ?_; rintro e w2 ⟨r1, rfl, hr1, t1⟩
        have HS2 := Lib.hid (HS1.out.trans t1)
        have HX2 := Lib.hid (t1.blk HX1.out)
        have HY2 := Lib.hid (t1.blk HY1.out)
        have HR1 := Lib.hid hr1
        clear t1 hr1
        cases r1 with
        | false =>
          have bx0 : w2.cell? ⟨w.heap.size, 0, none⟩ = some (.slice ta tn tc) := HX2.out.cell 0
          have bx1 : w2.cell? ⟨w.heap.size, 1, none⟩ = some (.slice sa sn sc) := HX2.out.cell 1
          have bx2 : w2.cell? ⟨w.heap.size, 2, none⟩ = some (.slice xa xn xc) := HX2.out.cell 2
          have bx3 : w2.cell? ⟨w.heap.size, 3, none⟩ = some (.slice na nn nc) := HX2.out.cell 3
          have bx4 : w2.cell? ⟨w.heap.size, 4, none⟩ = some (.slice fa fn fc) := HX2.out.cell 4
          have bx5 : w2.cell? ⟨w.heap.size, 5, none⟩ = some (.int .i64 ma.main) := HX2.out.cell 5
          have bx6 : w2.cell? ⟨w.heap.size, 6, none⟩ = some (.int .i64 ma.exn) := HX2.out.cell 6
          go_wp2_with fail
          go_ret
          exact ⟨_, rfl, iff_of_false (by decide) (fun e => absurd (HR1.out.2 (by rw [e])) (by simp)), HS2.out⟩
        | true =>
          have bx0 : w2.cell? ⟨w.heap.size, 0, none⟩ = some (.slice ta tn tc) := HX2.out.cell 0
          have bx1 : w2.cell? ⟨w.heap.size, 1, none⟩ = some (.slice sa sn sc) := HX2.out.cell 1
          have bx2 : w2.cell? ⟨w.heap.size, 2, none⟩ = some (.slice xa xn xc) := HX2.out.cell 2
          have bx3 : w2.cell? ⟨w.heap.size, 3, none⟩ = some (.slice na nn nc) := HX2.out.cell 3
          have bx4 : w2.cell? ⟨w.heap.size, 4, none⟩ = some (.slice fa fn fc) := HX2.out.cell 4
          have bx5 : w2.cell? ⟨w.heap.size, 5, none⟩ = some (.int .i64 ma.main) := HX2.out.cell 5
          have bx6 : w2.cell? ⟨w.heap.size, 6, none⟩ = some (.int .i64 ma.exn) := HX2.out.cell 6
          have by0 : w2.cell? ⟨w.heap.size + 1, 0, none⟩ = some (.slice ta' tn' tc') := HY2.out.cell 0
          have by1 : w2.cell? ⟨w.heap.size + 1, 1, none⟩ = some (.slice sa' sn' sc') := HY2.out.cell 1
          have by2 : w2.cell? ⟨w.heap.size + 1, 2, none⟩ = some (.slice xa' xn' xc') := HY2.out.cell 2
          have by3 : w2.cell? ⟨w.heap.size + 1, 3, none⟩ = some (.slice na' nn' nc') := HY2.out.cell 3
          have by4 : w2.cell? ⟨w.heap.size + 1, 4, none⟩ = some (.slice fa' fn' fc') := HY2.out.cell 4
          have by5 : w2.cell? ⟨w.heap.size + 1, 5, none⟩ = some (.int .i64 mb.main) := HY2.out.cell 5
          have by6 : w2.cell? ⟨w.heap.size + 1, 6, none⟩ = some (.int .i64 mb.exn) := HY2.out.cell 6
          have blx : w.heap.size < w2.heap.size := HX2.out.lt
          have bly : w.heap.size + 1 < w2.heap.size := HY2.out.lt
          go_wp2_with fail
          clear blx bly bx0 by0 bx1 by1 bx2 by2 bx3 by3 bx4 by4 bx5 by5 bx6 by6
          refine (HC2.out _ HS2.out).mono ?_; rintro e w3 ⟨r2, rfl, hr2, t2⟩
          have HS3 := Lib.hid (HS2.out.trans t2)
          have HX3 := Lib.hid (t2.blk HX2.out)
          have HY3 := Lib.hid (t2.blk HY2.out)
          have HR2 := Lib.hid hr2
          clear t2 hr2
          cases r2 with
          | false =>
            have bx0 : w3.cell? ⟨w.heap.size, 0, none⟩ = some (.slice ta tn tc) := HX3.out.cell 0
            have bx1 : w3.cell? ⟨w.heap.size, 1, none⟩ = some (.slice sa sn sc) := HX3.out.cell 1
            have bx2 : w3.cell? ⟨w.heap.size, 2, none⟩ = some (.slice xa xn xc) := HX3.out.cell 2
            have bx3 : w3.cell? ⟨w.heap.size, 3, none⟩ = some (.slice na nn nc) := HX3.out.cell 3
            have bx4 : w3.cell? ⟨w.heap.size, 4, none⟩ = some (.slice fa fn fc) := HX3.out.cell 4
            have bx5 : w3.cell? ⟨w.heap.size, 5, none⟩ = some (.int .i64 ma.main) := HX3.out.cell 5
            have bx6 : w3.cell? ⟨w.heap.size, 6, none⟩ = some (.int .i64 ma.exn) := HX3.out.cell 6
            go_wp2_with fail
            go_ret
            exact ⟨_, rfl, iff_of_false (by decide) (fun e => absurd (HR2.out.2 (by rw [e])) (by simp)), HS3.out⟩
          | true =>
            have bx0 : w3.cell? ⟨w.heap.size, 0, none⟩ = some (.slice ta tn tc) := HX3.out.cell 0
            have bx1 : w3.cell? ⟨w.heap.size, 1, none⟩ = some (.slice sa sn sc) := HX3.out.cell 1
            have bx2 : w3.cell? ⟨w.heap.size, 2, none⟩ = some (.slice xa xn xc) := HX3.out.cell 2
            have bx3 : w3.cell? ⟨w.heap.size, 3, none⟩ = some (.slice na nn nc) := HX3.out.cell 3
            have bx4 : w3.cell? ⟨w.heap.size, 4, none⟩ = some (.slice fa fn fc) := HX3.out.cell 4
            have bx5 : w3.cell? ⟨w.heap.size, 5, none⟩ = some (.int .i64 ma.main) := HX3.out.cell 5
            have bx6 : w3.cell? ⟨w.heap.size, 6, none⟩ = some (.int .i64 ma.exn) := HX3.out.cell 6
            have by0 : w3.cell? ⟨w.heap.size + 1, 0, none⟩ = some (.slice ta' tn' tc') := HY3.out.cell 0
            have by1 : w3.cell? ⟨w.heap.size + 1, 1, none⟩ = some (.slice sa' sn' sc') := HY3.out.cell 1
            have by2 : w3.cell? ⟨w.heap.size + 1, 2, none⟩ = some (.slice xa' xn' xc') := HY3.out.cell 2
            have by3 : w3.cell? ⟨w.heap.size + 1, 3, none⟩ = some (.slice na' nn' nc') := HY3.out.cell 3
            have by4 : w3.cell? ⟨w.heap.size + 1, 4, none⟩ = some (.slice fa' fn' fc') := HY3.out.cell 4
            have by5 : w3.cell? ⟨w.heap.size + 1, 5, none⟩ = some (.int .i64 mb.main) := HY3.out.cell 5
            have by6 : w3.cell? ⟨w.heap.size + 1, 6, none⟩ = some (.int .i64 mb.exn) := HY3.out.cell 6
            have blx : w.heap.size < w3.heap.size := HX3.out.lt
            have bly : w.heap.size + 1 < w3.heap.size := HY3.out.lt
            go_wp2_with fail
            clear blx bly bx0 by0 bx1 by1 bx2 by2 bx3 by3 bx4 by4 bx5 by5 bx6 by6
            refine (HC3.out _ HS3.out).mono ?_; rintro e w4 ⟨r3, rfl, hr3, t3⟩
            have HS4 := Lib.hid (HS3.out.trans t3)
            have HX4 := Lib.hid (t3.blk HX3.out)
            have HY4 := Lib.hid (t3.blk HY3.out)
            have HR3 := Lib.hid hr3
            clear t3 hr3
            cases r3 with
            | false =>
              have bx0 : w4.cell? ⟨w.heap.size, 0, none⟩ = some (.slice ta tn tc) := HX4.out.cell 0
              have bx1 : w4.cell? ⟨w.heap.size, 1, none⟩ = some (.slice sa sn sc) := HX4.out.cell 1
              have bx2 : w4.cell? ⟨w.heap.size, 2, none⟩ = some (.slice xa xn xc) := HX4.out.cell 2
              have bx3 : w4.cell? ⟨w.heap.size, 3, none⟩ = some (.slice na nn nc) := HX4.out.cell 3
              have bx4 : w4.cell? ⟨w.heap.size, 4, none⟩ = some (.slice fa fn fc) := HX4.out.cell 4
              have bx5 : w4.cell? ⟨w.heap.size, 5, none⟩ = some (.int .i64 ma.main) := HX4.out.cell 5
              have bx6 : w4.cell? ⟨w.heap.size, 6, none⟩ = some (.int .i64 ma.exn) := HX4.out.cell 6
              go_wp2_with fail
              go_ret
              exact ⟨_, rfl, iff_of_false (by decide) (fun e => absurd (HR3.out.2 (by rw [e])) (by simp)), HS4.out⟩
            | true =>
              have bx0 : w4.cell? ⟨w.heap.size, 0, none⟩ = some (.slice ta tn tc) := HX4.out.cell 0
              have bx1 : w4.cell? ⟨w.heap.size, 1, none⟩ = some (.slice sa sn sc) := HX4.out.cell 1
              have bx2 : w4.cell? ⟨w.heap.size, 2, none⟩ = some (.slice xa xn xc) := HX4.out.cell 2
              have bx3 : w4.cell? ⟨w.heap.size, 3, none⟩ = some (.slice na nn nc) := HX4.out.cell 3
              have bx4 : w4.cell? ⟨w.heap.size, 4, none⟩ = some (.slice fa fn fc) := HX4.out.cell 4
              have bx5 : w4.cell? ⟨w.heap.size, 5, none⟩ = some (.int .i64 ma.main) := HX4.out.cell 5
              have bx6 : w4.cell? ⟨w.heap.size, 6, none⟩ = some (.int .i64 ma.exn) := HX4.out.cell 6
              have by0 : w4.cell? ⟨w.heap.size + 1, 0, none⟩ = some (.slice ta' tn' tc') := HY4.out.cell 0
              have by1 : w4.cell? ⟨w.heap.size + 1, 1, none⟩ = some (.slice sa' sn' sc') := HY4.out.cell 1
              have by2 : w4.cell? ⟨w.heap.size + 1, 2, none⟩ = some (.slice xa' xn' xc') := HY4.out.cell 2
              have by3 : w4.cell? ⟨w.heap.size + 1, 3, none⟩ = some (.slice na' nn' nc') := HY4.out.cell 3
              have by4 : w4.cell? ⟨w.heap.size + 1, 4, none⟩ = some (.slice fa' fn' fc') := HY4.out.cell 4
              have by5 : w4.cell? ⟨w.heap.size + 1, 5, none⟩ = some (.int .i64 mb.main) := HY4.out.cell 5
              have by6 : w4.cell? ⟨w.heap.size + 1, 6, none⟩ = some (.int .i64 mb.exn) := HY4.out.cell 6
              have blx : w.heap.size < w4.heap.size := HX4.out.lt
              have bly : w.heap.size + 1 < w4.heap.size := HY4.out.lt
              go_wp2_with fail
              clear blx bly bx0 by0 bx1 by1 bx2 by2 bx3 by3 bx4 by4 bx5 by5 bx6 by6
              refine (HC4.out _ HS4.out).mono ?_; rintro e w5 ⟨r4, rfl, hr4, t4⟩
              have HS5 := Lib.hid (HS4.out.trans t4)
              have HX5 := Lib.hid (t4.blk HX4.out)
              have HY5 := Lib.hid (t4.blk HY4.out)
              have HR4 := Lib.hid hr4
              clear t4 hr4
              go_wp2_with fail
              go_ret
              refine ⟨_, rfl, ⟨fun e => ?_, fun e => HR4.out.2 (by rw [e])⟩, HS5.out⟩
              have q4 := HR4.out.1 e
              have q0 := HR0.out.1 (by trivial)
              have q1 := HR1.out.1 (by trivial)
              have q2 := HR2.out.1 (by trivial)
              have q3 := HR3.out.1 (by trivial)
              have hsc := HSC.out
              cases ma; cases mb; simp_all
    · have f1 : (ma.exn == mb.exn) = false := by
        exact beq_eq_false_iff_ne.2 s1
      have hn1 := Lib.hid s1
      clear s0 s1
      go_enter Tryz.func7, Tryz.ntmps7
      go_wp2_with fail
      go_ret
      exact ⟨_, rfl, iff_of_false (by decide) (fun e => hn1.out (by rw [e])), HS0.out⟩
  · have f0 : (ma.main == mb.main) = false := by
      exact beq_eq_false_iff_ne.2 s0
    have hn0 := Lib.hid s0
    clear s0
    go_enter Tryz.func7, Tryz.ntmps7
    go_wp2_with fail
    go_ret
    exact ⟨_, rfl, iff_of_false (by decide) (fun e => hn0.out (by rw [e])), HS0.out⟩
end Go.Proofs.YthlifflapgccbaaGreat
/- No two images are written alike, and none begins another. No program in sight. -/
namespace Go.Proofs.YthlifflapgccbaaGreat
set_option linter.unusedVariables false
set_option linter.unusedSimpArgs false
open Go.ChangeShapes Go.WideShapes Go.ChangeAt Go.RowKit
/-- What f writes of such things can be told from what follows. -/
def M.Pre {α : Type} (f : α → List Int) (P : α → Prop) : Prop := ∀ x y r s, P x → P y → f x ++ r = f y ++ s → x = y ∧ r = s
namespace M
theorem pre_num : Pre num In64 := fun x y r s hx hy h => by
  unfold num at h
  have h1 := got_enc (zig_lt hx.1 hx.2) r
  have h2 := got_enc (zig_lt hy.1 hy.2) s
  rw [h, h2] at h1
  simp only [Option.some.injEq, Prod.mk.injEq] at h1
  have hz := zig_inj h1.1
  subst hz
  exact ⟨rfl, List.append_cancel_left h⟩
theorem pre_seq {α : Type} {f : α → List Int} {P : α → Prop} (hf : Pre f P) : ∀ (l m : List α) (r s : List Int), l.length = m.length → (∀ x ∈ l, P x) → (∀ x ∈ m, P x) → l.flatMap f ++ r = m.flatMap f ++ s → l = m ∧ r = s
  | [], [], r, s, _, _, _, h => ⟨rfl, by simpa using h⟩
  | x :: l, y :: m, r, s, hl, hx, hy, h => by
    simp only [List.flatMap_cons, List.append_assoc] at h
    obtain ⟨rfl, h2⟩ := hf x y _ _ (hx x (by simp)) (hy y (by simp)) h
    obtain ⟨rfl, h3⟩ := pre_seq hf l m r s (by simpa using hl) (fun z hz => hx z (by simp [hz])) (fun z hz => hy z (by simp [hz])) h2
    exact ⟨rfl, h3⟩
  | [], _ :: _, _, _, hl, _, _, _ => by simp at hl
  | _ :: _, [], _, _, hl, _, _, _ => by simp at hl
theorem pre_many {α : Type} {f : α → List Int} {P : α → Prop} (hf : Pre f P) : Pre (many f) (fun l => l.length ≤ maxLen ∧ ∀ x ∈ l, P x) := fun l m r s hl hm h => by
  unfold many at h
  simp only [List.append_assoc] at h
  obtain ⟨h1, h2⟩ := pre_num _ _ _ _ (num_nat hl.1) (num_nat hm.1) h
  exact pre_seq hf l m r s (by omega) hl.2 hm.2 h2
theorem pre_nums : Pre nums (fun l => l.length ≤ maxLen ∧ ∀ x ∈ l, In64 x) := pre_many pre_num
theorem chars_inj {s t : ByteArray} (h : chars s = chars t) : s = t := by
  unfold chars at h
  have h1 : s.data.toList = t.data.toList := by
    refine (List.map_inj_right (f := fun c : UInt8 => (c.toNat : Int)) ?_).1 h
    intro a b hab
    exact UInt8.toNat_inj.1 (by have h2 : (a.toNat : Int) = b.toNat := hab; omega)
  cases s; cases t
  congr 1
  exact Array.toList_inj.1 h1
theorem pre_text : Pre text (fun s => s.size ≤ maxLen) := fun s t r q hs ht h => by
  unfold text at h
  simp only [List.append_assoc] at h
  obtain ⟨h1, h2⟩ := pre_num _ _ _ _ (num_nat hs) (num_nat ht) h
  have hl : (chars s).length = (chars t).length := by rw [chars_len, chars_len]; omega
  obtain ⟨h3, h4⟩ := List.append_inj h2 hl
  exact ⟨chars_inj h3, h4⟩
def okNums (l : List Int) : Prop := l.length ≤ maxLen ∧ ∀ x ∈ l, In64 x
def okTy (t : Ty) : Prop := okNums t.shapes
def okSh (s : Sh) : Prop := In64 s.kind ∧ okNums s.fields ∧ s.name.size ≤ maxLen
def okIns (x : Ins) : Prop := (In64 x.op ∧ In64 x.d ∧ In64 x.a ∧ In64 x.b ∧ In64 x.c ∧ In64 x.n) ∧ (okNums x.l ∧ okNums x.m ∧ okNums x.v) ∧ plainIns x = true
def okBk (b : Bk) : Prop := okNums b.inn ∧ b.code.length ≤ maxLen ∧ ∀ x ∈ b.code, okIns x
def okFn (f : Fn) : Prop := okNums f.params ∧ In64 f.result ∧ In64 f.slots ∧ f.blocks.length ≤ maxLen ∧ ∀ b ∈ f.blocks, okBk b
def okImg (m : Img) : Prop := (m.types.length ≤ maxLen ∧ ∀ t ∈ m.types, okTy t) ∧ (m.shapes.length ≤ maxLen ∧ ∀ t ∈ m.shapes, okSh t) ∧ (m.strings.length ≤ maxLen ∧ ∀ t ∈ m.strings, t.size ≤ maxLen) ∧ (m.names.length ≤ maxLen ∧ ∀ t ∈ m.names, t.size ≤ maxLen) ∧ (m.funcs.length ≤ maxLen ∧ ∀ t ∈ m.funcs, okFn t) ∧ In64 m.main ∧ In64 m.exn
theorem bit_in (b : Bool) : In64 (if b then 1 else 0) := by cases b <;> constructor <;> decide
theorem pre_Ty : Pre bTy okTy := fun x y r s hx hy h => by
  unfold bTy at h
  simp only [List.append_assoc] at h
  obtain ⟨h1, h2⟩ := pre_num _ _ _ _ (bit_in _) (bit_in _) h
  obtain ⟨h3, h4⟩ := pre_nums _ _ _ _ hx hy h2
  obtain ⟨i, l⟩ := x
  obtain ⟨j, k⟩ := y
  simp only at h1 h3
  refine ⟨?_, h4⟩
  subst h3
  cases i <;> cases j <;> simp_all
theorem pre_Sh : Pre bSh okSh := fun x y r s hx hy h => by
  unfold bSh at h
  simp only [List.append_assoc] at h
  obtain ⟨h1, h2⟩ := pre_num _ _ _ _ hx.1 hy.1 h
  obtain ⟨h3, h4⟩ := pre_nums _ _ _ _ hx.2.1 hy.2.1 h2
  obtain ⟨h5, h6⟩ := pre_text _ _ _ _ hx.2.2 hy.2.2 h4
  refine ⟨?_, h6⟩
  cases x; cases y; simp_all
/-- The fields of a letter are the same. -/
def eqF (x y : Ins) (c : UInt8) : Prop :=
  if c = 68 then x.d = y.d else if c = 65 then x.a = y.a else if c = 66 then x.b = y.b else if c = 67 then x.c = y.c else if c = 78 then x.n = y.n
  else if c = 76 then x.l = y.l else if c = 77 then x.m = y.m else x.v = y.v
theorem pre_field {x y : Ins} (hx : okIns x) (hy : okIns y) (c : UInt8) (r s : List Int) (h : field x c ++ r = field y c ++ s) : eqF x y c ∧ r = s := by
  obtain ⟨⟨a0, a1, a2, a3, a4, a5⟩, ⟨a6, a7, a8⟩, _⟩ := hx
  obtain ⟨⟨b0, b1, b2, b3, b4, b5⟩, ⟨b6, b7, b8⟩, _⟩ := hy
  unfold field at h
  unfold eqF
  by_cases k0 : c = 68
  · simp only [if_pos k0] at h ⊢; exact pre_num _ _ _ _ a1 b1 h
  simp only [if_neg k0] at h ⊢
  by_cases k1 : c = 65
  · simp only [if_pos k1] at h ⊢; exact pre_num _ _ _ _ a2 b2 h
  simp only [if_neg k1] at h ⊢
  by_cases k2 : c = 66
  · simp only [if_pos k2] at h ⊢; exact pre_num _ _ _ _ a3 b3 h
  simp only [if_neg k2] at h ⊢
  by_cases k3 : c = 67
  · simp only [if_pos k3] at h ⊢; exact pre_num _ _ _ _ a4 b4 h
  simp only [if_neg k3] at h ⊢
  by_cases k4 : c = 78
  · simp only [if_pos k4] at h ⊢; exact pre_num _ _ _ _ a5 b5 h
  simp only [if_neg k4] at h ⊢
  by_cases k5 : c = 76
  · simp only [if_pos k5] at h ⊢; exact pre_nums _ _ _ _ a6 b6 h
  simp only [if_neg k5] at h ⊢
  by_cases k6 : c = 77
  · simp only [if_pos k6] at h ⊢; exact pre_nums _ _ _ _ a7 b7 h
  simp only [if_neg k6] at h ⊢
  exact pre_nums _ _ _ _ a8 b8 h
theorem pre_fields {x y : Ins} (hx : okIns x) (hy : okIns y) : ∀ (u : List UInt8) (r s : List Int), u.flatMap (field x) ++ r = u.flatMap (field y) ++ s → (∀ c ∈ u, eqF x y c) ∧ r = s
  | [], r, s, h => ⟨fun c hc => by simp at hc, by simpa using h⟩
  | c :: u, r, s, h => by
    simp only [List.flatMap_cons, List.append_assoc] at h
    obtain ⟨h1, h2⟩ := pre_field hx hy c _ _ h
    obtain ⟨h3, h4⟩ := pre_fields hx hy u r s h2
    refine ⟨fun d hd => ?_, h4⟩
    rcases List.mem_cons.1 hd with rfl | hd
    · exact h1
    · exact h3 d hd
theorem not_has {s : ByteArray} {c : UInt8} (h : c ∉ s.data.toList) : hasB s c.toNat = false := by
  unfold hasB
  rw [first_none (fun k hk e => h ?_)]
  · decide
  · have e1 : s[k]! = s[k]'hk := getElem!_pos s k hk
    have e2 : c.toNat.toUInt8 = c := by simp
    rw [e1, e2] at e
    rw [← e]
    have : s.data.toList[k]? = some (s[k]'hk) := by
      rw [Array.getElem?_toList]
      exact Array.getElem?_eq_getElem hk
    exact List.mem_of_getElem? this
theorem plain_zero {x : Ins} (h : plainIns x = true) : ((68 : UInt8) ∉ (uses x.op).data.toList → x.d = 0) ∧ ((65 : UInt8) ∉ (uses x.op).data.toList → x.a = 0) ∧ ((66 : UInt8) ∉ (uses x.op).data.toList → x.b = 0) ∧ ((67 : UInt8) ∉ (uses x.op).data.toList → x.c = 0) ∧ ((78 : UInt8) ∉ (uses x.op).data.toList → x.n = 0) ∧ ((76 : UInt8) ∉ (uses x.op).data.toList → x.l = []) ∧ ((77 : UInt8) ∉ (uses x.op).data.toList → x.m = []) ∧ ((108 : UInt8) ∉ (uses x.op).data.toList → x.v = []) := by
  unfold plainIns plain may at h
  simp only [Bool.and_eq_true, Bool.or_eq_true, beq_iff_eq] at h
  obtain ⟨⟨⟨⟨⟨⟨⟨⟨_, h1⟩, h2⟩, h3⟩, h4⟩, h5⟩, h6⟩, h7⟩, h8⟩ := h
  have nil : ∀ (l : List Int), ((l.length : Int) = 0) → l = [] := fun l hl => List.eq_nil_of_length_eq_zero (by omega)
  refine ⟨fun hn => ?_, fun hn => ?_, fun hn => ?_, fun hn => ?_, fun hn => ?_, fun hn => ?_, fun hn => ?_, fun hn => ?_⟩
  · have := not_has hn; rcases h1 with h | h; exact h; rw [show (68 : UInt8).toNat = 68 from rfl] at this; rw [this] at h; exact absurd h (by decide)
  · have := not_has hn; rcases h2 with h | h; exact h; rw [show (65 : UInt8).toNat = 65 from rfl] at this; rw [this] at h; exact absurd h (by decide)
  · have := not_has hn; rcases h3 with h | h; exact h; rw [show (66 : UInt8).toNat = 66 from rfl] at this; rw [this] at h; exact absurd h (by decide)
  · have := not_has hn; rcases h4 with h | h; exact h; rw [show (67 : UInt8).toNat = 67 from rfl] at this; rw [this] at h; exact absurd h (by decide)
  · have := not_has hn; rcases h5 with h | h; exact h; rw [show (78 : UInt8).toNat = 78 from rfl] at this; rw [this] at h; exact absurd h (by decide)
  · have := not_has hn; rcases h6 with h | h; exact nil _ h; rw [show (76 : UInt8).toNat = 76 from rfl] at this; rw [this] at h; exact absurd h (by decide)
  · have := not_has hn; rcases h7 with h | h; exact nil _ h; rw [show (77 : UInt8).toNat = 77 from rfl] at this; rw [this] at h; exact absurd h (by decide)
  · have := not_has hn; rcases h8 with h | h; exact nil _ h; rw [show (108 : UInt8).toNat = 108 from rfl] at this; rw [this] at h; exact absurd h (by decide)
theorem pre_Ins : Pre bIns okIns := fun x y r s hx hy h => by
  unfold bIns at h
  simp only [List.append_assoc] at h
  obtain ⟨h1, h2⟩ := pre_num _ _ _ _ hx.1.1 hy.1.1 h
  rw [← h1] at h2
  obtain ⟨h3, h4⟩ := pre_fields hx hy _ _ _ h2
  refine ⟨?_, h4⟩
  obtain ⟨p1, p2, p3, p4, p5, p6, p7, p8⟩ := plain_zero hx.2.2
  obtain ⟨q1, q2, q3, q4, q5, q6, q7, q8⟩ := plain_zero hy.2.2
  rw [← h1] at q1 q2 q3 q4 q5 q6 q7 q8
  have e1 : x.d = y.d := by
    by_cases hm : (68 : UInt8) ∈ (uses x.op).data.toList
    · exact h3 _ hm
    · rw [p1 hm, q1 hm]
  have e2 : x.a = y.a := by
    by_cases hm : (65 : UInt8) ∈ (uses x.op).data.toList
    · exact h3 _ hm
    · rw [p2 hm, q2 hm]
  have e3 : x.b = y.b := by
    by_cases hm : (66 : UInt8) ∈ (uses x.op).data.toList
    · exact h3 _ hm
    · rw [p3 hm, q3 hm]
  have e4 : x.c = y.c := by
    by_cases hm : (67 : UInt8) ∈ (uses x.op).data.toList
    · exact h3 _ hm
    · rw [p4 hm, q4 hm]
  have e5 : x.n = y.n := by
    by_cases hm : (78 : UInt8) ∈ (uses x.op).data.toList
    · exact h3 _ hm
    · rw [p5 hm, q5 hm]
  have e6 : x.l = y.l := by
    by_cases hm : (76 : UInt8) ∈ (uses x.op).data.toList
    · exact h3 _ hm
    · rw [p6 hm, q6 hm]
  have e7 : x.m = y.m := by
    by_cases hm : (77 : UInt8) ∈ (uses x.op).data.toList
    · exact h3 _ hm
    · rw [p7 hm, q7 hm]
  have e8 : x.v = y.v := by
    by_cases hm : (108 : UInt8) ∈ (uses x.op).data.toList
    · exact h3 _ hm
    · rw [p8 hm, q8 hm]
  cases x; cases y; simp_all
theorem pre_Bk : Pre bBk okBk := fun x y r s hx hy h => by
  unfold bBk at h
  simp only [List.append_assoc] at h
  obtain ⟨h1, h2⟩ := pre_nums _ _ _ _ hx.1 hy.1 h
  obtain ⟨h3, h4⟩ := pre_many pre_Ins _ _ _ _ hx.2 hy.2 h2
  refine ⟨?_, h4⟩
  cases x; cases y; simp_all
theorem pre_Fn : Pre bFn okFn := fun x y r s hx hy h => by
  unfold bFn at h
  simp only [List.append_assoc] at h
  obtain ⟨h1, h2⟩ := pre_nums _ _ _ _ hx.1 hy.1 h
  obtain ⟨h3, h4⟩ := pre_num _ _ _ _ hx.2.1 hy.2.1 h2
  obtain ⟨h5, h6⟩ := pre_num _ _ _ _ hx.2.2.1 hy.2.2.1 h4
  obtain ⟨h7, h8⟩ := pre_many pre_Bk _ _ _ _ hx.2.2.2 hy.2.2.2 h6
  refine ⟨?_, h8⟩
  cases x; cases y; simp_all
theorem pre_Img : Pre bImg okImg := fun x y r s hx hy h => by
  unfold bImg at h
  simp only [List.append_assoc] at h
  obtain ⟨a1, a2, a3, a4, a5, a6, a7⟩ := hx
  obtain ⟨b1, b2, b3, b4, b5, b6, b7⟩ := hy
  obtain ⟨e1, h⟩ := pre_many pre_Ty _ _ _ _ a1 b1 h
  obtain ⟨e2, h⟩ := pre_many pre_Sh _ _ _ _ a2 b2 h
  obtain ⟨e3, h⟩ := pre_many pre_text _ _ _ _ a3 b3 h
  obtain ⟨e4, h⟩ := pre_many pre_text _ _ _ _ a4 b4 h
  obtain ⟨e5, h⟩ := pre_many pre_Fn _ _ _ _ a5 b5 h
  obtain ⟨e6, h⟩ := pre_num _ _ _ _ a6 b6 h
  obtain ⟨e7, h⟩ := pre_num _ _ _ _ a7 b7 h
  refine ⟨?_, h⟩
  cases x; cases y; simp_all
end M
theorem Ints.ok {B : Nat} {w : World} {a : Option Addr} {n : Nat} {xs : List Int} (h : Ints B w a n xs) (hn : n ≤ maxLen) : M.okNums xs := ⟨by rw [h.len]; exact hn, h.in64⟩
theorem ImgIs.ok {B : Nat} {w : World} {v : ImgV} {m : M.Img} (h : ImgIs B w v m) (hp : M.anyIns (fun x => !(M.plainIns x)) m = false) : M.okImg m := by
  unfold M.anyIns at hp
  refine ⟨⟨by rw [h.types.len]; exact h.le.1, fun t ht => ?_⟩, ⟨by rw [h.shapes.len]; exact h.le.2.1, fun t ht => ?_⟩, ⟨by rw [h.strings.len]; exact h.le.2.2.1, fun t ht => ?_⟩, ⟨by rw [h.names.len]; exact h.le.2.2.2.1, fun t ht => ?_⟩, ⟨by rw [h.funcs.len]; exact h.le.2.2.2.2, fun f hf => ?_⟩, h.in_main, h.in_exn⟩
  · obtain ⟨cs, a, n, c, _, h2, h3⟩ := h.types.all t ht
    exact h3.ok h2
  · obtain ⟨cs, a, n, c, _, h2, h3, h4, h5⟩ := h.shapes.all t ht
    exact ⟨h3, h5.ok h2, h4⟩
  · obtain ⟨cs, _, h1⟩ := h.strings.all t ht
    exact h1
  · obtain ⟨cs, _, h1⟩ := h.names.all t ht
    exact h1
  · obtain ⟨cs, pa, pn, pc, ba, bn, bc, _, h1, h2, h3, h4, h5, h6⟩ := h.funcs.all f hf
    refine ⟨h5.ok h1, h3, h4, by rw [h6.len]; exact h2, fun b hb => ?_⟩
    obtain ⟨cs, ia, inn, ic, ca, cn, cc, _, k1, k2, k3, k4⟩ := h6.all b hb
    refine ⟨k3.ok k1, by rw [k4.len]; exact k2, fun x hx => ?_⟩
    obtain ⟨cs, la, ln, lc, ma, mn, mc, va, vn, vc, _, j1, j2, j3, j4, j5, j6, j7⟩ := k4.all x hx
    refine ⟨j4, ⟨j5.ok j1, j6.ok j2, j7.ok j3⟩, ?_⟩
    cases hq : M.plainIns x with
    | true => rfl
    | false =>
      have e : (m.funcs.any fun f => f.blocks.any fun b => b.code.any fun x => !(M.plainIns x)) = true := List.any_eq_true.2 ⟨f, hf, List.any_eq_true.2 ⟨b, hb, List.any_eq_true.2 ⟨x, hx, by simp [hq]⟩⟩⟩
      rw [e] at hp
      exact absurd hp (by decide)
end Go.Proofs.YthlifflapgccbaaGreat
