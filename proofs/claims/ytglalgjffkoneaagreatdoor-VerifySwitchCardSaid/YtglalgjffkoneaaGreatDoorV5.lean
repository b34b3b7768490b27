/- Lemmas, put together: Vany Vall Vthr AnyOf Has Plain Code1 Code2 Code2L Code3. -/
import Derived.Test.YtglalgjffkoneaaGreatDoorV2
import Derived.Test.YtglalgjffkoneaaGreatDoorV3
import Derived.Test.YtglalgjffkoneaaGreatDoorV1
import Derived.Laws.Externs
import Derived.Lib.SmallJoins
import Derived.Deep.RegionLawGrows
/- slices.ContainsFunc over numbers, for a test that knows something and leaves memory as it is. -/
namespace Go.Proofs.YtglalgjffkoneaaGreatDoor
set_option linter.unusedVariables false
set_option linter.unusedSimpArgs false
open Go.ChangeShapes Go.WideShapes Go.ChangeAt Go.RowKit
theorem indexInt_any (p : Int → Bool) (fid : FuncId) (first cap : Array Value) (hfid : ∀ args W, (callFunc fid args).run Tryz.prog W = .ok (.enter fid args) W) {B : Nat} {w : World} {a : Option Addr} {n c : Nat} {l : List Int}
    (hl : Ints B w a n l) (hB : B ≤ w.heap.size) (hn : n ≤ maxLen)
    (hf : ∀ (x : Int) (W : World), x ∈ l → Still w W → Calls Tryz.prog fid (first ++ #[.int .i64 x] ++ cap) W fun e w' => e = .returned (.bool (p x)) ∧ Still W w') :
    Calls Tryz.prog 54 #[.slice a n c, .func (.func fid) first cap] w fun e w' => ∃ z : Int, e = .returned (.int .i64 z) ∧ decide (0 ≤ z) = l.any p ∧ Still w w' := by
  have HL := Lib.hid hl
  have HB := Lib.hid hB
  have HF := Lib.hid hf
  have HFID := Lib.hid hfid
  have hlen := hl.len
  have HLEN := Lib.hid hlen
  have hn63 : n ≤ 9223372036854775807 := by unfold maxLen at hn; omega
  clear hl hB hn hf hfid hlen
  go_enter Tryz.func54, Tryz.ntmps54
  go_wp2_with fail
  go_loopw [8] (fun v wr => ∃ i : Nat, v = .int .i64 i ∧ i ≤ n ∧ (l.take i).any p = false ∧ Still w wr) (fun v _ => n - (intOf v).toNat)
  case atStart => exact ⟨0, rfl, by omega, by simp, Still.refl _⟩
  case round =>
    obtain ⟨i, rfl, hi, hany, ht⟩ := hrel
    by_cases hlt : i < n
    · obtain ⟨b, off, x, cs, rfl, hbB, hxi, hcl, hPx, hcell⟩ := HL.out.here hlt
      obtain ⟨rfl, hp⟩ := hPx
      have hmem : x ∈ l := List.mem_of_getElem? hxi
      have hbl : b < wr.heap.size := Nat.lt_of_lt_of_le (Nat.lt_of_lt_of_le hbB HB.out) ht.size
      have d0 : wr.cell? ⟨b, off + i, none⟩ = some (.int .i64 x) := (Still.cell ht (p := ⟨b, _, none⟩) (Nat.lt_of_lt_of_le hbB HB.out)).trans (by simpa using hcell 0 (by decide))
      have HC := Lib.hid (HF.out x wr hmem ht)
      have htk : (l.take (i + 1)).any p = p x := by
        rw [List.take_add_one, hxi, List.any_append, hany]; simp
      have HT := Lib.hid ht
      have HK := Lib.hid htk
      have HM := Lib.hid hmem
      have hfid := HFID.out
      clear hxi hcl hp hcell htk hmem ht hany
      cases hpx : p x with
      | true =>
        rw [hpx] at HC
        go_wp2_with fail
        refine HC.out.mono ?_; rintro e w3 ⟨rfl, t3⟩
        have HT3 := Lib.hid (HT.out.trans t3)
        clear t3 hfid
        go_wp2_with fail
        go_ret
        refine ⟨i, rfl, ?_, HT3.out⟩
        have : l.any p = true := List.any_eq_true.2 ⟨x, HM.out, hpx⟩
        rw [this]
        simp
      | false =>
        rw [hpx] at HC
        go_wp2_with fail
        refine HC.out.mono ?_; rintro e w3 ⟨rfl, t3⟩
        have HT3 := Lib.hid (HT.out.trans t3)
        clear t3 hfid
        go_wp2_with fail
        go_roundw
        case rel => exact ⟨i + 1, rfl, by omega, by rw [HK.out, hpx], HT3.out⟩
        case measure => simp [intOf]; omega
    · obtain rfl : i = n := by omega
      have hfin : l.any p = false := by
        rw [← HLEN.out, List.take_length] at hany; exact hany
      have HFIN := Lib.hid hfin
      have HT := Lib.hid ht
      clear ht hany hfin
      go_wp2_with fail
      go_ret
      exact ⟨-1, rfl, by rw [HFIN.out]; rfl, HT.out⟩
theorem containsInt_any (p : Int → Bool) (fid : FuncId) (first cap : Array Value) (hfid : ∀ args W, (callFunc fid args).run Tryz.prog W = .ok (.enter fid args) W) {B : Nat} {w : World} {a : Option Addr} {n c : Nat} {l : List Int}
    (hl : Ints B w a n l) (hB : B ≤ w.heap.size) (hn : n ≤ maxLen)
    (hf : ∀ (x : Int) (W : World), x ∈ l → Still w W → Calls Tryz.prog fid (first ++ #[.int .i64 x] ++ cap) W fun e w' => e = .returned (.bool (p x)) ∧ Still W w') :
    Calls Tryz.prog 29 #[.slice a n c, .func (.func fid) first cap] w fun e w' => e = .returned (.bool (l.any p)) ∧ Still w w' := by
  have H := Lib.hid (indexInt_any (c := c) p fid first cap hfid hl hB hn hf)
  clear hl hB hn hf hfid
  go_enter Tryz.func29, Tryz.ntmps29
  go_wp2_with fail
  refine H.out.mono ?_; rintro e w1 ⟨z, rfl, hz, t1⟩
  have HZ := Lib.hid hz
  have HT := Lib.hid t1
  clear hz t1
  go_wp2_with fail
  go_ret
  refine ⟨?_, HT.out⟩
  show Ending.returned (.bool (decide (0 ≤ z))) = _
  rw [HZ.out]
end Go.Proofs.YtglalgjffkoneaaGreatDoor
/- hasAll, mayBe, thrown: what an image must be. -/
namespace Go.Proofs.YtglalgjffkoneaaGreatDoor
set_option linter.unusedVariables false
set_option linter.unusedSimpArgs false
open Go.ChangeShapes Go.WideShapes Go.ChangeAt Go.RowKit
/-- Is each of these the number of one of n? -/
def inAll (n : Nat) (xs : List Int) : Bool := !(xs.any fun x => !hasB x n)
theorem inAll_iff (n : Nat) (xs : List Int) : inAll n xs = true ↔ ∀ x ∈ xs, 0 ≤ x ∧ x < n := by
  unfold inAll
  simp [hasB_iff]
theorem hasAllSh1_any {w : World} {b : Nat} {sa : Option Addr} {sn sc : Nat} (hb : w.cell? ⟨b, 0, none⟩ = some (.slice sa sn sc)) (x : Int) :
    Calls Tryz.prog 74 #[.int .i64 x, .pointer (some ⟨b, 0, none⟩)] w fun e w' => e = .returned (.bool (!hasB x sn)) ∧ Still w w' := by
  have hl : b < w.heap.size := World.block_lt_of_cell? w _ hb
  go_enter Tryz.func74, Tryz.ntmps74
  go_wp2_with fail
  refine (hasSh_any _ _ _ _ _).mono ?_; rintro e w1 ⟨rfl, rfl⟩
  go_wp2_with fail
  go_ret
  exact ⟨rfl, Still.refl _⟩
theorem hasAllSh_any {B : Nat} {w : World} (sa : Option Addr) (sn sc : Nat) {a : Option Addr} {n c : Nat} {xs : List Int} (hl : Ints B w a n xs) (hB : B ≤ w.heap.size) (hn : n ≤ maxLen) :
    Calls Tryz.prog 43 #[.slice sa sn sc, .slice a n c] w fun e w' => e = .returned (.bool (inAll sn xs)) ∧ Still w w' := by
  have S1 : Hid (Still w (w.alloc (.cells #[.slice sa sn sc] 23)) ∧ (w.alloc (.cells #[.slice sa sn sc] 23)).cell? ⟨w.heap.size, 0, none⟩ = some (.slice sa sn sc)) := ⟨(Still.refl w).alloc _, (Blk.new w 23 #[.slice sa sn sc]).cell 0⟩
  have hsz : w.heap.size < (w.alloc (.cells #[.slice sa sn sc] 23)).heap.size := by simp
  have henter : ∀ (args : Array Value) (W : World), (callFunc 74 args).run Tryz.prog W = .ok (.enter 74 args) W := enters_of Tryz.func74 (by kernel_rfl) rfl
  have H := Lib.hid (containsInt_any (c := c) (fun x => !hasB x sn) 74 #[] #[.pointer (some ⟨w.heap.size, 0, none⟩)] henter (hl.keep (Still.below S1.out.1 |>.mono hB) hB) (Nat.le_trans hB S1.out.1.size) hn
    (fun x W _ hW => hasAllSh1_any ((hW.cell (p := ⟨w.heap.size, 0, none⟩) hsz).trans S1.out.2) x))
  clear hl hB hn henter hsz
  go_enter Tryz.func43, Tryz.ntmps43
  go_wp2_with fail
  refine H.out.mono ?_; rintro e w1 ⟨rfl, t1⟩
  have T1 := Lib.hid (S1.out.1.trans t1)
  clear t1
  have HE : Hid (inAll sn xs = !(xs.any fun x => !hasB x sn)) := rfl
  generalize (xs.any fun x => !hasB x sn) = q at *
  go_wp2_with fail
  go_ret
  exact ⟨by rw [HE.out]; rfl, T1.out⟩
theorem hasAllTy1_any {w : World} {b : Nat} {sa : Option Addr} {sn sc : Nat} (hb : w.cell? ⟨b, 0, none⟩ = some (.slice sa sn sc)) (x : Int) :
    Calls Tryz.prog 75 #[.int .i64 x, .pointer (some ⟨b, 0, none⟩)] w fun e w' => e = .returned (.bool (!hasB x sn)) ∧ Still w w' := by
  have hl : b < w.heap.size := World.block_lt_of_cell? w _ hb
  go_enter Tryz.func75, Tryz.ntmps75
  go_wp2_with fail
  refine (hasTy_any _ _ _ _ _).mono ?_; rintro e w1 ⟨rfl, rfl⟩
  go_wp2_with fail
  go_ret
  exact ⟨rfl, Still.refl _⟩
theorem hasAllTy_any {B : Nat} {w : World} (sa : Option Addr) (sn sc : Nat) {a : Option Addr} {n c : Nat} {xs : List Int} (hl : Ints B w a n xs) (hB : B ≤ w.heap.size) (hn : n ≤ maxLen) :
    Calls Tryz.prog 45 #[.slice sa sn sc, .slice a n c] w fun e w' => e = .returned (.bool (inAll sn xs)) ∧ Still w w' := by
  have S1 : Hid (Still w (w.alloc (.cells #[.slice sa sn sc] 22)) ∧ (w.alloc (.cells #[.slice sa sn sc] 22)).cell? ⟨w.heap.size, 0, none⟩ = some (.slice sa sn sc)) := ⟨(Still.refl w).alloc _, (Blk.new w 22 #[.slice sa sn sc]).cell 0⟩
  have hsz : w.heap.size < (w.alloc (.cells #[.slice sa sn sc] 22)).heap.size := by simp
  have henter : ∀ (args : Array Value) (W : World), (callFunc 75 args).run Tryz.prog W = .ok (.enter 75 args) W := enters_of Tryz.func75 (by kernel_rfl) rfl
  have H := Lib.hid (containsInt_any (c := c) (fun x => !hasB x sn) 75 #[] #[.pointer (some ⟨w.heap.size, 0, none⟩)] henter (hl.keep (Still.below S1.out.1 |>.mono hB) hB) (Nat.le_trans hB S1.out.1.size) hn
    (fun x W _ hW => hasAllTy1_any ((hW.cell (p := ⟨w.heap.size, 0, none⟩) hsz).trans S1.out.2) x))
  clear hl hB hn henter hsz
  go_enter Tryz.func45, Tryz.ntmps45
  go_wp2_with fail
  refine H.out.mono ?_; rintro e w1 ⟨rfl, t1⟩
  have T1 := Lib.hid (S1.out.1.trans t1)
  clear t1
  have HE : Hid (inAll sn xs = !(xs.any fun x => !hasB x sn)) := rfl
  generalize (xs.any fun x => !hasB x sn) = q at *
  go_wp2_with fail
  go_ret
  exact ⟨by rw [HE.out]; rfl, T1.out⟩
/-- Has a shape as many fields as its kind may have? -/
def mayB (s : M.Sh) : Bool := if s.kind = 1 then true else if s.kind = 2 then decide (s.fields.length = 1) else if s.kind = 3 then decide (s.fields.length = 0) else false
theorem mayBe_any {B : Nat} {w : World} {s : M.Sh} {a : Option Addr} {n c : Nat} (hl : Ints B w a n s.fields) :
    Calls Tryz.prog 44 #[.agg #[.int .i64 s.kind, .slice a n c, .string s.name]] w fun e w' => e = .returned (.bool (mayB s)) ∧ Still w w' := by
  have S1 : Hid (Still w (w.alloc (.cells #[.int .i64 s.kind, .slice a n c, .string s.name] 42))) := (Still.refl w).alloc _
  obtain ⟨k, hk⟩ : ∃ k, s.kind = k := ⟨_, rfl⟩
  have HL : Hid (s.kind = k ∧ s.fields.length = n) := ⟨hk, hl.len⟩
  rw [hk] at S1 ⊢
  clear hl hk
  by_cases h1 : k = 1
  · have x1 : (k == 1) = true := by simp [h1]
    have HM : Hid (mayB s = true) := by
      have := HL.out
      show _ = _
      simp [mayB, this.1, h1]
    clear h1
    go_enter Tryz.func44, Tryz.ntmps44
    go_wp2_with fail
    go_ret
    exact ⟨by rw [HM.out]; rfl, S1.out⟩
  · have x1 : (k == 1) = false := by simp [h1]
    by_cases h2 : k = 2
    · have x2 : (k == 2) = true := by simp [h2]
      have HM : Hid (mayB s = ((n : Int) == 1)) := by
        have := HL.out
        show _ = _
        simp [mayB, this.1, h2, this.2]
        rw [Bool.eq_iff_iff]
        simp
        omega
      clear h1 h2
      go_enter Tryz.func44, Tryz.ntmps44
      go_wp2_with fail
      go_ret
      exact ⟨by rw [HM.out]; rfl, S1.out⟩
    · have x2 : (k == 2) = false := by simp [h2]
      by_cases h3 : k = 3
      · have x3 : (k == 3) = true := by simp [h3]
        have HM : Hid (mayB s = ((n : Int) == 0)) := by
          have := HL.out
          show _ = _
          simp [mayB, this.1, h3, this.2]
          rw [Bool.eq_iff_iff]
          simp
        clear h1 h2 h3
        go_enter Tryz.func44, Tryz.ntmps44
        go_wp2_with fail
        go_ret
        exact ⟨by rw [HM.out]; rfl, S1.out⟩
      · have x3 : (k == 3) = false := by simp [h3]
        have HM : Hid (mayB s = false) := by
          have := HL.out
          show _ = _
          simp [mayB, this.1, h1, h2, h3]
        clear h1 h2 h3
        go_enter Tryz.func44, Tryz.ntmps44
        go_wp2_with fail
        go_ret
        exact ⟨by rw [HM.out]; rfl, S1.out⟩
end Go.Proofs.YtglalgjffkoneaaGreatDoor
/- thrown: may a type be that of exceptions? -/
namespace Go.Proofs.YtglalgjffkoneaaGreatDoor
set_option linter.unusedVariables false
set_option linter.unusedSimpArgs false
open Go.ChangeShapes Go.WideShapes Go.ChangeAt Go.RowKit
open Vf (nth shAt tyAt nth_nat)
/-- Is a shape no record? -/
def noRec (m : M.Img) (s : Int) : Bool := (shAt m s).kind != 1
def thrownB (m : M.Img) (t : M.Ty) : Bool := t.imm && !(t.shapes.any (noRec m))
theorem thrown1_any {B : Nat} {w : World} {v : ImgV} {m : M.Img} (hp : ImgIs B w v m) (hB : B ≤ w.heap.size) {b : Nat} (hb : w.cell? ⟨b, 1, none⟩ = some (.slice v.sa v.sn v.sc)) {x : Int} (hx : 0 ≤ x ∧ x < m.shapes.length) :
    Calls Tryz.prog 76 #[.int .i64 x, .pointer (some ⟨b, 0, none⟩)] w fun e w' => e = .returned (.bool (noRec m x)) ∧ Still w w' := by
  have hl : b < w.heap.size := World.block_lt_of_cell? w _ hb
  obtain ⟨k, rfl⟩ := Int.eq_ofNat_of_zero_le hx.1
  have hlen := hp.shapes.len
  have hk : k < v.sn := by omega
  obtain ⟨b1, off, s, cs, ha, hbB, hxi, hcl, hPx, hcell⟩ := hp.shapes.here hk
  obtain ⟨a2, n2, c2, rfl, hq⟩ := hPx
  have d0 : w.cell? ⟨b1, off + k * 3, none⟩ = some (.int .i64 s.kind) := by simpa using hcell 0 (by decide)
  have hbl : b1 < w.heap.size := by omega
  have HM : Hid (noRec m k = (s.kind != 1)) := by
    show _ = _
    unfold noRec shAt
    rw [nth_nat, hxi]
    rfl
  have hki : (k : Int) < v.sn := by omega
  rw [ha] at hb
  generalize s.kind = kd at *
  generalize v.sn = n at *
  generalize v.sc = c at *
  clear hp hcell hq hxi hlen hx ha
  go_enter Tryz.func76, Tryz.ntmps76
  go_wp2_with fail
  go_ret
  exact ⟨by rw [HM.out]; rfl, Still.refl _⟩
theorem thrown_any {B : Nat} {w : World} {v : ImgV} {m : M.Img} (hp : ImgIs B w v m) (hB : B ≤ w.heap.size) {im : Bool} {a : Option Addr} {n c : Nat} {xs : List Int} (hl : Ints B w a n xs) (hn : n ≤ maxLen) (hin : ∀ x ∈ xs, 0 ≤ x ∧ x < m.shapes.length) :
    Calls Tryz.prog 46 #[.agg #[.slice v.ta v.tn v.tc, .slice v.sa v.sn v.sc, .slice v.xa v.xn v.xc, .slice v.na v.nn v.nc, .slice v.fa v.fn v.fc, .int .i64 v.main, .int .i64 v.exn], .agg #[.bool im, .slice a n c]] w fun e w' => e = .returned (.bool (thrownB m ⟨im, xs⟩)) ∧ Still w w' := by
  have S2 : Hid (Still w ((w.alloc (.cells v.cells 27)).alloc (.cells #[.bool im, .slice a n c] 51)) ∧ ((w.alloc (.cells v.cells 27)).alloc (.cells #[.bool im, .slice a n c] 51)).cell? ⟨w.heap.size, 1, none⟩ = some (.slice v.sa v.sn v.sc) ∧ w.heap.size < ((w.alloc (.cells v.cells 27)).alloc (.cells #[.bool im, .slice a n c] 51)).heap.size) :=
    ⟨((Still.refl w).alloc _).alloc _, (Blk.alloc (Blk.new w 27 v.cells) _).cell 1, by simp; omega⟩
  have henter : ∀ (args : Array Value) (W : World), (callFunc 76 args).run Tryz.prog W = .ok (.enter 76 args) W := enters_of Tryz.func76 (by kernel_rfl) rfl
  have hB2 := Nat.le_trans hB S2.out.1.size
  have H := Lib.hid (containsInt_any (c := c) (noRec m) 76 #[] #[.pointer (some ⟨w.heap.size, 0, none⟩)] henter (hl.keep (Still.below S2.out.1 |>.mono hB) hB) hB2 hn
    (fun x W hx hW => thrown1_any (hp.keep ((Still.below (S2.out.1.trans hW)).mono hB) hB) (Nat.le_trans hB2 hW.size) ((hW.cell (p := ⟨w.heap.size, 1, none⟩) S2.out.2.2).trans S2.out.2.1) (hin x hx)))
  have HE : Hid (thrownB m ⟨im, xs⟩ = (im && !(xs.any (noRec m)))) := rfl
  generalize (xs.any (noRec m)) = q at *
  generalize thrownB m ⟨im, xs⟩ = r at *
  clear hl hB hn henter hin hp hB2
  obtain ⟨ta, tn, tc, sa, sn, sc, xa, xn, xc, na, nn, nc, fa, fn, fc, mi, ei⟩ := v
  dsimp only at H S2 ⊢
  cases im with
  | true =>
    go_enter Tryz.func46, Tryz.ntmps46
    go_wp2_with fail
    refine H.out.mono ?_; rintro e w1 ⟨rfl, t1⟩
    have T1 := Lib.hid (S2.out.1.trans t1)
    clear t1
    go_wp2_with fail
    go_ret
    exact ⟨by rw [HE.out]; rfl, T1.out⟩
  | false =>
    go_enter Tryz.func46, Tryz.ntmps46
    go_wp2_with fail
    go_ret
    exact ⟨by rw [HE.out]; rfl, S2.out.1⟩
end Go.Proofs.YtglalgjffkoneaaGreatDoor
/- slices.ContainsFunc over what lies in memory, for any test that leaves memory as it is. -/
namespace Go.Proofs.YtglalgjffkoneaaGreatDoor
set_option linter.unusedVariables false
open Go.ChangeShapes Go.WideShapes Go.ChangeAt Go.RowKit
open M (W)
theorem indexTy_any (p : M.Ty → Bool) (fid : FuncId) (hfid : ∀ args W, (callFunc fid args).run Tryz.prog W = .ok (.enter fid args) W) {B : Nat} {w : World} {a : Option Addr} {n c : Nat} {l : List M.Ty}
    (hl : Lies B w 2 (TyIs B w) a n l) (hB : B ≤ w.heap.size) (hn : n ≤ maxLen)
    (hf : ∀ (a2 : Option Addr) (n2 c2 : Nat) (x : M.Ty) (W : World), x ∈ l → (TyIs B W) [.bool x.imm, .slice a2 n2 c2] x → B ≤ W.heap.size → Calls Tryz.prog fid #[.agg #[.bool x.imm, .slice a2 n2 c2]] W fun e w' => e = .returned (.bool (p x)) ∧ Still W w') :
    Calls Tryz.prog 143 #[.slice a n c, .func (.func fid) #[] #[]] w fun e w' => ∃ z : Int, e = .returned (.int .i64 z) ∧ decide (0 ≤ z) = l.any p ∧ Still w w' := by
  have HL := Lib.hid hl
  have HB := Lib.hid hB
  have HF := Lib.hid hf
  have HFID := Lib.hid hfid
  have hlen := hl.len
  have HLEN := Lib.hid hlen
  have hn63 : n ≤ 9223372036854775807 := by unfold maxLen at hn; omega
  clear hl hB hn hf hfid hlen
  go_enter Tryz.func143, Tryz.ntmps143
  go_wp2_with fail
  go_loopw [8] (fun v wr => ∃ i : Nat, v = .int .i64 i ∧ i ≤ n ∧ (l.take i).any p = false ∧ Still w wr) (fun v _ => n - (intOf v).toNat)
  case atStart => exact ⟨0, rfl, by omega, by simp, Still.refl _⟩
  case round =>
    obtain ⟨i, rfl, hi, hany, ht⟩ := hrel
    by_cases hlt : i < n
    · obtain ⟨b, off, x, cs, rfl, hbB, hxi, hcl, hPx, hcell⟩ := HL.out.here hlt
      have hPw := TyIs.keep hPx (Still.below ht |>.mono HB.out) HB.out
      obtain ⟨a2, n2, c2, rfl, hp⟩ := hPx
      have hmem : x ∈ l := List.mem_of_getElem? hxi
      have hbl : b < wr.heap.size := Nat.lt_of_lt_of_le (Nat.lt_of_lt_of_le hbB HB.out) ht.size
      have d0 : wr.cell? ⟨b, off + i * 2, none⟩ = some (.bool x.imm) := (Still.cell ht (p := ⟨b, _, none⟩) (Nat.lt_of_lt_of_le hbB HB.out)).trans (by simpa using hcell 0 (by decide))
      have d1 : wr.cell? ⟨b, off + i * 2 + 1, none⟩ = some (.slice a2 n2 c2) := (Still.cell ht (p := ⟨b, _, none⟩) (Nat.lt_of_lt_of_le hbB HB.out)).trans (by simpa using hcell 1 (by decide))
      have HC := Lib.hid (HF.out a2 n2 c2 x wr hmem hPw (Nat.le_trans HB.out ht.size))
      have htk : (l.take (i + 1)).any p = p x := by
        rw [List.take_add_one, hxi, List.any_append, hany]; simp
      have HT := Lib.hid ht
      have HK := Lib.hid htk
      have HM := Lib.hid hmem
      have hfid := HFID.out
      clear hxi hcl hp hPw hcell htk hmem ht hany
      cases hpx : p x with
      | true =>
        rw [hpx] at HC
        go_wp2_with fail
        refine HC.out.mono ?_; rintro e w3 ⟨rfl, t3⟩
        have HT3 := Lib.hid (HT.out.trans t3)
        clear t3 hfid
        go_wp2_with fail
        go_ret
        refine ⟨i, rfl, ?_, HT3.out⟩
        have : l.any p = true := List.any_eq_true.2 ⟨x, HM.out, hpx⟩
        rw [this]
        simp
      | false =>
        rw [hpx] at HC
        go_wp2_with fail
        refine HC.out.mono ?_; rintro e w3 ⟨rfl, t3⟩
        have HT3 := Lib.hid (HT.out.trans t3)
        clear t3 hfid
        go_wp2_with fail
        go_roundw
        case rel => exact ⟨i + 1, rfl, by omega, by rw [HK.out, hpx], HT3.out⟩
        case measure => simp [intOf]; omega
    · obtain rfl : i = n := by omega
      have hfin : l.any p = false := by
        rw [← HLEN.out, List.take_length] at hany; exact hany
      have HFIN := Lib.hid hfin
      have HT := Lib.hid ht
      clear ht hany hfin
      go_wp2_with fail
      go_ret
      exact ⟨-1, rfl, by rw [HFIN.out]; rfl, HT.out⟩
theorem containsTy_any (p : M.Ty → Bool) (fid : FuncId) (hfid : ∀ args W, (callFunc fid args).run Tryz.prog W = .ok (.enter fid args) W) {B : Nat} {w : World} {a : Option Addr} {n c : Nat} {l : List M.Ty}
    (hl : Lies B w 2 (TyIs B w) a n l) (hB : B ≤ w.heap.size) (hn : n ≤ maxLen)
    (hf : ∀ (a2 : Option Addr) (n2 c2 : Nat) (x : M.Ty) (W : World), x ∈ l → (TyIs B W) [.bool x.imm, .slice a2 n2 c2] x → B ≤ W.heap.size → Calls Tryz.prog fid #[.agg #[.bool x.imm, .slice a2 n2 c2]] W fun e w' => e = .returned (.bool (p x)) ∧ Still W w') :
    Calls Tryz.prog 104 #[.slice a n c, .func (.func fid) #[] #[]] w fun e w' => e = .returned (.bool (l.any p)) ∧ Still w w' := by
  have H := Lib.hid (indexTy_any (c := c) p fid hfid hl hB hn hf)
  clear hl hB hn hf hfid
  go_enter Tryz.func104, Tryz.ntmps104
  go_wp2_with fail
  refine H.out.mono ?_; rintro e w1 ⟨z, rfl, hz, t1⟩
  have HZ := Lib.hid hz
  have HT := Lib.hid t1
  clear hz t1
  go_wp2_with fail
  go_ret
  refine ⟨?_, HT.out⟩
  show Ending.returned (.bool (decide (0 ≤ z))) = _
  rw [HZ.out]
theorem indexSh_any (p : M.Sh → Bool) (fid : FuncId) (hfid : ∀ args W, (callFunc fid args).run Tryz.prog W = .ok (.enter fid args) W) {B : Nat} {w : World} {a : Option Addr} {n c : Nat} {l : List M.Sh}
    (hl : Lies B w 3 (ShIs B w) a n l) (hB : B ≤ w.heap.size) (hn : n ≤ maxLen)
    (hf : ∀ (a2 : Option Addr) (n2 c2 : Nat) (x : M.Sh) (W : World), x ∈ l → (ShIs B W) [.int .i64 x.kind, .slice a2 n2 c2, .string x.name] x → B ≤ W.heap.size → Calls Tryz.prog fid #[.agg #[.int .i64 x.kind, .slice a2 n2 c2, .string x.name]] W fun e w' => e = .returned (.bool (p x)) ∧ Still W w') :
    Calls Tryz.prog 144 #[.slice a n c, .func (.func fid) #[] #[]] w fun e w' => ∃ z : Int, e = .returned (.int .i64 z) ∧ decide (0 ≤ z) = l.any p ∧ Still w w' := by
  have HL := Lib.hid hl
  have HB := Lib.hid hB
  have HF := Lib.hid hf
  have HFID := Lib.hid hfid
  have hlen := hl.len
  have HLEN := Lib.hid hlen
  have hn63 : n ≤ 9223372036854775807 := by unfold maxLen at hn; omega
  clear hl hB hn hf hfid hlen
  go_enter Tryz.func144, Tryz.ntmps144
  go_wp2_with fail
  go_loopw [8] (fun v wr => ∃ i : Nat, v = .int .i64 i ∧ i ≤ n ∧ (l.take i).any p = false ∧ Still w wr) (fun v _ => n - (intOf v).toNat)
  case atStart => exact ⟨0, rfl, by omega, by simp, Still.refl _⟩
  case round =>
    obtain ⟨i, rfl, hi, hany, ht⟩ := hrel
    by_cases hlt : i < n
    · obtain ⟨b, off, x, cs, rfl, hbB, hxi, hcl, hPx, hcell⟩ := HL.out.here hlt
      have hPw := ShIs.keep hPx (Still.below ht |>.mono HB.out) HB.out
      obtain ⟨a2, n2, c2, rfl, hp⟩ := hPx
      have hmem : x ∈ l := List.mem_of_getElem? hxi
      have hbl : b < wr.heap.size := Nat.lt_of_lt_of_le (Nat.lt_of_lt_of_le hbB HB.out) ht.size
      have d0 : wr.cell? ⟨b, off + i * 3, none⟩ = some (.int .i64 x.kind) := (Still.cell ht (p := ⟨b, _, none⟩) (Nat.lt_of_lt_of_le hbB HB.out)).trans (by simpa using hcell 0 (by decide))
      have d1 : wr.cell? ⟨b, off + i * 3 + 1, none⟩ = some (.slice a2 n2 c2) := (Still.cell ht (p := ⟨b, _, none⟩) (Nat.lt_of_lt_of_le hbB HB.out)).trans (by simpa using hcell 1 (by decide))
      have d2 : wr.cell? ⟨b, off + i * 3 + 2, none⟩ = some (.string x.name) := (Still.cell ht (p := ⟨b, _, none⟩) (Nat.lt_of_lt_of_le hbB HB.out)).trans (by simpa using hcell 2 (by decide))
      have HC := Lib.hid (HF.out a2 n2 c2 x wr hmem hPw (Nat.le_trans HB.out ht.size))
      have htk : (l.take (i + 1)).any p = p x := by
        rw [List.take_add_one, hxi, List.any_append, hany]; simp
      have HT := Lib.hid ht
      have HK := Lib.hid htk
      have HM := Lib.hid hmem
      have hfid := HFID.out
      clear hxi hcl hp hPw hcell htk hmem ht hany
      cases hpx : p x with
      | true =>
        rw [hpx] at HC
        go_wp2_with fail
        refine HC.out.mono ?_; rintro e w3 ⟨rfl, t3⟩
        have HT3 := Lib.hid (HT.out.trans t3)
        clear t3 hfid
        go_wp2_with fail
        go_ret
        refine ⟨i, rfl, ?_, HT3.out⟩
        have : l.any p = true := List.any_eq_true.2 ⟨x, HM.out, hpx⟩
        rw [this]
        simp
      | false =>
        rw [hpx] at HC
        go_wp2_with fail
        refine HC.out.mono ?_; rintro e w3 ⟨rfl, t3⟩
        have HT3 := Lib.hid (HT.out.trans t3)
        clear t3 hfid
        go_wp2_with fail
        go_roundw
        case rel => exact ⟨i + 1, rfl, by omega, by rw [HK.out, hpx], HT3.out⟩
        case measure => simp [intOf]; omega
    · obtain rfl : i = n := by omega
      have hfin : l.any p = false := by
        rw [← HLEN.out, List.take_length] at hany; exact hany
      have HFIN := Lib.hid hfin
      have HT := Lib.hid ht
      clear ht hany hfin
      go_wp2_with fail
      go_ret
      exact ⟨-1, rfl, by rw [HFIN.out]; rfl, HT.out⟩
theorem containsSh_any (p : M.Sh → Bool) (fid : FuncId) (hfid : ∀ args W, (callFunc fid args).run Tryz.prog W = .ok (.enter fid args) W) {B : Nat} {w : World} {a : Option Addr} {n c : Nat} {l : List M.Sh}
    (hl : Lies B w 3 (ShIs B w) a n l) (hB : B ≤ w.heap.size) (hn : n ≤ maxLen)
    (hf : ∀ (a2 : Option Addr) (n2 c2 : Nat) (x : M.Sh) (W : World), x ∈ l → (ShIs B W) [.int .i64 x.kind, .slice a2 n2 c2, .string x.name] x → B ≤ W.heap.size → Calls Tryz.prog fid #[.agg #[.int .i64 x.kind, .slice a2 n2 c2, .string x.name]] W fun e w' => e = .returned (.bool (p x)) ∧ Still W w') :
    Calls Tryz.prog 106 #[.slice a n c, .func (.func fid) #[] #[]] w fun e w' => e = .returned (.bool (l.any p)) ∧ Still w w' := by
  have H := Lib.hid (indexSh_any (c := c) p fid hfid hl hB hn hf)
  clear hl hB hn hf hfid
  go_enter Tryz.func106, Tryz.ntmps106
  go_wp2_with fail
  refine H.out.mono ?_; rintro e w1 ⟨z, rfl, hz, t1⟩
  have HZ := Lib.hid hz
  have HT := Lib.hid t1
  clear hz t1
  go_wp2_with fail
  go_ret
  refine ⟨?_, HT.out⟩
  show Ending.returned (.bool (decide (0 ≤ z))) = _
  rw [HZ.out]
theorem indexTx_any (p : ByteArray → Bool) (fid : FuncId) (hfid : ∀ args W, (callFunc fid args).run Tryz.prog W = .ok (.enter fid args) W) {B : Nat} {w : World} {a : Option Addr} {n c : Nat} {l : List ByteArray}
    (hl : Lies B w 1 TxIs a n l) (hB : B ≤ w.heap.size) (hn : n ≤ maxLen)
    (hf : ∀  (x : ByteArray) (W : World), x ∈ l → TxIs [.string x] x → B ≤ W.heap.size → Calls Tryz.prog fid #[.string x] W fun e w' => e = .returned (.bool (p x)) ∧ Still W w') :
    Calls Tryz.prog 145 #[.slice a n c, .func (.func fid) #[] #[]] w fun e w' => ∃ z : Int, e = .returned (.int .i64 z) ∧ decide (0 ≤ z) = l.any p ∧ Still w w' := by
  have HL := Lib.hid hl
  have HB := Lib.hid hB
  have HF := Lib.hid hf
  have HFID := Lib.hid hfid
  have hlen := hl.len
  have HLEN := Lib.hid hlen
  have hn63 : n ≤ 9223372036854775807 := by unfold maxLen at hn; omega
  clear hl hB hn hf hfid hlen
  go_enter Tryz.func145, Tryz.ntmps145
  go_wp2_with fail
  go_loopw [8] (fun v wr => ∃ i : Nat, v = .int .i64 i ∧ i ≤ n ∧ (l.take i).any p = false ∧ Still w wr) (fun v _ => n - (intOf v).toNat)
  case atStart => exact ⟨0, rfl, by omega, by simp, Still.refl _⟩
  case round =>
    obtain ⟨i, rfl, hi, hany, ht⟩ := hrel
    by_cases hlt : i < n
    · obtain ⟨b, off, x, cs, rfl, hbB, hxi, hcl, hPx, hcell⟩ := HL.out.here hlt
      have hPw := hPx
      obtain ⟨rfl, hp⟩ := hPx
      have hmem : x ∈ l := List.mem_of_getElem? hxi
      have hbl : b < wr.heap.size := Nat.lt_of_lt_of_le (Nat.lt_of_lt_of_le hbB HB.out) ht.size
      have d0 : wr.cell? ⟨b, off + i, none⟩ = some (.string x) := (Still.cell ht (p := ⟨b, _, none⟩) (Nat.lt_of_lt_of_le hbB HB.out)).trans (by simpa using hcell 0 (by decide))
      have HC := Lib.hid (HF.out  x wr hmem hPw (Nat.le_trans HB.out ht.size))
      have htk : (l.take (i + 1)).any p = p x := by
        rw [List.take_add_one, hxi, List.any_append, hany]; simp
      have HT := Lib.hid ht
      have HK := Lib.hid htk
      have HM := Lib.hid hmem
      have hfid := HFID.out
      clear hxi hcl hp hPw hcell htk hmem ht hany
      cases hpx : p x with
      | true =>
        rw [hpx] at HC
        go_wp2_with fail
        refine HC.out.mono ?_; rintro e w3 ⟨rfl, t3⟩
        have HT3 := Lib.hid (HT.out.trans t3)
        clear t3 hfid
        go_wp2_with fail
        go_ret
        refine ⟨i, rfl, ?_, HT3.out⟩
        have : l.any p = true := List.any_eq_true.2 ⟨x, HM.out, hpx⟩
        rw [this]
        simp
      | false =>
        rw [hpx] at HC
        go_wp2_with fail
        refine HC.out.mono ?_; rintro e w3 ⟨rfl, t3⟩
        have HT3 := Lib.hid (HT.out.trans t3)
        clear t3 hfid
        go_wp2_with fail
        go_roundw
        case rel => exact ⟨i + 1, rfl, by omega, by rw [HK.out, hpx], HT3.out⟩
        case measure => simp [intOf]; omega
    · obtain rfl : i = n := by omega
      have hfin : l.any p = false := by
        rw [← HLEN.out, List.take_length] at hany; exact hany
      have HFIN := Lib.hid hfin
      have HT := Lib.hid ht
      clear ht hany hfin
      go_wp2_with fail
      go_ret
      exact ⟨-1, rfl, by rw [HFIN.out]; rfl, HT.out⟩
theorem containsTx_any (p : ByteArray → Bool) (fid : FuncId) (hfid : ∀ args W, (callFunc fid args).run Tryz.prog W = .ok (.enter fid args) W) {B : Nat} {w : World} {a : Option Addr} {n c : Nat} {l : List ByteArray}
    (hl : Lies B w 1 TxIs a n l) (hB : B ≤ w.heap.size) (hn : n ≤ maxLen)
    (hf : ∀  (x : ByteArray) (W : World), x ∈ l → TxIs [.string x] x → B ≤ W.heap.size → Calls Tryz.prog fid #[.string x] W fun e w' => e = .returned (.bool (p x)) ∧ Still W w') :
    Calls Tryz.prog 108 #[.slice a n c, .func (.func fid) #[] #[]] w fun e w' => e = .returned (.bool (l.any p)) ∧ Still w w' := by
  have H := Lib.hid (indexTx_any (c := c) p fid hfid hl hB hn hf)
  clear hl hB hn hf hfid
  go_enter Tryz.func108, Tryz.ntmps108
  go_wp2_with fail
  refine H.out.mono ?_; rintro e w1 ⟨z, rfl, hz, t1⟩
  have HZ := Lib.hid hz
  have HT := Lib.hid t1
  clear hz t1
  go_wp2_with fail
  go_ret
  refine ⟨?_, HT.out⟩
  show Ending.returned (.bool (decide (0 ≤ z))) = _
  rw [HZ.out]
theorem indexFn_any (p : M.Fn → Bool) (fid : FuncId) (hfid : ∀ args W, (callFunc fid args).run Tryz.prog W = .ok (.enter fid args) W) {B : Nat} {w : World} {a : Option Addr} {n c : Nat} {l : List M.Fn}
    (hl : Lies B w 4 (FnIs B w) a n l) (hB : B ≤ w.heap.size) (hn : n ≤ maxLen)
    (hf : ∀ (a2 : Option Addr) (n2 c2 : Nat) (a3 : Option Addr) (n3 c3 : Nat) (x : M.Fn) (W : World), x ∈ l → (FnIs B W) [.slice a2 n2 c2, .int .i64 x.result, .int .i64 x.slots, .slice a3 n3 c3] x → B ≤ W.heap.size → Calls Tryz.prog fid #[.agg #[.slice a2 n2 c2, .int .i64 x.result, .int .i64 x.slots, .slice a3 n3 c3]] W fun e w' => e = .returned (.bool (p x)) ∧ Still W w') :
    Calls Tryz.prog 146 #[.slice a n c, .func (.func fid) #[] #[]] w fun e w' => ∃ z : Int, e = .returned (.int .i64 z) ∧ decide (0 ≤ z) = l.any p ∧ Still w w' := by
  have HL := Lib.hid hl
  have HB := Lib.hid hB
  have HF := Lib.hid hf
  have HFID := Lib.hid hfid
  have hlen := hl.len
  have HLEN := Lib.hid hlen
  have hn63 : n ≤ 9223372036854775807 := by unfold maxLen at hn; omega
  clear hl hB hn hf hfid hlen
  go_enter Tryz.func146, Tryz.ntmps146
  go_wp2_with fail
  go_loopw [8] (fun v wr => ∃ i : Nat, v = .int .i64 i ∧ i ≤ n ∧ (l.take i).any p = false ∧ Still w wr) (fun v _ => n - (intOf v).toNat)
  case atStart => exact ⟨0, rfl, by omega, by simp, Still.refl _⟩
  case round =>
    obtain ⟨i, rfl, hi, hany, ht⟩ := hrel
    by_cases hlt : i < n
    · obtain ⟨b, off, x, cs, rfl, hbB, hxi, hcl, hPx, hcell⟩ := HL.out.here hlt
      have hPw := FnIs.keep hPx (Still.below ht |>.mono HB.out) HB.out
      obtain ⟨a2, n2, c2, a3, n3, c3, rfl, hp⟩ := hPx
      have hmem : x ∈ l := List.mem_of_getElem? hxi
      have hbl : b < wr.heap.size := Nat.lt_of_lt_of_le (Nat.lt_of_lt_of_le hbB HB.out) ht.size
      have d0 : wr.cell? ⟨b, off + i * 4, none⟩ = some (.slice a2 n2 c2) := (Still.cell ht (p := ⟨b, _, none⟩) (Nat.lt_of_lt_of_le hbB HB.out)).trans (by simpa using hcell 0 (by decide))
      have d1 : wr.cell? ⟨b, off + i * 4 + 1, none⟩ = some (.int .i64 x.result) := (Still.cell ht (p := ⟨b, _, none⟩) (Nat.lt_of_lt_of_le hbB HB.out)).trans (by simpa using hcell 1 (by decide))
      have d2 : wr.cell? ⟨b, off + i * 4 + 2, none⟩ = some (.int .i64 x.slots) := (Still.cell ht (p := ⟨b, _, none⟩) (Nat.lt_of_lt_of_le hbB HB.out)).trans (by simpa using hcell 2 (by decide))
      have d3 : wr.cell? ⟨b, off + i * 4 + 3, none⟩ = some (.slice a3 n3 c3) := (Still.cell ht (p := ⟨b, _, none⟩) (Nat.lt_of_lt_of_le hbB HB.out)).trans (by simpa using hcell 3 (by decide))
      have HC := Lib.hid (HF.out a2 n2 c2 a3 n3 c3 x wr hmem hPw (Nat.le_trans HB.out ht.size))
      have htk : (l.take (i + 1)).any p = p x := by
        rw [List.take_add_one, hxi, List.any_append, hany]; simp
      have HT := Lib.hid ht
      have HK := Lib.hid htk
      have HM := Lib.hid hmem
      have hfid := HFID.out
      clear hxi hcl hp hPw hcell htk hmem ht hany
      cases hpx : p x with
      | true =>
        rw [hpx] at HC
        go_wp2_with fail
        refine HC.out.mono ?_; rintro e w3 ⟨rfl, t3⟩
        have HT3 := Lib.hid (HT.out.trans t3)
        clear t3 hfid
        go_wp2_with fail
        go_ret
        refine ⟨i, rfl, ?_, HT3.out⟩
        have : l.any p = true := List.any_eq_true.2 ⟨x, HM.out, hpx⟩
        rw [this]
        simp
      | false =>
        rw [hpx] at HC
        go_wp2_with fail
        refine HC.out.mono ?_; rintro e w3 ⟨rfl, t3⟩
        have HT3 := Lib.hid (HT.out.trans t3)
        clear t3 hfid
        go_wp2_with fail
        go_roundw
        case rel => exact ⟨i + 1, rfl, by omega, by rw [HK.out, hpx], HT3.out⟩
        case measure => simp [intOf]; omega
    · obtain rfl : i = n := by omega
      have hfin : l.any p = false := by
        rw [← HLEN.out, List.take_length] at hany; exact hany
      have HFIN := Lib.hid hfin
      have HT := Lib.hid ht
      clear ht hany hfin
      go_wp2_with fail
      go_ret
      exact ⟨-1, rfl, by rw [HFIN.out]; rfl, HT.out⟩
theorem containsFn_any (p : M.Fn → Bool) (fid : FuncId) (hfid : ∀ args W, (callFunc fid args).run Tryz.prog W = .ok (.enter fid args) W) {B : Nat} {w : World} {a : Option Addr} {n c : Nat} {l : List M.Fn}
    (hl : Lies B w 4 (FnIs B w) a n l) (hB : B ≤ w.heap.size) (hn : n ≤ maxLen)
    (hf : ∀ (a2 : Option Addr) (n2 c2 : Nat) (a3 : Option Addr) (n3 c3 : Nat) (x : M.Fn) (W : World), x ∈ l → (FnIs B W) [.slice a2 n2 c2, .int .i64 x.result, .int .i64 x.slots, .slice a3 n3 c3] x → B ≤ W.heap.size → Calls Tryz.prog fid #[.agg #[.slice a2 n2 c2, .int .i64 x.result, .int .i64 x.slots, .slice a3 n3 c3]] W fun e w' => e = .returned (.bool (p x)) ∧ Still W w') :
    Calls Tryz.prog 110 #[.slice a n c, .func (.func fid) #[] #[]] w fun e w' => e = .returned (.bool (l.any p)) ∧ Still w w' := by
  have H := Lib.hid (indexFn_any (c := c) p fid hfid hl hB hn hf)
  clear hl hB hn hf hfid
  go_enter Tryz.func110, Tryz.ntmps110
  go_wp2_with fail
  refine H.out.mono ?_; rintro e w1 ⟨z, rfl, hz, t1⟩
  have HZ := Lib.hid hz
  have HT := Lib.hid t1
  clear hz t1
  go_wp2_with fail
  go_ret
  refine ⟨?_, HT.out⟩
  show Ending.returned (.bool (decide (0 ≤ z))) = _
  rw [HZ.out]
theorem indexBk_any (p : M.Bk → Bool) (fid : FuncId) (hfid : ∀ args W, (callFunc fid args).run Tryz.prog W = .ok (.enter fid args) W) {B : Nat} {w : World} {a : Option Addr} {n c : Nat} {l : List M.Bk}
    (hl : Lies B w 2 (BkIs B w) a n l) (hB : B ≤ w.heap.size) (hn : n ≤ maxLen)
    (hf : ∀ (a2 : Option Addr) (n2 c2 : Nat) (a3 : Option Addr) (n3 c3 : Nat) (x : M.Bk) (W : World), x ∈ l → (BkIs B W) [.slice a2 n2 c2, .slice a3 n3 c3] x → B ≤ W.heap.size → Calls Tryz.prog fid #[.agg #[.slice a2 n2 c2, .slice a3 n3 c3]] W fun e w' => e = .returned (.bool (p x)) ∧ Still W w') :
    Calls Tryz.prog 168 #[.slice a n c, .func (.func fid) #[] #[]] w fun e w' => ∃ z : Int, e = .returned (.int .i64 z) ∧ decide (0 ≤ z) = l.any p ∧ Still w w' := by
  have HL := Lib.hid hl
  have HB := Lib.hid hB
  have HF := Lib.hid hf
  have HFID := Lib.hid hfid
  have hlen := hl.len
  have HLEN := Lib.hid hlen
  have hn63 : n ≤ 9223372036854775807 := by unfold maxLen at hn; omega
  clear hl hB hn hf hfid hlen
  go_enter Tryz.func168, Tryz.ntmps168
  go_wp2_with fail
  go_loopw [8] (fun v wr => ∃ i : Nat, v = .int .i64 i ∧ i ≤ n ∧ (l.take i).any p = false ∧ Still w wr) (fun v _ => n - (intOf v).toNat)
  case atStart => exact ⟨0, rfl, by omega, by simp, Still.refl _⟩
  case round =>
    obtain ⟨i, rfl, hi, hany, ht⟩ := hrel
    by_cases hlt : i < n
    · obtain ⟨b, off, x, cs, rfl, hbB, hxi, hcl, hPx, hcell⟩ := HL.out.here hlt
      have hPw := BkIs.keep hPx (Still.below ht |>.mono HB.out) HB.out
      obtain ⟨a2, n2, c2, a3, n3, c3, rfl, hp⟩ := hPx
      have hmem : x ∈ l := List.mem_of_getElem? hxi
      have hbl : b < wr.heap.size := Nat.lt_of_lt_of_le (Nat.lt_of_lt_of_le hbB HB.out) ht.size
      have d0 : wr.cell? ⟨b, off + i * 2, none⟩ = some (.slice a2 n2 c2) := (Still.cell ht (p := ⟨b, _, none⟩) (Nat.lt_of_lt_of_le hbB HB.out)).trans (by simpa using hcell 0 (by decide))
      have d1 : wr.cell? ⟨b, off + i * 2 + 1, none⟩ = some (.slice a3 n3 c3) := (Still.cell ht (p := ⟨b, _, none⟩) (Nat.lt_of_lt_of_le hbB HB.out)).trans (by simpa using hcell 1 (by decide))
      have HC := Lib.hid (HF.out a2 n2 c2 a3 n3 c3 x wr hmem hPw (Nat.le_trans HB.out ht.size))
      have htk : (l.take (i + 1)).any p = p x := by
        rw [List.take_add_one, hxi, List.any_append, hany]; simp
      have HT := Lib.hid ht
      have HK := Lib.hid htk
      have HM := Lib.hid hmem
      have hfid := HFID.out
      clear hxi hcl hp hPw hcell htk hmem ht hany
      cases hpx : p x with
      | true =>
        rw [hpx] at HC
        go_wp2_with fail
        refine HC.out.mono ?_; rintro e w3 ⟨rfl, t3⟩
        have HT3 := Lib.hid (HT.out.trans t3)
        clear t3 hfid
        go_wp2_with fail
        go_ret
        refine ⟨i, rfl, ?_, HT3.out⟩
        have : l.any p = true := List.any_eq_true.2 ⟨x, HM.out, hpx⟩
        rw [this]
        simp
      | false =>
        rw [hpx] at HC
        go_wp2_with fail
        refine HC.out.mono ?_; rintro e w3 ⟨rfl, t3⟩
        have HT3 := Lib.hid (HT.out.trans t3)
        clear t3 hfid
        go_wp2_with fail
        go_roundw
        case rel => exact ⟨i + 1, rfl, by omega, by rw [HK.out, hpx], HT3.out⟩
        case measure => simp [intOf]; omega
    · obtain rfl : i = n := by omega
      have hfin : l.any p = false := by
        rw [← HLEN.out, List.take_length] at hany; exact hany
      have HFIN := Lib.hid hfin
      have HT := Lib.hid ht
      clear ht hany hfin
      go_wp2_with fail
      go_ret
      exact ⟨-1, rfl, by rw [HFIN.out]; rfl, HT.out⟩
theorem containsBk_any (p : M.Bk → Bool) (fid : FuncId) (hfid : ∀ args W, (callFunc fid args).run Tryz.prog W = .ok (.enter fid args) W) {B : Nat} {w : World} {a : Option Addr} {n c : Nat} {l : List M.Bk}
    (hl : Lies B w 2 (BkIs B w) a n l) (hB : B ≤ w.heap.size) (hn : n ≤ maxLen)
    (hf : ∀ (a2 : Option Addr) (n2 c2 : Nat) (a3 : Option Addr) (n3 c3 : Nat) (x : M.Bk) (W : World), x ∈ l → (BkIs B W) [.slice a2 n2 c2, .slice a3 n3 c3] x → B ≤ W.heap.size → Calls Tryz.prog fid #[.agg #[.slice a2 n2 c2, .slice a3 n3 c3]] W fun e w' => e = .returned (.bool (p x)) ∧ Still W w') :
    Calls Tryz.prog 147 #[.slice a n c, .func (.func fid) #[] #[]] w fun e w' => e = .returned (.bool (l.any p)) ∧ Still w w' := by
  have H := Lib.hid (indexBk_any (c := c) p fid hfid hl hB hn hf)
  clear hl hB hn hf hfid
  go_enter Tryz.func147, Tryz.ntmps147
  go_wp2_with fail
  refine H.out.mono ?_; rintro e w1 ⟨z, rfl, hz, t1⟩
  have HZ := Lib.hid hz
  have HT := Lib.hid t1
  clear hz t1
  go_wp2_with fail
  go_ret
  refine ⟨?_, HT.out⟩
  show Ending.returned (.bool (decide (0 ≤ z))) = _
  rw [HZ.out]
theorem indexIns_any (p : M.Ins → Bool) (fid : FuncId) (hfid : ∀ args W, (callFunc fid args).run Tryz.prog W = .ok (.enter fid args) W) {B : Nat} {w : World} {a : Option Addr} {n c : Nat} {l : List M.Ins}
    (hl : Lies B w 9 (InsIs B w) a n l) (hB : B ≤ w.heap.size) (hn : n ≤ maxLen)
    (hf : ∀ (la : Option Addr) (ln lc : Nat) (ma : Option Addr) (mn mc : Nat) (va : Option Addr) (vn vc : Nat) (x : M.Ins) (W : World), x ∈ l → (InsIs B W) [.int .i64 x.op, .int .i64 x.d, .int .i64 x.a, .int .i64 x.b, .int .i64 x.c, .int .i64 x.n, .slice la ln lc, .slice ma mn mc, .slice va vn vc] x → B ≤ W.heap.size → Calls Tryz.prog fid #[.agg #[.int .i64 x.op, .int .i64 x.d, .int .i64 x.a, .int .i64 x.b, .int .i64 x.c, .int .i64 x.n, .slice la ln lc, .slice ma mn mc, .slice va vn vc]] W fun e w' => e = .returned (.bool (p x)) ∧ Still W w') :
    Calls Tryz.prog 149 #[.slice a n c, .func (.func fid) #[] #[]] w fun e w' => ∃ z : Int, e = .returned (.int .i64 z) ∧ decide (0 ≤ z) = l.any p ∧ Still w w' := by
  have HL := Lib.hid hl
  have HB := Lib.hid hB
  have HF := Lib.hid hf
  have HFID := Lib.hid hfid
  have hlen := hl.len
  have HLEN := Lib.hid hlen
  have hn63 : n ≤ 9223372036854775807 := by unfold maxLen at hn; omega
  clear hl hB hn hf hfid hlen
  go_enter Tryz.func149, Tryz.ntmps149
  go_wp2_with fail
  go_loopw [8] (fun v wr => ∃ i : Nat, v = .int .i64 i ∧ i ≤ n ∧ (l.take i).any p = false ∧ Still w wr) (fun v _ => n - (intOf v).toNat)
  case atStart => exact ⟨0, rfl, by omega, by simp, Still.refl _⟩
  case round =>
    obtain ⟨i, rfl, hi, hany, ht⟩ := hrel
    by_cases hlt : i < n
    · obtain ⟨b, off, x, cs, rfl, hbB, hxi, hcl, hPx, hcell⟩ := HL.out.here hlt
      have hPw := InsIs.keep hPx (Still.below ht |>.mono HB.out) HB.out
      obtain ⟨la, ln, lc, ma, mn, mc, va, vn, vc, rfl, hp⟩ := hPx
      have hmem : x ∈ l := List.mem_of_getElem? hxi
      have hbl : b < wr.heap.size := Nat.lt_of_lt_of_le (Nat.lt_of_lt_of_le hbB HB.out) ht.size
      have d0 : wr.cell? ⟨b, off + i * 9, none⟩ = some (.int .i64 x.op) := (Still.cell ht (p := ⟨b, _, none⟩) (Nat.lt_of_lt_of_le hbB HB.out)).trans (by simpa using hcell 0 (by decide))
      have d1 : wr.cell? ⟨b, off + i * 9 + 1, none⟩ = some (.int .i64 x.d) := (Still.cell ht (p := ⟨b, _, none⟩) (Nat.lt_of_lt_of_le hbB HB.out)).trans (by simpa using hcell 1 (by decide))
      have d2 : wr.cell? ⟨b, off + i * 9 + 2, none⟩ = some (.int .i64 x.a) := (Still.cell ht (p := ⟨b, _, none⟩) (Nat.lt_of_lt_of_le hbB HB.out)).trans (by simpa using hcell 2 (by decide))
      have d3 : wr.cell? ⟨b, off + i * 9 + 3, none⟩ = some (.int .i64 x.b) := (Still.cell ht (p := ⟨b, _, none⟩) (Nat.lt_of_lt_of_le hbB HB.out)).trans (by simpa using hcell 3 (by decide))
      have d4 : wr.cell? ⟨b, off + i * 9 + 4, none⟩ = some (.int .i64 x.c) := (Still.cell ht (p := ⟨b, _, none⟩) (Nat.lt_of_lt_of_le hbB HB.out)).trans (by simpa using hcell 4 (by decide))
      have d5 : wr.cell? ⟨b, off + i * 9 + 5, none⟩ = some (.int .i64 x.n) := (Still.cell ht (p := ⟨b, _, none⟩) (Nat.lt_of_lt_of_le hbB HB.out)).trans (by simpa using hcell 5 (by decide))
      have d6 : wr.cell? ⟨b, off + i * 9 + 6, none⟩ = some (.slice la ln lc) := (Still.cell ht (p := ⟨b, _, none⟩) (Nat.lt_of_lt_of_le hbB HB.out)).trans (by simpa using hcell 6 (by decide))
      have d7 : wr.cell? ⟨b, off + i * 9 + 7, none⟩ = some (.slice ma mn mc) := (Still.cell ht (p := ⟨b, _, none⟩) (Nat.lt_of_lt_of_le hbB HB.out)).trans (by simpa using hcell 7 (by decide))
      have d8 : wr.cell? ⟨b, off + i * 9 + 8, none⟩ = some (.slice va vn vc) := (Still.cell ht (p := ⟨b, _, none⟩) (Nat.lt_of_lt_of_le hbB HB.out)).trans (by simpa using hcell 8 (by decide))
      have HC := Lib.hid (HF.out la ln lc ma mn mc va vn vc x wr hmem hPw (Nat.le_trans HB.out ht.size))
      have htk : (l.take (i + 1)).any p = p x := by
        rw [List.take_add_one, hxi, List.any_append, hany]; simp
      have HT := Lib.hid ht
      have HK := Lib.hid htk
      have HM := Lib.hid hmem
      have hfid := HFID.out
      clear hxi hcl hp hPw hcell htk hmem ht hany
      cases hpx : p x with
      | true =>
        rw [hpx] at HC
        go_wp2_with fail
        refine HC.out.mono ?_; rintro e w3 ⟨rfl, t3⟩
        have HT3 := Lib.hid (HT.out.trans t3)
        clear t3 hfid
        go_wp2_with fail
        go_ret
        refine ⟨i, rfl, ?_, HT3.out⟩
        have : l.any p = true := List.any_eq_true.2 ⟨x, HM.out, hpx⟩
        rw [this]
        simp
      | false =>
        rw [hpx] at HC
        go_wp2_with fail
        refine HC.out.mono ?_; rintro e w3 ⟨rfl, t3⟩
        have HT3 := Lib.hid (HT.out.trans t3)
        clear t3 hfid
        go_wp2_with fail
        go_roundw
        case rel => exact ⟨i + 1, rfl, by omega, by rw [HK.out, hpx], HT3.out⟩
        case measure => simp [intOf]; omega
    · obtain rfl : i = n := by omega
      have hfin : l.any p = false := by
        rw [← HLEN.out, List.take_length] at hany; exact hany
      have HFIN := Lib.hid hfin
      have HT := Lib.hid ht
      clear ht hany hfin
      go_wp2_with fail
      go_ret
      exact ⟨-1, rfl, by rw [HFIN.out]; rfl, HT.out⟩
theorem containsIns_any (p : M.Ins → Bool) (fid : FuncId) (hfid : ∀ args W, (callFunc fid args).run Tryz.prog W = .ok (.enter fid args) W) {B : Nat} {w : World} {a : Option Addr} {n c : Nat} {l : List M.Ins}
    (hl : Lies B w 9 (InsIs B w) a n l) (hB : B ≤ w.heap.size) (hn : n ≤ maxLen)
    (hf : ∀ (la : Option Addr) (ln lc : Nat) (ma : Option Addr) (mn mc : Nat) (va : Option Addr) (vn vc : Nat) (x : M.Ins) (W : World), x ∈ l → (InsIs B W) [.int .i64 x.op, .int .i64 x.d, .int .i64 x.a, .int .i64 x.b, .int .i64 x.c, .int .i64 x.n, .slice la ln lc, .slice ma mn mc, .slice va vn vc] x → B ≤ W.heap.size → Calls Tryz.prog fid #[.agg #[.int .i64 x.op, .int .i64 x.d, .int .i64 x.a, .int .i64 x.b, .int .i64 x.c, .int .i64 x.n, .slice la ln lc, .slice ma mn mc, .slice va vn vc]] W fun e w' => e = .returned (.bool (p x)) ∧ Still W w') :
    Calls Tryz.prog 114 #[.slice a n c, .func (.func fid) #[] #[]] w fun e w' => e = .returned (.bool (l.any p)) ∧ Still w w' := by
  have H := Lib.hid (indexIns_any (c := c) p fid hfid hl hB hn hf)
  clear hl hB hn hf hfid
  go_enter Tryz.func114, Tryz.ntmps114
  go_wp2_with fail
  refine H.out.mono ?_; rintro e w1 ⟨z, rfl, hz, t1⟩
  have HZ := Lib.hid hz
  have HT := Lib.hid t1
  clear hz t1
  go_wp2_with fail
  go_ret
  refine ⟨?_, HT.out⟩
  show Ending.returned (.bool (decide (0 ≤ z))) = _
  rw [HZ.out]
end Go.Proofs.YtglalgjffkoneaaGreatDoor
/- Has a text this letter? -/
namespace Go.Proofs.YtglalgjffkoneaaGreatDoor
set_option linter.unusedVariables false
open Go.ChangeShapes Go.WideShapes Go.ChangeAt Go.RowKit
open M (W)
def M.hasB (s : ByteArray) (c : Nat) : Bool := decide (0 ≤ firstIdx s c.toUInt8)
theorem indexByte_any (s : ByteArray) (c : Nat) (w : World) : Calls Tryz.prog 174 #[.string s, .int .u8 c] w fun e w' => e = .returned (.int .i64 (firstIdx s c.toUInt8)) ∧ w' = w := by
  have hc : (callFunc 178 #[.string s, .int .u8 c]).run Tryz.prog w = .ok (.value (.int .i64 (firstIdx s c.toUInt8))) w := by
    rw [run_callFunc_extern (e := Extern.BytealgIndexByte.indexByte) Tryz.func178 (by kernel_rfl) (by kernel_rfl) (by kernel_rfl) (by kernel_rfl), run_indexByte_string]
    rfl
  go_enter Tryz.func174, Tryz.ntmps174
  go_wp2_with fail
  go_ret
  exact ⟨rfl, rfl⟩
theorem first_none {s : ByteArray} {c : UInt8} (h : ∀ k, k < s.size → s[k]! ≠ c) : firstIdx s c = -1 := by
  unfold firstIdx
  have : (List.range s.size).find? (fun i => s[i]! == c) = none := List.find?_eq_none.2 fun k hk => by
    have := h k (List.mem_range.1 hk)
    simpa using this
  rw [this]
theorem first_some {s : ByteArray} {c : UInt8} {i : Nat} (hi : i < s.size) (h : s[i]! = c) : 0 ≤ firstIdx s c := by
  unfold firstIdx
  cases hf : (List.range s.size).find? (fun i => s[i]! == c) with
  | none =>
    have := List.find?_eq_none.1 hf i (List.mem_range.2 hi)
    simp [h] at this
  | some j => simp
theorem first_one (c : Nat) {s : ByteArray} (h : ([UInt8.ofNat c] == s.toList) = true) : firstIdx s c.toUInt8 = 0 := by
  have h1 : [UInt8.ofNat c] = s.toList := by simpa using h
  rw [ByteArray.toList_eq] at h1
  have h2 : s = ⟨#[UInt8.ofNat c]⟩ := by
    cases s with
    | mk d =>
      congr 1
      exact Array.toList_inj.1 h1.symm
  subst h2
  unfold firstIdx
  have e : (List.range (ByteArray.mk #[UInt8.ofNat c]).size) = [0] := rfl
  rw [e]
  have e2 : ((ByteArray.mk #[UInt8.ofNat c])[0]! == c.toUInt8) = true := by
    have : (ByteArray.mk #[UInt8.ofNat c])[0]! = UInt8.ofNat c := rfl
    rw [this]; simp
  simp [e2]
set_option maxRecDepth 100000 in
theorem sindex_any (s : ByteArray) (c : Nat) (hc : c < 256) (w : World) : Calls Tryz.prog 169 #[.string s, .string ⟨#[c.toUInt8]⟩] w fun e w' => e = .returned (.int .i64 (firstIdx s c.toUInt8)) ∧ w' = w := by
  have H := Lib.hid (indexByte_any s c w)
  have F := Lib.hid (first_one c (s := s))
  have ec : (({ data := #[UInt8.ofNat c] } : ByteArray)[0]'(Nat.zero_lt_one)).toNat = c := by
    show (UInt8.ofNat c).toNat = c
    simp; omega
  cases hb : ([UInt8.ofNat c] == s.toList) with
  | false =>
    go_enter Tryz.func169, Tryz.ntmps169
    go_wp2_with fail
    refine H.out.mono ?_; rintro e w1 ⟨rfl, rfl⟩
    go_wp2_with fail
    go_ret
    exact ⟨rfl, rfl⟩
  | true =>
    have f := F.out hb
    go_enter Tryz.func169, Tryz.ntmps169
    go_wp2_with fail
    go_ret
    exact ⟨by rw [f]; rfl, rfl⟩
set_option maxRecDepth 100000 in
theorem has_any (s : ByteArray) (hs : s.size ≤ 1000) (c : Nat) (hc : c < 256) (w : World) : Calls Tryz.prog 79 #[.string s, .int .u8 c] w fun e w' => e = .returned (.bool (M.hasB s c)) ∧ w' = w := by
  go_enter Tryz.func79, Tryz.ntmps79
  go_wp2_with fail
  go_loop [5] (fun v => ∃ i : Nat, v = .int .i64 i ∧ i ≤ s.size ∧ ∀ k, k < i → s[k]! ≠ c.toUInt8) (fun v => s.size - (intOf v).toNat)
  case atStart => exact ⟨0, rfl, by omega, fun k hk => by omega⟩
  case round =>
    obtain ⟨i, rfl, hi, hn⟩ := hrel
    by_cases hlt : i < s.size
    · have eq1 : s[i]! = s[i] := getElem!_pos s i hlt
      cases hx : (((s[i].toNat : Nat) : Int) == (c : Int)) with
      | false =>
        go_wp2_with fail
        go_round
        case rel =>
          refine ⟨i + 1, by go_num, by omega, fun k hk => ?_⟩
          by_cases e : k = i
          · subst e
            rw [eq1]
            intro e
            have : s[k].toNat = c := by rw [e]; show (UInt8.ofNat c).toNat = c; simp; omega
            rw [this] at hx
            simp at hx
          · exact hn k (by omega)
        case measure => simp [intOf]; omega
      | true =>
        go_wp2_with fail
        go_ret
        have e1 : s[i].toNat = c := by have := beq_iff_eq.1 hx; omega
        have e2 : s[i]! = c.toUInt8 := by
          rw [eq1]
          apply UInt8.toNat_inj.1
          rw [e1]; show c = (UInt8.ofNat c).toNat; simp; omega
        have : M.hasB s c = true := decide_eq_true (first_some hlt e2)
        exact ⟨by rw [this]; rfl, rfl⟩
    · have e : i = s.size := by omega
      have : M.hasB s c = false := decide_eq_false (by rw [first_none (fun k hk => hn k (by omega))]; decide)
      clear hn
      go_wp2_with fail
      go_ret
      exact ⟨rfl, rfl⟩
theorem index_any (s : ByteArray) (c : Nat) (hc : c < 256) (w : World) : Calls Tryz.prog 150 #[.string s, .string ⟨#[c.toUInt8]⟩] w fun e w' => e = .returned (.int .i64 (firstIdx s c.toUInt8)) ∧ w' = w := by
  have H := Lib.hid (sindex_any s c hc w)
  go_enter Tryz.func150, Tryz.ntmps150
  go_wp2_with fail
  refine H.out.mono ?_; rintro e w1 ⟨rfl, rfl⟩
  go_wp2_with fail
  go_ret
  exact ⟨rfl, rfl⟩
theorem contains_any (s : ByteArray) (c : Nat) (hc : c < 256) (w : World) : Calls Tryz.prog 117 #[.string s, .string ⟨#[c.toUInt8]⟩] w fun e w' => e = .returned (.bool (M.hasB s c)) ∧ w' = w := by
  have H := Lib.hid (index_any s c hc w)
  unfold M.hasB
  go_enter Tryz.func117, Tryz.ntmps117
  go_wp2_with fail
  refine H.out.mono ?_; rintro e w1 ⟨rfl, rfl⟩
  go_wp2_with fail
  go_ret
  exact ⟨by simp, rfl⟩
theorem may_any (s : ByteArray) (c : Nat) (hc : c < 256) (b : Bool) (k : Nat) (w : World) (hb : w.cell? ⟨k, 0, none⟩ = some (.string s)) (hl : k < w.heap.size) :
    Calls Tryz.prog 116 #[.string ⟨#[c.toUInt8]⟩, .bool b, .pointer (some ⟨k, 0, none⟩)] w fun e w' => e = .returned (.bool (b || M.hasB s c)) ∧ w' = w := by
  have H := Lib.hid (contains_any s c hc w)
  cases b with
  | true =>
    go_enter Tryz.func116, Tryz.ntmps116
    go_wp2_with fail
    go_ret
    exact ⟨rfl, rfl⟩
  | false =>
    go_enter Tryz.func116, Tryz.ntmps116
    go_wp2_with (go_at_call 117; (with_reducible refine H.out.mono ?_); rintro e w1 ⟨rfl, rfl⟩)
    go_ret
    exact ⟨by simp, rfl⟩
end Go.Proofs.YtglalgjffkoneaaGreatDoor
/- Plain. -/
namespace Go.Proofs.YtglalgjffkoneaaGreatDoor
set_option linter.unusedVariables false
open Go.ChangeShapes Go.WideShapes Go.ChangeAt Go.RowKit
open M (W)
/-- An instruction's cells. -/
def M.ins (op d a b c n : Int) (la : Option Addr) (ll lc : Nat) (ma : Option Addr) (ml mc : Nat) (va : Option Addr) (vl vc : Nat) : Array Value :=
  #[.int .i64 op, .int .i64 d, .int .i64 a, .int .i64 b, .int .i64 c, .int .i64 n, .slice la ll lc, .slice ma ml mc, .slice va vl vc]
def M.may (s : ByteArray) (c : Nat) (z : Bool) : Bool := z || M.hasB s c
def M.plain (s : ByteArray) (d a b c n : Int) (ll ml vl : Nat) : Bool :=
  (!(s.toList == [])) && M.may s 68 (d == 0) && M.may s 65 (a == 0) && M.may s 66 (b == 0) && M.may s 67 (c == 0) && M.may s 78 (n == 0) && M.may s 76 ((ll : Int) == 0) && M.may s 77 ((ml : Int) == 0) && M.may s 108 ((vl : Int) == 0)
set_option maxRecDepth 100000 in
set_option maxHeartbeats 4000000 in
theorem plain_any (op d a b c n : Int) (la : Option Addr) (ll lc : Nat) (ma : Option Addr) (ml mc : Nat) (va : Option Addr) (vl vc : Nat) (w : World) :
    Calls Tryz.prog 73 #[.agg #[.int .i64 op, .int .i64 d, .int .i64 a, .int .i64 b, .int .i64 c, .int .i64 n, .slice la ll lc, .slice ma ml mc, .slice va vl vc]] w fun e w' => e = .returned (.bool (M.plain (M.uses op) d a b c n ll ml vl)) ∧ Still w w' := by
  have HU := Lib.hid (uses_any op (w.alloc (.cells #[.int .i64 op, .int .i64 d, .int .i64 a, .int .i64 b, .int .i64 c, .int .i64 n, .slice la ll lc, .slice ma ml mc, .slice va vl vc] 36)))
  generalize M.uses op = s at *
  have HM : Hid (∀ (k : Nat) (z : Bool), k < 256 → Calls Tryz.prog 116 #[.string ⟨#[k.toUInt8]⟩, .bool z, .pointer (some ⟨w.heap.size + 1, 0, none⟩)] ((w.alloc (.cells #[.int .i64 op, .int .i64 d, .int .i64 a, .int .i64 b, .int .i64 c, .int .i64 n, .slice la ll lc, .slice ma ml mc, .slice va vl vc] 36)).alloc (.cells #[.string s] 9)) fun e w' => e = .returned (.bool (M.may s k z)) ∧ w' = ((w.alloc (.cells #[.int .i64 op, .int .i64 d, .int .i64 a, .int .i64 b, .int .i64 c, .int .i64 n, .slice la ll lc, .slice ma ml mc, .slice va vl vc] 36)).alloc (.cells #[.string s] 9))) := fun k z hk =>
    may_any s k hk z (w.heap.size + 1) _ (Go.Joins.cell_alloc_mark_at _ #[.string s] _ _ _ 0 (by simp)) (by simp)
  have S2 : Hid (Still w ((w.alloc (.cells #[.int .i64 op, .int .i64 d, .int .i64 a, .int .i64 b, .int .i64 c, .int .i64 n, .slice la ll lc, .slice ma ml mc, .slice va vl vc] 36)).alloc (.cells #[.string s] 9))) := ((Still.refl w).alloc _).alloc _
  have m1 : Hid (Calls Tryz.prog 116 #[.string ⟨#[68]⟩, .bool (d == 0), .pointer (some ⟨w.heap.size + 1, 0, none⟩)] ((w.alloc (.cells #[.int .i64 op, .int .i64 d, .int .i64 a, .int .i64 b, .int .i64 c, .int .i64 n, .slice la ll lc, .slice ma ml mc, .slice va vl vc] 36)).alloc (.cells #[.string s] 9)) fun e w' => e = .returned (.bool (M.may s 68 (d == 0))) ∧ w' = ((w.alloc (.cells #[.int .i64 op, .int .i64 d, .int .i64 a, .int .i64 b, .int .i64 c, .int .i64 n, .slice la ll lc, .slice ma ml mc, .slice va vl vc] 36)).alloc (.cells #[.string s] 9))) := HM.out 68 (d == 0) (by decide)
  have m2 : Hid (Calls Tryz.prog 116 #[.string ⟨#[65]⟩, .bool (a == 0), .pointer (some ⟨w.heap.size + 1, 0, none⟩)] ((w.alloc (.cells #[.int .i64 op, .int .i64 d, .int .i64 a, .int .i64 b, .int .i64 c, .int .i64 n, .slice la ll lc, .slice ma ml mc, .slice va vl vc] 36)).alloc (.cells #[.string s] 9)) fun e w' => e = .returned (.bool (M.may s 65 (a == 0))) ∧ w' = ((w.alloc (.cells #[.int .i64 op, .int .i64 d, .int .i64 a, .int .i64 b, .int .i64 c, .int .i64 n, .slice la ll lc, .slice ma ml mc, .slice va vl vc] 36)).alloc (.cells #[.string s] 9))) := HM.out 65 (a == 0) (by decide)
  have m3 : Hid (Calls Tryz.prog 116 #[.string ⟨#[66]⟩, .bool (b == 0), .pointer (some ⟨w.heap.size + 1, 0, none⟩)] ((w.alloc (.cells #[.int .i64 op, .int .i64 d, .int .i64 a, .int .i64 b, .int .i64 c, .int .i64 n, .slice la ll lc, .slice ma ml mc, .slice va vl vc] 36)).alloc (.cells #[.string s] 9)) fun e w' => e = .returned (.bool (M.may s 66 (b == 0))) ∧ w' = ((w.alloc (.cells #[.int .i64 op, .int .i64 d, .int .i64 a, .int .i64 b, .int .i64 c, .int .i64 n, .slice la ll lc, .slice ma ml mc, .slice va vl vc] 36)).alloc (.cells #[.string s] 9))) := HM.out 66 (b == 0) (by decide)
  have m4 : Hid (Calls Tryz.prog 116 #[.string ⟨#[67]⟩, .bool (c == 0), .pointer (some ⟨w.heap.size + 1, 0, none⟩)] ((w.alloc (.cells #[.int .i64 op, .int .i64 d, .int .i64 a, .int .i64 b, .int .i64 c, .int .i64 n, .slice la ll lc, .slice ma ml mc, .slice va vl vc] 36)).alloc (.cells #[.string s] 9)) fun e w' => e = .returned (.bool (M.may s 67 (c == 0))) ∧ w' = ((w.alloc (.cells #[.int .i64 op, .int .i64 d, .int .i64 a, .int .i64 b, .int .i64 c, .int .i64 n, .slice la ll lc, .slice ma ml mc, .slice va vl vc] 36)).alloc (.cells #[.string s] 9))) := HM.out 67 (c == 0) (by decide)
  have m5 : Hid (Calls Tryz.prog 116 #[.string ⟨#[78]⟩, .bool (n == 0), .pointer (some ⟨w.heap.size + 1, 0, none⟩)] ((w.alloc (.cells #[.int .i64 op, .int .i64 d, .int .i64 a, .int .i64 b, .int .i64 c, .int .i64 n, .slice la ll lc, .slice ma ml mc, .slice va vl vc] 36)).alloc (.cells #[.string s] 9)) fun e w' => e = .returned (.bool (M.may s 78 (n == 0))) ∧ w' = ((w.alloc (.cells #[.int .i64 op, .int .i64 d, .int .i64 a, .int .i64 b, .int .i64 c, .int .i64 n, .slice la ll lc, .slice ma ml mc, .slice va vl vc] 36)).alloc (.cells #[.string s] 9))) := HM.out 78 (n == 0) (by decide)
  have m6 : Hid (Calls Tryz.prog 116 #[.string ⟨#[76]⟩, .bool ((ll : Int) == 0), .pointer (some ⟨w.heap.size + 1, 0, none⟩)] ((w.alloc (.cells #[.int .i64 op, .int .i64 d, .int .i64 a, .int .i64 b, .int .i64 c, .int .i64 n, .slice la ll lc, .slice ma ml mc, .slice va vl vc] 36)).alloc (.cells #[.string s] 9)) fun e w' => e = .returned (.bool (M.may s 76 ((ll : Int) == 0))) ∧ w' = ((w.alloc (.cells #[.int .i64 op, .int .i64 d, .int .i64 a, .int .i64 b, .int .i64 c, .int .i64 n, .slice la ll lc, .slice ma ml mc, .slice va vl vc] 36)).alloc (.cells #[.string s] 9))) := HM.out 76 ((ll : Int) == 0) (by decide)
  have m7 : Hid (Calls Tryz.prog 116 #[.string ⟨#[77]⟩, .bool ((ml : Int) == 0), .pointer (some ⟨w.heap.size + 1, 0, none⟩)] ((w.alloc (.cells #[.int .i64 op, .int .i64 d, .int .i64 a, .int .i64 b, .int .i64 c, .int .i64 n, .slice la ll lc, .slice ma ml mc, .slice va vl vc] 36)).alloc (.cells #[.string s] 9)) fun e w' => e = .returned (.bool (M.may s 77 ((ml : Int) == 0))) ∧ w' = ((w.alloc (.cells #[.int .i64 op, .int .i64 d, .int .i64 a, .int .i64 b, .int .i64 c, .int .i64 n, .slice la ll lc, .slice ma ml mc, .slice va vl vc] 36)).alloc (.cells #[.string s] 9))) := HM.out 77 ((ml : Int) == 0) (by decide)
  have m8 : Hid (Calls Tryz.prog 116 #[.string ⟨#[108]⟩, .bool ((vl : Int) == 0), .pointer (some ⟨w.heap.size + 1, 0, none⟩)] ((w.alloc (.cells #[.int .i64 op, .int .i64 d, .int .i64 a, .int .i64 b, .int .i64 c, .int .i64 n, .slice la ll lc, .slice ma ml mc, .slice va vl vc] 36)).alloc (.cells #[.string s] 9)) fun e w' => e = .returned (.bool (M.may s 108 ((vl : Int) == 0))) ∧ w' = ((w.alloc (.cells #[.int .i64 op, .int .i64 d, .int .i64 a, .int .i64 b, .int .i64 c, .int .i64 n, .slice la ll lc, .slice ma ml mc, .slice va vl vc] 36)).alloc (.cells #[.string s] 9))) := HM.out 108 ((vl : Int) == 0) (by decide)
  have hpl : Hid (M.plain s d a b c n ll ml vl = ((!(s.toList == [])) && M.may s 68 (d == 0) && M.may s 65 (a == 0) && M.may s 66 (b == 0) && M.may s 67 (c == 0) && M.may s 78 (n == 0) && M.may s 76 ((ll : Int) == 0) && M.may s 77 ((ml : Int) == 0) && M.may s 108 ((vl : Int) == 0))) := rfl
  generalize M.plain s d a b c n ll ml vl = pl at *
  generalize M.may s 68 (d == 0) = q1 at m1 hpl
  generalize M.may s 65 (a == 0) = q2 at m2 hpl
  generalize M.may s 66 (b == 0) = q3 at m3 hpl
  generalize M.may s 67 (c == 0) = q4 at m4 hpl
  generalize M.may s 78 (n == 0) = q5 at m5 hpl
  generalize M.may s 76 ((ll : Int) == 0) = q6 at m6 hpl
  generalize M.may s 77 ((ml : Int) == 0) = q7 at m7 hpl
  generalize M.may s 108 ((vl : Int) == 0) = q8 at m8 hpl
  clear HM
  go_enter Tryz.func73, Tryz.ntmps73
  go_wp2_with fail
  refine HU.out.mono ?_; rintro e w1 ⟨rfl, rfl⟩
  cases he : (s.toList == [])
  all_goals
    go_wp2_with (first
    | (go_at_call 116; (with_reducible refine m1.out.mono ?_); rintro e w9 ⟨rfl, rfl⟩)
    | (go_at_call 116; (with_reducible refine m2.out.mono ?_); rintro e w9 ⟨rfl, rfl⟩)
    | (go_at_call 116; (with_reducible refine m3.out.mono ?_); rintro e w9 ⟨rfl, rfl⟩)
    | (go_at_call 116; (with_reducible refine m4.out.mono ?_); rintro e w9 ⟨rfl, rfl⟩)
    | (go_at_call 116; (with_reducible refine m5.out.mono ?_); rintro e w9 ⟨rfl, rfl⟩)
    | (go_at_call 116; (with_reducible refine m6.out.mono ?_); rintro e w9 ⟨rfl, rfl⟩)
    | (go_at_call 116; (with_reducible refine m7.out.mono ?_); rintro e w9 ⟨rfl, rfl⟩)
    | (go_at_call 116; (with_reducible refine m8.out.mono ?_); rintro e w9 ⟨rfl, rfl⟩))
    all_goals
      go_ret
      refine ⟨?_, S2.out⟩
      have := hpl.out
      rw [this]
      simp_all
end Go.Proofs.YtglalgjffkoneaaGreatDoor
/- What is asked of an image that holds nothing; the letters of an instruction. -/
namespace Go.Proofs.YtglalgjffkoneaaGreatDoor
set_option linter.unusedVariables false
open Go.ChangeShapes Go.WideShapes Go.ChangeAt Go.RowKit
open M (W)

theorem indexT_nil (f : Value) (w : World) : Calls Tryz.prog 143 #[.slice none 0 0, f] w fun e w' => e = .returned (.int .i64 (-1)) ∧ w' = w := by
  go_enter Tryz.func143, Tryz.ntmps143
  go_wp2_with fail
  go_loop [8] (fun v => v = .int .i64 0) (fun _ => 0)
  case atStart => rfl
  case round =>
    subst hrel
    go_wp2_with fail
    go_ret
    exact ⟨rfl, rfl⟩
theorem containsT_nil (f : Value) (w : World) : Calls Tryz.prog 104 #[.slice none 0 0, f] w fun e w' => e = .returned (.bool false) ∧ w' = w := by
  go_enter Tryz.func104, Tryz.ntmps104
  go_wp2_with fail
  refine (indexT_nil _ _).mono ?_; rintro e w1 ⟨rfl, rfl⟩
  go_wp2_with fail
  go_ret
  exact ⟨rfl, rfl⟩
theorem indexS_nil (f : Value) (w : World) : Calls Tryz.prog 144 #[.slice none 0 0, f] w fun e w' => e = .returned (.int .i64 (-1)) ∧ w' = w := by
  go_enter Tryz.func144, Tryz.ntmps144
  go_wp2_with fail
  go_loop [8] (fun v => v = .int .i64 0) (fun _ => 0)
  case atStart => rfl
  case round =>
    subst hrel
    go_wp2_with fail
    go_ret
    exact ⟨rfl, rfl⟩
theorem containsS_nil (f : Value) (w : World) : Calls Tryz.prog 106 #[.slice none 0 0, f] w fun e w' => e = .returned (.bool false) ∧ w' = w := by
  go_enter Tryz.func106, Tryz.ntmps106
  go_wp2_with fail
  refine (indexS_nil _ _).mono ?_; rintro e w1 ⟨rfl, rfl⟩
  go_wp2_with fail
  go_ret
  exact ⟨rfl, rfl⟩
theorem indexX_nil (f : Value) (w : World) : Calls Tryz.prog 145 #[.slice none 0 0, f] w fun e w' => e = .returned (.int .i64 (-1)) ∧ w' = w := by
  go_enter Tryz.func145, Tryz.ntmps145
  go_wp2_with fail
  go_loop [8] (fun v => v = .int .i64 0) (fun _ => 0)
  case atStart => rfl
  case round =>
    subst hrel
    go_wp2_with fail
    go_ret
    exact ⟨rfl, rfl⟩
theorem containsX_nil (f : Value) (w : World) : Calls Tryz.prog 108 #[.slice none 0 0, f] w fun e w' => e = .returned (.bool false) ∧ w' = w := by
  go_enter Tryz.func108, Tryz.ntmps108
  go_wp2_with fail
  refine (indexX_nil _ _).mono ?_; rintro e w1 ⟨rfl, rfl⟩
  go_wp2_with fail
  go_ret
  exact ⟨rfl, rfl⟩
theorem indexF_nil (f : Value) (w : World) : Calls Tryz.prog 146 #[.slice none 0 0, f] w fun e w' => e = .returned (.int .i64 (-1)) ∧ w' = w := by
  go_enter Tryz.func146, Tryz.ntmps146
  go_wp2_with fail
  go_loop [8] (fun v => v = .int .i64 0) (fun _ => 0)
  case atStart => rfl
  case round =>
    subst hrel
    go_wp2_with fail
    go_ret
    exact ⟨rfl, rfl⟩
theorem containsF_nil (f : Value) (w : World) : Calls Tryz.prog 110 #[.slice none 0 0, f] w fun e w' => e = .returned (.bool false) ∧ w' = w := by
  go_enter Tryz.func110, Tryz.ntmps110
  go_wp2_with fail
  refine (indexF_nil _ _).mono ?_; rintro e w1 ⟨rfl, rfl⟩
  go_wp2_with fail
  go_ret
  exact ⟨rfl, rfl⟩
theorem nilBox {w : World} {k : Nat} {t : TypeId} {a b : Int} (h : Blk w k t #[.slice none 0 0, .slice none 0 0, .slice none 0 0, .slice none 0 0, .slice none 0 0, .int .i64 a, .int .i64 b]) :
    k < w.heap.size ∧ w.cell? ⟨k, 0, none⟩ = some (.slice none 0 0) ∧ w.cell? ⟨k, 1, none⟩ = some (.slice none 0 0) ∧ w.cell? ⟨k, 2, none⟩ = some (.slice none 0 0) ∧ w.cell? ⟨k, 3, none⟩ = some (.slice none 0 0) ∧ w.cell? ⟨k, 4, none⟩ = some (.slice none 0 0) ∧ w.cell? ⟨k, 5, none⟩ = some (.int .i64 a) ∧ w.cell? ⟨k, 6, none⟩ = some (.int .i64 b) :=
  ⟨h.lt, h.cell 0, h.cell 1, h.cell 2, h.cell 3, h.cell 4, h.cell 5, h.cell 6⟩
theorem size_nil (a b : Int) (w : World) : Calls Tryz.prog 112 #[.agg #[.slice none 0 0, .slice none 0 0, .slice none 0 0, .slice none 0 0, .slice none 0 0, .int .i64 a, .int .i64 b]] w fun e w' => e = .returned (.int .i64 0) ∧ Still w w' := by
  go_enter Tryz.func112, Tryz.ntmps112
  go_wp2_with fail
  go_loop [3, 11] (fun n v => n = .int .i64 0 ∧ v = .int .i64 0) (fun _ _ => 0)
  case atStart => exact ⟨rfl, rfl⟩
  case round =>
    obtain ⟨rfl, rfl⟩ := hrel
    go_wp2_with fail
    go_ret
    exact ⟨rfl, (Still.refl w).alloc _⟩
theorem anyInstr_nil (a b : Int) (f : Value) (w : World) : Calls Tryz.prog 71 #[.agg #[.slice none 0 0, .slice none 0 0, .slice none 0 0, .slice none 0 0, .slice none 0 0, .int .i64 a, .int .i64 b], f] w fun e w' => e = .returned (.bool false) ∧ Still w w' := by
  go_enter Tryz.func71, Tryz.ntmps71
  go_wp2_with fail
  go_loop [12] (fun v => v = .int .i64 0) (fun _ => 0)
  case atStart => rfl
  case round =>
    subst hrel
    go_wp2_with fail
    go_ret
    exact ⟨rfl, (Still.refl w).alloc _⟩
theorem big_nil (a b : Int) (w : World) : Calls Tryz.prog 70 #[.agg #[.slice none 0 0, .slice none 0 0, .slice none 0 0, .slice none 0 0, .slice none 0 0, .int .i64 a, .int .i64 b]] w fun e w' => e = .returned (.bool false) ∧ Still w w' := by
  go_enter Tryz.func70, Tryz.ntmps70
  go_wp2_with (first
    | (go_at_call 104; (with_reducible refine (containsT_nil _ _).mono ?_); rintro e w1 ⟨rfl, rfl⟩)
    | (go_at_call 106; (with_reducible refine (containsS_nil _ _).mono ?_); rintro e w1 ⟨rfl, rfl⟩)
    | (go_at_call 108; (with_reducible refine (containsX_nil _ _).mono ?_); rintro e w1 ⟨rfl, rfl⟩)
    | (go_at_call 110; (with_reducible refine (containsF_nil _ _).mono ?_); rintro e w1 ⟨rfl, rfl⟩))
  refine (size_nil a b _).mono ?_; rintro e w2 ⟨rfl, t2⟩
  have hbx := t2.blk (Blk.new w 27 #[.slice none 0 0, .slice none 0 0, .slice none 0 0, .slice none 0 0, .slice none 0 0, .int .i64 a, .int .i64 b])
  obtain ⟨h0, c0, c1, c2, c3, c4, c5, c6⟩ := nilBox hbx
  have T2 := Lib.hid ((Still.trans ((Still.refl w).alloc _) t2))
  clear t2 hbx
  go_wp2_with fail
  refine (anyInstr_nil a b _ _).mono ?_; rintro e w3 ⟨rfl, t3⟩
  have T3 := Lib.hid (Still.trans T2.out t3)
  clear t3
  go_wp2_with fail
  go_ret
  exact ⟨rfl, T3.out⟩
theorem check_nil (a b : Int) (w : World) : Calls Tryz.prog 39 #[.agg #[.slice none 0 0, .slice none 0 0, .slice none 0 0, .slice none 0 0, .slice none 0 0, .int .i64 a, .int .i64 b]] w fun e w' => e = .returned (.int .i64 0) ∧ Still w w' := by
  go_enter Tryz.func39, Tryz.ntmps39
  go_wp2_with fail
  refine (big_nil a b _).mono ?_; rintro e w2 ⟨rfl, t2⟩
  have hbx := t2.blk (Blk.new w 27 #[.slice none 0 0, .slice none 0 0, .slice none 0 0, .slice none 0 0, .slice none 0 0, .int .i64 a, .int .i64 b])
  obtain ⟨h0, c0, c1, c2, c3, c4, c5, c6⟩ := nilBox hbx
  have T2 := Lib.hid ((Still.trans ((Still.refl w).alloc _) t2))
  clear t2 hbx
  go_wp2_with fail
  refine (anyInstr_nil a b _ _).mono ?_; rintro e w3 ⟨rfl, t3⟩
  have T3 := Lib.hid (Still.trans T2.out t3)
  clear t3
  go_wp2_with fail
  go_ret
  exact ⟨rfl, T3.out⟩
end Go.Proofs.YtglalgjffkoneaaGreatDoor
/- The writer: numbers one behind the other. -/
namespace Go.Proofs.YtglalgjffkoneaaGreatDoor
set_option linter.unusedVariables false
open Go.ChangeShapes Go.WideShapes Go.ChangeAt Go.RowKit
open M (W)

theorem Turn.own {S : Nat → Prop} {w w' w0 : World} {B : Nat} (h : Turn S w w') (hb : Below B w0 w) (hB : B ≤ w0.heap.size) (hs : ∀ k, S k → B ≤ k) : Below B w0 w' := hb.trans (h.below (Nat.le_trans hB hb.size) hs)
theorem own_slice {w : World} {B : Nat} {t : TypeId} {v : Value} {n : Nat} {xs : List Value} (h : w.ownsRow B t 1 v n xs) : ∃ a c, v = .slice a n c := by
  rcases h.2 with ⟨rfl, rfl⟩ | ⟨g, cap, cur, rfl, _⟩
  · exact ⟨none, 0, rfl⟩
  · exact ⟨_, cap, rfl⟩
theorem enc0 : M.enc (M.zig 0) = [0] := by unfold M.zig; rw [M.enc]; simp
end Go.Proofs.YtglalgjffkoneaaGreatDoor
/- The writer's first number, behind a text's bytes as they were laid. -/
namespace Go.Proofs.YtglalgjffkoneaaGreatDoor
set_option linter.unusedVariables false
open Go.ChangeShapes Go.WideShapes Go.ChangeAt Go.RowKit
open M (W)
theorem ownsRow_base {w : World} {base base' size n : Nat} {e : TypeId} {v : Value} {xs : List Value} (h : w.ownsRow base e size v n xs) (hb : base' ≤ base) : w.ownsRow base' e size v n xs :=
  ⟨h.1, h.2.elim Or.inl (fun ⟨g, cap, cur, hv, hg, r⟩ => Or.inr ⟨g, cap, cur, hv, Nat.le_trans hb hg, r⟩)⟩
end Go.Proofs.YtglalgjffkoneaaGreatDoor
/- An empty image as bytes. -/
namespace Go.Proofs.YtglalgjffkoneaaGreatDoor
set_option linter.unusedVariables false
open Go.ChangeShapes Go.WideShapes Go.ChangeAt Go.RowKit
open M (W)
end Go.Proofs.YtglalgjffkoneaaGreatDoor
