/- putList over any list. -/
import Derived.Test.YthlifflapgccbaaGreatWrText
namespace Go.Proofs.YthlifflapgccbaaGreat
set_option linter.unusedVariables false
open Go.ChangeShapes Go.WideShapes Go.ChangeAt Go.RowKit
open M (W)
set_option maxRecDepth 100000 in
theorem putTy_any (F : M.Ty → List Int) (fid : FuncId) (hfid : ∀ args W, (callFunc fid args).run Tryz.prog W = .ok (.enter fid args) W) {B g : Nat} {xs : List Int} {w : World} {a : Option Addr} {n c : Nat} {l : List M.Ty}
    (hnum : Calls Tryz.prog 87 #[.pointer (some ⟨g, 0, none⟩), .int .i64 n] w fun e w' => e = .returned (.tuple #[]) ∧ Writes B w' g (xs ++ M.num n) ∧ Wrote B w w' g)
    (hl : Lies B w 2 (TyIs B w) a n l) (hB : B ≤ w.heap.size) (hn : n ≤ maxLen) (hx : (xs ++ M.many F l).length ≤ 1000000000)
    (hf : ∀ (a2 : Option Addr) (n2 c2 : Nat) (x : M.Ty) (W : World) (ys : List Int), x ∈ l → (TyIs B W) [.bool x.imm, .slice a2 n2 c2] x → Writes B W g ys → (ys ++ F x).length ≤ 1000000000 → Calls Tryz.prog fid #[.pointer (some ⟨g, 0, none⟩), .agg #[.bool x.imm, .slice a2 n2 c2]] W fun e w' => e = .returned (.tuple #[]) ∧ Writes B w' g (ys ++ F x) ∧ Wrote B W w' g) :
    Calls Tryz.prog 79 #[.pointer (some ⟨g, 0, none⟩), .slice a n c, .func (.func fid) #[.pointer (some ⟨g, 0, none⟩)] #[]] w fun e w' => e = .returned (.tuple #[]) ∧ Writes B w' g (xs ++ M.many F l) ∧ Wrote B w w' g := by
  have HNUM := Lib.hid hnum
  have HL := Lib.hid hl
  have HB := Lib.hid hB
  have HX := Lib.hid hx
  have HF := Lib.hid hf
  have HFID := Lib.hid hfid
  have hlen := hl.len
  have HLEN := Lib.hid hlen
  have hn63 : n ≤ 9223372036854775807 := by unfold maxLen at hn; omega
  clear hnum hl hB hn hx hf hfid hlen
  go_enter Tryz.func79, Tryz.ntmps79
  go_wp2_with fail
  refine HNUM.out.mono ?_; rintro e w1 ⟨rfl, hw1, ho1⟩
  have HW1 := Lib.hid hw1
  have HO1 := Lib.hid ho1
  clear hw1 ho1
  go_wp2_with fail
  go_loopw [14] (fun v wr => ∃ i : Nat, v = .int .i64 i ∧ i ≤ n ∧ Writes B wr g (xs ++ M.num n ++ (l.take i).flatMap F) ∧ Wrote B w wr g) (fun v _ => n - (intOf v).toNat)
  case atStart => exact ⟨0, rfl, by omega, by simpa using HW1.out, HO1.out⟩
  case round =>
    obtain ⟨i, rfl, hi, hwr, hor⟩ := hrel
    by_cases hlt : i < n
    · obtain ⟨b, off, x, cs, rfl, hbB, hxi, hcl, hPx, hcell⟩ := HL.out.here hlt
      have hPw := hPx
      obtain ⟨a2, n2, c2, rfl, hp⟩ := hPx
      have hmem : x ∈ l := List.mem_of_getElem? hxi
      have hbl : b < wr.heap.size := Nat.lt_of_lt_of_le (Nat.lt_of_lt_of_le hbB HB.out) hor.below.size
      have d0 : wr.cell? ⟨b, off + i * 2, none⟩ = some (.bool x.imm) := (World.cell?_of_block (w := w) (hor.below.block b hbB)).trans (by simpa using hcell 0 (by decide))
      have d1 : wr.cell? ⟨b, off + i * 2 + 1, none⟩ = some (.slice a2 n2 c2) := (World.cell?_of_block (w := w) (hor.below.block b hbB)).trans (by simpa using hcell 1 (by decide))
      have hwa := hwr.alloc (.cells #[.bool x.imm, .slice a2 n2 c2] 49)
      have hob := hor.trans (hwr.behind #[.bool x.imm, .slice a2 n2 c2] 49).1
      have hPW := TyIs.keep hPw hob.below HB.out
      have htk : l.take (i + 1) = l.take i ++ [x] := by
        rw [List.take_add_one, hxi]; rfl
      have hall : (xs ++ M.num n ++ (l.take (i + 1)).flatMap F).length ≤ (xs ++ M.many F l).length := by
        have h1 : (l.flatMap F).length = ((l.take (i + 1)).flatMap F).length + ((l.drop (i + 1)).flatMap F).length := by
          rw [← List.length_append, ← List.flatMap_append, List.take_append_drop]
        unfold M.many
        rw [HLEN.out]
        simp only [List.length_append]
        omega
      have heq : xs ++ M.num n ++ (l.take i).flatMap F ++ F x = xs ++ M.num n ++ (l.take (i + 1)).flatMap F := by
        rw [htk]; simp [List.append_assoc]
      have HC := Lib.hid (HF.out a2 n2 c2 x (wr.alloc (.cells #[.bool x.imm, .slice a2 n2 c2] 49)) _ hmem hPW hwa (by rw [heq]; have := HX.out; omega))
      rw [heq] at HC
      have HOB := Lib.hid hob
      have hfid := HFID.out
      clear hwr hor hxi hcl hp hPw hPW hcell hwa hob htk hall heq hmem
      go_wp2_with fail
      refine HC.out.mono ?_; rintro e w3 ⟨rfl, hw3, ho3⟩
      have HW3 := Lib.hid hw3
      have HO3 := Lib.hid ho3
      clear hw3 ho3 hfid
      go_wp2_with fail
      go_roundw
      case rel => exact ⟨i + 1, rfl, by omega, HW3.out, HOB.out.trans HO3.out⟩
      case measure => simp [intOf]; omega
    · obtain rfl : i = n := by omega
      have hfin : xs ++ M.num i ++ (l.take i).flatMap F = xs ++ M.many F l := by
        rw [← HLEN.out, List.take_length]; unfold M.many; simp [List.append_assoc]
      rw [hfin] at hwr
      have HW2 := Lib.hid hwr
      have HO2 := Lib.hid hor
      clear hwr hor hfin
      go_wp2_with fail
      go_end0
      exact ⟨rfl, HW2.out, HO2.out⟩
set_option maxRecDepth 100000 in
theorem putSh_any (F : M.Sh → List Int) (fid : FuncId) (hfid : ∀ args W, (callFunc fid args).run Tryz.prog W = .ok (.enter fid args) W) {B g : Nat} {xs : List Int} {w : World} {a : Option Addr} {n c : Nat} {l : List M.Sh}
    (hnum : Calls Tryz.prog 87 #[.pointer (some ⟨g, 0, none⟩), .int .i64 n] w fun e w' => e = .returned (.tuple #[]) ∧ Writes B w' g (xs ++ M.num n) ∧ Wrote B w w' g)
    (hl : Lies B w 3 (ShIs B w) a n l) (hB : B ≤ w.heap.size) (hn : n ≤ maxLen) (hx : (xs ++ M.many F l).length ≤ 1000000000)
    (hf : ∀ (a2 : Option Addr) (n2 c2 : Nat) (x : M.Sh) (W : World) (ys : List Int), x ∈ l → (ShIs B W) [.int .i64 x.kind, .slice a2 n2 c2, .string x.name] x → Writes B W g ys → (ys ++ F x).length ≤ 1000000000 → Calls Tryz.prog fid #[.pointer (some ⟨g, 0, none⟩), .agg #[.int .i64 x.kind, .slice a2 n2 c2, .string x.name]] W fun e w' => e = .returned (.tuple #[]) ∧ Writes B w' g (ys ++ F x) ∧ Wrote B W w' g) :
    Calls Tryz.prog 81 #[.pointer (some ⟨g, 0, none⟩), .slice a n c, .func (.func fid) #[.pointer (some ⟨g, 0, none⟩)] #[]] w fun e w' => e = .returned (.tuple #[]) ∧ Writes B w' g (xs ++ M.many F l) ∧ Wrote B w w' g := by
  have HNUM := Lib.hid hnum
  have HL := Lib.hid hl
  have HB := Lib.hid hB
  have HX := Lib.hid hx
  have HF := Lib.hid hf
  have HFID := Lib.hid hfid
  have hlen := hl.len
  have HLEN := Lib.hid hlen
  have hn63 : n ≤ 9223372036854775807 := by unfold maxLen at hn; omega
  clear hnum hl hB hn hx hf hfid hlen
  go_enter Tryz.func81, Tryz.ntmps81
  go_wp2_with fail
  refine HNUM.out.mono ?_; rintro e w1 ⟨rfl, hw1, ho1⟩
  have HW1 := Lib.hid hw1
  have HO1 := Lib.hid ho1
  clear hw1 ho1
  go_wp2_with fail
  go_loopw [14] (fun v wr => ∃ i : Nat, v = .int .i64 i ∧ i ≤ n ∧ Writes B wr g (xs ++ M.num n ++ (l.take i).flatMap F) ∧ Wrote B w wr g) (fun v _ => n - (intOf v).toNat)
  case atStart => exact ⟨0, rfl, by omega, by simpa using HW1.out, HO1.out⟩
  case round =>
    obtain ⟨i, rfl, hi, hwr, hor⟩ := hrel
    by_cases hlt : i < n
    · obtain ⟨b, off, x, cs, rfl, hbB, hxi, hcl, hPx, hcell⟩ := HL.out.here hlt
      have hPw := hPx
      obtain ⟨a2, n2, c2, rfl, hp⟩ := hPx
      have hmem : x ∈ l := List.mem_of_getElem? hxi
      have hbl : b < wr.heap.size := Nat.lt_of_lt_of_le (Nat.lt_of_lt_of_le hbB HB.out) hor.below.size
      have d0 : wr.cell? ⟨b, off + i * 3, none⟩ = some (.int .i64 x.kind) := (World.cell?_of_block (w := w) (hor.below.block b hbB)).trans (by simpa using hcell 0 (by decide))
      have d1 : wr.cell? ⟨b, off + i * 3 + 1, none⟩ = some (.slice a2 n2 c2) := (World.cell?_of_block (w := w) (hor.below.block b hbB)).trans (by simpa using hcell 1 (by decide))
      have d2 : wr.cell? ⟨b, off + i * 3 + 2, none⟩ = some (.string x.name) := (World.cell?_of_block (w := w) (hor.below.block b hbB)).trans (by simpa using hcell 2 (by decide))
      have hwa := hwr.alloc (.cells #[.int .i64 x.kind, .slice a2 n2 c2, .string x.name] 51)
      have hob := hor.trans (hwr.behind #[.int .i64 x.kind, .slice a2 n2 c2, .string x.name] 51).1
      have hPW := ShIs.keep hPw hob.below HB.out
      have htk : l.take (i + 1) = l.take i ++ [x] := by
        rw [List.take_add_one, hxi]; rfl
      have hall : (xs ++ M.num n ++ (l.take (i + 1)).flatMap F).length ≤ (xs ++ M.many F l).length := by
        have h1 : (l.flatMap F).length = ((l.take (i + 1)).flatMap F).length + ((l.drop (i + 1)).flatMap F).length := by
          rw [← List.length_append, ← List.flatMap_append, List.take_append_drop]
        unfold M.many
        rw [HLEN.out]
        simp only [List.length_append]
        omega
      have heq : xs ++ M.num n ++ (l.take i).flatMap F ++ F x = xs ++ M.num n ++ (l.take (i + 1)).flatMap F := by
        rw [htk]; simp [List.append_assoc]
      have HC := Lib.hid (HF.out a2 n2 c2 x (wr.alloc (.cells #[.int .i64 x.kind, .slice a2 n2 c2, .string x.name] 51)) _ hmem hPW hwa (by rw [heq]; have := HX.out; omega))
      rw [heq] at HC
      have HOB := Lib.hid hob
      have hfid := HFID.out
      clear hwr hor hxi hcl hp hPw hPW hcell hwa hob htk hall heq hmem
      go_wp2_with fail
      refine HC.out.mono ?_; rintro e w3 ⟨rfl, hw3, ho3⟩
      have HW3 := Lib.hid hw3
      have HO3 := Lib.hid ho3
      clear hw3 ho3 hfid
      go_wp2_with fail
      go_roundw
      case rel => exact ⟨i + 1, rfl, by omega, HW3.out, HOB.out.trans HO3.out⟩
      case measure => simp [intOf]; omega
    · obtain rfl : i = n := by omega
      have hfin : xs ++ M.num i ++ (l.take i).flatMap F = xs ++ M.many F l := by
        rw [← HLEN.out, List.take_length]; unfold M.many; simp [List.append_assoc]
      rw [hfin] at hwr
      have HW2 := Lib.hid hwr
      have HO2 := Lib.hid hor
      clear hwr hor hfin
      go_wp2_with fail
      go_end0
      exact ⟨rfl, HW2.out, HO2.out⟩
set_option maxRecDepth 100000 in
theorem putTx_any (F : ByteArray → List Int) (fid : FuncId) (hfid : ∀ args W, (callFunc fid args).run Tryz.prog W = .ok (.enter fid args) W) {B g : Nat} {xs : List Int} {w : World} {a : Option Addr} {n c : Nat} {l : List ByteArray}
    (hnum : Calls Tryz.prog 87 #[.pointer (some ⟨g, 0, none⟩), .int .i64 n] w fun e w' => e = .returned (.tuple #[]) ∧ Writes B w' g (xs ++ M.num n) ∧ Wrote B w w' g)
    (hl : Lies B w 1 TxIs a n l) (hB : B ≤ w.heap.size) (hn : n ≤ maxLen) (hx : (xs ++ M.many F l).length ≤ 1000000000)
    (hf : ∀  (x : ByteArray) (W : World) (ys : List Int), x ∈ l → TxIs [.string x] x → Writes B W g ys → (ys ++ F x).length ≤ 1000000000 → Calls Tryz.prog fid #[.pointer (some ⟨g, 0, none⟩), .string x] W fun e w' => e = .returned (.tuple #[]) ∧ Writes B w' g (ys ++ F x) ∧ Wrote B W w' g) :
    Calls Tryz.prog 83 #[.pointer (some ⟨g, 0, none⟩), .slice a n c, .func (.func fid) #[.pointer (some ⟨g, 0, none⟩)] #[]] w fun e w' => e = .returned (.tuple #[]) ∧ Writes B w' g (xs ++ M.many F l) ∧ Wrote B w w' g := by
  have HNUM := Lib.hid hnum
  have HL := Lib.hid hl
  have HB := Lib.hid hB
  have HX := Lib.hid hx
  have HF := Lib.hid hf
  have HFID := Lib.hid hfid
  have hlen := hl.len
  have HLEN := Lib.hid hlen
  have hn63 : n ≤ 9223372036854775807 := by unfold maxLen at hn; omega
  clear hnum hl hB hn hx hf hfid hlen
  go_enter Tryz.func83, Tryz.ntmps83
  go_wp2_with fail
  refine HNUM.out.mono ?_; rintro e w1 ⟨rfl, hw1, ho1⟩
  have HW1 := Lib.hid hw1
  have HO1 := Lib.hid ho1
  clear hw1 ho1
  go_wp2_with fail
  go_loopw [14] (fun v wr => ∃ i : Nat, v = .int .i64 i ∧ i ≤ n ∧ Writes B wr g (xs ++ M.num n ++ (l.take i).flatMap F) ∧ Wrote B w wr g) (fun v _ => n - (intOf v).toNat)
  case atStart => exact ⟨0, rfl, by omega, by simpa using HW1.out, HO1.out⟩
  case round =>
    obtain ⟨i, rfl, hi, hwr, hor⟩ := hrel
    by_cases hlt : i < n
    · obtain ⟨b, off, x, cs, rfl, hbB, hxi, hcl, hPx, hcell⟩ := HL.out.here hlt
      have hPw := hPx
      obtain ⟨rfl, hp⟩ := hPx
      have hmem : x ∈ l := List.mem_of_getElem? hxi
      have hbl : b < wr.heap.size := Nat.lt_of_lt_of_le (Nat.lt_of_lt_of_le hbB HB.out) hor.below.size
      have d0 : wr.cell? ⟨b, off + i, none⟩ = some (.string x) := (World.cell?_of_block (w := w) (hor.below.block b hbB)).trans (by simpa using hcell 0 (by decide))
      have hwa := hwr
      have hob := hor
      have hPW := hPw
      have htk : l.take (i + 1) = l.take i ++ [x] := by
        rw [List.take_add_one, hxi]; rfl
      have hall : (xs ++ M.num n ++ (l.take (i + 1)).flatMap F).length ≤ (xs ++ M.many F l).length := by
        have h1 : (l.flatMap F).length = ((l.take (i + 1)).flatMap F).length + ((l.drop (i + 1)).flatMap F).length := by
          rw [← List.length_append, ← List.flatMap_append, List.take_append_drop]
        unfold M.many
        rw [HLEN.out]
        simp only [List.length_append]
        omega
      have heq : xs ++ M.num n ++ (l.take i).flatMap F ++ F x = xs ++ M.num n ++ (l.take (i + 1)).flatMap F := by
        rw [htk]; simp [List.append_assoc]
      have HC := Lib.hid (HF.out  x wr _ hmem hPW hwa (by rw [heq]; have := HX.out; omega))
      rw [heq] at HC
      have HOB := Lib.hid hob
      have hfid := HFID.out
      clear hwr hor hxi hcl hp hPw hPW hcell hwa hob htk hall heq hmem
      go_wp2_with fail
      refine HC.out.mono ?_; rintro e w3 ⟨rfl, hw3, ho3⟩
      have HW3 := Lib.hid hw3
      have HO3 := Lib.hid ho3
      clear hw3 ho3 hfid
      go_wp2_with fail
      go_roundw
      case rel => exact ⟨i + 1, rfl, by omega, HW3.out, HOB.out.trans HO3.out⟩
      case measure => simp [intOf]; omega
    · obtain rfl : i = n := by omega
      have hfin : xs ++ M.num i ++ (l.take i).flatMap F = xs ++ M.many F l := by
        rw [← HLEN.out, List.take_length]; unfold M.many; simp [List.append_assoc]
      rw [hfin] at hwr
      have HW2 := Lib.hid hwr
      have HO2 := Lib.hid hor
      clear hwr hor hfin
      go_wp2_with fail
      go_end0
      exact ⟨rfl, HW2.out, HO2.out⟩
set_option maxRecDepth 100000 in
theorem putFn_any (F : M.Fn → List Int) (fid : FuncId) (hfid : ∀ args W, (callFunc fid args).run Tryz.prog W = .ok (.enter fid args) W) {B g : Nat} {xs : List Int} {w : World} {a : Option Addr} {n c : Nat} {l : List M.Fn}
    (hnum : Calls Tryz.prog 87 #[.pointer (some ⟨g, 0, none⟩), .int .i64 n] w fun e w' => e = .returned (.tuple #[]) ∧ Writes B w' g (xs ++ M.num n) ∧ Wrote B w w' g)
    (hl : Lies B w 4 (FnIs B w) a n l) (hB : B ≤ w.heap.size) (hn : n ≤ maxLen) (hx : (xs ++ M.many F l).length ≤ 1000000000)
    (hf : ∀ (a2 : Option Addr) (n2 c2 : Nat) (a3 : Option Addr) (n3 c3 : Nat) (x : M.Fn) (W : World) (ys : List Int), x ∈ l → (FnIs B W) [.slice a2 n2 c2, .int .i64 x.result, .int .i64 x.slots, .slice a3 n3 c3] x → Writes B W g ys → (ys ++ F x).length ≤ 1000000000 → Calls Tryz.prog fid #[.pointer (some ⟨g, 0, none⟩), .agg #[.slice a2 n2 c2, .int .i64 x.result, .int .i64 x.slots, .slice a3 n3 c3]] W fun e w' => e = .returned (.tuple #[]) ∧ Writes B w' g (ys ++ F x) ∧ Wrote B W w' g) :
    Calls Tryz.prog 85 #[.pointer (some ⟨g, 0, none⟩), .slice a n c, .func (.func fid) #[.pointer (some ⟨g, 0, none⟩)] #[]] w fun e w' => e = .returned (.tuple #[]) ∧ Writes B w' g (xs ++ M.many F l) ∧ Wrote B w w' g := by
  have HNUM := Lib.hid hnum
  have HL := Lib.hid hl
  have HB := Lib.hid hB
  have HX := Lib.hid hx
  have HF := Lib.hid hf
  have HFID := Lib.hid hfid
  have hlen := hl.len
  have HLEN := Lib.hid hlen
  have hn63 : n ≤ 9223372036854775807 := by unfold maxLen at hn; omega
  clear hnum hl hB hn hx hf hfid hlen
  go_enter Tryz.func85, Tryz.ntmps85
  go_wp2_with fail
  refine HNUM.out.mono ?_; rintro e w1 ⟨rfl, hw1, ho1⟩
  have HW1 := Lib.hid hw1
  have HO1 := Lib.hid ho1
  clear hw1 ho1
  go_wp2_with fail
  go_loopw [14] (fun v wr => ∃ i : Nat, v = .int .i64 i ∧ i ≤ n ∧ Writes B wr g (xs ++ M.num n ++ (l.take i).flatMap F) ∧ Wrote B w wr g) (fun v _ => n - (intOf v).toNat)
  case atStart => exact ⟨0, rfl, by omega, by simpa using HW1.out, HO1.out⟩
  case round =>
    obtain ⟨i, rfl, hi, hwr, hor⟩ := hrel
    by_cases hlt : i < n
    · obtain ⟨b, off, x, cs, rfl, hbB, hxi, hcl, hPx, hcell⟩ := HL.out.here hlt
      have hPw := hPx
      obtain ⟨a2, n2, c2, a3, n3, c3, rfl, hp⟩ := hPx
      have hmem : x ∈ l := List.mem_of_getElem? hxi
      have hbl : b < wr.heap.size := Nat.lt_of_lt_of_le (Nat.lt_of_lt_of_le hbB HB.out) hor.below.size
      have d0 : wr.cell? ⟨b, off + i * 4, none⟩ = some (.slice a2 n2 c2) := (World.cell?_of_block (w := w) (hor.below.block b hbB)).trans (by simpa using hcell 0 (by decide))
      have d1 : wr.cell? ⟨b, off + i * 4 + 1, none⟩ = some (.int .i64 x.result) := (World.cell?_of_block (w := w) (hor.below.block b hbB)).trans (by simpa using hcell 1 (by decide))
      have d2 : wr.cell? ⟨b, off + i * 4 + 2, none⟩ = some (.int .i64 x.slots) := (World.cell?_of_block (w := w) (hor.below.block b hbB)).trans (by simpa using hcell 2 (by decide))
      have d3 : wr.cell? ⟨b, off + i * 4 + 3, none⟩ = some (.slice a3 n3 c3) := (World.cell?_of_block (w := w) (hor.below.block b hbB)).trans (by simpa using hcell 3 (by decide))
      have hwa := hwr.alloc (.cells #[.slice a2 n2 c2, .int .i64 x.result, .int .i64 x.slots, .slice a3 n3 c3] 55)
      have hob := hor.trans (hwr.behind #[.slice a2 n2 c2, .int .i64 x.result, .int .i64 x.slots, .slice a3 n3 c3] 55).1
      have hPW := FnIs.keep hPw hob.below HB.out
      have htk : l.take (i + 1) = l.take i ++ [x] := by
        rw [List.take_add_one, hxi]; rfl
      have hall : (xs ++ M.num n ++ (l.take (i + 1)).flatMap F).length ≤ (xs ++ M.many F l).length := by
        have h1 : (l.flatMap F).length = ((l.take (i + 1)).flatMap F).length + ((l.drop (i + 1)).flatMap F).length := by
          rw [← List.length_append, ← List.flatMap_append, List.take_append_drop]
        unfold M.many
        rw [HLEN.out]
        simp only [List.length_append]
        omega
      have heq : xs ++ M.num n ++ (l.take i).flatMap F ++ F x = xs ++ M.num n ++ (l.take (i + 1)).flatMap F := by
        rw [htk]; simp [List.append_assoc]
      have HC := Lib.hid (HF.out a2 n2 c2 a3 n3 c3 x (wr.alloc (.cells #[.slice a2 n2 c2, .int .i64 x.result, .int .i64 x.slots, .slice a3 n3 c3] 55)) _ hmem hPW hwa (by rw [heq]; have := HX.out; omega))
      rw [heq] at HC
      have HOB := Lib.hid hob
      have hfid := HFID.out
      clear hwr hor hxi hcl hp hPw hPW hcell hwa hob htk hall heq hmem
      go_wp2_with fail
      refine HC.out.mono ?_; rintro e w3 ⟨rfl, hw3, ho3⟩
      have HW3 := Lib.hid hw3
      have HO3 := Lib.hid ho3
      clear hw3 ho3 hfid
      go_wp2_with fail
      go_roundw
      case rel => exact ⟨i + 1, rfl, by omega, HW3.out, HOB.out.trans HO3.out⟩
      case measure => simp [intOf]; omega
    · obtain rfl : i = n := by omega
      have hfin : xs ++ M.num i ++ (l.take i).flatMap F = xs ++ M.many F l := by
        rw [← HLEN.out, List.take_length]; unfold M.many; simp [List.append_assoc]
      rw [hfin] at hwr
      have HW2 := Lib.hid hwr
      have HO2 := Lib.hid hor
      clear hwr hor hfin
      go_wp2_with fail
      go_end0
      exact ⟨rfl, HW2.out, HO2.out⟩
set_option maxRecDepth 100000 in
theorem putInt_any (F : Int → List Int) (fid : FuncId) (hfid : ∀ args W, (callFunc fid args).run Tryz.prog W = .ok (.enter fid args) W) {B g : Nat} {xs : List Int} {w : World} {a : Option Addr} {n c : Nat} {l : List Int}
    (hnum : Calls Tryz.prog 87 #[.pointer (some ⟨g, 0, none⟩), .int .i64 n] w fun e w' => e = .returned (.tuple #[]) ∧ Writes B w' g (xs ++ M.num n) ∧ Wrote B w w' g)
    (hl : Lies B w 1 IntIs a n l) (hB : B ≤ w.heap.size) (hn : n ≤ maxLen) (hx : (xs ++ M.many F l).length ≤ 1000000000)
    (hf : ∀  (x : Int) (W : World) (ys : List Int), x ∈ l → IntIs [.int .i64 x] x → Writes B W g ys → (ys ++ F x).length ≤ 1000000000 → Calls Tryz.prog fid #[.pointer (some ⟨g, 0, none⟩), .int .i64 x] W fun e w' => e = .returned (.tuple #[]) ∧ Writes B w' g (ys ++ F x) ∧ Wrote B W w' g) :
    Calls Tryz.prog 100 #[.pointer (some ⟨g, 0, none⟩), .slice a n c, .func (.func fid) #[.pointer (some ⟨g, 0, none⟩)] #[]] w fun e w' => e = .returned (.tuple #[]) ∧ Writes B w' g (xs ++ M.many F l) ∧ Wrote B w w' g := by
  have HNUM := Lib.hid hnum
  have HL := Lib.hid hl
  have HB := Lib.hid hB
  have HX := Lib.hid hx
  have HF := Lib.hid hf
  have HFID := Lib.hid hfid
  have hlen := hl.len
  have HLEN := Lib.hid hlen
  have hn63 : n ≤ 9223372036854775807 := by unfold maxLen at hn; omega
  clear hnum hl hB hn hx hf hfid hlen
  go_enter Tryz.func100, Tryz.ntmps100
  go_wp2_with fail
  refine HNUM.out.mono ?_; rintro e w1 ⟨rfl, hw1, ho1⟩
  have HW1 := Lib.hid hw1
  have HO1 := Lib.hid ho1
  clear hw1 ho1
  go_wp2_with fail
  go_loopw [14] (fun v wr => ∃ i : Nat, v = .int .i64 i ∧ i ≤ n ∧ Writes B wr g (xs ++ M.num n ++ (l.take i).flatMap F) ∧ Wrote B w wr g) (fun v _ => n - (intOf v).toNat)
  case atStart => exact ⟨0, rfl, by omega, by simpa using HW1.out, HO1.out⟩
  case round =>
    obtain ⟨i, rfl, hi, hwr, hor⟩ := hrel
    by_cases hlt : i < n
    · obtain ⟨b, off, x, cs, rfl, hbB, hxi, hcl, hPx, hcell⟩ := HL.out.here hlt
      have hPw := hPx
      obtain ⟨rfl, hp⟩ := hPx
      have hmem : x ∈ l := List.mem_of_getElem? hxi
      have hbl : b < wr.heap.size := Nat.lt_of_lt_of_le (Nat.lt_of_lt_of_le hbB HB.out) hor.below.size
      have d0 : wr.cell? ⟨b, off + i, none⟩ = some (.int .i64 x) := (World.cell?_of_block (w := w) (hor.below.block b hbB)).trans (by simpa using hcell 0 (by decide))
      have hwa := hwr
      have hob := hor
      have hPW := hPw
      have htk : l.take (i + 1) = l.take i ++ [x] := by
        rw [List.take_add_one, hxi]; rfl
      have hall : (xs ++ M.num n ++ (l.take (i + 1)).flatMap F).length ≤ (xs ++ M.many F l).length := by
        have h1 : (l.flatMap F).length = ((l.take (i + 1)).flatMap F).length + ((l.drop (i + 1)).flatMap F).length := by
          rw [← List.length_append, ← List.flatMap_append, List.take_append_drop]
        unfold M.many
        rw [HLEN.out]
        simp only [List.length_append]
        omega
      have heq : xs ++ M.num n ++ (l.take i).flatMap F ++ F x = xs ++ M.num n ++ (l.take (i + 1)).flatMap F := by
        rw [htk]; simp [List.append_assoc]
      have HC := Lib.hid (HF.out  x wr _ hmem hPW hwa (by rw [heq]; have := HX.out; omega))
      rw [heq] at HC
      have HOB := Lib.hid hob
      have hfid := HFID.out
      clear hwr hor hxi hcl hp hPw hPW hcell hwa hob htk hall heq hmem
      go_wp2_with fail
      refine HC.out.mono ?_; rintro e w3 ⟨rfl, hw3, ho3⟩
      have HW3 := Lib.hid hw3
      have HO3 := Lib.hid ho3
      clear hw3 ho3 hfid
      go_wp2_with fail
      go_roundw
      case rel => exact ⟨i + 1, rfl, by omega, HW3.out, HOB.out.trans HO3.out⟩
      case measure => simp [intOf]; omega
    · obtain rfl : i = n := by omega
      have hfin : xs ++ M.num i ++ (l.take i).flatMap F = xs ++ M.many F l := by
        rw [← HLEN.out, List.take_length]; unfold M.many; simp [List.append_assoc]
      rw [hfin] at hwr
      have HW2 := Lib.hid hwr
      have HO2 := Lib.hid hor
      clear hwr hor hfin
      go_wp2_with fail
      go_end0
      exact ⟨rfl, HW2.out, HO2.out⟩
set_option maxRecDepth 100000 in
theorem putBk_any (F : M.Bk → List Int) (fid : FuncId) (hfid : ∀ args W, (callFunc fid args).run Tryz.prog W = .ok (.enter fid args) W) {B g : Nat} {xs : List Int} {w : World} {a : Option Addr} {n c : Nat} {l : List M.Bk}
    (hnum : Calls Tryz.prog 87 #[.pointer (some ⟨g, 0, none⟩), .int .i64 n] w fun e w' => e = .returned (.tuple #[]) ∧ Writes B w' g (xs ++ M.num n) ∧ Wrote B w w' g)
    (hl : Lies B w 2 (BkIs B w) a n l) (hB : B ≤ w.heap.size) (hn : n ≤ maxLen) (hx : (xs ++ M.many F l).length ≤ 1000000000)
    (hf : ∀ (a2 : Option Addr) (n2 c2 : Nat) (a3 : Option Addr) (n3 c3 : Nat) (x : M.Bk) (W : World) (ys : List Int), x ∈ l → (BkIs B W) [.slice a2 n2 c2, .slice a3 n3 c3] x → Writes B W g ys → (ys ++ F x).length ≤ 1000000000 → Calls Tryz.prog fid #[.pointer (some ⟨g, 0, none⟩), .agg #[.slice a2 n2 c2, .slice a3 n3 c3]] W fun e w' => e = .returned (.tuple #[]) ∧ Writes B w' g (ys ++ F x) ∧ Wrote B W w' g) :
    Calls Tryz.prog 101 #[.pointer (some ⟨g, 0, none⟩), .slice a n c, .func (.func fid) #[.pointer (some ⟨g, 0, none⟩)] #[]] w fun e w' => e = .returned (.tuple #[]) ∧ Writes B w' g (xs ++ M.many F l) ∧ Wrote B w w' g := by
  have HNUM := Lib.hid hnum
  have HL := Lib.hid hl
  have HB := Lib.hid hB
  have HX := Lib.hid hx
  have HF := Lib.hid hf
  have HFID := Lib.hid hfid
  have hlen := hl.len
  have HLEN := Lib.hid hlen
  have hn63 : n ≤ 9223372036854775807 := by unfold maxLen at hn; omega
  clear hnum hl hB hn hx hf hfid hlen
  go_enter Tryz.func101, Tryz.ntmps101
  go_wp2_with fail
  refine HNUM.out.mono ?_; rintro e w1 ⟨rfl, hw1, ho1⟩
  have HW1 := Lib.hid hw1
  have HO1 := Lib.hid ho1
  clear hw1 ho1
  go_wp2_with fail
  go_loopw [14] (fun v wr => ∃ i : Nat, v = .int .i64 i ∧ i ≤ n ∧ Writes B wr g (xs ++ M.num n ++ (l.take i).flatMap F) ∧ Wrote B w wr g) (fun v _ => n - (intOf v).toNat)
  case atStart => exact ⟨0, rfl, by omega, by simpa using HW1.out, HO1.out⟩
  case round =>
    obtain ⟨i, rfl, hi, hwr, hor⟩ := hrel
    by_cases hlt : i < n
    · obtain ⟨b, off, x, cs, rfl, hbB, hxi, hcl, hPx, hcell⟩ := HL.out.here hlt
      have hPw := hPx
      obtain ⟨a2, n2, c2, a3, n3, c3, rfl, hp⟩ := hPx
      have hmem : x ∈ l := List.mem_of_getElem? hxi
      have hbl : b < wr.heap.size := Nat.lt_of_lt_of_le (Nat.lt_of_lt_of_le hbB HB.out) hor.below.size
      have d0 : wr.cell? ⟨b, off + i * 2, none⟩ = some (.slice a2 n2 c2) := (World.cell?_of_block (w := w) (hor.below.block b hbB)).trans (by simpa using hcell 0 (by decide))
      have d1 : wr.cell? ⟨b, off + i * 2 + 1, none⟩ = some (.slice a3 n3 c3) := (World.cell?_of_block (w := w) (hor.below.block b hbB)).trans (by simpa using hcell 1 (by decide))
      have hwa := hwr.alloc (.cells #[.slice a2 n2 c2, .slice a3 n3 c3] 85)
      have hob := hor.trans (hwr.behind #[.slice a2 n2 c2, .slice a3 n3 c3] 85).1
      have hPW := BkIs.keep hPw hob.below HB.out
      have htk : l.take (i + 1) = l.take i ++ [x] := by
        rw [List.take_add_one, hxi]; rfl
      have hall : (xs ++ M.num n ++ (l.take (i + 1)).flatMap F).length ≤ (xs ++ M.many F l).length := by
        have h1 : (l.flatMap F).length = ((l.take (i + 1)).flatMap F).length + ((l.drop (i + 1)).flatMap F).length := by
          rw [← List.length_append, ← List.flatMap_append, List.take_append_drop]
        unfold M.many
        rw [HLEN.out]
        simp only [List.length_append]
        omega
      have heq : xs ++ M.num n ++ (l.take i).flatMap F ++ F x = xs ++ M.num n ++ (l.take (i + 1)).flatMap F := by
        rw [htk]; simp [List.append_assoc]
      have HC := Lib.hid (HF.out a2 n2 c2 a3 n3 c3 x (wr.alloc (.cells #[.slice a2 n2 c2, .slice a3 n3 c3] 85)) _ hmem hPW hwa (by rw [heq]; have := HX.out; omega))
      rw [heq] at HC
      have HOB := Lib.hid hob
      have hfid := HFID.out
      clear hwr hor hxi hcl hp hPw hPW hcell hwa hob htk hall heq hmem
      go_wp2_with fail
      refine HC.out.mono ?_; rintro e w3 ⟨rfl, hw3, ho3⟩
      have HW3 := Lib.hid hw3
      have HO3 := Lib.hid ho3
      clear hw3 ho3 hfid
      go_wp2_with fail
      go_roundw
      case rel => exact ⟨i + 1, rfl, by omega, HW3.out, HOB.out.trans HO3.out⟩
      case measure => simp [intOf]; omega
    · obtain rfl : i = n := by omega
      have hfin : xs ++ M.num i ++ (l.take i).flatMap F = xs ++ M.many F l := by
        rw [← HLEN.out, List.take_length]; unfold M.many; simp [List.append_assoc]
      rw [hfin] at hwr
      have HW2 := Lib.hid hwr
      have HO2 := Lib.hid hor
      clear hwr hor hfin
      go_wp2_with fail
      go_end0
      exact ⟨rfl, HW2.out, HO2.out⟩
set_option maxRecDepth 100000 in
theorem putIns_any (F : M.Ins → List Int) (fid : FuncId) (hfid : ∀ args W, (callFunc fid args).run Tryz.prog W = .ok (.enter fid args) W) {B g : Nat} {xs : List Int} {w : World} {a : Option Addr} {n c : Nat} {l : List M.Ins}
    (hnum : Calls Tryz.prog 87 #[.pointer (some ⟨g, 0, none⟩), .int .i64 n] w fun e w' => e = .returned (.tuple #[]) ∧ Writes B w' g (xs ++ M.num n) ∧ Wrote B w w' g)
    (hl : Lies B w 9 (InsIs B w) a n l) (hB : B ≤ w.heap.size) (hn : n ≤ maxLen) (hx : (xs ++ M.many F l).length ≤ 1000000000)
    (hf : ∀ (la : Option Addr) (ln lc : Nat) (ma : Option Addr) (mn mc : Nat) (va : Option Addr) (vn vc : Nat) (x : M.Ins) (W : World) (ys : List Int), x ∈ l → (InsIs B W) [.int .i64 x.op, .int .i64 x.d, .int .i64 x.a, .int .i64 x.b, .int .i64 x.c, .int .i64 x.n, .slice la ln lc, .slice ma mn mc, .slice va vn vc] x → Writes B W g ys → (ys ++ F x).length ≤ 1000000000 → Calls Tryz.prog fid #[.pointer (some ⟨g, 0, none⟩), .agg #[.int .i64 x.op, .int .i64 x.d, .int .i64 x.a, .int .i64 x.b, .int .i64 x.c, .int .i64 x.n, .slice la ln lc, .slice ma mn mc, .slice va vn vc]] W fun e w' => e = .returned (.tuple #[]) ∧ Writes B w' g (ys ++ F x) ∧ Wrote B W w' g) :
    Calls Tryz.prog 109 #[.pointer (some ⟨g, 0, none⟩), .slice a n c, .func (.func fid) #[.pointer (some ⟨g, 0, none⟩)] #[]] w fun e w' => e = .returned (.tuple #[]) ∧ Writes B w' g (xs ++ M.many F l) ∧ Wrote B w w' g := by
  have HNUM := Lib.hid hnum
  have HL := Lib.hid hl
  have HB := Lib.hid hB
  have HX := Lib.hid hx
  have HF := Lib.hid hf
  have HFID := Lib.hid hfid
  have hlen := hl.len
  have HLEN := Lib.hid hlen
  have hn63 : n ≤ 9223372036854775807 := by unfold maxLen at hn; omega
  clear hnum hl hB hn hx hf hfid hlen
  go_enter Tryz.func109, Tryz.ntmps109
  go_wp2_with fail
  refine HNUM.out.mono ?_; rintro e w1 ⟨rfl, hw1, ho1⟩
  have HW1 := Lib.hid hw1
  have HO1 := Lib.hid ho1
  clear hw1 ho1
  go_wp2_with fail
  go_loopw [14] (fun v wr => ∃ i : Nat, v = .int .i64 i ∧ i ≤ n ∧ Writes B wr g (xs ++ M.num n ++ (l.take i).flatMap F) ∧ Wrote B w wr g) (fun v _ => n - (intOf v).toNat)
  case atStart => exact ⟨0, rfl, by omega, by simpa using HW1.out, HO1.out⟩
  case round =>
    obtain ⟨i, rfl, hi, hwr, hor⟩ := hrel
    by_cases hlt : i < n
    · obtain ⟨b, off, x, cs, rfl, hbB, hxi, hcl, hPx, hcell⟩ := HL.out.here hlt
      have hPw := hPx
      obtain ⟨la, ln, lc, ma, mn, mc, va, vn, vc, rfl, hp⟩ := hPx
      have hmem : x ∈ l := List.mem_of_getElem? hxi
      have hbl : b < wr.heap.size := Nat.lt_of_lt_of_le (Nat.lt_of_lt_of_le hbB HB.out) hor.below.size
      have d0 : wr.cell? ⟨b, off + i * 9, none⟩ = some (.int .i64 x.op) := (World.cell?_of_block (w := w) (hor.below.block b hbB)).trans (by simpa using hcell 0 (by decide))
      have d1 : wr.cell? ⟨b, off + i * 9 + 1, none⟩ = some (.int .i64 x.d) := (World.cell?_of_block (w := w) (hor.below.block b hbB)).trans (by simpa using hcell 1 (by decide))
      have d2 : wr.cell? ⟨b, off + i * 9 + 2, none⟩ = some (.int .i64 x.a) := (World.cell?_of_block (w := w) (hor.below.block b hbB)).trans (by simpa using hcell 2 (by decide))
      have d3 : wr.cell? ⟨b, off + i * 9 + 3, none⟩ = some (.int .i64 x.b) := (World.cell?_of_block (w := w) (hor.below.block b hbB)).trans (by simpa using hcell 3 (by decide))
      have d4 : wr.cell? ⟨b, off + i * 9 + 4, none⟩ = some (.int .i64 x.c) := (World.cell?_of_block (w := w) (hor.below.block b hbB)).trans (by simpa using hcell 4 (by decide))
      have d5 : wr.cell? ⟨b, off + i * 9 + 5, none⟩ = some (.int .i64 x.n) := (World.cell?_of_block (w := w) (hor.below.block b hbB)).trans (by simpa using hcell 5 (by decide))
      have d6 : wr.cell? ⟨b, off + i * 9 + 6, none⟩ = some (.slice la ln lc) := (World.cell?_of_block (w := w) (hor.below.block b hbB)).trans (by simpa using hcell 6 (by decide))
      have d7 : wr.cell? ⟨b, off + i * 9 + 7, none⟩ = some (.slice ma mn mc) := (World.cell?_of_block (w := w) (hor.below.block b hbB)).trans (by simpa using hcell 7 (by decide))
      have d8 : wr.cell? ⟨b, off + i * 9 + 8, none⟩ = some (.slice va vn vc) := (World.cell?_of_block (w := w) (hor.below.block b hbB)).trans (by simpa using hcell 8 (by decide))
      have hwa := hwr.alloc (.cells #[.int .i64 x.op, .int .i64 x.d, .int .i64 x.a, .int .i64 x.b, .int .i64 x.c, .int .i64 x.n, .slice la ln lc, .slice ma mn mc, .slice va vn vc] 70)
      have hob := hor.trans (hwr.behind #[.int .i64 x.op, .int .i64 x.d, .int .i64 x.a, .int .i64 x.b, .int .i64 x.c, .int .i64 x.n, .slice la ln lc, .slice ma mn mc, .slice va vn vc] 70).1
      have hPW := InsIs.keep hPw hob.below HB.out
      have htk : l.take (i + 1) = l.take i ++ [x] := by
        rw [List.take_add_one, hxi]; rfl
      have hall : (xs ++ M.num n ++ (l.take (i + 1)).flatMap F).length ≤ (xs ++ M.many F l).length := by
        have h1 : (l.flatMap F).length = ((l.take (i + 1)).flatMap F).length + ((l.drop (i + 1)).flatMap F).length := by
          rw [← List.length_append, ← List.flatMap_append, List.take_append_drop]
        unfold M.many
        rw [HLEN.out]
        simp only [List.length_append]
        omega
      have heq : xs ++ M.num n ++ (l.take i).flatMap F ++ F x = xs ++ M.num n ++ (l.take (i + 1)).flatMap F := by
        rw [htk]; simp [List.append_assoc]
      have HC := Lib.hid (HF.out la ln lc ma mn mc va vn vc x (wr.alloc (.cells #[.int .i64 x.op, .int .i64 x.d, .int .i64 x.a, .int .i64 x.b, .int .i64 x.c, .int .i64 x.n, .slice la ln lc, .slice ma mn mc, .slice va vn vc] 70)) _ hmem hPW hwa (by rw [heq]; have := HX.out; omega))
      rw [heq] at HC
      have HOB := Lib.hid hob
      have hfid := HFID.out
      clear hwr hor hxi hcl hp hPw hPW hcell hwa hob htk hall heq hmem
      go_wp2_with fail
      refine HC.out.mono ?_; rintro e w3 ⟨rfl, hw3, ho3⟩
      have HW3 := Lib.hid hw3
      have HO3 := Lib.hid ho3
      clear hw3 ho3 hfid
      go_wp2_with fail
      go_roundw
      case rel => exact ⟨i + 1, rfl, by omega, HW3.out, HOB.out.trans HO3.out⟩
      case measure => simp [intOf]; omega
    · obtain rfl : i = n := by omega
      have hfin : xs ++ M.num i ++ (l.take i).flatMap F = xs ++ M.many F l := by
        rw [← HLEN.out, List.take_length]; unfold M.many; simp [List.append_assoc]
      rw [hfin] at hwr
      have HW2 := Lib.hid hwr
      have HO2 := Lib.hid hor
      clear hwr hor hfin
      go_wp2_with fail
      go_end0
      exact ⟨rfl, HW2.out, HO2.out⟩
end Go.Proofs.YthlifflapgccbaaGreat
