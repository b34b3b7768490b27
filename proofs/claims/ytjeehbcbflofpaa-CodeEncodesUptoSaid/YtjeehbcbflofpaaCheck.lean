/- code.Size, anyInstr, big and Check of any image. -/
import Derived.Test.YtjeehbcbflofpaaBig
namespace Go.Proofs.Ytjeehbcbflofpaa
set_option linter.unusedVariables false
set_option linter.unusedSimpArgs false
open Go.ChangeShapes Go.WideShapes Go.ChangeAt Go.RowKit
open M (W)
theorem any_step {α : Type} (p : α → Bool) {l : List α} {i : Nat} {x : α} (hx : l[i]? = some x) (h : (l.take i).any p = false) : (l.take (i + 1)).any p = p x := by
  rw [List.take_add_one, hx, List.any_append, h]; simp
theorem any_hit {α : Type} (p : α → Bool) {l : List α} {i : Nat} {x : α} (hx : l[i]? = some x) (h : p x = true) : l.any p = true := List.any_eq_true.2 ⟨x, List.mem_of_getElem? hx, h⟩
theorem any_end {α : Type} (p : α → Bool) {l : List α} {n : Nat} (hn : l.length = n) (h : (l.take n).any p = false) : l.any p = false := by
  rw [← hn, List.take_length] at h; exact h
theorem sum_step {α : Type} (f : α → Nat) {l : List α} {i : Nat} {x : α} (hx : l[i]? = some x) : ((l.take (i + 1)).map f).sum = ((l.take i).map f).sum + f x := by
  rw [List.take_add_one, hx, List.map_append, List.sum_append]; simp
theorem sum_end {α : Type} (f : α → Nat) {l : List α} {n : Nat} (hn : l.length = n) : ((l.take n).map f).sum = (l.map f).sum := by
  rw [← hn, List.take_length]
set_option maxRecDepth 100000 in
set_option maxHeartbeats 2000000 in
theorem anyInstr_any (p : M.Ins → Bool) (fid : FuncId) (hfid : ∀ args W, (callFunc fid args).run Try.prog W = .ok (.enter fid args) W) {B : Nat} {w : World} {v : ImgV} {m : M.Img} (hB : B ≤ w.heap.size) (hp : ImgIs B w v m)
    (hf : ∀ (la : Option Addr) (ln lc : Nat) (ma : Option Addr) (mn mc : Nat) (va : Option Addr) (vn vc : Nat) (x : M.Ins) (W : World), InsIs B W [.int .i64 x.op, .int .i64 x.d, .int .i64 x.a, .int .i64 x.b, .int .i64 x.c, .int .i64 x.n, .slice la ln lc, .slice ma mn mc, .slice va vn vc] x → B ≤ W.heap.size → Calls Try.prog fid #[.agg #[.int .i64 x.op, .int .i64 x.d, .int .i64 x.a, .int .i64 x.b, .int .i64 x.c, .int .i64 x.n, .slice la ln lc, .slice ma mn mc, .slice va vn vc]] W fun e w' => e = .returned (.bool (p x)) ∧ Still W w') :
    Calls Try.prog 22 #[.agg #[.slice v.ta v.tn v.tc, .slice v.sa v.sn v.sc, .slice v.xa v.xn v.xc, .slice v.na v.nn v.nc, .slice v.fa v.fn v.fc, .int .i64 v.main, .int .i64 v.exn], .func (.func fid) #[] #[]] w fun e w' => e = .returned (.bool (M.anyIns p m)) ∧ Still w w' := by
  have hL := hp.funcs
  have hle := hp.le.2.2.2.2
  obtain ⟨ta, tn, tc, sa, sn, sc, xa, xn, xc, na, nn, nc, fa, fn, fc, mi, ei⟩ := v
  dsimp only at hL hle ⊢
  have HL := Lib.hid hL
  have HB := Lib.hid hB
  have HLEN := Lib.hid hL.len
  have hfn : fn ≤ 9223372036854775807 := by unfold maxLen at hle; omega
  clear hL hle
  have HF := Lib.hid hf
  have HFID := Lib.hid hfid
  have HA : Hid (M.anyIns p m = m.funcs.any fun f => f.blocks.any fun b => b.code.any p) := rfl
  generalize m.funcs = fl at *
  generalize M.anyIns p m = r at *
  clear hB hp hf hfid
  go_enter Try.func22, Try.ntmps22
  go_wp2_with fail
  go_loopw [12] (fun q wr => ∃ i : Nat, q = .int .i64 i ∧ i ≤ fn ∧ (fl.take i).any (fun f => f.blocks.any fun b => b.code.any p) = false ∧ Still w wr) (fun q _ => fn - (intOf q).toNat)
  case atStart => exact ⟨0, rfl, by omega, by simp, (Still.refl w).alloc _⟩
  case round =>
    obtain ⟨i, rfl, hi, hany, ht⟩ := hrel
    obtain ⟨wo, hwo⟩ : ∃ wo, wo = wr := ⟨_, rfl⟩
    subst hwo
    by_cases hlt : i < fn
    · obtain ⟨b, off, x, cs, rfl, hbB, hxi, hcl, hPx, hcell⟩ := HL.out.here hlt
      have hPw := FnIs.keep hPx (Still.below ht |>.mono HB.out) HB.out
      obtain ⟨a2, n2, c2, a3, n3, c3, rfl, hp⟩ := hPx
      obtain ⟨_, _, _, hbl3, hbll, hn3, _, _⟩ := hPw.at_len
      have HBLK := Lib.hid hbll
      have HBL3 := Lib.hid hbl3
      have hbl : b < wo.heap.size := Nat.lt_of_lt_of_le (Nat.lt_of_lt_of_le hbB HB.out) ht.size
      have d0 : wo.cell? ⟨b, off + i * 4, none⟩ = some (.slice a2 n2 c2) := (Still.cell ht (p := ⟨b, _, none⟩) (Nat.lt_of_lt_of_le hbB HB.out)).trans (by simpa using hcell 0 (by decide))
      have d1 : wo.cell? ⟨b, off + i * 4 + 1, none⟩ = some (.int .i64 x.result) := (Still.cell ht (p := ⟨b, _, none⟩) (Nat.lt_of_lt_of_le hbB HB.out)).trans (by simpa using hcell 1 (by decide))
      have d2 : wo.cell? ⟨b, off + i * 4 + 2, none⟩ = some (.int .i64 x.slots) := (Still.cell ht (p := ⟨b, _, none⟩) (Nat.lt_of_lt_of_le hbB HB.out)).trans (by simpa using hcell 2 (by decide))
      have d3 : wo.cell? ⟨b, off + i * 4 + 3, none⟩ = some (.slice a3 n3 c3) := (Still.cell ht (p := ⟨b, _, none⟩) (Nat.lt_of_lt_of_le hbB HB.out)).trans (by simpa using hcell 3 (by decide))
      have HTK := Lib.hid (any_step (fun f => f.blocks.any fun b => b.code.any p) hxi hany)
      have HHIT := Lib.hid (any_hit (fun (f : M.Fn) => f.blocks.any fun b => b.code.any p) hxi)
      have hn63 : n3 ≤ 9223372036854775807 := by unfold maxLen at hn3; omega
      have HT := Lib.hid ht
      clear hxi hcl hp hPw hcell ht hany hbl3 hbll hn3
      go_wp2_with fail
      go_loopw [19] (fun q wr => ∃ j : Nat, q = .int .i64 j ∧ j ≤ n3 ∧ (x.blocks.take j).any (fun b => b.code.any p) = false ∧ Still wo wr) (fun q _ => n3 - (intOf q).toNat)
      case atStart => exact ⟨0, rfl, by omega, by simp, (Still.refl _).alloc _⟩
      case round =>
        obtain ⟨j, rfl, hj, hanyj, htj⟩ := hrel
        have htw := HT.out.trans htj
        by_cases hlt2 : j < n3
        · obtain ⟨b2, off2, y, cs2, rfl, hbB2, hyj, hcl2, hPy, hcell2⟩ := HBLK.out.here hlt2
          have hPyw := BkIs.keep hPy (Still.below htj |>.mono (Nat.le_trans HB.out HT.out.size)) (Nat.le_trans HB.out HT.out.size)
          obtain ⟨a4, n4, c4, a5, n5, c5, rfl, hpy⟩ := hPy
          obtain ⟨_, _, _, hcl3, hcll, hn5⟩ := hPyw.at_len
          have hbl2 : b2 < wr.heap.size := Nat.lt_of_lt_of_le (Nat.lt_of_lt_of_le hbB2 HB.out) htw.size
          have q0 : wr.cell? ⟨b2, off2 + j * 2, none⟩ = some (.slice a4 n4 c4) := (Still.cell htj (p := ⟨b2, _, none⟩) (Nat.lt_of_lt_of_le (Nat.lt_of_lt_of_le hbB2 HB.out) HT.out.size)).trans (by simpa using hcell2 0 (by decide))
          have q1 : wr.cell? ⟨b2, off2 + j * 2 + 1, none⟩ = some (.slice a5 n5 c5) := (Still.cell htj (p := ⟨b2, _, none⟩) (Nat.lt_of_lt_of_le (Nat.lt_of_lt_of_le hbB2 HB.out) HT.out.size)).trans (by simpa using hcell2 1 (by decide))
          have hW : Below B wr (wr.alloc (.cells #[.slice a4 n4 c4, .slice a5 n5 c5] 54)) := (Still.below ((Still.refl wr).alloc _)).mono (Nat.le_trans HB.out htw.size)
          have HC := Lib.hid (containsIns_any (c := c5) p fid HFID.out (hcll.keep hW (Nat.le_trans HB.out htw.size) fun _ _ _ h => h.keep hW (Nat.le_trans HB.out htw.size)) (by have := HB.out; have := htw.size; simp; omega) hn5 (fun la ln lc ma mn mc va vn vc z W _ hp hb => HF.out la ln lc ma mn mc va vn vc z W hp hb))
          have HTK2 := Lib.hid (any_step (fun b => b.code.any p) hyj hanyj)
          have HHIT2 := Lib.hid (any_hit (fun (b : M.Bk) => b.code.any p) hyj)
          have HTW := Lib.hid htw
          have HTJ := Lib.hid htj
          clear hyj hcl2 hpy hPyw hcell2 htj hanyj hcl3 hcll hn5 hW htw
          cases hpx : y.code.any p with
          | true =>
            rw [hpx] at HC
            go_wp2_with fail
            refine HC.out.mono ?_; rintro e w3 ⟨rfl, t3⟩
            have HT3 := Lib.hid ((HTW.out.alloc _).trans t3)
            clear t3
            go_wp2_with fail
            go_ret
            refine ⟨?_, HT3.out⟩
            rw [HA.out, HHIT.out (HHIT2.out hpx)]
            rfl
          | false =>
            rw [hpx] at HC
            go_wp2_with fail
            refine HC.out.mono ?_; rintro e w3 ⟨rfl, t3⟩
            have HT3 := Lib.hid ((HTJ.out.alloc _).trans t3)
            clear t3
            go_wp2_with fail
            go_roundw
            case rel => exact ⟨j + 1, rfl, by omega, by rw [HTK2.out, hpx], HT3.out⟩
            case measure => simp [intOf]; omega
        · obtain rfl : j = n3 := by omega
          have HEND := Lib.hid (any_end (fun (b : M.Bk) => b.code.any p) HBL3.out hanyj)
          have HT4 := Lib.hid htw
          clear htj hanyj htw
          go_wp2_with fail
          go_roundw
          case rel => exact ⟨i + 1, rfl, by omega, by rw [HTK.out]; exact HEND.out, HT4.out⟩
          case measure => simp [intOf]; omega
    · obtain rfl : i = fn := by omega
      have HEND := Lib.hid (any_end (fun (f : M.Fn) => f.blocks.any fun b => b.code.any p) HLEN.out hany)
      have HT := Lib.hid ht
      clear ht hany
      go_wp2_with fail
      go_ret
      exact ⟨by rw [HA.out, HEND.out]; rfl, HT.out⟩
end Go.Proofs.Ytjeehbcbflofpaa
