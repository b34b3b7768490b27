/- Lemmas, put together: Big Check Equal. -/
import Derived.Test.YtglalgjffkoneaaGreatDoorV5
import Derived.Shelf.Abstract
/- What is too great: code.big and its tests. -/
namespace Go.Proofs.YtglalgjffkoneaaGreatDoor
set_option linter.unusedVariables false
set_option linter.unusedSimpArgs false
open Go.ChangeShapes Go.WideShapes Go.ChangeAt Go.RowKit
open M (W)
def M.plainIns (x : M.Ins) : Bool := M.plain (M.uses x.op) x.d x.a x.b x.c x.n x.l.length x.m.length x.v.length
/-- What Check answers. -/
def M.check (m : M.Img) : Int := if M.big m then 2 else if M.anyIns (fun x => !(M.plainIns x)) m then 1 else 0
theorem dec_nat (a b : Nat) : decide ((a : Int) < (b : Int)) = decide (a < b) := by
  by_cases h : a < b
  · rw [decide_eq_true h, decide_eq_true (by omega)]
  · rw [decide_eq_false h, decide_eq_false (by omega)]
theorem TyIs.at_len {B : Nat} {w : World} {b : Bool} {a2 : Option Addr} {n2 c2 : Nat} {x : M.Ty} (h : TyIs B w [.bool b, .slice a2 n2 c2] x) : x.shapes.length = n2 ∧ Ints B w a2 n2 x.shapes ∧ n2 ≤ maxLen := by
  obtain ⟨a, n, c, he, hn, hi⟩ := h
  simp only [List.cons.injEq, Value.slice.injEq, and_true, true_and] at he
  obtain ⟨_, rfl, rfl, rfl⟩ := he
  exact ⟨hi.len, hi, hn⟩
theorem ShIs.at_len {B : Nat} {w : World} {k : Int} {s : ByteArray} {a2 : Option Addr} {n2 c2 : Nat} {x : M.Sh} (h : ShIs B w [.int .i64 k, .slice a2 n2 c2, .string s] x) : x.fields.length = n2 ∧ Ints B w a2 n2 x.fields ∧ n2 ≤ maxLen := by
  obtain ⟨a, n, c, he, hn, _, _, hi⟩ := h
  simp only [List.cons.injEq, Value.slice.injEq, and_true, true_and] at he
  obtain ⟨_, ⟨rfl, rfl, rfl⟩, _⟩ := he
  exact ⟨hi.len, hi, hn⟩
theorem FnIs.at_len {B : Nat} {w : World} {r s : Int} {a2 : Option Addr} {n2 c2 : Nat} {a3 : Option Addr} {n3 c3 : Nat} {x : M.Fn} (h : FnIs B w [.slice a2 n2 c2, .int .i64 r, .int .i64 s, .slice a3 n3 c3] x) : x.params.length = n2 ∧ Ints B w a2 n2 x.params ∧ n2 ≤ maxLen ∧ x.blocks.length = n3 ∧ Lies B w 2 (BkIs B w) a3 n3 x.blocks ∧ n3 ≤ maxLen ∧ In64 x.result ∧ In64 x.slots := by
  obtain ⟨pa, pn, pc, ba, bn, bc, he, h1, h2, h3, h4, h5, h6⟩ := h
  simp only [List.cons.injEq, Value.slice.injEq, and_true, true_and] at he
  obtain ⟨⟨rfl, rfl, rfl⟩, _, _, ⟨rfl, rfl, rfl⟩⟩ := he
  exact ⟨h5.len, h5, h1, h6.len, h6, h2, h3, h4⟩
theorem BkIs.at_len {B : Nat} {w : World} {a2 : Option Addr} {n2 c2 : Nat} {a3 : Option Addr} {n3 c3 : Nat} {x : M.Bk} (h : BkIs B w [.slice a2 n2 c2, .slice a3 n3 c3] x) : x.inn.length = n2 ∧ Ints B w a2 n2 x.inn ∧ n2 ≤ maxLen ∧ x.code.length = n3 ∧ Lies B w 9 (InsIs B w) a3 n3 x.code ∧ n3 ≤ maxLen := by
  obtain ⟨pa, pn, pc, ba, bn, bc, he, h1, h2, h5, h6⟩ := h
  simp only [List.cons.injEq, Value.slice.injEq, and_true] at he
  obtain ⟨⟨rfl, rfl, rfl⟩, ⟨rfl, rfl, rfl⟩⟩ := he
  exact ⟨h5.len, h5, h1, h6.len, h6, h2⟩
theorem InsIs.at_len {B : Nat} {w : World} {o d a b c n : Int} {la : Option Addr} {ln lc : Nat} {ma : Option Addr} {mn mc : Nat} {va : Option Addr} {vn vc : Nat} {x : M.Ins} (h : InsIs B w [.int .i64 o, .int .i64 d, .int .i64 a, .int .i64 b, .int .i64 c, .int .i64 n, .slice la ln lc, .slice ma mn mc, .slice va vn vc] x) : x.l.length = ln ∧ x.m.length = mn ∧ x.v.length = vn ∧ ln ≤ maxLen ∧ mn ≤ maxLen ∧ vn ≤ maxLen := by
  obtain ⟨la', ln', lc', ma', mn', mc', va', vn', vc', he, h1, h2, h3, h4, h5, h6, h7⟩ := h
  simp only [List.cons.injEq, Value.slice.injEq, and_true, true_and] at he
  obtain ⟨_, _, _, _, _, _, ⟨rfl, rfl, rfl⟩, ⟨rfl, rfl, rfl⟩, ⟨rfl, rfl, rfl⟩⟩ := he
  exact ⟨h5.len, h6.len, h7.len, h1, h2, h3⟩
theorem bigType_any {B : Nat} {w : World} {a2 : Option Addr} {n2 c2 : Nat} {x : M.Ty} (h : TyIs B w [.bool x.imm, .slice a2 n2 c2] x) :
    Calls Tryz.prog 105 #[.agg #[.bool x.imm, .slice a2 n2 c2]] w fun e w' => e = .returned (.bool (M.bigTy x)) ∧ Still w w' := by
  have hl := h.at_len.1
  have he : M.bigTy x = decide ((512 : Int) < n2) := by unfold M.bigTy; rw [hl]; exact (dec_nat 512 n2).symm
  have HE := Lib.hid he
  clear h hl he
  go_enter Tryz.func105, Tryz.ntmps105
  go_wp2_with fail
  go_ret
  refine ⟨?_, (Still.refl w).alloc _⟩
  rw [HE.out]
  rfl
theorem bigText_any (s : ByteArray) (w : World) : Calls Tryz.prog 109 #[.string s] w fun e w' => e = .returned (.bool (M.bigTx s)) ∧ w' = w := by
  have he : M.bigTx s = decide ((16384 : Int) < s.size) := by unfold M.bigTx; exact (dec_nat 16384 s.size).symm
  have HE := Lib.hid he
  clear he
  go_enter Tryz.func109, Tryz.ntmps109
  go_wp2_with fail
  go_ret
  refine ⟨?_, rfl⟩
  rw [HE.out]
  rfl
theorem bigShape_any {B : Nat} {w : World} {a2 : Option Addr} {n2 c2 : Nat} {x : M.Sh} (h : ShIs B w [.int .i64 x.kind, .slice a2 n2 c2, .string x.name] x) :
    Calls Tryz.prog 107 #[.agg #[.int .i64 x.kind, .slice a2 n2 c2, .string x.name]] w fun e w' => e = .returned (.bool (M.bigSh x)) ∧ Still w w' := by
  have hl := h.at_len.1
  have he : M.bigSh x = (decide ((200 : Int) < n2) || M.bigTx x.name) := by
    unfold M.bigSh
    have e1 : decide ((200 : Int) < n2) = decide (200 < n2) := dec_nat 200 n2
    rw [hl, e1]; rfl
  have HE := Lib.hid he
  clear h hl he
  have HT := Lib.hid (fun W => bigText_any x.name W)
  by_cases hb : (200 : Int) < n2
  · go_enter Tryz.func107, Tryz.ntmps107
    go_wp2_with fail
    go_ret
    refine ⟨?_, (Still.refl w).alloc _⟩
    rw [HE.out, decide_eq_true (by omega)]
    rfl
  · go_enter Tryz.func107, Tryz.ntmps107
    go_wp2_with fail
    refine (HT.out _).mono ?_; rintro e w1 ⟨rfl, rfl⟩
    go_wp2_with fail
    go_ret
    refine ⟨?_, (Still.refl w).alloc _⟩
    rw [HE.out, decide_eq_false (by omega)]
    rfl
theorem bigBlock_any {B : Nat} {w : World} {a2 : Option Addr} {n2 c2 : Nat} {a3 : Option Addr} {n3 c3 : Nat} {x : M.Bk} (h : BkIs B w [.slice a2 n2 c2, .slice a3 n3 c3] x) :
    Calls Tryz.prog 148 #[.agg #[.slice a2 n2 c2, .slice a3 n3 c3]] w fun e w' => e = .returned (.bool (M.bigBk x)) ∧ Still w w' := by
  have hl := h.at_len.1
  have he : M.bigBk x = decide ((200 : Int) < n2) := by unfold M.bigBk; rw [hl]; exact (dec_nat 200 n2).symm
  have HE := Lib.hid he
  clear h hl he
  go_enter Tryz.func148, Tryz.ntmps148
  go_wp2_with fail
  go_ret
  refine ⟨?_, (Still.refl w).alloc _⟩
  rw [HE.out]
  rfl
theorem bigInstr_any {B : Nat} {w : World} {la : Option Addr} {ln lc : Nat} {ma : Option Addr} {mn mc : Nat} {va : Option Addr} {vn vc : Nat} {x : M.Ins} (h : InsIs B w [.int .i64 x.op, .int .i64 x.d, .int .i64 x.a, .int .i64 x.b, .int .i64 x.c, .int .i64 x.n, .slice la ln lc, .slice ma mn mc, .slice va vn vc] x) :
    Calls Tryz.prog 113 #[.agg #[.int .i64 x.op, .int .i64 x.d, .int .i64 x.a, .int .i64 x.b, .int .i64 x.c, .int .i64 x.n, .slice la ln lc, .slice ma mn mc, .slice va vn vc]] w fun e w' => e = .returned (.bool (M.bigIns x)) ∧ Still w w' := by
  obtain ⟨h1, h2, h3, _⟩ := h.at_len
  have he : M.bigIns x = (decide ((1024 : Int) < ln) || decide ((1024 : Int) < mn) || decide ((200 : Int) < vn)) := by
    unfold M.bigIns
    have e1 : decide ((1024 : Int) < ln) = decide (1024 < ln) := dec_nat 1024 ln
    have e2 : decide ((1024 : Int) < mn) = decide (1024 < mn) := dec_nat 1024 mn
    have e3 : decide ((200 : Int) < vn) = decide (200 < vn) := dec_nat 200 vn
    rw [h1, h2, h3, e1, e2, e3]
  have HE := Lib.hid he
  clear h h1 h2 h3 he
  by_cases hb : (1024 : Int) < ln
  · skip
    go_enter Tryz.func113, Tryz.ntmps113
    go_wp2_with fail
    go_ret
    refine ⟨?_, (Still.refl w).alloc _⟩
    rw [HE.out]
    have e0 : decide ((1024 : Int) < ln) = true := decide_eq_true (by omega)
    rw [e0]
    rfl
  · by_cases hc : (1024 : Int) < mn
    · skip
      go_enter Tryz.func113, Tryz.ntmps113
      go_wp2_with fail
      go_ret
      refine ⟨?_, (Still.refl w).alloc _⟩
      rw [HE.out]
      have e0 : decide ((1024 : Int) < ln) = false := decide_eq_false (by omega)
      have e1 : decide ((1024 : Int) < mn) = true := decide_eq_true (by omega)
      rw [e0, e1]
      rfl
    · by_cases hd : (200 : Int) < vn
      · skip
        go_enter Tryz.func113, Tryz.ntmps113
        go_wp2_with fail
        go_ret
        refine ⟨?_, (Still.refl w).alloc _⟩
        rw [HE.out]
        have e0 : decide ((1024 : Int) < ln) = false := decide_eq_false (by omega)
        have e1 : decide ((1024 : Int) < mn) = false := decide_eq_false (by omega)
        have e2 : decide ((200 : Int) < vn) = true := decide_eq_true (by omega)
        rw [e0, e1, e2]
        rfl
      · skip
        go_enter Tryz.func113, Tryz.ntmps113
        go_wp2_with fail
        go_ret
        refine ⟨?_, (Still.refl w).alloc _⟩
        rw [HE.out]
        have e0 : decide ((1024 : Int) < ln) = false := decide_eq_false (by omega)
        have e1 : decide ((1024 : Int) < mn) = false := decide_eq_false (by omega)
        have e2 : decide ((200 : Int) < vn) = false := decide_eq_false (by omega)
        rw [e0, e1, e2]
        rfl
theorem notPlain_any {B : Nat} {w : World} {la : Option Addr} {ln lc : Nat} {ma : Option Addr} {mn mc : Nat} {va : Option Addr} {vn vc : Nat} {x : M.Ins} (h : InsIs B w [.int .i64 x.op, .int .i64 x.d, .int .i64 x.a, .int .i64 x.b, .int .i64 x.c, .int .i64 x.n, .slice la ln lc, .slice ma mn mc, .slice va vn vc] x) :
    Calls Tryz.prog 72 #[.agg #[.int .i64 x.op, .int .i64 x.d, .int .i64 x.a, .int .i64 x.b, .int .i64 x.c, .int .i64 x.n, .slice la ln lc, .slice ma mn mc, .slice va vn vc]] w fun e w' => e = .returned (.bool (!(M.plainIns x))) ∧ Still w w' := by
  obtain ⟨h1, h2, h3, _⟩ := h.at_len
  have he : M.plainIns x = M.plain (M.uses x.op) x.d x.a x.b x.c x.n ln mn vn := by unfold M.plainIns; rw [h1, h2, h3]
  rw [he]
  have HP := Lib.hid (fun W => plain_any x.op x.d x.a x.b x.c x.n la ln lc ma mn mc va vn vc W)
  clear h h1 h2 h3 he
  generalize M.plain (M.uses x.op) x.d x.a x.b x.c x.n ln mn vn = p at *
  go_enter Tryz.func72, Tryz.ntmps72
  go_wp2_with fail
  refine (HP.out _).mono ?_; rintro e w1 ⟨rfl, t1⟩
  have HT := Lib.hid (((Still.refl w).alloc _).trans t1)
  clear t1
  go_wp2_with fail
  go_ret
  exact ⟨rfl, HT.out⟩
theorem bigFunc_any {B : Nat} {w : World} {a2 : Option Addr} {n2 c2 : Nat} {a3 : Option Addr} {n3 c3 : Nat} {x : M.Fn} (h : FnIs B w [.slice a2 n2 c2, .int .i64 x.result, .int .i64 x.slots, .slice a3 n3 c3] x) (hB : B ≤ w.heap.size) :
    Calls Tryz.prog 111 #[.agg #[.slice a2 n2 c2, .int .i64 x.result, .int .i64 x.slots, .slice a3 n3 c3]] w fun e w' => e = .returned (.bool (M.bigFn x)) ∧ Still w w' := by
  obtain ⟨h1, _, _, h2, h3, h4, _⟩ := h.at_len
  have he : M.bigFn x = (decide ((200 : Int) < x.slots) || decide ((200 : Int) < n2) || decide ((2000 : Int) < n3) || x.blocks.any M.bigBk) := by
    unfold M.bigFn
    have e1 : decide ((200 : Int) < n2) = decide (200 < n2) := dec_nat 200 n2
    have e2 : decide ((2000 : Int) < n3) = decide (2000 < n3) := dec_nat 2000 n3
    rw [h1, h2, e1, e2]
  have HE := Lib.hid he
  have hw : Below B w (w.alloc (.cells #[.slice a2 n2 c2, .int .i64 x.result, .int .i64 x.slots, .slice a3 n3 c3] 45)) := (Still.below ((Still.refl w).alloc _)).mono hB
  have HC := Lib.hid (containsBk_any (c := c3) M.bigBk 148 (enters_of Tryz.func148 (by kernel_rfl) rfl) (h3.keep hw hB fun _ _ _ h => h.keep hw hB) (by simp; omega) h4 (fun a2 n2 c2 a3 n3 c3 y W _ hp _ => bigBlock_any hp))
  clear h h1 h2 h3 he hw h4
  by_cases hb : (200 : Int) < x.slots
  · go_enter Tryz.func111, Tryz.ntmps111
    go_wp2_with fail
    go_ret
    refine ⟨?_, (Still.refl w).alloc _⟩
    rw [HE.out, decide_eq_true (by omega)]
    rfl
  · by_cases hc : (200 : Int) < n2
    · go_enter Tryz.func111, Tryz.ntmps111
      go_wp2_with fail
      go_ret
      refine ⟨?_, (Still.refl w).alloc _⟩
      rw [HE.out, decide_eq_false (by omega), decide_eq_true (by omega)]
      rfl
    · by_cases hd : (2000 : Int) < n3
      · go_enter Tryz.func111, Tryz.ntmps111
        go_wp2_with fail
        go_ret
        refine ⟨?_, (Still.refl w).alloc _⟩
        rw [HE.out, decide_eq_false (by omega), decide_eq_false (by omega), decide_eq_true (by omega)]
        rfl
      · generalize x.blocks.any M.bigBk = q at *
        go_enter Tryz.func111, Tryz.ntmps111
        go_wp2_with fail
        refine HC.out.mono ?_; rintro e w1 ⟨rfl, t1⟩
        have HT := Lib.hid (((Still.refl w).alloc _).trans t1)
        clear t1
        go_wp2_with fail
        go_ret
        refine ⟨?_, HT.out⟩
        rw [HE.out, decide_eq_false (by omega), decide_eq_false (by omega), decide_eq_false (by omega)]
        rfl
end Go.Proofs.YtglalgjffkoneaaGreatDoor
/- code.Size, anyInstr, big and Check of any image. -/
namespace Go.Proofs.YtglalgjffkoneaaGreatDoor
set_option linter.unusedVariables false
set_option linter.unusedSimpArgs false
open Go.ChangeShapes Go.WideShapes Go.ChangeAt Go.RowKit
open M (W)
theorem any_step {α : Type} (p : α → Bool) {l : List α} {i : Nat} {x : α} (hx : l[i]? = some x) (h : (l.take i).any p = false) : (l.take (i + 1)).any p = p x := by
  rw [List.take_add_one, hx, List.any_append, h]; simp
theorem any_hit {α : Type} (p : α → Bool) {l : List α} {i : Nat} {x : α} (hx : l[i]? = some x) (h : p x = true) : l.any p = true := List.any_eq_true.2 ⟨x, List.mem_of_getElem? hx, h⟩
theorem any_end {α : Type} (p : α → Bool) {l : List α} {n : Nat} (hn : l.length = n) (h : (l.take n).any p = false) : l.any p = false := by
  rw [← hn, List.take_length] at h; exact h
theorem sum_step {α : Type} (f : α → Nat) {l : List α} {i : Nat} {x : α} (hx : l[i]? = some x) : ((l.take (i + 1)).map f).sum = ((l.take i).map f).sum + f x := by
  rw [List.take_add_one, hx, List.map_append, List.sum_append]; simp
theorem sum_end {α : Type} (f : α → Nat) {l : List α} {n : Nat} (hn : l.length = n) : ((l.take n).map f).sum = (l.map f).sum := by
  rw [← hn, List.take_length]
set_option maxRecDepth 100000 in
set_option maxHeartbeats 2000000 in
theorem anyInstr_any (p : M.Ins → Bool) (fid : FuncId) (hfid : ∀ args W, (callFunc fid args).run Tryz.prog W = .ok (.enter fid args) W) {B : Nat} {w : World} {v : ImgV} {m : M.Img} (hB : B ≤ w.heap.size) (hp : ImgIs B w v m)
    (hf : ∀ (la : Option Addr) (ln lc : Nat) (ma : Option Addr) (mn mc : Nat) (va : Option Addr) (vn vc : Nat) (x : M.Ins) (W : World), InsIs B W [.int .i64 x.op, .int .i64 x.d, .int .i64 x.a, .int .i64 x.b, .int .i64 x.c, .int .i64 x.n, .slice la ln lc, .slice ma mn mc, .slice va vn vc] x → B ≤ W.heap.size → Calls Tryz.prog fid #[.agg #[.int .i64 x.op, .int .i64 x.d, .int .i64 x.a, .int .i64 x.b, .int .i64 x.c, .int .i64 x.n, .slice la ln lc, .slice ma mn mc, .slice va vn vc]] W fun e w' => e = .returned (.bool (p x)) ∧ Still W w') :
    Calls Tryz.prog 71 #[.agg #[.slice v.ta v.tn v.tc, .slice v.sa v.sn v.sc, .slice v.xa v.xn v.xc, .slice v.na v.nn v.nc, .slice v.fa v.fn v.fc, .int .i64 v.main, .int .i64 v.exn], .func (.func fid) #[] #[]] w fun e w' => e = .returned (.bool (M.anyIns p m)) ∧ Still w w' := by
  have hL := hp.funcs
  have hle := hp.le.2.2.2.2
  obtain ⟨ta, tn, tc, sa, sn, sc, xa, xn, xc, na, nn, nc, fa, fn, fc, mi, ei⟩ := v
  dsimp only at hL hle ⊢
  have HL := Lib.hid hL
  have HB := Lib.hid hB
  have HLEN := Lib.hid hL.len
  have hfn : fn ≤ 9223372036854775807 := by unfold maxLen at hle; omega
  clear hL hle
  have HF := Lib.hid hf
  have HFID := Lib.hid hfid
  have HA : Hid (M.anyIns p m = m.funcs.any fun f => f.blocks.any fun b => b.code.any p) := rfl
  generalize m.funcs = fl at *
  generalize M.anyIns p m = r at *
  clear hB hp hf hfid
  go_enter Tryz.func71, Tryz.ntmps71
  go_wp2_with fail
  go_loopw [12] (fun q wr => ∃ i : Nat, q = .int .i64 i ∧ i ≤ fn ∧ (fl.take i).any (fun f => f.blocks.any fun b => b.code.any p) = false ∧ Still w wr) (fun q _ => fn - (intOf q).toNat)
  case atStart => exact ⟨0, rfl, by omega, by simp, (Still.refl w).alloc _⟩
  case round =>
    obtain ⟨i, rfl, hi, hany, ht⟩ := hrel
    obtain ⟨wo, hwo⟩ : ∃ wo, wo = wr := ⟨_, rfl⟩
    subst hwo
    by_cases hlt : i < fn
    · obtain ⟨b, off, x, cs, rfl, hbB, hxi, hcl, hPx, hcell⟩ := HL.out.here hlt
      have hPw := FnIs.keep hPx (Still.below ht |>.mono HB.out) HB.out
      obtain ⟨a2, n2, c2, a3, n3, c3, rfl, hp⟩ := hPx
      obtain ⟨_, _, _, hbl3, hbll, hn3, _, _⟩ := hPw.at_len
      have HBLK := Lib.hid hbll
      have HBL3 := Lib.hid hbl3
      have hbl : b < wo.heap.size := Nat.lt_of_lt_of_le (Nat.lt_of_lt_of_le hbB HB.out) ht.size
      have d0 : wo.cell? ⟨b, off + i * 4, none⟩ = some (.slice a2 n2 c2) := (Still.cell ht (p := ⟨b, _, none⟩) (Nat.lt_of_lt_of_le hbB HB.out)).trans (by simpa using hcell 0 (by decide))
      have d1 : wo.cell? ⟨b, off + i * 4 + 1, none⟩ = some (.int .i64 x.result) := (Still.cell ht (p := ⟨b, _, none⟩) (Nat.lt_of_lt_of_le hbB HB.out)).trans (by simpa using hcell 1 (by decide))
      have d2 : wo.cell? ⟨b, off + i * 4 + 2, none⟩ = some (.int .i64 x.slots) := (Still.cell ht (p := ⟨b, _, none⟩) (Nat.lt_of_lt_of_le hbB HB.out)).trans (by simpa using hcell 2 (by decide))
      have d3 : wo.cell? ⟨b, off + i * 4 + 3, none⟩ = some (.slice a3 n3 c3) := (Still.cell ht (p := ⟨b, _, none⟩) (Nat.lt_of_lt_of_le hbB HB.out)).trans (by simpa using hcell 3 (by decide))
      have HTK := Lib.hid (any_step (fun f => f.blocks.any fun b => b.code.any p) hxi hany)
      have HHIT := Lib.hid (any_hit (fun (f : M.Fn) => f.blocks.any fun b => b.code.any p) hxi)
      have hn63 : n3 ≤ 9223372036854775807 := by unfold maxLen at hn3; omega
      have HT := Lib.hid ht
      clear hxi hcl hp hPw hcell ht hany hbl3 hbll hn3
      go_wp2_with fail
      go_loopw [19] (fun q wr => ∃ j : Nat, q = .int .i64 j ∧ j ≤ n3 ∧ (x.blocks.take j).any (fun b => b.code.any p) = false ∧ Still wo wr) (fun q _ => n3 - (intOf q).toNat)
      case atStart => exact ⟨0, rfl, by omega, by simp, (Still.refl _).alloc _⟩
      case round =>
        obtain ⟨j, rfl, hj, hanyj, htj⟩ := hrel
        have htw := HT.out.trans htj
        by_cases hlt2 : j < n3
        · obtain ⟨b2, off2, y, cs2, rfl, hbB2, hyj, hcl2, hPy, hcell2⟩ := HBLK.out.here hlt2
          have hPyw := BkIs.keep hPy (Still.below htj |>.mono (Nat.le_trans HB.out HT.out.size)) (Nat.le_trans HB.out HT.out.size)
          obtain ⟨a4, n4, c4, a5, n5, c5, rfl, hpy⟩ := hPy
          obtain ⟨_, _, _, hcl3, hcll, hn5⟩ := hPyw.at_len
          have hbl2 : b2 < wr.heap.size := Nat.lt_of_lt_of_le (Nat.lt_of_lt_of_le hbB2 HB.out) htw.size
          have q0 : wr.cell? ⟨b2, off2 + j * 2, none⟩ = some (.slice a4 n4 c4) := (Still.cell htj (p := ⟨b2, _, none⟩) (Nat.lt_of_lt_of_le (Nat.lt_of_lt_of_le hbB2 HB.out) HT.out.size)).trans (by simpa using hcell2 0 (by decide))
          have q1 : wr.cell? ⟨b2, off2 + j * 2 + 1, none⟩ = some (.slice a5 n5 c5) := (Still.cell htj (p := ⟨b2, _, none⟩) (Nat.lt_of_lt_of_le (Nat.lt_of_lt_of_le hbB2 HB.out) HT.out.size)).trans (by simpa using hcell2 1 (by decide))
          have hW : Below B wr (wr.alloc (.cells #[.slice a4 n4 c4, .slice a5 n5 c5] 48)) := (Still.below ((Still.refl wr).alloc _)).mono (Nat.le_trans HB.out htw.size)
          have HC := Lib.hid (containsIns_any (c := c5) p fid HFID.out (hcll.keep hW (Nat.le_trans HB.out htw.size) fun _ _ _ h => h.keep hW (Nat.le_trans HB.out htw.size)) (by have := HB.out; have := htw.size; simp; omega) hn5 (fun la ln lc ma mn mc va vn vc z W _ hp hb => HF.out la ln lc ma mn mc va vn vc z W hp hb))
          have HTK2 := Lib.hid (any_step (fun b => b.code.any p) hyj hanyj)
          have HHIT2 := Lib.hid (any_hit (fun (b : M.Bk) => b.code.any p) hyj)
          have HTW := Lib.hid htw
          have HTJ := Lib.hid htj
          clear hyj hcl2 hpy hPyw hcell2 htj hanyj hcl3 hcll hn5 hW htw
          cases hpx : y.code.any p with
          | true =>
            rw [hpx] at HC
            go_wp2_with fail
            refine HC.out.mono ?_; rintro e w3 ⟨rfl, t3⟩
            have HT3 := Lib.hid ((HTW.out.alloc _).trans t3)
            clear t3
            go_wp2_with fail
            go_ret
            refine ⟨?_, HT3.out⟩
            rw [HA.out, HHIT.out (HHIT2.out hpx)]
            rfl
          | false =>
            rw [hpx] at HC
            go_wp2_with fail
            refine HC.out.mono ?_; rintro e w3 ⟨rfl, t3⟩
            have HT3 := Lib.hid ((HTJ.out.alloc _).trans t3)
            clear t3
            go_wp2_with fail
            go_roundw
            case rel => exact ⟨j + 1, rfl, by omega, by rw [HTK2.out, hpx], HT3.out⟩
            case measure => simp [intOf]; omega
        · obtain rfl : j = n3 := by omega
          have HEND := Lib.hid (any_end (fun (b : M.Bk) => b.code.any p) HBL3.out hanyj)
          have HT4 := Lib.hid htw
          clear htj hanyj htw
          go_wp2_with fail
          go_roundw
          case rel => exact ⟨i + 1, rfl, by omega, by rw [HTK.out]; exact HEND.out, HT4.out⟩
          case measure => simp [intOf]; omega
    · obtain rfl : i = fn := by omega
      have HEND := Lib.hid (any_end (fun (f : M.Fn) => f.blocks.any fun b => b.code.any p) HLEN.out hany)
      have HT := Lib.hid ht
      clear ht hany
      go_wp2_with fail
      go_ret
      exact ⟨by rw [HA.out, HEND.out]; rfl, HT.out⟩
end Go.Proofs.YtglalgjffkoneaaGreatDoor
/- slices.Equal, slices.EqualFunc over what lies in memory. -/
namespace Go.Proofs.YtglalgjffkoneaaGreatDoor
set_option linter.unusedVariables false
set_option linter.unusedSimpArgs false
open Go.ChangeShapes Go.WideShapes Go.ChangeAt Go.RowKit
open M (W)
theorem eq_of_get {α : Type} {l m : List α} {n : Nat} (hl : l.length = n) (hm : m.length = n) (h : ∀ j, j < n → l[j]? = m[j]?) : l = m := by
  apply List.ext_getElem?
  intro i
  by_cases hi : i < n
  · exact h i hi
  · rw [List.getElem?_eq_none (by omega), List.getElem?_eq_none (by omega)]
theorem ne_of_get {α : Type} {l m : List α} {i : Nat} {x y : α} (hx : l[i]? = some x) (hy : m[i]? = some y) (h : x ≠ y) : l ≠ m := by
  rintro rfl
  rw [hx] at hy
  injection hy with hy
  exact h hy
theorem str_beq (s t : ByteArray) : (s.toList == t.toList) = true ↔ s = t := by
  rw [beq_iff_eq, ByteArray.toList_eq, ByteArray.toList_eq]
  constructor
  · intro h
    cases s; cases t
    congr 1
    exact Array.toList_inj.1 h
  · rintro rfl; rfl
set_option maxRecDepth 100000 in
theorem equalInt_any {B : Nat} {w : World} {a : Option Addr} {n c : Nat} {l : List Int} {a' : Option Addr} {n' c' : Nat} {m : List Int} (hl : Lies B w 1 IntIs a n l) (hm : Lies B w 1 IntIs a' n' m) (hB : B ≤ w.heap.size) (hn : n ≤ maxLen) (hn' : n' ≤ maxLen) :
    Calls Tryz.prog 77 #[.slice a n c, .slice a' n' c'] w fun e w' => ∃ r, e = .returned (.bool r) ∧ (r = true ↔ l = m) ∧ Still w w' := by
  have HL := Lib.hid hl
  have HM := Lib.hid hm
  have HB := Lib.hid hB
  have HLL := Lib.hid hl.len
  have HML := Lib.hid hm.len
  have hn63 : n ≤ 9223372036854775807 := by unfold maxLen at hn; omega
  have hm63 : n' ≤ 9223372036854775807 := by unfold maxLen at hn'; omega
  clear hl hm hB hn hn'
  by_cases hnn : n = n'
  · subst hnn
    have hnn : ((n : Int) != n) = false := by simp
    go_enter Tryz.func77, Tryz.ntmps77
    go_wp2_with fail
    go_loopw [13] (fun q wr => ∃ i : Nat, q = .int .i64 i ∧ i ≤ n ∧ (∀ j, j < i → l[j]? = m[j]?) ∧ Still w wr) (fun q _ => n - (intOf q).toNat)
    case atStart => exact ⟨0, rfl, by omega, fun j hj => by omega, Still.refl _⟩
    case round =>
      obtain ⟨i, rfl, hi, hall, ht⟩ := hrel
      by_cases hlt : i < n
      · skip
        obtain ⟨b1, off1, z, cs1, rfl, hbB1, hx1, hcl1, hq1, hc1⟩ := HL.out.here hlt
        have hP1 := hq1
        obtain ⟨rfl, hr1⟩ := hq1
        have hbl1 : b1 < wr.heap.size := Nat.lt_of_lt_of_le (Nat.lt_of_lt_of_le hbB1 HB.out) ht.size
        have d10 : wr.cell? ⟨b1, off1 + i, none⟩ = some (.int .i64 z) := (Still.cell ht (p := ⟨b1, _, none⟩) (Nat.lt_of_lt_of_le hbB1 HB.out)).trans (by simpa using hc1 0 (by decide))
        clear hcl1 hr1 hc1
        obtain ⟨b2, off2, z', cs2, rfl, hbB2, hx2, hcl2, hq2, hc2⟩ := HM.out.here hlt
        have hP2 := hq2
        obtain ⟨rfl, hr2⟩ := hq2
        have hbl2 : b2 < wr.heap.size := Nat.lt_of_lt_of_le (Nat.lt_of_lt_of_le hbB2 HB.out) ht.size
        have d20 : wr.cell? ⟨b2, off2 + i, none⟩ = some (.int .i64 z') := (Still.cell ht (p := ⟨b2, _, none⟩) (Nat.lt_of_lt_of_le hbB2 HB.out)).trans (by simpa using hc2 0 (by decide))
        clear hcl2 hr2 hc2
        have HT := Lib.hid ((ht.drew : Still w wr.drew))
        have HALL := Lib.hid hall
        have HX := Lib.hid (And.intro hx1 hx2)
        clear hx1 hx2 hP1 hP2 ht hall
        by_cases h : z = z'
        · skip
          have hne : ((z : Int) != z') = false := by simp [h]
          go_wp2_with fail
          go_region
          go_wp2_with fail
          go_roundw
          case rel => exact ⟨i + 1, by go_num, by omega, fun j hj => by
            by_cases hji : j = i
            · subst hji; rw [HX.out.1, HX.out.2, h]
            · exact HALL.out j (by omega), HT.out⟩
          case measure => simp [intOf]; omega
        · skip
          have hne : ((z : Int) != z') = true := by simp [h]
          go_wp2_with fail
          go_region
          go_wp2_with fail
          go_ret
          exact ⟨_, rfl, iff_of_false (by decide) (ne_of_get HX.out.1 HX.out.2 h), HT.out⟩
      · obtain rfl : n = i := by omega
        have HEQ := Lib.hid (eq_of_get HLL.out HML.out hall)
        have HT := Lib.hid ht
        clear hall ht
        go_wp2_with fail
        go_ret
        exact ⟨_, rfl, iff_of_true rfl HEQ.out, HT.out⟩
  · have hne : ((n : Int) != n') = true := by simp; omega
    have HNE : Hid (l ≠ m) := fun e => hnn (by rw [← HLL.out, ← HML.out, e])
    clear hnn
    go_enter Tryz.func77, Tryz.ntmps77
    go_wp2_with fail
    go_ret
    exact ⟨_, rfl, iff_of_false (by decide) HNE.out, Still.refl _⟩
end Go.Proofs.YtglalgjffkoneaaGreatDoor
