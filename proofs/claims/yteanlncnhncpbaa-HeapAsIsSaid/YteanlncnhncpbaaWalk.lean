/- The contract of Close's walk, for any closure that tells of each head whether it is good. -/
import Derived.Test.YteanlncnhncpbaaChain
import Derived.Test.YteanlncnhncpbaaHeapObj
namespace Go.Proofs.Yteanlncnhncpbaa
set_option linter.unusedVariables false
open Go.ChangeShapes Go.WideShapes Go.ChangeAt Go.RowKit
open M (W)

set_option maxRecDepth 100000 in
set_option maxHeartbeats 2000000 in
theorem walk_any {good : Nat → Bool} (s : St) (top : Nat) (fid : FuncId) (hfid : ∀ args W, (callFunc fid args).run Try.prog W = .ok (.enter fid args) W) (c1 c2 : Value) (S : Nat → Prop) (I : List Nat → World → Prop) (w : World) (hp : ∀ l W, I l W → HpIs W s) (hst : ∀ l W W', I l W → Still W W' → I l W') (hsz : ∀ l W, I l W → w.heap.size ≤ W.heap.size) (hS : ∀ k, S k → k < w.heap.size) (h0 : I [] w) (htop : top ≤ s.n)
    (hg : ∀ l p W, I l W → ChainTo s top good 0 p l → p < top → s.reads p top = true → Calls Try.prog fid #[.int .i64 p, (s.ob (s.ws p)).val, c1, c2] W fun e w' => e = .returned (.bool (good p)) ∧ I (l ++ [p]) w' ∧ Turn S W w') :
    Calls Try.prog 86 #[s.ptr, .int .i64 top, .func (.func fid) #[] #[c1, c2]] w fun e w' => ∃ l, I l w' ∧ ((e = .returned (.bool true) ∧ ChainTo s top good 0 top l) ∨ (e = .returned (.bool false) ∧ ∀ hs, ¬ ChainTo s top good 0 top hs)) := by
  have hn := (hp _ _ h0).n_le
  have HG := Lib.hid hg
  have HP := Lib.hid hp
  have HST := Lib.hid hst
  have HSZ := Lib.hid hsz
  have HS := Lib.hid hS
  have H0 := Lib.hid h0
  clear hg hp hst h0 hsz hS
  go_enter Try.func86, Try.ntmps86
  go_wp2_with fail
  go_loopw [7] (fun v wr => ∃ (p : Nat) (l : List Nat), v = .int .i64 p ∧ p ≤ top ∧ ChainTo s top good 0 p l ∧ I l wr) (fun v _ => top - (intOf v).toNat)
  case atStart => exact ⟨0, [], rfl, by omega, rfl, H0.out⟩
  case round =>
    obtain ⟨p, l, rfl, hpt, hch, hI⟩ := hrel
    have HCH := Lib.hid hch
    have HI := Lib.hid hI
    have hhp := HP.out _ _ hI
    clear hch hI
    by_cases hlt : p < top
    · cases hr : s.reads p top with
      | false =>
        have HR := Lib.hid hr
        have HB := read_bad s p top wr hhp (by omega) (by omega) (by omega) (by
          unfold St.reads at hr
          rw [Bool.and_eq_false_iff, decide_eq_false_iff_not, decide_eq_false_iff_not] at hr
          rcases hr with hr | hr
          · exact .inl hr
          · exact .inr (by omega))
        have HBB := Lib.hid HB
        clear hr HB hhp
        unfold Ob.none at HBB
        go_wp2_with fail
        refine HBB.out.mono ?_; rintro e w1 ⟨rfl, t1⟩
        have HT := Lib.hid t1; clear t1
        go_wp2_with fail
        go_ret
        exact ⟨l, HST.out _ _ _ HI.out (HT.out.alloc _), .inr ⟨rfl, fun hs h => by have := HCH.out.det h hlt; rw [HR.out] at this; simp at this⟩⟩
      | true =>
        have HR := Lib.hid hr
        obtain ⟨r1, r2, r3⟩ := St.reads_need hr
        have HB := read_ok s p top wr hhp (by omega) (by omega) (by omega) (by
          unfold St.reads at hr
          rw [Bool.and_eq_true, decide_eq_true_eq, decide_eq_true_eq] at hr
          exact hr.1) (by omega)
        have HGG := fun W hW => HG.out l p W hW HCH.out hlt hr
        obtain ⟨oo, hoo⟩ : ∃ oo, s.ob (s.ws p) = oo := ⟨_, rfl⟩
        rw [hoo] at HB HGG r1
        obtain ⟨osh, okk, onn, one_⟩ := oo
        obtain rfl : one_ = s.nd p := r1
        unfold Ob.val at HB HGG
        simp only at HB HGG
        have HBB := Lib.hid HB
        have HG2 := Lib.hid HGG
        have hwn : w.heap.size ≤ wr.heap.size := HSZ.out _ _ HI.out
        clear hr HB hhp HGG hoo
        generalize hd : s.nd p = D at *
        have HD := Lib.hid hd
        clear hd
        go_wp2_with fail
        refine HBB.out.mono ?_; rintro e w1 ⟨rfl, t1⟩
        have HT := Lib.hid t1; clear t1
        have hw1 : w.heap.size ≤ w1.heap.size := Nat.le_trans hwn HT.out.size
        have HI2 := Lib.hid (HST.out _ _ _ HI.out (HT.out.alloc (.cells #[.int .i64 osh, .int .i64 okk, .int .i64 onn, .int .i64 D] 123)))
        have HBK := Lib.hid (Blk.new w1 123 #[.int .i64 osh, .int .i64 okk, .int .i64 onn, .int .i64 D])
        go_wp2_with fail
        refine (HG2.out _ HI2.out).mono ?_; rintro e w5 ⟨rfl, hI5, t5⟩
        have hb5 := HBK.out.keep t5 (fun hk => by have := HS.out _ hk; omega)
        have b3 : w5.cell? ⟨w1.heap.size, 3, none⟩ = some (.int .i64 D) := hb5.cell 3
        have hbl := hb5.lt
        have HI5 := Lib.hid hI5
        clear hI5 t5 hb5
        cases hgd : good p with
        | false =>
          have HGD := Lib.hid hgd
          clear hgd
          go_wp2_with fail
          go_ret
          exact ⟨_, HI5.out, .inr ⟨rfl, fun hs h => by have := HCH.out.det h hlt; rw [HGD.out] at this; simp at this⟩⟩
        | true =>
          have HGD := Lib.hid hgd
          clear hgd
          go_wp2_with fail
          go_roundw
          case rel => exact ⟨p + D, l ++ [p], by go_num, by omega, by have := HCH.out.snoc hlt HR.out HGD.out; rw [HD.out] at this; exact this, HI5.out⟩
          case measure => simp [intOf]; omega
    · obtain rfl : p = top := by omega
      clear hhp
      go_wp2_with fail
      go_ret
      exact ⟨l, HI.out, .inl ⟨rfl, HCH.out⟩⟩
end Go.Proofs.Yteanlncnhncpbaa
