/- CodeSame, for any two images. -/
import Derived.Test.YthlifflapgccbaaGreatRefSame
namespace Go.Proofs.YthlifflapgccbaaGreat
set_option linter.unusedVariables false
set_option linter.unusedSimpArgs false
open Go.ChangeShapes Go.WideShapes Go.ChangeAt Go.RowKit
open M (W)
/-- What stands while two images are read: their boxes. -/
structure Seen2 (w : World) (C1 C2 : Array Value) (W : World) : Prop where
  still : Still w W
  b1 : Blk W w.heap.size 28 C1
  b2 : Blk W (w.heap.size + 1) 28 C2
theorem Seen2.next {w W W' : World} {C1 C2 : Array Value} (h : Seen2 w C1 C2 W) (t : Still W W') : Seen2 w C1 C2 W' := ⟨h.still.trans t, t.blk h.b1, t.blk h.b2⟩
theorem Seen2.below {w W : World} {C1 C2 : Array Value} (h : Seen2 w C1 C2 W) : Below w.heap.size w W := Still.below h.still
theorem bool_of {b r : Bool} {p : Prop} (hb : b = true ↔ p) (hr : r = true ↔ p) : r = b := by
  cases r <;> cases b <;> simp_all
theorem same_det {B : Nat} {u v : ImgV} {ma mb : M.Img} {w : World} (h1 : ImgIs B w u ma) (h2 : ImgIs B w v mb) (hB : B ≤ w.heap.size) (bb : Bool) (hbb : bb = true ↔ ma = mb) :
    Calls Tryz.prog 7 #[.agg #[.slice u.ta u.tn u.tc, .slice u.sa u.sn u.sc, .slice u.xa u.xn u.xc, .slice u.na u.nn u.nc, .slice u.fa u.fn u.fc, .int .i64 u.main, .int .i64 u.exn], .agg #[.slice v.ta v.tn v.tc, .slice v.sa v.sn v.sc, .slice v.xa v.xn v.xc, .slice v.na v.nn v.nc, .slice v.fa v.fn v.fc, .int .i64 v.main, .int .i64 v.exn]] w fun e w' => e = .returned (.bool bb) ∧ Still w w' :=
  (Same_any h1 h2 hB).mono fun e w' h => by
    obtain ⟨r, he, hr, ht⟩ := h
    exact ⟨by rw [he, bool_of hbb hr], ht⟩
theorem plain_of_check {m : M.Img} (h : M.check m = 0) : M.anyIns (fun x => !(M.plainIns x)) m = false := by
  unfold M.check at h
  cases hq : M.big m <;> cases hk : M.anyIns (fun x => !(M.plainIns x)) m <;> simp_all
theorem bd_bel4 : M.Bd M.bel4 := by intro c hc; simp [M.bel4] at hc; omega
theorem refSame_det {u v : ImgV} {ma mb : M.Img} {w : World} (h1 : ImgIs w.heap.size w u ma) (h2 : ImgIs w.heap.size w v mb) (l1 : (M.bImg ma).length ≤ 100000000) (l2 : (M.bImg mb).length ≤ 100000000) (ca : M.check ma = 0) (cb : M.check mb = 0) (bb : Bool) (hbb : bb = true ↔ ma = mb) :
    Calls Tryz.prog 6 #[.agg #[.slice u.ta u.tn u.tc, .slice u.sa u.sn u.sc, .slice u.xa u.xn u.xc, .slice u.na u.nn u.nc, .slice u.fa u.fn u.fc, .int .i64 u.main, .int .i64 u.exn], .agg #[.slice v.ta v.tn v.tc, .slice v.sa v.sn v.sc, .slice v.xa v.xn v.xc, .slice v.na v.nn v.nc, .slice v.fa v.fn v.fc, .int .i64 v.main, .int .i64 v.exn]] w fun e w' => e = .returned (.bool bb) ∧ Below w.heap.size w w' :=
  (refSame_any h1 h2 l1 l2).mono fun e w' h => by
    obtain ⟨he, ht⟩ := h
    refine ⟨?_, ht⟩
    have hr : ((strOfNums (M.bel4 ++ M.bImg ma)).toList == (strOfNums (M.bel4 ++ M.bImg mb)).toList) = true ↔ ma = mb := by
      constructor
      · intro hs
        exact M.img_inj (h1.ok (plain_of_check ca)) (h2.ok (plain_of_check cb)) (List.append_cancel_left (M.bytes_inj (bd_bel4.app (M.bd_Img ma)) (bd_bel4.app (M.bd_Img mb)) ((str_beq _ _).1 hs)))
      · rintro rfl
        simp
    rw [he, bool_of hbb hr]
end Go.Proofs.YthlifflapgccbaaGreat
