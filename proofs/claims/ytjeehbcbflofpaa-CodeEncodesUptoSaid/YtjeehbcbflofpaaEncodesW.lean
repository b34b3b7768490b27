/- CodeEncodes, for any image. -/
import Derived.Test.YtjeehbcbflofpaaEncode
import Derived.Test.YtjeehbcbflofpaaLight
import Derived.Test.YtjeehbcbflofpaaRefCheck
import Derived.Test.YtjeehbcbflofpaaLives4
import Derived.Laws.BytesArg
import Derived.StillTailTactics
namespace Go.Proofs.Ytjeehbcbflofpaa
set_option linter.unusedVariables false
set_option linter.unusedSimpArgs false
open Go.ChangeShapes Go.WideShapes Go.ChangeAt Go.RowKit
open M (W)
theorem own_string {w : World} {base : Nat} {v : Value} {n : Nat} {xs : List Int} (h : w.ownsRow base 5 1 v n (xs.map (Value.int .u8))) :
    (convert 30 9 v).run Try.prog w = .ok (.string (strOfNums xs)) w := by
  obtain ⟨hl, h⟩ := h
  rcases h with ⟨rfl, rfl⟩ | ⟨g, cap, cur, rfl, hb, hg, h1, h2, h3, h4⟩
  · have : xs = [] := by simpa using hl
    subst this
    exact run_convert_bytes_nil w 30 5 Try.underlying30 Try.underlying5 0 0 9 Try.underlying9
  · refine run_convert_bytes_arg w 30 5 Try.underlying30 Try.underlying5 g 0 n cap xs (by simpa using hl) ?_ 9 Try.underlying9
    intro i hi
    have hn : xs.length = n := by simpa using hl
    have hx : (cur.toList.take (n * 1))[i]? = some (.int .u8 (xs.getD i 0)) := by
      rw [h4]; simp [List.getD, List.getElem?_eq_getElem (show i < xs.length by omega)]
    rw [List.getElem?_take_of_lt (by omega)] at hx
    rw [Array.getElem?_toList] at hx
    simp only [World.cell?, hg, Nat.zero_add]
    simpa using hx
theorem Lies.up {α : Type} {B C k : Nat} {w : World} {P Q : List Value → α → Prop} {a : Option Addr} {n : Nat} {xs : List α} (h : Lies B w k P a n xs) (hb : B ≤ C) (hq : ∀ cs x, P cs x → Q cs x) : Lies C w k Q a n xs :=
  ⟨h.len, fun hn => by
    obtain ⟨b, off, ha, hB, hx⟩ := h.at_ hn
    refine ⟨b, off, ha, by omega, fun i x hi => ?_⟩
    obtain ⟨cs, h1, h2, h3⟩ := hx i x hi
    exact ⟨cs, h1, hq cs x h2, h3⟩⟩
theorem Ints.up {B C : Nat} {w : World} {a : Option Addr} {n : Nat} {xs : List Int} (h : Ints B w a n xs) (hb : B ≤ C) : Ints C w a n xs := Lies.up h hb fun _ _ h => h
theorem TyIs.up {B C : Nat} {w : World} {cs : List Value} {x : M.Ty} (h : TyIs B w cs x) (hb : B ≤ C) : TyIs C w cs x := by
  obtain ⟨a, n, c, h1, h2, h3⟩ := h
  exact ⟨a, n, c, h1, h2, h3.up hb⟩
theorem ShIs.up {B C : Nat} {w : World} {cs : List Value} {x : M.Sh} (h : ShIs B w cs x) (hb : B ≤ C) : ShIs C w cs x := by
  obtain ⟨a, n, c, h1, h2, h3, h4, h5⟩ := h
  exact ⟨a, n, c, h1, h2, h3, h4, h5.up hb⟩
theorem InsIs.up {B C : Nat} {w : World} {cs : List Value} {x : M.Ins} (h : InsIs B w cs x) (hb : B ≤ C) : InsIs C w cs x := by
  obtain ⟨la, ln, lc, ma, mn, mc, va, vn, vc, h1, h2, h3, h4, h5, h6, h7, h8⟩ := h
  exact ⟨la, ln, lc, ma, mn, mc, va, vn, vc, h1, h2, h3, h4, h5, h6.up hb, h7.up hb, h8.up hb⟩
theorem BkIs.up {B C : Nat} {w : World} {cs : List Value} {x : M.Bk} (h : BkIs B w cs x) (hb : B ≤ C) : BkIs C w cs x := by
  obtain ⟨ia, inn, ic, ca, cn, cc, h1, h2, h3, h4, h5⟩ := h
  exact ⟨ia, inn, ic, ca, cn, cc, h1, h2, h3, h4.up hb, h5.up hb fun _ _ h => h.up hb⟩
theorem FnIs.up {B C : Nat} {w : World} {cs : List Value} {x : M.Fn} (h : FnIs B w cs x) (hb : B ≤ C) : FnIs C w cs x := by
  obtain ⟨pa, pn, pc, ba, bn, bc, h1, h2, h3, h4, h5, h6, h7⟩ := h
  exact ⟨pa, pn, pc, ba, bn, bc, h1, h2, h3, h4, h5, h6.up hb, h7.up hb fun _ _ h => h.up hb⟩
theorem ImgIs.up {B C : Nat} {w : World} {v : ImgV} {m : M.Img} (h : ImgIs B w v m) (hb : B ≤ C) : ImgIs C w v m :=
  ⟨h.main, h.exn, h.in_main, h.in_exn, h.le, h.types.up hb fun _ _ h => h.up hb, h.shapes.up hb fun _ _ h => h.up hb, h.strings.up hb fun _ _ h => h, h.names.up hb fun _ _ h => h, h.funcs.up hb fun _ _ h => h.up hb⟩
/-- An image in every later world. -/
theorem ImgIs.later {w W : World} {v : ImgV} {m : M.Img} (h : ImgIs w.heap.size w v m) (hb : Below w.heap.size w W) : ImgIs W.heap.size W v m := (h.keep hb (Nat.le_refl _)).up hb.size
theorem Below.blk {w W : World} {g : Nat} {t : TypeId} {cs : Array Value} (h : Below w.heap.size w W) (hb : Blk w g t cs) : Blk W g t cs := (h.block g hb.lt).trans hb
theorem below_next {w a b : World} (h : Below w.heap.size w a) (k : Below a.heap.size a b) : Below w.heap.size w b := h.trans (k.mono h.size)
set_option maxRecDepth 100000 in
set_option maxHeartbeats 8000000 in
theorem codeEncodes_w {v : ImgV} {m : M.Img} {w : World} (hp : ImgIs w.heap.size w v m) (hf : M.fitImg m) :
    Calls Try.prog 3 #[.agg #[.slice v.ta v.tn v.tc, .slice v.sa v.sn v.sc, .slice v.xa v.xn v.xc, .slice v.na v.nn v.nc, .slice v.fa v.fn v.fc, .int .i64 v.main, .int .i64 v.exn]] w fun e w' => e = .returned (.bool true) ∧ Below w.heap.size w w' := by
  have HLI := Lib.hid (fun W (hW : Below w.heap.size w W) => light_any (Nat.le_refl _) (hp.later hW) hf)
  have hla : M.light m = true → M.wImg m ≤ 40000 := fun h => of_decide_eq_true h
  have hsz := size_le m
  have hbl := hp.len
  have HEB := Lib.hid (fun W (hW : Below w.heap.size w W) (h : M.light m = true) => encode_bad (Nat.le_refl _) (hp.later hW) (by have := hla h; omega))
  have HEG := Lib.hid (fun W (hW : Below w.heap.size w W) (h : M.light m = true) => encode_good (Nat.le_refl _) (hp.later hW) (by have := hla h; omega) (by have := hla h; omega))
  have HRC := Lib.hid (fun W (hW : Below w.heap.size w W) (h : M.light m = true) => refCheck_any (Nat.le_refl _) (hp.later hW) (by have := hla h; omega))
  have HCC := Lib.hid (fun W (hW : Below w.heap.size w W) (h : M.light m = true) => check_any (Nat.le_refl _) (hp.later hW) (by have := hla h; omega))
  have HBY := Lib.hid (fun W (hW : Below w.heap.size w W) (h : M.light m = true) => bytes_any (Nat.le_refl _) (hp.later hW) (by have := hla h; omega))
  clear hla hsz hbl hp hf
  obtain ⟨ta, tn, tc, sa, sn, sc, xa, xn, xc, na, nn, nc, fa, fn, fc, mi, ei⟩ := v
  dsimp only at HLI HEB HEG HRC HCC HBY ⊢
  generalize M.light m = lt at *
  generalize M.check m = r at *
  generalize hXS : M.bel4 ++ M.bImg m = XS at *
  clear hXS
  have hb0 : Below w.heap.size w (w.alloc (.cells #[.slice ta tn tc, .slice sa sn sc, .slice xa xn xc, .slice na nn nc, .slice fa fn fc, .int .i64 mi, .int .i64 ei] 27)) := (Still.below ((Still.refl w).alloc _))
  have HB0 := Lib.hid hb0
  have HX0 := Lib.hid (Blk.new w 27 #[.slice ta tn tc, .slice sa sn sc, .slice xa xn xc, .slice na nn nc, .slice fa fn fc, .int .i64 mi, .int .i64 ei])
  clear hb0
  go_enter Try.func3, Try.ntmps3
  go_wp2_with fail
  refine (HLI.out _ HB0.out).mono ?_; rintro e w1 ⟨rfl, t1⟩
  have HB1 := Lib.hid (below_next HB0.out (Still.below t1))
  have HX1 := Lib.hid (t1.blk HX0.out)
  clear t1
  obtain ⟨b0, b1, b2, b3, b4, b5, b6, b7⟩ := imgBox HX1.out
  cases lt with
  | false =>
    go_wp2_with fail
    clear b0 b1 b2 b3 b4 b5 b6 b7
    refine (lives4_any _).mono ?_; rintro e w2 ⟨rfl, t2⟩
    have HB2 := Lib.hid (below_next HB1.out t2)
    clear t2
    go_wp2_with fail
    go_ret
    exact ⟨rfl, HB2.out⟩
  | true =>
    by_cases hr : r = 0
    · subst hr
      go_wp2_with fail
      clear b0 b1 b2 b3 b4 b5 b6 b7
      refine (HEG.out _ HB1.out (by simp) (by simp)).mono ?_; rintro e w2 ⟨a, c, rfl, ho, t2⟩
      have HB2 := Lib.hid (below_next HB1.out t2)
      have HX2 := Lib.hid (Below.blk t2 HX1.out)
      have HO := Lib.hid ho
      clear t2 ho
      obtain ⟨b0, b1, b2, b3, b4, b5, b6, b7⟩ := imgBox HX2.out
      generalize XS.length = kk at HO ⊢
      go_wp2_with fail
      clear b0 b1 b2 b3 b4 b5 b6 b7
      refine (HRC.out _ HB2.out (by simp)).mono ?_; rintro e w3 ⟨rfl, t3⟩
      have HB3 := Lib.hid (below_next HB2.out (Still.below t3))
      have HX3 := Lib.hid (t3.blk HX2.out)
      have HO3 := Lib.hid (own_later HO.out (Still.below t3))
      clear t3
      have hdr : Below w3.heap.size w3 w3.drew := (Still.below ((Still.refl w3).drew))
      have HB4 := Lib.hid (below_next HB3.out hdr)
      have HX4 : Hid (Blk w3.drew w.heap.size 27 #[.slice ta tn tc, .slice sa sn sc, .slice xa xn xc, .slice na nn nc, .slice fa fn fc, .int .i64 mi, .int .i64 ei]) := HX3.out
      have HO4 := Lib.hid (own_later HO3.out hdr)
      clear hdr
      obtain ⟨b0, b1, b2, b3, b4, b5, b6, b7⟩ := imgBox HX4.out
      have hcv0 := own_string HO4.out
      have hss : ((strOfNums XS).toList == (strOfNums XS).toList) = true := by simp
      have g0 : w3.drew.cell? ⟨w.heap.size, 0, none⟩ = some (.slice ta tn tc) := b1
      have g1 := b2
      have g2 := b3
      have g3 := b4
      have g4 := b5
      have g5 := b6
      have g6 := b7
      have g7 := hcv0
      go_wp2_with fail
      refine wp_region_held_drew (S := fun W => W.cell? ⟨w.heap.size, 0, none⟩ = some (.slice ta tn tc) ∧ W.cell? ⟨w.heap.size, 1, none⟩ = some (.slice sa sn sc) ∧ W.cell? ⟨w.heap.size, 2, none⟩ = some (.slice xa xn xc) ∧ W.cell? ⟨w.heap.size, 3, none⟩ = some (.slice na nn nc) ∧ W.cell? ⟨w.heap.size, 4, none⟩ = some (.slice fa fn fc) ∧ W.cell? ⟨w.heap.size, 5, none⟩ = some (.int .i64 mi) ∧ W.cell? ⟨w.heap.size, 6, none⟩ = some (.int .i64 ei) ∧ (convert 30 9 (.slice a kk c)).run Try.prog W = .ok (.string (strOfNums XS)) W) (by kernel_rfl) ?_ (fun hHeld => ?_)
      · exact ⟨g0, g1, g2, g3, g4, g5, g6, g7⟩
      try simp only [Act.put, List.getElem_toArray, List.getElem_cons_succ, List.getElem_cons_zero, List.setIfInBounds_toArray, List.set_cons_zero, List.set_cons_succ]
      refine wpAnyH_take (i := 0) (v := ?_) rfl (by kernel_rfl) (by kernel_rfl) (by kernel_rfl) (fun _ _ _ h => h) (Or.inl ⟨by rfl, ?_⟩) (by assumption) ?_
      rotate_left
      · intro w hSw; (try dsimp only at hSw); go_simp; try with_reducible rfl
      try simp only [Act.put, List.getElem_toArray, List.getElem_cons_succ, List.getElem_cons_zero, List.setIfInBounds_toArray, List.set_cons_zero, List.set_cons_succ]
      refine wpAnyH_take (i := 1) (v := ?_) rfl (by kernel_rfl) (by kernel_rfl) (by kernel_rfl) (fun _ _ _ h => h) (Or.inl ⟨by rfl, ?_⟩) (by assumption) ?_
      rotate_left
      · intro w hSw; (try dsimp only at hSw); go_simp; try with_reducible rfl
      try simp only [Act.put, List.getElem_toArray, List.getElem_cons_succ, List.getElem_cons_zero, List.setIfInBounds_toArray, List.set_cons_zero, List.set_cons_succ]
      refine wpAnyH_take (i := 2) (v := ?_) rfl (by kernel_rfl) (by kernel_rfl) (by kernel_rfl) (fun _ _ _ h => h) (Or.inl ⟨by rfl, ?_⟩) (by assumption) ?_
      rotate_left
      · intro w hSw; (try dsimp only at hSw); go_simp; try with_reducible rfl
      try simp only [Act.put, List.getElem_toArray, List.getElem_cons_succ, List.getElem_cons_zero, List.setIfInBounds_toArray, List.set_cons_zero, List.set_cons_succ]
      refine wpAnyH_take (i := 3) (v := ?_) rfl (by kernel_rfl) (by kernel_rfl) (by kernel_rfl) (fun _ _ _ h => h) (Or.inl ⟨by rfl, ?_⟩) (by assumption) ?_
      rotate_left
      · intro w hSw; (try dsimp only at hSw); go_simp; try with_reducible rfl
      try simp only [Act.put, List.getElem_toArray, List.getElem_cons_succ, List.getElem_cons_zero, List.setIfInBounds_toArray, List.set_cons_zero, List.set_cons_succ]
      refine wpAnyH_take (i := 4) (v := ?_) rfl (by kernel_rfl) (by kernel_rfl) (by kernel_rfl) (fun _ _ _ h => h) (Or.inl ⟨by rfl, ?_⟩) (by assumption) ?_
      rotate_left
      · intro w hSw; (try dsimp only at hSw); go_simp; try with_reducible rfl
      try simp only [Act.put, List.getElem_toArray, List.getElem_cons_succ, List.getElem_cons_zero, List.setIfInBounds_toArray, List.set_cons_zero, List.set_cons_succ]
      refine wpAnyH_take (i := 5) (v := ?_) rfl (by kernel_rfl) (by kernel_rfl) (by kernel_rfl) (fun _ _ _ h => h) (Or.inl ⟨by rfl, ?_⟩) (by assumption) ?_
      rotate_left
      · intro w hSw; (try dsimp only at hSw); go_simp; try with_reducible rfl
      try simp only [Act.put, List.getElem_toArray, List.getElem_cons_succ, List.getElem_cons_zero, List.setIfInBounds_toArray, List.set_cons_zero, List.set_cons_succ]
      refine wpAnyH_ready (rs := [6]) (by kernel_rfl) (by simp) ?_
      refine AllReadyH.cons rfl (fun K hK => ?_) AllReadyH.nil
      go_simp
      refine (HBY.out _ HB4.out (by simp)).mono ?_; rintro e x1 ⟨z, rfl, hz, bz⟩
      obtain ⟨a1, c1, rfl, ho1⟩ := hz
      have hcv1 := own_string ho1
      have HB5 := Lib.hid (below_next HB4.out bz)
      have HX5 := Lib.hid (Below.blk bz HX4.out)
      have HO5 := Lib.hid (own_later HO4.out bz)
      clear bz ho1
      have q0 : x1.cell? ⟨w.heap.size, 0, none⟩ = some (.slice ta tn tc) := HX5.out.cell 0
      have q1 : x1.cell? ⟨w.heap.size, 1, none⟩ = some (.slice sa sn sc) := HX5.out.cell 1
      have q2 : x1.cell? ⟨w.heap.size, 2, none⟩ = some (.slice xa xn xc) := HX5.out.cell 2
      have q3 : x1.cell? ⟨w.heap.size, 3, none⟩ = some (.slice na nn nc) := HX5.out.cell 3
      have q4 : x1.cell? ⟨w.heap.size, 4, none⟩ = some (.slice fa fn fc) := HX5.out.cell 4
      have q5 : x1.cell? ⟨w.heap.size, 5, none⟩ = some (.int .i64 mi) := HX5.out.cell 5
      have q6 : x1.cell? ⟨w.heap.size, 6, none⟩ = some (.int .i64 ei) := HX5.out.cell 6
      have q7 := own_string HO5.out
      refine hK.out _ _ ?_ (fun hHeld => ?_)
      · exact ⟨q0, q1, q2, q3, q4, q5, q6, q7⟩
      clear hK K
      try simp only [Act.put, List.getElem_toArray, List.getElem_cons_succ, List.getElem_cons_zero, List.setIfInBounds_toArray, List.set_cons_zero, List.set_cons_succ]
      refine wpAnyH_ready (rs := [7]) (by kernel_rfl) (by simp) ?_
      refine AllReadyH.cons rfl (fun K hK => ?_) AllReadyH.nil
      go_simp
      refine hK.out _ _ ?_ (fun hHeld => ?_)
      · go_keep
      clear hK K
      try simp only [Act.put, List.getElem_toArray, List.getElem_cons_succ, List.getElem_cons_zero, List.setIfInBounds_toArray, List.set_cons_zero, List.set_cons_succ]
      refine wpAnyH_take (i := 8) (v := ?_) rfl (by kernel_rfl) (by kernel_rfl) (by kernel_rfl) (fun _ _ _ h => h) (Or.inl ⟨by rfl, ?_⟩) (by assumption) ?_
      rotate_left
      · intro w hSw; (try dsimp only at hSw); go_simp; try with_reducible rfl
      try simp only [Act.put, List.getElem_toArray, List.getElem_cons_succ, List.getElem_cons_zero, List.setIfInBounds_toArray, List.set_cons_zero, List.set_cons_succ]
      refine wpAnyH_take (i := 9) (v := ?_) rfl (by kernel_rfl) (by kernel_rfl) (by kernel_rfl) (fun _ _ _ h => h) (Or.inl ⟨by rfl, ?_⟩) (by assumption) ?_
      rotate_left
      · intro w hSw; (try dsimp only at hSw); go_simp; try with_reducible rfl
      try simp only [Act.put, List.getElem_toArray, List.getElem_cons_succ, List.getElem_cons_zero, List.setIfInBounds_toArray, List.set_cons_zero, List.set_cons_succ]
      refine wpAnyH_take (i := 10) (v := ?_) rfl (by kernel_rfl) (by kernel_rfl) (by kernel_rfl) (fun _ _ _ h => h) (Or.inl ⟨by rfl, ?_⟩) (by assumption) ?_
      rotate_left
      · intro w hSw; (try dsimp only at hSw); go_simp; try with_reducible rfl
      try simp only [Act.put, List.getElem_toArray, List.getElem_cons_succ, List.getElem_cons_zero, List.setIfInBounds_toArray, List.set_cons_zero, List.set_cons_succ]
      refine wpAnyH_take (i := 11) (v := ?_) rfl (by kernel_rfl) (by kernel_rfl) (by kernel_rfl) (fun _ _ _ h => h) (Or.inl ⟨by rfl, ?_⟩) (by assumption) ?_
      rotate_left
      · intro w hSw; (try dsimp only at hSw); go_simp; try with_reducible rfl
      try simp only [Act.put, List.getElem_toArray, List.getElem_cons_succ, List.getElem_cons_zero, List.setIfInBounds_toArray, List.set_cons_zero, List.set_cons_succ]
      refine wpAnyH_ready (rs := [12]) (by kernel_rfl) (by simp) ?_
      refine AllReadyH.cons rfl (fun K hK => ?_) AllReadyH.nil
      go_simp
      refine (HCC.out _ HB5.out (by simp)).mono ?_; rintro e x2 ⟨rfl, tz⟩
      have HB6 := Lib.hid (below_next HB5.out (Still.below tz))
      have HX6 := Lib.hid (tz.blk HX5.out)
      have HO6 := Lib.hid (own_later HO5.out (Still.below tz))
      clear tz
      have r0 : x2.cell? ⟨w.heap.size, 0, none⟩ = some (.slice ta tn tc) := HX6.out.cell 0
      have r1 : x2.cell? ⟨w.heap.size, 1, none⟩ = some (.slice sa sn sc) := HX6.out.cell 1
      have r2 : x2.cell? ⟨w.heap.size, 2, none⟩ = some (.slice xa xn xc) := HX6.out.cell 2
      have r3 : x2.cell? ⟨w.heap.size, 3, none⟩ = some (.slice na nn nc) := HX6.out.cell 3
      have r4 : x2.cell? ⟨w.heap.size, 4, none⟩ = some (.slice fa fn fc) := HX6.out.cell 4
      have r5 : x2.cell? ⟨w.heap.size, 5, none⟩ = some (.int .i64 mi) := HX6.out.cell 5
      have r6 : x2.cell? ⟨w.heap.size, 6, none⟩ = some (.int .i64 ei) := HX6.out.cell 6
      have r7 := own_string HO6.out
      refine hK.out _ _ ?_ (fun hHeld => ?_)
      · exact ⟨r0, r1, r2, r3, r4, r5, r6, r7⟩
      clear hK K
      try simp only [Act.put, List.getElem_toArray, List.getElem_cons_succ, List.getElem_cons_zero, List.setIfInBounds_toArray, List.set_cons_zero, List.set_cons_succ]
      refine wpAnyH_take (i := 13) (v := ?_) rfl (by kernel_rfl) (by kernel_rfl) (by kernel_rfl) (fun _ _ _ h => h) (Or.inl ⟨by rfl, ?_⟩) (by assumption) ?_
      rotate_left
      · intro w hSw; (try dsimp only at hSw); go_simp; try with_reducible rfl
      try simp only [Act.put, List.getElem_toArray, List.getElem_cons_succ, List.getElem_cons_zero, List.setIfInBounds_toArray, List.set_cons_zero, List.set_cons_succ]
      refine wpAnyH_take (i := 14) (v := ?_) rfl (by kernel_rfl) (by kernel_rfl) (by kernel_rfl) (fun _ _ _ h => h) (Or.inl ⟨by rfl, ?_⟩) (by assumption) ?_
      rotate_left
      · intro w hSw; (try dsimp only at hSw); go_simp; try with_reducible rfl
      try simp only [Act.put, List.getElem_toArray, List.getElem_cons_succ, List.getElem_cons_zero, List.setIfInBounds_toArray, List.set_cons_zero, List.set_cons_succ]
      refine wpAnyH_take (i := 15) (v := ?_) rfl (by kernel_rfl) (by kernel_rfl) (by kernel_rfl) (fun _ _ _ h => h) (Or.inl ⟨by rfl, ?_⟩) (by assumption) ?_
      rotate_left
      · intro w hSw; (try dsimp only at hSw); go_simp; try with_reducible rfl
      try simp only [Act.put, List.getElem_toArray, List.getElem_cons_succ, List.getElem_cons_zero, List.setIfInBounds_toArray, List.set_cons_zero, List.set_cons_succ]
      refine wpAnyH_ready (rs := [16]) (by kernel_rfl) (by simp) ?_
      refine AllReadyH.cons rfl (fun K hK => ?_) AllReadyH.nil
      go_simp
      refine (lives4_any _).mono ?_; rintro e x3 ⟨rfl, bz⟩
      have HB7 := Lib.hid (below_next HB6.out bz)
      have HX7 := Lib.hid (Below.blk bz HX6.out)
      have HO7 := Lib.hid (own_later HO6.out bz)
      clear bz
      have s0 : x3.cell? ⟨w.heap.size, 0, none⟩ = some (.slice ta tn tc) := HX7.out.cell 0
      have s1 : x3.cell? ⟨w.heap.size, 1, none⟩ = some (.slice sa sn sc) := HX7.out.cell 1
      have s2 : x3.cell? ⟨w.heap.size, 2, none⟩ = some (.slice xa xn xc) := HX7.out.cell 2
      have s3 : x3.cell? ⟨w.heap.size, 3, none⟩ = some (.slice na nn nc) := HX7.out.cell 3
      have s4 : x3.cell? ⟨w.heap.size, 4, none⟩ = some (.slice fa fn fc) := HX7.out.cell 4
      have s5 : x3.cell? ⟨w.heap.size, 5, none⟩ = some (.int .i64 mi) := HX7.out.cell 5
      have s6 : x3.cell? ⟨w.heap.size, 6, none⟩ = some (.int .i64 ei) := HX7.out.cell 6
      have s7 := own_string HO7.out
      refine hK.out _ _ ?_ (fun hHeld => ?_)
      · exact ⟨s0, s1, s2, s3, s4, s5, s6, s7⟩
      clear hK K
      try simp only [Act.put, List.getElem_toArray, List.getElem_cons_succ, List.getElem_cons_zero, List.setIfInBounds_toArray, List.set_cons_zero, List.set_cons_succ]
      refine wpAnyH_take (i := 17) (v := ?_) rfl (by kernel_rfl) (by kernel_rfl) (by kernel_rfl) (fun _ _ _ h => h) (Or.inl ⟨by rfl, ?_⟩) (by assumption) ?_
      rotate_left
      · intro w hSw; (try dsimp only at hSw); go_simp; try with_reducible rfl
      try simp only [Act.put, List.getElem_toArray, List.getElem_cons_succ, List.getElem_cons_zero, List.setIfInBounds_toArray, List.set_cons_zero, List.set_cons_succ]
      refine wpAnyH_take (i := 18) (v := ?_) rfl (by kernel_rfl) (by kernel_rfl) (by kernel_rfl) (fun _ _ _ h => h) (Or.inl ⟨by rfl, ?_⟩) (by assumption) ?_
      rotate_left
      · intro w hSw; (try dsimp only at hSw); go_simp; try with_reducible rfl
      try simp only [Act.put, List.getElem_toArray, List.getElem_cons_succ, List.getElem_cons_zero, List.setIfInBounds_toArray, List.set_cons_zero, List.set_cons_succ]
      refine wpAnyH_done (by kernel_rfl) ?_ _
      go_wp2_with fail
      go_ret
      exact ⟨rfl, HB7.out⟩
    · have hr0 : (r == (0 : Int)) = false := beq_eq_false_iff_ne.2 hr
      have hr1 : (r != (0 : Int)) = true := by simp [bne, hr0]
      have hrr : (r == r) = true := by simp
      go_wp2_with fail
      clear b0 b1 b2 b3 b4 b5 b6 b7
      refine (HEB.out _ HB1.out (by simp) hr).mono ?_; rintro e w2 ⟨rfl, t2⟩
      have HB2 := Lib.hid (below_next HB1.out (Still.below t2))
      have HX2 := Lib.hid (t2.blk HX1.out)
      clear t2
      obtain ⟨b0, b1, b2, b3, b4, b5, b6, b7⟩ := imgBox HX2.out
      go_wp2_with fail
      clear b0 b1 b2 b3 b4 b5 b6 b7
      refine (HRC.out _ HB2.out (by simp)).mono ?_; rintro e w3 ⟨rfl, t3⟩
      have HB3 := Lib.hid (below_next HB2.out (Still.below t3))
      have HX3 := Lib.hid (t3.blk HX2.out)
      clear t3
      obtain ⟨b0, b1, b2, b3, b4, b5, b6, b7⟩ := imgBox HX3.out
      go_wp2_with fail
      clear b0 b1 b2 b3 b4 b5 b6 b7
      refine (HCC.out _ HB3.out (by simp)).mono ?_; rintro e w4 ⟨rfl, t4⟩
      have HB4 := Lib.hid (below_next HB3.out (Still.below t4))
      clear t4
      go_wp2_with fail
      refine (lives4_any _).mono ?_; rintro e w5 ⟨rfl, t5⟩
      have HB5 := Lib.hid (below_next HB4.out t5)
      clear t5
      go_wp2_with fail
      go_ret
      exact ⟨rfl, HB5.out⟩
end Go.Proofs.Ytjeehbcbflofpaa
