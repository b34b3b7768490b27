/- CodeDecodes, for any bytes. -/
import Derived.Test.YthlifflapgccbaaGreatTr8
import Derived.Test.YthlifflapgccbaaGreatCBackW
import Derived.Test.YthlifflapgccbaaGreatTurnsW
namespace Go.Proofs.YthlifflapgccbaaGreat
set_option linter.unusedVariables false
set_option linter.unusedSimpArgs false
open Go.ChangeShapes Go.WideShapes Go.ChangeAt Go.RowKit
open M (W)
def nilM : M.Img := ⟨[], [], [], [], [], 0, 0⟩
def nilV : ImgV := ⟨none, 0, 0, none, 0, 0, none, 0, 0, none, 0, 0, none, 0, 0, 0, 0⟩
/-- What a Decode answers. -/
def DecOut (L : List Int) (w : World) (e : Ending) (w' : World) : Prop := Below w.heap.size w w' ∧ ∃ (v : ImgV) (m : M.Img) (er : Int), e = .returned (.tuple #[.agg #[.slice v.ta v.tn v.tc, .slice v.sa v.sn v.sc, .slice v.xa v.xn v.xc, .slice v.na v.nn v.nc, .slice v.fa v.fn v.fc, .int .i64 v.main, .int .i64 v.exn], .int .i64 er]) ∧ ImgIs w'.heap.size w' v m ∧ ((er = 0 ∧ M.Good L m) ∨ (er = 20 ∧ m = nilM ∧ ∀ m', ¬ M.Good L m'))
theorem decOut {B : Nat} {w : World} {ba : Option Addr} {bn bc : Nat} {LB : List Int} (hb : BysR B w ba bn bc LB) (hl : bn ≤ 40000) :
    Calls Tryz.prog 4 #[.slice ba bn bc] w (DecOut LB w) :=
  (decB hb (by omega)).mono fun e w' ⟨h1, h2⟩ => ⟨h1.below, by
    rcases h2 with ⟨v, m, he, hi, hg⟩ | ⟨he, hn⟩
    · exact ⟨v, m, 0, he, hi.is (fun b hb => hb.2), .inl ⟨rfl, hg⟩⟩
    · exact ⟨nilV, nilM, 20, he, nilImg, .inr ⟨rfl, rfl, hn⟩⟩⟩
set_option maxRecDepth 100000 in
set_option maxHeartbeats 4000000 in
theorem refDecode_less {n : Nat} (hn : n < 4) (w : World) (a : Option Addr) (c : Nat) :
    Calls Tryz.prog 5 #[.slice a n c] w fun e w' => e = .returned (.tuple #[.agg #[.slice none 0 0, .slice none 0 0, .slice none 0 0, .slice none 0 0, .slice none 0 0, .int .i64 0, .int .i64 0], .int .i64 20]) ∧ Below w.heap.size w w' := by
  have x0 : (n : Int) < 4 := by omega
  have x1 : decide ((n : Int) < 4) = true := decide_eq_true x0
  have ZR : Hid (Blk (w.alloc (.cells #[.slice none 0 0, .slice none 0 0, .slice none 0 0, .slice none 0 0, .slice none 0 0, .int .i64 0, .int .i64 0] 28)) w.heap.size 28 #[.slice none 0 0, .slice none 0 0, .slice none 0 0, .slice none 0 0, .slice none 0 0, .int .i64 0, .int .i64 0]) := Blk.new w _ _
  go_enter Tryz.func5, Tryz.ntmps5
  go_wp2_with fail
  refine bodyPost_ret (results_row_tmp rfl _ _ w.heap.size 28 #[.slice none 0 0, .slice none 0 0, .slice none 0 0, .slice none 0 0, .slice none 0 0, .int .i64 0, .int .i64 0] (0, 0) _ rfl ZR.out Tryz.underlying28 rfl (by kernel_rfl)) rfl ?_
  exact ⟨rfl, Still.below ((Still.refl w).alloc _)⟩
theorem refDecOut {B : Nat} {w : World} {ba : Option Addr} {bn bc : Nat} {LB : List Int} (hb : BysR B w ba bn bc LB) (hl : bn ≤ 40000) :
    Calls Tryz.prog 5 #[.slice ba bn bc] w (DecOut LB w) := by
  by_cases h4 : 4 ≤ bn
  · obtain ⟨r, o, rfl, h2, h3⟩ := hb.raw h4
    have e := hb.len
    subst e
    refine (refDecode_in h3 hb.bytes (by omega) h4).mono fun e w' ⟨h1, h2⟩ => ⟨h1, ?_⟩
    rcases h2 with ⟨v, m, he, hi, hg⟩ | ⟨he, hn⟩
    · exact ⟨v, m, 0, he, hi.is (fun b hb => hb.2), .inl ⟨rfl, hg⟩⟩
    · exact ⟨nilV, nilM, 20, he, nilImg, .inr ⟨rfl, rfl, hn⟩⟩
  · exact (refDecode_less (by omega) w ba bc).mono fun e w' ⟨h1, h2⟩ => ⟨h2, nilV, nilM, 20, h1, nilImg, .inr ⟨rfl, rfl, fun m hm => by
      have h5 := congrArg List.length hm.1
      rw [List.length_append, hb.len] at h5
      simp [M.bel4] at h5
      omega⟩⟩
theorem BysR.take {B : Nat} {w : World} {a : Option Addr} {n c k : Nat} {L : List Int} (h : BysR B w a n c L) (hk : k ≤ n) (h4 : 4 ≤ n) : BysR B w a k c (L.take k) :=
  ⟨by rw [List.length_take, h.len]; omega, fun x hx => h.bytes x (List.mem_of_mem_take hx), fun hn => by
    obtain ⟨r, o, h1, h2, h3⟩ := h.raw h4
    refine ⟨r, o, h1, h2, h3.lt, ?_, fun j hj => ?_⟩
    · have := h3.le; rw [List.length_take]; omega
    · rw [List.length_take] at hj
      rw [h3.cells j (by omega)]
      simp [List.getD, List.getElem?_take, show j < k by omega]⟩
theorem out_one {L : List Int} {m m' : M.Img} {er er' : Int} (hl : L.length ≤ 40000) (h : (er = 0 ∧ M.Good L m) ∨ (er = 20 ∧ m = nilM ∧ ∀ m', ¬ M.Good L m')) (h' : (er' = 0 ∧ M.Good L m') ∨ (er' = 20 ∧ m' = nilM ∧ ∀ m', ¬ M.Good L m')) : er' = er ∧ m' = m ∧ M.check m = 0 ∧ (M.bImg m).length ≤ 100000000 := by
  rcases h with ⟨rfl, hg⟩ | ⟨rfl, rfl, hn⟩
  · rcases h' with ⟨rfl, hg'⟩ | ⟨rfl, rfl, hn⟩
    · refine ⟨rfl, good_one hg hg', hg.2.2, ?_⟩
      have := congrArg List.length hg.1
      rw [List.length_append] at this
      omega
    · exact absurd hg (hn m)
  · rcases h' with ⟨rfl, hg'⟩ | ⟨rfl, rfl, hn'⟩
    · exact absurd hg' (hn m')
    · exact ⟨rfl, rfl, by decide +kernel, by decide +kernel⟩
set_option maxRecDepth 100000 in
set_option maxHeartbeats 8000000 in
theorem codeDecodes_w {w : World} {ba : Option Addr} {bn bc : Nat} {LB : List Int} (hb : BysR w.heap.size w ba bn bc LB) (hc : bn ≤ bc ∧ bc ≤ maxLen) :
    Calls Tryz.prog 3 #[.slice ba bn bc] w fun e w' => e = .returned (.bool true) ∧ Below w.heap.size w w' := by
  obtain ⟨n', L', hb', hn', hcase⟩ : ∃ n' L', BysR w.heap.size w ba n' bc L' ∧ n' ≤ 40000 ∧ ((40000 < bn ∧ n' = 40000) ∨ (bn ≤ 40000 ∧ n' = bn)) := by
    by_cases h : 40000 < bn
    · exact ⟨40000, _, hb.take (by omega) (by omega), Nat.le_refl _, .inl ⟨h, rfl⟩⟩
    · exact ⟨bn, _, hb, by omega, .inr ⟨by omega, rfl⟩⟩
  have HLN : Hid (L'.length ≤ 40000) := by show _ ≤ _; rw [hb'.len]; exact hn'
  have HD1 := Lib.hid (decOut hb' hn')
  have HD2 : Hid (∀ W, Below w.heap.size w W → Calls Tryz.prog 5 #[.slice ba n' bc] W (DecOut L' W)) := fun W hW => refDecOut (hb'.keep hW (Nat.le_refl _)) hn'
  have hc2 : bc ≤ 9223372036854775807 := by have := hc.2; unfold maxLen at this; omega
  have hc1 := hc.1
  clear hb hb' hc
  have x4 : 40000 < bn → (40000 : Int) ≤ bc := fun h => by omega
  have hx : (decide ((40000 : Int) < bn) = true ∧ (40000 : Int) ≤ bc ∧ n' = 40000) ∨ (decide ((40000 : Int) < bn) = false ∧ n' = bn) := by
    rcases hcase with ⟨h, e⟩ | ⟨h, e⟩
    · exact .inl ⟨decide_eq_true (by omega), by omega, e⟩
    · exact .inr ⟨decide_eq_false (by omega), e⟩
  clear hcase x4
  rcases hx with ⟨x0, x1, rfl⟩ | ⟨x0, rfl⟩
  all_goals
    go_enter Tryz.func3, Tryz.ntmps3
    go_wp2_with fail
    refine HD1.out.mono ?_; rintro e w1 ⟨t1, ⟨ta, tn, tc, sa, sn, sc, xa, xn, xc, na, nn, nc, fa, fn, fc, mi, ei⟩, m1, er, rfl, hi1, ho1⟩
    dsimp only at hi1 ⊢
    have HO1 := Lib.hid ho1
    have HI1 := Lib.hid hi1
    have HT1 := Lib.hid t1
    clear hi1 ho1 t1
    go_wp2_with fail
    have A1 : Hid (Still w1 (w1.alloc (.cells #[.slice ta tn tc, .slice sa sn sc, .slice xa xn xc, .slice na nn nc, .slice fa fn fc, .int .i64 mi, .int .i64 ei] 28)) ∧ Blk (w1.alloc (.cells #[.slice ta tn tc, .slice sa sn sc, .slice xa xn xc, .slice na nn nc, .slice fa fn fc, .int .i64 mi, .int .i64 ei] 28)) w1.heap.size 28 #[.slice ta tn tc, .slice sa sn sc, .slice xa xn xc, .slice na nn nc, .slice fa fn fc, .int .i64 mi, .int .i64 ei]) := ⟨(Still.refl w1).alloc _, Blk.new w1 _ _⟩
    generalize w1.alloc (.cells #[.slice ta tn tc, .slice sa sn sc, .slice xa xn xc, .slice na nn nc, .slice fa fn fc, .int .i64 mi, .int .i64 ei] 28) = w2 at A1 ⊢
    have HB2 := Lib.hid (below_next HT1.out A1.out.1.below)
    refine (HD2.out _ HB2.out).mono ?_; rintro e w3 ⟨t3, ⟨ta', tn', tc', sa', sn', sc', xa', xn', xc', na', nn', nc', fa', fn', fc', mi', ei'⟩, m2, er2, rfl, hi2, ho2⟩
    dsimp only at hi2 ⊢
    obtain ⟨e1, e2, hck, hlen⟩ := out_one HLN.out HO1.out ho2
    subst e1
    subst e2
    have st : Still w3 (w3.alloc (.cells #[.slice ta' tn' tc', .slice sa' sn' sc', .slice xa' xn' xc', .slice na' nn' nc', .slice fa' fn' fc', .int .i64 mi', .int .i64 ei'] 28)) := (Still.refl w3).alloc _
    have B1 : Hid (Blk (w3.alloc (.cells #[.slice ta' tn' tc', .slice sa' sn' sc', .slice xa' xn' xc', .slice na' nn' nc', .slice fa' fn' fc', .int .i64 mi', .int .i64 ei'] 28)) w1.heap.size 28 #[.slice ta tn tc, .slice sa sn sc, .slice xa xn xc, .slice na nn nc, .slice fa fn fc, .int .i64 mi, .int .i64 ei]) := st.blk (Below.blk t3 A1.out.2)
    have B2 : Hid (Blk (w3.alloc (.cells #[.slice ta' tn' tc', .slice sa' sn' sc', .slice xa' xn' xc', .slice na' nn' nc', .slice fa' fn' fc', .int .i64 mi', .int .i64 ei'] 28)) w3.heap.size 28 #[.slice ta' tn' tc', .slice sa' sn' sc', .slice xa' xn' xc', .slice na' nn' nc', .slice fa' fn' fc', .int .i64 mi', .int .i64 ei']) := Blk.new w3 _ _
    have HB4 := Lib.hid (below_next HB2.out (t3.trans (st.below.mono t3.size)))
    have I1 : Hid (ImgIs (w3.alloc (.cells #[.slice ta' tn' tc', .slice sa' sn' sc', .slice xa' xn' xc', .slice na' nn' nc', .slice fa' fn' fc', .int .i64 mi', .int .i64 ei'] 28)).heap.size (w3.alloc (.cells #[.slice ta' tn' tc', .slice sa' sn' sc', .slice xa' xn' xc', .slice na' nn' nc', .slice fa' fn' fc', .int .i64 mi', .int .i64 ei'] 28)) ⟨ta, tn, tc, sa, sn, sc, xa, xn, xc, na, nn, nc, fa, fn, fc, mi, ei⟩ m2) := ((HI1.out.later A1.out.1.below).later t3).later st.below
    have I2 : Hid (ImgIs (w3.alloc (.cells #[.slice ta' tn' tc', .slice sa' sn' sc', .slice xa' xn' xc', .slice na' nn' nc', .slice fa' fn' fc', .int .i64 mi', .int .i64 ei'] 28)).heap.size (w3.alloc (.cells #[.slice ta' tn' tc', .slice sa' sn' sc', .slice xa' xn' xc', .slice na' nn' nc', .slice fa' fn' fc', .int .i64 mi', .int .i64 ei'] 28)) ⟨ta', tn', tc', sa', sn', sc', xa', xn', xc', na', nn', nc', fa', fn', fc', mi', ei'⟩ m2) := hi2.later st.below
    have HS : Hid (Calls Tryz.prog 6 #[.agg #[.slice ta tn tc, .slice sa sn sc, .slice xa xn xc, .slice na nn nc, .slice fa fn fc, .int .i64 mi, .int .i64 ei], .agg #[.slice ta' tn' tc', .slice sa' sn' sc', .slice xa' xn' xc', .slice na' nn' nc', .slice fa' fn' fc', .int .i64 mi', .int .i64 ei']] (w3.alloc (.cells #[.slice ta' tn' tc', .slice sa' sn' sc', .slice xa' xn' xc', .slice na' nn' nc', .slice fa' fn' fc', .int .i64 mi', .int .i64 ei'] 28)) fun e w' => e = .returned (.bool true) ∧ Below (w3.alloc (.cells #[.slice ta' tn' tc', .slice sa' sn' sc', .slice xa' xn' xc', .slice na' nn' nc', .slice fa' fn' fc', .int .i64 mi', .int .i64 ei'] 28)).heap.size (w3.alloc (.cells #[.slice ta' tn' tc', .slice sa' sn' sc', .slice xa' xn' xc', .slice na' nn' nc', .slice fa' fn' fc', .int .i64 mi', .int .i64 ei'] 28)) w') := by
      have := refSame_det (u := ⟨ta, tn, tc, sa, sn, sc, xa, xn, xc, na, nn, nc, fa, fn, fc, mi, ei⟩) (v := ⟨ta', tn', tc', sa', sn', sc', xa', xn', xc', na', nn', nc', fa', fn', fc', mi', ei'⟩) I1.out I2.out hlen hlen hck hck true (iff_of_true rfl rfl)
      exact this
    obtain ⟨al, a0, a1, a2, a3, a4, a5, a6⟩ := imgBox7 B1.out
    obtain ⟨bl, b0, b1, b2, b3, b4, b5, b6⟩ := imgBox7 B2.out
    clear hi2 ho2 t3 st hck hlen
    go_wp2_with fail
    refine HS.out.mono ?_; rintro e w5 ⟨rfl, t5⟩
    have HB5 := Lib.hid (below_next HB4.out t5)
    have C1 : Blk w5 w1.heap.size 28 #[.slice ta tn tc, .slice sa sn sc, .slice xa xn xc, .slice na nn nc, .slice fa fn fc, .int .i64 mi, .int .i64 ei] := Below.blk t5 B1.out
    have C2 : Blk w5 w3.heap.size 28 #[.slice ta' tn' tc', .slice sa' sn' sc', .slice xa' xn' xc', .slice na' nn' nc', .slice fa' fn' fc', .int .i64 mi', .int .i64 ei'] := Below.blk t5 B2.out
    have HS2 : Hid (Calls Tryz.prog 7 #[.agg #[.slice ta tn tc, .slice sa sn sc, .slice xa xn xc, .slice na nn nc, .slice fa fn fc, .int .i64 mi, .int .i64 ei], .agg #[.slice ta' tn' tc', .slice sa' sn' sc', .slice xa' xn' xc', .slice na' nn' nc', .slice fa' fn' fc', .int .i64 mi', .int .i64 ei']] w5 fun e w' => e = .returned (.bool true) ∧ Still w5 w') := by
      have := same_det (B := w5.heap.size) (u := ⟨ta, tn, tc, sa, sn, sc, xa, xn, xc, na, nn, nc, fa, fn, fc, mi, ei⟩) (v := ⟨ta', tn', tc', sa', sn', sc', xa', xn', xc', na', nn', nc', fa', fn', fc', mi', ei'⟩) (I1.out.later t5) (I2.out.later t5) (Nat.le_refl _) true (iff_of_true rfl rfl)
      exact this
    clear al a0 a1 a2 a3 a4 a5 a6 bl b0 b1 b2 b3 b4 b5 b6
    obtain ⟨al, a0, a1, a2, a3, a4, a5, a6⟩ := imgBox7 C1
    obtain ⟨bl, b0, b1, b2, b3, b4, b5, b6⟩ := imgBox7 C2
    clear t5 C1 C2
    go_wp2_with fail
    refine HS2.out.mono ?_; rintro e w6 ⟨rfl, t6⟩
    have HB6 := Lib.hid (below_next HB5.out t6.below)
    clear t6 al a0 a1 a2 a3 a4 a5 a6 bl b0 b1 b2 b3 b4 b5 b6
    go_wp2_with fail
    refine (lives4_any _).mono ?_; rintro e w7 ⟨rfl, t7⟩
    have HB7 := Lib.hid (below_next HB6.out t7)
    clear t7
    go_wp2_with fail
    go_ret
    exact ⟨rfl, HB7.out⟩
end Go.Proofs.YthlifflapgccbaaGreat
