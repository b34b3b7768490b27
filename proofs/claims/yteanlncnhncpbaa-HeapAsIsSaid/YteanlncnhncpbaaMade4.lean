/- Made of more words than it may have: it has 4000; of less than none: there is none. -/
import Derived.Test.YteanlncnhncpbaaMade
namespace Go.Proofs.Yteanlncnhncpbaa
set_option linter.unusedVariables false
open Go.ChangeShapes Go.WideShapes Go.ChangeAt Go.RowKit
open M (W)

theorem made_big4 (n0 : Int) (a : Option Addr) (len cap : Nat) (A : Option Addr) (m mc : Nat) (w : World) (h4 : 4000 < n0) (h5 : n0 ≤ 9223372036854775807) (hl : 512 < len) (hc : len ≤ cap) (hm : cap ≤ maxLen) :
    Calls Try.prog 15 #[.int .i64 n0, .slice a len cap, .slice A m mc] w (MadeNil w) := by
  unfold MadeNil
  unfold maxLen at hm
  by_cases h6 : 600 < len
  · have hc6 : 600 ≤ cap := by omega
    have HN := new_big 4000 a 600 cap w (by omega) (by decide)
    go_enter Try.func15, Try.ntmps15
    go_wp2_with fail
    refine HN.mono ?_; rintro e w ⟨rfl, rfl⟩
    go_wp2_with fail
    go_ret2
    exact ⟨rfl, Still.refl _⟩
  · have HN := new_big 4000 a len cap w (by omega) hl
    go_enter Try.func15, Try.ntmps15
    go_wp2_with fail
    refine HN.mono ?_; rintro e w ⟨rfl, rfl⟩
    go_wp2_with fail
    go_ret2
    exact ⟨rfl, Still.refl _⟩
theorem made_bad4 (n0 : Int) (a : Option Addr) (len cap : Nat) (K N : Nat → Int) (A : Option Addr) (m mc : Nat) (w : World) (h4 : 4000 < n0) (h5 : n0 ≤ 9223372036854775807) (hl : len ≤ 512) (hL : Lays w a len K N) (hb : ¬ ∀ j, j < len → M.mayBe (K j) (N j) = true) :
    Calls Try.prog 15 #[.int .i64 n0, .slice a len cap, .slice A m mc] w (MadeNil w) := by
  unfold MadeNil
  have HN := new_bad 4000 a len cap K N w (by omega) hl hL hb
  clear hL hb
  go_enter Try.func15, Try.ntmps15
  go_wp2_with fail
  refine HN.mono ?_; rintro e w1 ⟨rfl, t1⟩
  have HT := Lib.hid t1; clear t1
  go_wp2_with fail
  go_ret2
  exact ⟨rfl, HT.out⟩

set_option maxRecDepth 100000 in
set_option maxHeartbeats 4000000 in
theorem made_ok4 (n0 : Int) (a : Option Addr) (len cap : Nat) (K N : Nat → Int) (A : Option Addr) (m mc : Nat) (F : Nat → OpR) (w : World) (h4 : 4000 < n0) (h5 : n0 ≤ 9223372036854775807) (hl : len ≤ 512) (hL : Lays w a len K N) (hg : ∀ j, j < len → M.mayBe (K j) (N j) = true) (hA : Ops w A m F) (hmc : m ≤ mc) (hmm : mc ≤ maxLen) :
    Calls Try.prog 15 #[.int .i64 n0, .slice a len cap, .slice A m mc] w (MadeOk w 4000) := by
  have HN := new_ok 4000 a len cap K N w (by omega) hl hL hg
  have HL := Lib.hid hL
  have HG := Lib.hid hg
  have HF := fun W => few_any A m mc W hmc hmm
  have HOPS := Lib.hid (hA.less (show min m 200 ≤ m by omega))
  obtain ⟨q, hq⟩ : ∃ q, min m 200 = q := ⟨_, rfl⟩
  rw [hq] at HF HOPS
  have hq2 : q ≤ 200 := by omega
  unfold MadeOk
  clear hL hg hA hq hmm hmc
  go_enter Try.func15, Try.ntmps15
  go_wp2_with fail
  refine HN.mono ?_; rintro e w1 ⟨s, rfl, hs, t1, g1, g2, g3, sn, st, sw, sx, sm, sk, sN⟩
  have HS := Lib.hid hs
  have HT := Lib.hid t1
  have HX := Lib.hid (And.intro g1 (And.intro g2 (And.intro sn (And.intro st (And.intro sw (And.intro sx (And.intro sm (And.intro sk sN))))))))
  clear hs t1 g1 g2 g3 sn st sw sx sm sk sN HN
  go_wp2_with fail
  refine (check_all 4000 a len cap K N true w1 (by omega) hl (HL.out.still HT.out) ⟨fun _ => HG.out, fun _ => rfl⟩).mono ?_; rintro e w2 ⟨rfl, t2⟩
  have HB := Lib.hid (both_start (cap := cap) (HS.out.still t2) (HT.out.trans t2) HX.out.1 HX.out.2.1 HX.out.2.2.1 HX.out.2.2.2.1 HX.out.2.2.2.2.1 HX.out.2.2.2.2.2.1 HX.out.2.2.2.2.2.2.1 HX.out.2.2.2.2.2.2.2.1 HX.out.2.2.2.2.2.2.2.2 HL.out)
  have hsn := HX.out.2.2.1
  have HSN := Lib.hid hsn
  clear t2 hsn
  go_wp2_with fail
  refine (HF _).mono ?_; rintro e w3 ⟨rfl, rfl⟩
  generalize (w2.alloc (.cells #[.int .i64 4000, .slice a len cap, .slice none 0 0] 46)) = W at HB ⊢
  obtain ⟨x0, hx0⟩ : ∃ x0, x0 = Rf.new w2.heap.size 4000 a len cap K N := ⟨_, rfl⟩
  have hgx : w2.heap.size = x0.gx := by rw [hx0]; rfl
  rw [← hx0] at HB
  have hl0 : x0.L.length = 0 := by rw [hx0]; rfl
  have HL0 := Lib.hid hl0
  rw [hgx]
  clear hx0 hgx hl0
  go_wp2_with fail
  go_loopw [45] (fun v wr => ∃ (j : Nat) (s' : St) (x' : Rf), v = .int .i64 j ∧ j ≤ q ∧ Both w wr s' x' ∧ s'.g = s.g ∧ x'.gx = x0.gx ∧ s'.n = 4000 ∧ x'.L.length ≤ j) (fun v _ => q - (intOf v).toNat)
  case atStart => exact ⟨0, s, x0, rfl, by omega, HB.out, rfl, rfl, HSN.out, by rw [HL0.out]; exact Nat.le_refl _⟩
  case round =>
    obtain ⟨j, s', x', rfl, hj, hb, hsg, hxg, hsn, hxl⟩ := hrel
    by_cases hjq : j < q
    · obtain ⟨b, off, hAe, hbl, hc⟩ := (HOPS.out.below hb.below).at_ (by omega)
      obtain ⟨hok, d0, d1, d2, d3, d4⟩ := hc j hjq
      subst hAe
      have HB2 := Lib.hid hb
      have hgxl := hb.rf.blk.lt
      have c2 : wr.cell? ⟨x'.gx, 2, none⟩ = some x'.lv := hb.rf.c2
      obtain ⟨la, lc, hlv⟩ := hb.rf.lv_slice
      rw [hlv] at c2
      have HD := does_any (hb.still ((Still.refl wr).alloc (.cells #[.int .i64 (F j).k, .int .i64 (F j).a, .int .i64 (F j).b, .int .u64 (F j).v, .bool (F j).near] 32))) (F j) hok (by omega)
      unfold OpR.val St.ptr Rf.ptr at HD
      rw [hsg, hxg] at HD
      rw [hxg] at c2 hgxl
      have hgb : b < wr.heap.size := hbl
      generalize F j = oo at hok d0 d1 d2 d3 d4 HD
      obtain ⟨okk, oa, ob, ov, on⟩ := oo
      simp only at d0 d1 d2 d3 d4 HD
      have HDD := Lib.hid HD
      have HEQ := Lib.hid (And.intro hsg (And.intro hxg (And.intro hsn hxl)))
      have few : x'.L.length ≤ 200 := by omega
      clear hc hb hlv hok HD hsg hxg hsn hxl
      by_cases hk1 : okk = 1
      · subst hk1
        by_cases h150 : x'.L.length < 150
        · go_wp2_with fail
          refine HDD.out.mono ?_; rintro e w4 ⟨rfl, s2, x2, hb2, e1, e2, e3, e4, e5⟩
          have HB3 := Lib.hid hb2
          have HE := Lib.hid (And.intro e1 (And.intro e2 (And.intro e3 e4)))
          clear hb2 e1 e2 e3 e4 e5
          go_wp2_with fail
          go_roundw
          case rel => exact ⟨j + 1, s2, x2, by go_num, by omega, HB3.out, HE.out.1.trans HEQ.out.1, HE.out.2.1.trans HEQ.out.2.1, HE.out.2.2.1.trans HEQ.out.2.2.1, by have := HE.out.2.2.2; have := HEQ.out.2.2.2; omega⟩
          case measure => simp [intOf]; omega
        · have hge : 150 ≤ x'.L.length := by omega
          clear h150
          go_wp2_with fail
          go_roundw
          case rel => exact ⟨j + 1, s', x', by go_num, by omega, HB2.out.still ((Still.refl wr).alloc _), HEQ.out.1, HEQ.out.2.1, HEQ.out.2.2.1, by have := HEQ.out.2.2.2; omega⟩
          case measure => simp [intOf]; omega
      · have hkf : ((okk : Int) != 1) = true := by simpa using hk1
        go_wp2_with fail
        refine HDD.out.mono ?_; rintro e w4 ⟨rfl, s2, x2, hb2, e1, e2, e3, e4, e5⟩
        have HB3 := Lib.hid hb2
        have HE := Lib.hid (And.intro e1 (And.intro e2 (And.intro e3 e4)))
        clear hb2 e1 e2 e3 e4 e5
        go_wp2_with fail
        go_roundw
        case rel => exact ⟨j + 1, s2, x2, by go_num, by omega, HB3.out, HE.out.1.trans HEQ.out.1, HE.out.2.1.trans HEQ.out.2.1, HE.out.2.2.1.trans HEQ.out.2.2.1, by have := HE.out.2.2.2; have := HEQ.out.2.2.2; omega⟩
        case measure => simp [intOf]; omega
    · have HB2 := Lib.hid hb
      have HEQ := Lib.hid (And.intro hsg (And.intro hxg (And.intro hsn hxl)))
      clear hb hsg hxg hsn hxl
      go_wp2_with fail
      go_ret2
      refine ⟨s', x', ?_, HB2.out, HEQ.out.2.2.1, by have := HEQ.out.2.2.2; omega⟩
      show Ending.returned (.tuple #[.pointer (some ⟨s.g, 0, none⟩), .pointer (some ⟨x0.gx, 0, none⟩)]) = .returned (.tuple #[.pointer (some ⟨s'.g, 0, none⟩), .pointer (some ⟨x'.gx, 0, none⟩)])
      rw [HEQ.out.1, HEQ.out.2.1]
theorem made_neg (n0 : Int) (a : Option Addr) (len cap : Nat) (A : Option Addr) (m mc : Nat) (w : World) (hn : n0 < 0) (hl0 : -9223372036854775808 ≤ n0) (hc : len ≤ cap) (hm : cap ≤ maxLen) :
    Calls Try.prog 15 #[.int .i64 n0, .slice a len cap, .slice A m mc] w (MadeNil w) := by
  unfold MadeNil
  unfold maxLen at hm
  have h4 : ¬ 4000 < n0 := by omega
  have h4' : n0 < 4000 := by omega
  by_cases h6 : 600 < len
  · have hc6 : 600 ≤ cap := by omega
    have HN := new_arg n0 a 600 cap w (.inl hn)
    go_enter Try.func15, Try.ntmps15
    go_wp2_with fail
    refine HN.mono ?_; rintro e w ⟨rfl, rfl⟩
    go_wp2_with fail
    go_ret2
    exact ⟨rfl, Still.refl _⟩
  · have HN := new_arg n0 a len cap w (.inl hn)
    go_enter Try.func15, Try.ntmps15
    go_wp2_with fail
    refine HN.mono ?_; rintro e w ⟨rfl, rfl⟩
    go_wp2_with fail
    go_ret2
    exact ⟨rfl, Still.refl _⟩
/-- Of any number of words: nothing, or both. -/
theorem made_any (n0 : Int) (a : Option Addr) (len cap : Nat) (K N : Nat → Int) (A : Option Addr) (m mc : Nat) (F : Nat → OpR) (w : World) (h1 : -9223372036854775808 ≤ n0) (h2 : n0 ≤ 9223372036854775807) (hc : len ≤ cap) (hm : cap ≤ maxLen) (hL : Lays w a len K N) (hA : Ops w A m F) (hmc : m ≤ mc) (hmm : mc ≤ maxLen) :
    Calls Try.prog 15 #[.int .i64 n0, .slice a len cap, .slice A m mc] w (MadeNil w) ∨ ∃ n : Nat, n ≤ 4000 ∧ Calls Try.prog 15 #[.int .i64 n0, .slice a len cap, .slice A m mc] w (MadeOk w n) := by
  by_cases hn : n0 < 0
  · exact .inl (made_neg n0 a len cap A m mc w hn h1 hc hm)
  obtain ⟨n, rfl⟩ := Int.eq_ofNat_of_zero_le (show 0 ≤ n0 by omega)
  by_cases h4 : 4000 < (n : Int)
  · by_cases hl : 512 < len
    · exact .inl (made_big4 n a len cap A m mc w h4 h2 hl hc hm)
    · by_cases hg : ∀ j, j < len → M.mayBe (K j) (N j) = true
      · exact .inr ⟨4000, Nat.le_refl _, made_ok4 n a len cap K N A m mc F w h4 h2 (by omega) hL hg hA hmc hmm⟩
      · exact .inl (made_bad4 n a len cap K N A m mc w h4 h2 (by omega) hL hg)
  · by_cases hl : 512 < len
    · exact .inl (made_big n a len cap A m mc w (by omega) hl hc hm)
    · by_cases hg : ∀ j, j < len → M.mayBe (K j) (N j) = true
      · exact .inr ⟨n, by omega, made_ok n a len cap K N A m mc F w (by omega) (by omega) hL hg hA hmc hmm⟩
      · exact .inl (made_bad n a len cap K N A m mc w (by omega) (by omega) hL hg)
end Go.Proofs.Yteanlncnhncpbaa
