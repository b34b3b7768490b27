/- Lemmas, put together: Made Made4 OpenOps Queue. -/
import Derived.Test.YthfkgkddklnnhaaK18
import Derived.Test.YthfkgkddklnnhaaK05
import Derived.Test.YthfkgkddklnnhaaK08
import Derived.Deep.OwnRows
/- The laws' own helpers of layer 2: Few, Made. -/
namespace Go.Proofs.Ythfkgkddklnnhaa
set_option linter.unusedVariables false
open Go.ChangeShapes Go.WideShapes Go.ChangeAt Go.RowKit
open M (W)

/-- A call of the laws' lists. -/
structure OpR where
  k : Int
  a : Int
  b : Int
  v : Nat
  near : Bool
def OpR.val (o : OpR) : Value := .agg #[.int .i64 o.k, .int .i64 o.a, .int .i64 o.b, .int .u64 o.v, .bool o.near]
def OpR.ok (o : OpR) : Prop := -9223372036854775808 ≤ o.a ∧ o.v < 18446744073709551616
theorem does_any {w0 w : World} {s : St} {x : Rf} (h : Both w0 w s x) (o : OpR) (ho : o.ok) (hfew : x.L.length < 1000) :
    Calls Try.prog 26 #[s.ptr, x.ptr, o.val] w fun e w' => e = .returned (.bool true) ∧ After w0 w' s x := by
  obtain ⟨k, a, b, v, near⟩ := o
  obtain ⟨ha, hv⟩ := ho
  unfold OpR.val
  simp only at *
  by_cases h1 : k = 1
  · subst h1
    cases near
    · exact does_1_no h a b v ha hv hfew
    · rcases Nat.eq_zero_or_pos x.L.length with hL | hL
      · exact does_1_empty h a b v ha hv hfew hL
      · exact does_1_at h a b v ha hv hfew hL
  by_cases h2 : k = 2
  · subst h2
    cases near
    · exact does_2_no h a b v ha hv hfew
    · rcases Nat.eq_zero_or_pos x.L.length with hL | hL
      · exact does_2_empty h a b v ha hv hfew hL
      · exact does_2_at h a b v ha hv hfew hL
  by_cases h3 : k = 3
  · subst h3
    cases near
    · exact does_3_no h a b v ha hv hfew
    · rcases Nat.eq_zero_or_pos x.L.length with hL | hL
      · exact does_3_empty h a b v ha hv hfew hL
      · exact does_3_at h a b v ha hv hfew hL
  have g1 : ((k : Int) == 1) = false := beq_eq_false_iff_ne.2 h1
  have g2 : ((k : Int) == 2) = false := beq_eq_false_iff_ne.2 h2
  have g3 : ((k : Int) == 3) = false := beq_eq_false_iff_ne.2 h3
  cases near
  · exact does_o_no h a b v k g1 g2 g3 ha hv hfew
  · rcases Nat.eq_zero_or_pos x.L.length with hL | hL
    · exact does_o_empty h a b v k g1 g2 g3 ha hv hfew hL
    · exact does_o_at h a b v k g1 g2 g3 ha hv hfew hL

/-- A row of calls that came in. -/
structure Ops (w : World) (a : Option Addr) (len : Nat) (F : Nat → OpR) : Prop where
  at_ : 0 < len → ∃ b off, a = some ⟨b, off, none⟩ ∧ b < w.heap.size ∧ ∀ j, j < len → (F j).ok ∧ w.cell? ⟨b, off + j * 5, none⟩ = some (.int .i64 (F j).k) ∧ w.cell? ⟨b, off + j * 5 + 1, none⟩ = some (.int .i64 (F j).a) ∧ w.cell? ⟨b, off + j * 5 + 2, none⟩ = some (.int .i64 (F j).b) ∧ w.cell? ⟨b, off + j * 5 + 3, none⟩ = some (.int .u64 (F j).v) ∧ w.cell? ⟨b, off + j * 5 + 4, none⟩ = some (.bool (F j).near)
theorem Ops.less {w : World} {a : Option Addr} {len len' : Nat} {F : Nat → OpR} (h : Ops w a len F) (hl : len' ≤ len) : Ops w a len' F :=
  ⟨fun h0 => by
    obtain ⟨b, off, e, hb, hc⟩ := h.at_ (by omega)
    exact ⟨b, off, e, hb, fun j hj => hc j (by omega)⟩⟩
theorem Ops.below {w w' : World} {a : Option Addr} {len : Nat} {F : Nat → OpR} (h : Ops w a len F) (t : Below w.heap.size w w') : Ops w' a len F :=
  ⟨fun h0 => by
    obtain ⟨b, off, e, hb, hc⟩ := h.at_ h0
    refine ⟨b, off, e, Nat.lt_of_lt_of_le hb t.size, fun j hj => ?_⟩
    have key : ∀ i, w'.cell? ⟨b, i, none⟩ = w.cell? ⟨b, i, none⟩ := fun i => t.cell (p := ⟨b, i, none⟩) hb
    rw [key, key, key, key, key]
    exact hc j hj⟩
theorem few_any (a : Option Addr) (len cap : Nat) (w : World) (h : len ≤ cap) (hm : cap ≤ maxLen) : Calls Try.prog 25 #[.slice a len cap] w fun e w' => e = .returned (.slice a (min len 200) cap) ∧ w' = w := by
  unfold maxLen at hm
  by_cases hl : 200 < len
  · have e : min len 200 = 200 := by omega
    rw [e]
    have hc : 200 ≤ cap := by omega
    go_enter Try.func25, Try.ntmps25
    go_wp2
    go_ret
    exact ⟨rfl, rfl⟩
  · have e : min len 200 = len := by omega
    rw [e]
    go_enter Try.func25, Try.ntmps25
    go_wp2
    go_ret
    exact ⟨rfl, rfl⟩
/-- Nothing is made. -/
def MadeNil (w : World) (e : Ending) (w' : World) : Prop := e = .returned (.tuple #[.pointer none, .pointer none]) ∧ Still w w'
theorem made_big (n : Nat) (a : Option Addr) (len cap : Nat) (A : Option Addr) (m mc : Nat) (w : World) (hn : n ≤ 4000) (hl : 512 < len) (hc : len ≤ cap) (hm : cap ≤ maxLen) :
    Calls Try.prog 6 #[.int .i64 n, .slice a len cap, .slice A m mc] w (MadeNil w) := by
  unfold MadeNil
  unfold maxLen at hm
  by_cases h6 : 600 < len
  · have hc6 : 600 ≤ cap := by omega
    have HN := new_big n a 600 cap w (by omega) (by decide)
    go_enter Try.func6, Try.ntmps6
    go_wp2_with fail
    refine HN.mono ?_; rintro e w ⟨rfl, rfl⟩
    go_wp2_with fail
    go_ret2
    exact ⟨rfl, Still.refl _⟩
  · have HN := new_big n a len cap w (by omega) hl
    go_enter Try.func6, Try.ntmps6
    go_wp2_with fail
    refine HN.mono ?_; rintro e w ⟨rfl, rfl⟩
    go_wp2_with fail
    go_ret2
    exact ⟨rfl, Still.refl _⟩
theorem made_bad (n : Nat) (a : Option Addr) (len cap : Nat) (K N : Nat → Int) (A : Option Addr) (m mc : Nat) (w : World) (hn : n ≤ 4000) (hl : len ≤ 512) (hL : Lays w a len K N) (hb : ¬ ∀ j, j < len → M.mayBe (K j) (N j) = true) :
    Calls Try.prog 6 #[.int .i64 n, .slice a len cap, .slice A m mc] w (MadeNil w) := by
  unfold MadeNil
  have HN := new_bad n a len cap K N w (by omega) hl hL hb
  clear hL hb
  go_enter Try.func6, Try.ntmps6
  go_wp2_with fail
  refine HN.mono ?_; rintro e w1 ⟨rfl, t1⟩
  have HT := Lib.hid t1; clear t1
  go_wp2_with fail
  go_ret2
  exact ⟨rfl, HT.out⟩

def Rf.new (gx n : Nat) (a : Option Addr) (len cap : Nat) (K N : Nat → Int) : Rf := ⟨gx, n, a, len, cap, K, N, .slice none 0 0, []⟩
theorem both_start {w w1 : World} {s : St} {a : Option Addr} {len cap n : Nat} {K N : Nat → Int} (hs : HpIs w1 s) (t1 : Still w w1) (h1 : w.heap.size ≤ s.g) (h2 : w.heap.size ≤ s.gw) (hn : s.n = n) (ht : s.top = 0) (hw : ∀ i, s.ws i = 0) (hx : ∀ i, s.hx i = 0) (hm : s.m = len) (hk : s.lk = K) (hN : s.ln = N) (hL : Lays w a len K N) :
    Both w (w1.alloc (.cells #[.int .i64 n, .slice a len cap, .slice none 0 0] 39)) s (Rf.new w1.heap.size n a len cap K N) := by
  have T : Still w (w1.alloc (.cells #[.int .i64 n, .slice a len cap, .slice none 0 0] 39)) := t1.alloc _
  refine ⟨hs.alloc _, ⟨t1.size, T.size, ?_, hL.still T, ?_, World.ownsRow_nil _ _ _ _, fun o ho => by simp [Rf.new] at ho, by simp [Rf.new], by simp [Rf.new]⟩, h1, h2, hn.symm, hm.symm, hk.symm, hN.symm, fun o ho => by simp [Rf.new] at ho, ⟨ht.symm, fun o ho => by simp [Rf.new] at ho, fun k => ?_, fun i _ => hw i⟩, Still.below T, fun o ho => by simp [Rf.new] at ho⟩
  · refine ⟨_, heap_alloc_new w1 _, rfl, fun i hi => ?_⟩
    match i, hi with
    | 0, _ => rfl
    | 1, _ => rfl
    | 2, _ => rfl
  · intro b off e hl
    obtain ⟨b', off', e', hb, _⟩ := hL.at_ hl
    have : some (⟨b, off, none⟩ : Addr) = some ⟨b', off', none⟩ := e.symm.trans e'
    injection this with this
    injection this with e1 _ _
    omega
  · show M.inSet s.hx k = _
    unfold M.inSet
    rw [hx]; simp [Rf.new]
/-- A heap is made on both sides. -/
def MadeOk (w : World) (n : Nat) (e : Ending) (w' : World) : Prop := ∃ s x, e = .returned (.tuple #[s.ptr, x.ptr]) ∧ Both w w' s x ∧ s.n = n ∧ x.L.length ≤ 200
def MadeAt (w : World) (n len : Nat) (K N : Nat → Int) (e : Ending) (w' : World) : Prop := ∃ s x, e = .returned (.tuple #[s.ptr, x.ptr]) ∧ Both w w' s x ∧ s.n = n ∧ x.L.length ≤ 200 ∧ s.m = len ∧ s.lk = K ∧ s.ln = N
set_option maxRecDepth 100000 in
set_option maxHeartbeats 4000000 in
theorem made_at (n : Nat) (a : Option Addr) (len cap : Nat) (K N : Nat → Int) (A : Option Addr) (m mc : Nat) (F : Nat → OpR) (w : World) (hn : n ≤ 4000) (hl : len ≤ 512) (hL : Lays w a len K N) (hg : ∀ j, j < len → M.mayBe (K j) (N j) = true) (hA : Ops w A m F) (hmc : m ≤ mc) (hmm : mc ≤ maxLen) :
    Calls Try.prog 6 #[.int .i64 n, .slice a len cap, .slice A m mc] w (MadeAt w n len K N) := by
  have HN := new_ok n a len cap K N w (by omega) hl hL hg
  have HL := Lib.hid hL
  have HG := Lib.hid hg
  have HF := fun W => few_any A m mc W hmc hmm
  have HOPS := Lib.hid (hA.less (show min m 200 ≤ m by omega))
  obtain ⟨q, hq⟩ : ∃ q, min m 200 = q := ⟨_, rfl⟩
  rw [hq] at HF HOPS
  have hq2 : q ≤ 200 := by omega
  unfold MadeAt
  clear hL hg hA hq hmm hmc
  go_enter Try.func6, Try.ntmps6
  go_wp2_with fail
  refine HN.mono ?_; rintro e w1 ⟨s, rfl, hs, t1, g1, g2, g3, sn, st, sw, sx, sm, sk, sN⟩
  have HS := Lib.hid hs
  have HT := Lib.hid t1
  have HX := Lib.hid (And.intro g1 (And.intro g2 (And.intro sn (And.intro st (And.intro sw (And.intro sx (And.intro sm (And.intro sk sN))))))))
  clear hs t1 g1 g2 g3 sn st sw sx sm sk sN HN
  go_wp2_with fail
  refine (check_all n a len cap K N true w1 (by omega) hl (HL.out.still HT.out) ⟨fun _ => HG.out, fun _ => rfl⟩).mono ?_; rintro e w2 ⟨rfl, t2⟩
  have HB := Lib.hid (both_start (cap := cap) (HS.out.still t2) (HT.out.trans t2) HX.out.1 HX.out.2.1 HX.out.2.2.1 HX.out.2.2.2.1 HX.out.2.2.2.2.1 HX.out.2.2.2.2.2.1 HX.out.2.2.2.2.2.2.1 HX.out.2.2.2.2.2.2.2.1 HX.out.2.2.2.2.2.2.2.2 HL.out)
  have hsn := HX.out.2.2.1
  have HSN := Lib.hid hsn
  have HSM := Lib.hid (And.intro HX.out.2.2.2.2.2.2.1 (And.intro HX.out.2.2.2.2.2.2.2.1 HX.out.2.2.2.2.2.2.2.2))
  clear t2 hsn
  go_wp2_with fail
  refine (HF _).mono ?_; rintro e w3 ⟨rfl, rfl⟩
  generalize (w2.alloc (.cells #[.int .i64 n, .slice a len cap, .slice none 0 0] 39)) = W at HB ⊢
  obtain ⟨x0, hx0⟩ : ∃ x0, x0 = Rf.new w2.heap.size n a len cap K N := ⟨_, rfl⟩
  have hgx : w2.heap.size = x0.gx := by rw [hx0]; rfl
  rw [← hx0] at HB
  have hl0 : x0.L.length = 0 := by rw [hx0]; rfl
  have HL0 := Lib.hid hl0
  rw [hgx]
  clear hx0 hgx hl0
  go_wp2_with fail
  go_loopw [45] (fun v wr => ∃ (j : Nat) (s' : St) (x' : Rf), v = .int .i64 j ∧ j ≤ q ∧ Both w wr s' x' ∧ s'.g = s.g ∧ x'.gx = x0.gx ∧ s'.n = n ∧ x'.L.length ≤ j ∧ s'.m = len ∧ s'.lk = K ∧ s'.ln = N) (fun v _ => q - (intOf v).toNat)
  case atStart => exact ⟨0, s, x0, rfl, by omega, HB.out, rfl, rfl, HSN.out, by rw [HL0.out]; exact Nat.le_refl _, HSM.out.1, HSM.out.2.1, HSM.out.2.2⟩
  case round =>
    obtain ⟨j, s', x', rfl, hj, hb, hsg, hxg, hsn, hxl, hml⟩ := hrel
    have HML := Lib.hid hml
    clear hml
    by_cases hjq : j < q
    · obtain ⟨b, off, hAe, hbl, hc⟩ := (HOPS.out.below hb.below).at_ (by omega)
      obtain ⟨hok, d0, d1, d2, d3, d4⟩ := hc j hjq
      subst hAe
      have HB2 := Lib.hid hb
      have hgxl := hb.rf.blk.lt
      have c2 : wr.cell? ⟨x'.gx, 2, none⟩ = some x'.lv := hb.rf.c2
      obtain ⟨la, lc, hlv⟩ := hb.rf.lv_slice
      rw [hlv] at c2
      have HD := does_any (hb.still ((Still.refl wr).alloc (.cells #[.int .i64 (F j).k, .int .i64 (F j).a, .int .i64 (F j).b, .int .u64 (F j).v, .bool (F j).near] 64))) (F j) hok (by omega)
      unfold OpR.val St.ptr Rf.ptr at HD
      rw [hsg, hxg] at HD
      rw [hxg] at c2 hgxl
      have hgb : b < wr.heap.size := hbl
      generalize F j = oo at hok d0 d1 d2 d3 d4 HD
      obtain ⟨okk, oa, ob, ov, on⟩ := oo
      simp only at d0 d1 d2 d3 d4 HD
      have HDD := Lib.hid HD
      have HEQ := Lib.hid (And.intro hsg (And.intro hxg (And.intro hsn hxl)))
      have few : x'.L.length ≤ 200 := by omega
      clear hc hb hlv hok HD hsg hxg hsn hxl
      by_cases hk1 : okk = 1
      · subst hk1
        by_cases h150 : x'.L.length < 150
        · go_wp2_with fail
          refine HDD.out.mono ?_; rintro e w4 ⟨rfl, s2, x2, hb2, e1, e2, e3, e4, e5⟩
          have HB3 := Lib.hid hb2
          have HE := Lib.hid (And.intro e1 (And.intro e2 (And.intro e3 e4)))
          have HEM := Lib.hid (And.intro (e5.2.1.trans HML.out.1) (And.intro (e5.2.2.1.trans HML.out.2.1) (e5.2.2.2.trans HML.out.2.2)))
          clear hb2 e1 e2 e3 e4 e5
          go_wp2_with fail
          go_roundw
          case rel => exact ⟨j + 1, s2, x2, by go_num, by omega, HB3.out, HE.out.1.trans HEQ.out.1, HE.out.2.1.trans HEQ.out.2.1, HE.out.2.2.1.trans HEQ.out.2.2.1, by have := HE.out.2.2.2; have := HEQ.out.2.2.2; omega, HEM.out.1, HEM.out.2.1, HEM.out.2.2⟩
          case measure => simp [intOf]; omega
        · have hge : 150 ≤ x'.L.length := by omega
          clear h150
          go_wp2_with fail
          go_roundw
          case rel => exact ⟨j + 1, s', x', by go_num, by omega, HB2.out.still ((Still.refl wr).alloc _), HEQ.out.1, HEQ.out.2.1, HEQ.out.2.2.1, by have := HEQ.out.2.2.2; omega, HML.out.1, HML.out.2.1, HML.out.2.2⟩
          case measure => simp [intOf]; omega
      · have hkf : ((okk : Int) != 1) = true := by simpa using hk1
        go_wp2_with fail
        refine HDD.out.mono ?_; rintro e w4 ⟨rfl, s2, x2, hb2, e1, e2, e3, e4, e5⟩
        have HB3 := Lib.hid hb2
        have HE := Lib.hid (And.intro e1 (And.intro e2 (And.intro e3 e4)))
        have HEM := Lib.hid (And.intro (e5.2.1.trans HML.out.1) (And.intro (e5.2.2.1.trans HML.out.2.1) (e5.2.2.2.trans HML.out.2.2)))
        clear hb2 e1 e2 e3 e4 e5
        go_wp2_with fail
        go_roundw
        case rel => exact ⟨j + 1, s2, x2, by go_num, by omega, HB3.out, HE.out.1.trans HEQ.out.1, HE.out.2.1.trans HEQ.out.2.1, HE.out.2.2.1.trans HEQ.out.2.2.1, by have := HE.out.2.2.2; have := HEQ.out.2.2.2; omega, HEM.out.1, HEM.out.2.1, HEM.out.2.2⟩
        case measure => simp [intOf]; omega
    · have HB2 := Lib.hid hb
      have HEQ := Lib.hid (And.intro hsg (And.intro hxg (And.intro hsn hxl)))
      clear hb hsg hxg hsn hxl
      go_wp2_with fail
      go_ret2
      refine ⟨s', x', ?_, HB2.out, HEQ.out.2.2.1, by have := HEQ.out.2.2.2; omega, HML.out.1, HML.out.2.1, HML.out.2.2⟩
      show Ending.returned (.tuple #[.pointer (some ⟨s.g, 0, none⟩), .pointer (some ⟨x0.gx, 0, none⟩)]) = .returned (.tuple #[.pointer (some ⟨s'.g, 0, none⟩), .pointer (some ⟨x'.gx, 0, none⟩)])
      rw [HEQ.out.1, HEQ.out.2.1]
theorem made_ok (n : Nat) (a : Option Addr) (len cap : Nat) (K N : Nat → Int) (A : Option Addr) (m mc : Nat) (F : Nat → OpR) (w : World) (hn : n ≤ 4000) (hl : len ≤ 512) (hL : Lays w a len K N) (hg : ∀ j, j < len → M.mayBe (K j) (N j) = true) (hA : Ops w A m F) (hmc : m ≤ mc) (hmm : mc ≤ maxLen) :
    Calls Try.prog 6 #[.int .i64 n, .slice a len cap, .slice A m mc] w (MadeOk w n) :=
  (made_at n a len cap K N A m mc F w hn hl hL hg hA hmc hmm).mono fun _ _ ⟨s, x, h1, h2, h3, h4, _⟩ => ⟨s, x, h1, h2, h3, h4⟩
end Go.Proofs.Ythfkgkddklnnhaa
/- Made of more words than it may have: it has 4000; of less than none: there is none. -/
namespace Go.Proofs.Ythfkgkddklnnhaa
set_option linter.unusedVariables false
open Go.ChangeShapes Go.WideShapes Go.ChangeAt Go.RowKit
open M (W)

theorem made_big4 (n0 : Int) (a : Option Addr) (len cap : Nat) (A : Option Addr) (m mc : Nat) (w : World) (h4 : 4000 < n0) (h5 : n0 ≤ 9223372036854775807) (hl : 512 < len) (hc : len ≤ cap) (hm : cap ≤ maxLen) :
    Calls Try.prog 6 #[.int .i64 n0, .slice a len cap, .slice A m mc] w (MadeNil w) := by
  unfold MadeNil
  unfold maxLen at hm
  by_cases h6 : 600 < len
  · have hc6 : 600 ≤ cap := by omega
    have HN := new_big 4000 a 600 cap w (by omega) (by decide)
    go_enter Try.func6, Try.ntmps6
    go_wp2_with fail
    refine HN.mono ?_; rintro e w ⟨rfl, rfl⟩
    go_wp2_with fail
    go_ret2
    exact ⟨rfl, Still.refl _⟩
  · have HN := new_big 4000 a len cap w (by omega) hl
    go_enter Try.func6, Try.ntmps6
    go_wp2_with fail
    refine HN.mono ?_; rintro e w ⟨rfl, rfl⟩
    go_wp2_with fail
    go_ret2
    exact ⟨rfl, Still.refl _⟩
theorem made_bad4 (n0 : Int) (a : Option Addr) (len cap : Nat) (K N : Nat → Int) (A : Option Addr) (m mc : Nat) (w : World) (h4 : 4000 < n0) (h5 : n0 ≤ 9223372036854775807) (hl : len ≤ 512) (hL : Lays w a len K N) (hb : ¬ ∀ j, j < len → M.mayBe (K j) (N j) = true) :
    Calls Try.prog 6 #[.int .i64 n0, .slice a len cap, .slice A m mc] w (MadeNil w) := by
  unfold MadeNil
  have HN := new_bad 4000 a len cap K N w (by omega) hl hL hb
  clear hL hb
  go_enter Try.func6, Try.ntmps6
  go_wp2_with fail
  refine HN.mono ?_; rintro e w1 ⟨rfl, t1⟩
  have HT := Lib.hid t1; clear t1
  go_wp2_with fail
  go_ret2
  exact ⟨rfl, HT.out⟩

set_option maxRecDepth 100000 in
set_option maxHeartbeats 4000000 in
theorem made_ok4 (n0 : Int) (a : Option Addr) (len cap : Nat) (K N : Nat → Int) (A : Option Addr) (m mc : Nat) (F : Nat → OpR) (w : World) (h4 : 4000 < n0) (h5 : n0 ≤ 9223372036854775807) (hl : len ≤ 512) (hL : Lays w a len K N) (hg : ∀ j, j < len → M.mayBe (K j) (N j) = true) (hA : Ops w A m F) (hmc : m ≤ mc) (hmm : mc ≤ maxLen) :
    Calls Try.prog 6 #[.int .i64 n0, .slice a len cap, .slice A m mc] w (MadeOk w 4000) := by
  have HN := new_ok 4000 a len cap K N w (by omega) hl hL hg
  have HL := Lib.hid hL
  have HG := Lib.hid hg
  have HF := fun W => few_any A m mc W hmc hmm
  have HOPS := Lib.hid (hA.less (show min m 200 ≤ m by omega))
  obtain ⟨q, hq⟩ : ∃ q, min m 200 = q := ⟨_, rfl⟩
  rw [hq] at HF HOPS
  have hq2 : q ≤ 200 := by omega
  unfold MadeOk
  clear hL hg hA hq hmm hmc
  go_enter Try.func6, Try.ntmps6
  go_wp2_with fail
  refine HN.mono ?_; rintro e w1 ⟨s, rfl, hs, t1, g1, g2, g3, sn, st, sw, sx, sm, sk, sN⟩
  have HS := Lib.hid hs
  have HT := Lib.hid t1
  have HX := Lib.hid (And.intro g1 (And.intro g2 (And.intro sn (And.intro st (And.intro sw (And.intro sx (And.intro sm (And.intro sk sN))))))))
  clear hs t1 g1 g2 g3 sn st sw sx sm sk sN HN
  go_wp2_with fail
  refine (check_all 4000 a len cap K N true w1 (by omega) hl (HL.out.still HT.out) ⟨fun _ => HG.out, fun _ => rfl⟩).mono ?_; rintro e w2 ⟨rfl, t2⟩
  have HB := Lib.hid (both_start (cap := cap) (HS.out.still t2) (HT.out.trans t2) HX.out.1 HX.out.2.1 HX.out.2.2.1 HX.out.2.2.2.1 HX.out.2.2.2.2.1 HX.out.2.2.2.2.2.1 HX.out.2.2.2.2.2.2.1 HX.out.2.2.2.2.2.2.2.1 HX.out.2.2.2.2.2.2.2.2 HL.out)
  have hsn := HX.out.2.2.1
  have HSN := Lib.hid hsn
  clear t2 hsn
  go_wp2_with fail
  refine (HF _).mono ?_; rintro e w3 ⟨rfl, rfl⟩
  generalize (w2.alloc (.cells #[.int .i64 4000, .slice a len cap, .slice none 0 0] 39)) = W at HB ⊢
  obtain ⟨x0, hx0⟩ : ∃ x0, x0 = Rf.new w2.heap.size 4000 a len cap K N := ⟨_, rfl⟩
  have hgx : w2.heap.size = x0.gx := by rw [hx0]; rfl
  rw [← hx0] at HB
  have hl0 : x0.L.length = 0 := by rw [hx0]; rfl
  have HL0 := Lib.hid hl0
  rw [hgx]
  clear hx0 hgx hl0
  go_wp2_with fail
  go_loopw [45] (fun v wr => ∃ (j : Nat) (s' : St) (x' : Rf), v = .int .i64 j ∧ j ≤ q ∧ Both w wr s' x' ∧ s'.g = s.g ∧ x'.gx = x0.gx ∧ s'.n = 4000 ∧ x'.L.length ≤ j) (fun v _ => q - (intOf v).toNat)
  case atStart => exact ⟨0, s, x0, rfl, by omega, HB.out, rfl, rfl, HSN.out, by rw [HL0.out]; exact Nat.le_refl _⟩
  case round =>
    obtain ⟨j, s', x', rfl, hj, hb, hsg, hxg, hsn, hxl⟩ := hrel
    by_cases hjq : j < q
    · obtain ⟨b, off, hAe, hbl, hc⟩ := (HOPS.out.below hb.below).at_ (by omega)
      obtain ⟨hok, d0, d1, d2, d3, d4⟩ := hc j hjq
      subst hAe
      have HB2 := Lib.hid hb
      have hgxl := hb.rf.blk.lt
      have c2 : wr.cell? ⟨x'.gx, 2, none⟩ = some x'.lv := hb.rf.c2
      obtain ⟨la, lc, hlv⟩ := hb.rf.lv_slice
      rw [hlv] at c2
      have HD := does_any (hb.still ((Still.refl wr).alloc (.cells #[.int .i64 (F j).k, .int .i64 (F j).a, .int .i64 (F j).b, .int .u64 (F j).v, .bool (F j).near] 64))) (F j) hok (by omega)
      unfold OpR.val St.ptr Rf.ptr at HD
      rw [hsg, hxg] at HD
      rw [hxg] at c2 hgxl
      have hgb : b < wr.heap.size := hbl
      generalize F j = oo at hok d0 d1 d2 d3 d4 HD
      obtain ⟨okk, oa, ob, ov, on⟩ := oo
      simp only at d0 d1 d2 d3 d4 HD
      have HDD := Lib.hid HD
      have HEQ := Lib.hid (And.intro hsg (And.intro hxg (And.intro hsn hxl)))
      have few : x'.L.length ≤ 200 := by omega
      clear hc hb hlv hok HD hsg hxg hsn hxl
      by_cases hk1 : okk = 1
      · subst hk1
        by_cases h150 : x'.L.length < 150
        · go_wp2_with fail
          refine HDD.out.mono ?_; rintro e w4 ⟨rfl, s2, x2, hb2, e1, e2, e3, e4, e5⟩
          have HB3 := Lib.hid hb2
          have HE := Lib.hid (And.intro e1 (And.intro e2 (And.intro e3 e4)))
          clear hb2 e1 e2 e3 e4 e5
          go_wp2_with fail
          go_roundw
          case rel => exact ⟨j + 1, s2, x2, by go_num, by omega, HB3.out, HE.out.1.trans HEQ.out.1, HE.out.2.1.trans HEQ.out.2.1, HE.out.2.2.1.trans HEQ.out.2.2.1, by have := HE.out.2.2.2; have := HEQ.out.2.2.2; omega⟩
          case measure => simp [intOf]; omega
        · have hge : 150 ≤ x'.L.length := by omega
          clear h150
          go_wp2_with fail
          go_roundw
          case rel => exact ⟨j + 1, s', x', by go_num, by omega, HB2.out.still ((Still.refl wr).alloc _), HEQ.out.1, HEQ.out.2.1, HEQ.out.2.2.1, by have := HEQ.out.2.2.2; omega⟩
          case measure => simp [intOf]; omega
      · have hkf : ((okk : Int) != 1) = true := by simpa using hk1
        go_wp2_with fail
        refine HDD.out.mono ?_; rintro e w4 ⟨rfl, s2, x2, hb2, e1, e2, e3, e4, e5⟩
        have HB3 := Lib.hid hb2
        have HE := Lib.hid (And.intro e1 (And.intro e2 (And.intro e3 e4)))
        clear hb2 e1 e2 e3 e4 e5
        go_wp2_with fail
        go_roundw
        case rel => exact ⟨j + 1, s2, x2, by go_num, by omega, HB3.out, HE.out.1.trans HEQ.out.1, HE.out.2.1.trans HEQ.out.2.1, HE.out.2.2.1.trans HEQ.out.2.2.1, by have := HE.out.2.2.2; have := HEQ.out.2.2.2; omega⟩
        case measure => simp [intOf]; omega
    · have HB2 := Lib.hid hb
      have HEQ := Lib.hid (And.intro hsg (And.intro hxg (And.intro hsn hxl)))
      clear hb hsg hxg hsn hxl
      go_wp2_with fail
      go_ret2
      refine ⟨s', x', ?_, HB2.out, HEQ.out.2.2.1, by have := HEQ.out.2.2.2; omega⟩
      show Ending.returned (.tuple #[.pointer (some ⟨s.g, 0, none⟩), .pointer (some ⟨x0.gx, 0, none⟩)]) = .returned (.tuple #[.pointer (some ⟨s'.g, 0, none⟩), .pointer (some ⟨x'.gx, 0, none⟩)])
      rw [HEQ.out.1, HEQ.out.2.1]
theorem made_neg (n0 : Int) (a : Option Addr) (len cap : Nat) (A : Option Addr) (m mc : Nat) (w : World) (hn : n0 < 0) (hl0 : -9223372036854775808 ≤ n0) (hc : len ≤ cap) (hm : cap ≤ maxLen) :
    Calls Try.prog 6 #[.int .i64 n0, .slice a len cap, .slice A m mc] w (MadeNil w) := by
  unfold MadeNil
  unfold maxLen at hm
  have h4 : ¬ 4000 < n0 := by omega
  have h4' : n0 < 4000 := by omega
  by_cases h6 : 600 < len
  · have hc6 : 600 ≤ cap := by omega
    have HN := new_arg n0 a 600 cap w (.inl hn)
    go_enter Try.func6, Try.ntmps6
    go_wp2_with fail
    refine HN.mono ?_; rintro e w ⟨rfl, rfl⟩
    go_wp2_with fail
    go_ret2
    exact ⟨rfl, Still.refl _⟩
  · have HN := new_arg n0 a len cap w (.inl hn)
    go_enter Try.func6, Try.ntmps6
    go_wp2_with fail
    refine HN.mono ?_; rintro e w ⟨rfl, rfl⟩
    go_wp2_with fail
    go_ret2
    exact ⟨rfl, Still.refl _⟩
/-- Of any number of words: nothing, or both. -/
theorem made_any (n0 : Int) (a : Option Addr) (len cap : Nat) (K N : Nat → Int) (A : Option Addr) (m mc : Nat) (F : Nat → OpR) (w : World) (h1 : -9223372036854775808 ≤ n0) (h2 : n0 ≤ 9223372036854775807) (hc : len ≤ cap) (hm : cap ≤ maxLen) (hL : Lays w a len K N) (hA : Ops w A m F) (hmc : m ≤ mc) (hmm : mc ≤ maxLen) :
    Calls Try.prog 6 #[.int .i64 n0, .slice a len cap, .slice A m mc] w (MadeNil w) ∨ ∃ n : Nat, n ≤ 4000 ∧ Calls Try.prog 6 #[.int .i64 n0, .slice a len cap, .slice A m mc] w (MadeOk w n) := by
  by_cases hn : n0 < 0
  · exact .inl (made_neg n0 a len cap A m mc w hn h1 hc hm)
  obtain ⟨n, rfl⟩ := Int.eq_ofNat_of_zero_le (show 0 ≤ n0 by omega)
  by_cases h4 : 4000 < (n : Int)
  · by_cases hl : 512 < len
    · exact .inl (made_big4 n a len cap A m mc w h4 h2 hl hc hm)
    · by_cases hg : ∀ j, j < len → M.mayBe (K j) (N j) = true
      · exact .inr ⟨4000, Nat.le_refl _, made_ok4 n a len cap K N A m mc F w h4 h2 (by omega) hL hg hA hmc hmm⟩
      · exact .inl (made_bad4 n a len cap K N A m mc w h4 h2 (by omega) hL hg)
  · by_cases hl : 512 < len
    · exact .inl (made_big n a len cap A m mc w (by omega) hl hc hm)
    · by_cases hg : ∀ j, j < len → M.mayBe (K j) (N j) = true
      · exact .inr ⟨n, by omega, made_ok n a len cap K N A m mc F w (by omega) (by omega) hL hg hA hmc hmm⟩
      · exact .inl (made_bad n a len cap K N A m mc w (by omega) (by omega) hL hg)
end Go.Proofs.Ythfkgkddklnnhaa
/- The laws' calls as arguments: a slice of them, one by value. -/
namespace Go.Proofs.Ythfkgkddklnnhaa
set_option linter.unusedVariables false
open Go.ChangeShapes Go.WideShapes Go.ChangeAt Go.RowKit Go.Deep

def OpR.cells (o : OpR) : List Value := [.int .i64 o.k, .int .i64 o.a, .int .i64 o.b, .int .u64 o.v, .bool o.near]
theorem cells3 : Try.prog.cellsOf 3 = 1 := by kernel_rfl
theorem cells47 : Try.prog.cellsOf 33 = 1 := by kernel_rfl
theorem cells4 : Try.prog.cellsOf 4 = 1 := by kernel_rfl
theorem cells49 : Try.prog.cellsOf 64 = 5 := by kernel_rfl
theorem list5 {α : Type} : ∀ (l : List α), l.length = 5 → ∃ a b c d e, l = [a, b, c, d, e]
  | [a, b, c, d, e], _ => ⟨a, b, c, d, e, rfl⟩
theorem op_cells {H : Type} {enc : TypeId × Value → H} {w : World} {base : Nat} {spare : Nat → Bool} {held : Bool} {fuel : Nat} {cs : List Value} {x : DataW H × List MemPlace}
    (h : DataW.trod enc Try.prog w base spare held fuel 64 cs = some x) : ∃ o : OpR, o.ok ∧ cs = o.cells := by
  obtain ⟨xs, n, _, _, hlen, hxl, hg⟩ := DataW.trod_struct Try.underlying64 h
  rw [cells49] at hlen
  obtain ⟨c0, c1, c2, c3, c4, rfl⟩ := list5 cs hlen
  have hx : ∀ i, i < 5 → ∃ y, xs[i]? = some y := fun i hi => ⟨_, List.getElem?_eq_getElem (by rw [hxl]; exact hi)⟩
  obtain ⟨y0, g0⟩ := hx 0 (by decide)
  obtain ⟨y1, g1⟩ := hx 1 (by decide)
  obtain ⟨y2, g2⟩ := hx 2 (by decide)
  obtain ⟨y3, g3⟩ := hx 3 (by decide)
  obtain ⟨y4, g4⟩ := hx 4 (by decide)
  have h0 := (hg 0 _ rfl).trans g0
  have h1 := (hg 1 _ rfl).trans g1
  have h2 := (hg 2 _ rfl).trans g2
  have h3 := (hg 3 _ rfl).trans g3
  have h4 := (hg 4 _ rfl).trans g4
  simp only [List.getElem_toArray, List.getElem_cons_zero, List.getElem_cons_succ, cells3, cells47, cells4, List.drop_zero, List.drop_succ_cons, List.take_succ_cons, List.take_zero] at h0 h1 h2 h3 h4
  obtain ⟨k, e0, _, _⟩ := DataW.trod_int Try.underlying3 h0
  obtain ⟨a, e1, _, w1⟩ := DataW.trod_int Try.underlying3 h1
  obtain ⟨b, e2, _, _⟩ := DataW.trod_int Try.underlying3 h2
  obtain ⟨v, e3, _, w3⟩ := DataW.trod_int Try.underlying33 h3
  obtain ⟨near, e4, _⟩ := DataW.trod_bool Try.underlying4 h4
  simp only [List.cons.injEq, and_true] at e0 e1 e2 e3 e4
  have w1' : -9223372036854775808 ≤ a ∧ a ≤ 9223372036854775807 := by simpa [Lit.wf, IntKind.min, IntKind.max, IntKind.signed, IntKind.bits] using w1
  have w3' : 0 ≤ v ∧ v ≤ 18446744073709551615 := by simpa [Lit.wf, IntKind.min, IntKind.max, IntKind.signed, IntKind.bits] using w3
  obtain ⟨u, rfl⟩ := Int.eq_ofNat_of_zero_le w3'.1
  exact ⟨⟨k, a, b, u, near⟩, ⟨w1'.1, by show u < _; omega⟩, by rw [e0, e1, e2, e3, e4]; rfl⟩
structure IsOps (w : World) (a : Option Addr) (len cap : Nat) (F : Nat → OpR) : Prop where
  le : len ≤ cap
  cap_le : cap ≤ maxLen
  ops : Ops w a len F
theorem open_ops {H : Type} {enc : TypeId × Value → H} {w : World} {fuel : Nat} {a : Option Addr} {len cap : Nat} {x : DataW H × List MemPlace}
    (h : DataW.trod enc Try.prog w 0 (fun _ => true) true fuel 23 [.slice a len cap] = some x) : ∃ F, IsOps w a len cap F := by
  rcases open_slice Try.underlying23 h with ⟨hcs, _⟩ | ⟨ad, l, c, m, n, D, Pl, hcs, _, hl, hm, hmm, hx, hi⟩
  · simp at hcs
    obtain ⟨rfl, rfl, rfl⟩ := hcs
    exact ⟨fun _ => ⟨0, 0, 0, 0, false⟩, Nat.le_refl _, Nat.zero_le _, ⟨fun h => absurd h (Nat.lt_irrefl _)⟩⟩
  · simp at hcs
    obtain ⟨rfl, rfl, rfl⟩ := hcs
    simp at hmm
    subst hmm
    have hk : ∀ i, ∃ o : OpR, i < m → o.ok ∧ ∀ j, j < 5 → w.cell? (ad.add (i * 5 + j)) = o.cells[j]? := by
      intro i
      by_cases him : i < m
      · obtain ⟨cs', hc, ht⟩ := hi i him
        obtain ⟨o, hok, rfl⟩ := op_cells ht
        rw [cells49] at hc
        obtain ⟨_, _, hat⟩ := World.cells?_some hc
        refine ⟨o, fun _ => ⟨hok, fun j hj => ?_⟩⟩
        rw [← add_add]
        exact hat j hj
      · exact ⟨⟨0, 0, 0, 0, false⟩, fun h => absurd h him⟩
    refine ⟨fun i => Classical.choose (hk i), hl, hm, ⟨fun h0 => ?_⟩⟩
    have hs := fun i => Classical.choose_spec (hk i)
    obtain ⟨b, off, spot⟩ := ad
    have c0 := (hs 0 (by omega)).2 0 (by decide)
    have hspot : spot = none := by
      have c0' : w.cell? ((⟨b, off, spot⟩ : Addr).add (0 * 5 + 0)) = some (.int .i64 (Classical.choose (hk 0)).k) := c0
      simpa [Addr.add] using World.cell?_spot c0'
    subst hspot
    refine ⟨b, off, rfl, World.block_lt_of_cell? w ⟨b, off + (0 * 5 + 0), none⟩ (u := .int .i64 (Classical.choose (hk 0)).k) (by rw [← Go.WideShapes.add_plain]; exact c0), fun i him => ?_⟩
    obtain ⟨hok, hc⟩ := hs i (by omega)
    have key := fun j hj => by
      have := hc j hj
      rw [Go.WideShapes.add_plain, ← Nat.add_assoc] at this
      exact this
    exact ⟨hok, key 0 (by decide), key 1 (by decide), key 2 (by decide), key 3 (by decide), key 4 (by decide)⟩
end Go.Proofs.Ythfkgkddklnnhaa
/- A row of the call's own from which elements are taken in front, and to which others are appended. No program in sight. -/
namespace Go.Proofs.Ythfkgkddklnnhaa
set_option linter.unusedVariables false
open Go.RowKit
variable {P : Program}

/-- A slice of one-cell elements xs anywhere in a row of the call's own. -/
def Que (w : World) (base : Nat) (e : TypeId) (a : Option Addr) (n c : Nat) (xs : List Value) : Prop :=
  xs.length = n ∧ n ≤ c ∧ c ≤ maxLen ∧ ((a = none ∧ c = 0) ∨ ∃ g off cur, a = some ⟨g, off, none⟩ ∧ base ≤ g ∧ w.heap[g]? = some (.cells cur e (0, 0)) ∧ off + c ≤ cur.size ∧ (cur.toList.drop off).take n = xs)
theorem Que.of_own {w : World} {base : Nat} {e : TypeId} {a : Option Addr} {n c : Nat} {xs : List Value} (h : w.ownsRow base e 1 (.slice a n c) n xs) : Que w base e a n c xs := by
  obtain ⟨h1, h2, _⟩ := own_le h
  have hl := h.1
  rw [Nat.mul_one] at hl
  refine ⟨hl, h1, h2, ?_⟩
  rcases h.2 with ⟨h3, h4⟩ | ⟨g, cap, cur, h3, hb, hg, hnc, hcm, hcs, ht⟩
  · injection h3 with e1 e2 e3
    exact .inl ⟨e1, e3⟩
  · injection h3 with e1 e2 e3
    subst e3
    refine .inr ⟨g, 0, cur, e1, hb, hg, by omega, ?_⟩
    rw [Nat.mul_one] at ht; rw [List.drop_zero]; exact ht
theorem Que.nil (w : World) (base : Nat) (e : TypeId) : Que w base e none 0 0 [] := ⟨rfl, Nat.le_refl _, by unfold maxLen; omega, .inl ⟨rfl, rfl⟩⟩
theorem Que.cells {w : World} {base : Nat} {e : TypeId} {g off n c : Nat} {xs : List Value} (h : Que w base e (some ⟨g, off, none⟩) n c xs) : ∀ j u, xs[j]? = some u → w.cell? ((⟨g, off, none⟩ : Addr).add j) = some u := by
  obtain ⟨hl, hn, hc, ⟨h1, _⟩ | ⟨g', off', cur, h1, hb, hg, hs, ht⟩⟩ := h
  · simp at h1
  · injection h1 with h1; injection h1 with e1 e2
    subst e1; subst e2
    intro j u hj
    have hjl : j < xs.length := (List.getElem?_eq_some_iff.1 hj).1
    rw [Addr.add_lit]
    rw [cell_of_row w g (off + j) cur e (0, 0) hg]
    rw [← ht, List.getElem?_take, if_pos (by omega), List.getElem?_drop] at hj
    rw [← hj, Array.getElem?_toList]
/-- Its first element. -/
theorem Que.head {w : World} {base : Nat} {e : TypeId} {a : Option Addr} {n c : Nat} {x : Value} {xs : List Value} (h : Que w base e a n c (x :: xs)) : ∃ g off, a = some ⟨g, off, none⟩ ∧ base ≤ g ∧ g < w.heap.size ∧ 0 < n ∧ w.cell? ⟨g, off, none⟩ = some x := by
  have h' := h
  obtain ⟨hl, hn, hc, ⟨h1, h2⟩ | ⟨g, off, cur, h1, hb, hg, hs, ht⟩⟩ := h
  · simp only [List.length_cons] at hl; omega
  · subst h1
    refine ⟨g, off, rfl, hb, (Array.getElem?_eq_some_iff.1 hg).1, by simp only [List.length_cons] at hl; omega, ?_⟩
    have := h'.cells 0 x (by simp)
    simpa [Addr.add] using this
/-- The others. -/
theorem Que.tail {w : World} {base : Nat} {e : TypeId} {g off n c : Nat} {x : Value} {xs : List Value} (h : Que w base e (some ⟨g, off, none⟩) (n + 1) c (x :: xs)) : Que w base e (some ⟨g, off + 1, none⟩) n (c - 1) xs := by
  obtain ⟨hl, hn, hc, ⟨h1, _⟩ | ⟨g', off', cur, h1, hb, hg, hs, ht⟩⟩ := h
  · simp at h1
  · injection h1 with h1; injection h1 with e1 e2
    subst e1; subst e2
    refine ⟨by simpa using hl, by omega, by omega, .inr ⟨g, off + 1, cur, rfl, hb, hg, by omega, ?_⟩⟩
    have hsz : off < cur.toList.length := by rw [Array.length_toList]; omega
    rw [List.drop_eq_getElem_cons hsz, List.take_succ_cons] at ht
    injection ht
/-- As Go slices: a slice that holds no more keeps its address. -/
theorem Que.rest {w : World} {base : Nat} {e : TypeId} {g off n c : Nat} {x : Value} {xs : List Value} (h : Que w base e (some ⟨g, off, none⟩) (n + 1) c (x :: xs)) : Que w base e (if c = 1 then some ⟨g, off, none⟩ else some ⟨g, off + 1, none⟩) n (c - 1) xs := by
  by_cases hc1 : c = 1
  · rw [if_pos hc1]
    obtain ⟨hl, hn, hc, ⟨h1, _⟩ | ⟨g', off', cur, h1, hb, hg, hs, ht⟩⟩ := h
    · simp at h1
    · injection h1 with h1; injection h1 with e1 e2
      subst e1; subst e2
      obtain rfl : n = 0 := by omega
      have hx : xs = [] := List.eq_nil_of_length_eq_zero (by simpa using hl)
      subst hx
      exact ⟨rfl, Nat.zero_le _, by omega, .inr ⟨g, off, cur, rfl, hb, hg, by omega, by simp⟩⟩
  · rw [if_neg hc1]
    exact h.tail
theorem Que.keep {w w' : World} {base : Nat} {e : TypeId} {a : Option Addr} {n c : Nat} {xs : List Value} {S : Nat → Prop} (h : Que w base e a n c xs) (t : Turn S w w') (hs : ∀ g off, a = some ⟨g, off, none⟩ → ¬ S g) : Que w' base e a n c xs := by
  obtain ⟨hl, hn, hc, h1 | ⟨g, off, cur, h1, hb, hg, hs2, ht⟩⟩ := h
  · exact ⟨hl, hn, hc, .inl h1⟩
  · exact ⟨hl, hn, hc, .inr ⟨g, off, cur, h1, hb, (t.block g (Array.getElem?_eq_some_iff.1 hg).1 (hs g off h1)).trans hg, hs2, ht⟩⟩
theorem Que.still {w w' : World} {base : Nat} {e : TypeId} {a : Option Addr} {n c : Nat} {xs : List Value} (h : Que w base e a n c xs) (t : Still w w') : Que w' base e a n c xs := h.keep t fun _ _ _ e => e
/-- A block of another type is none of its. -/
theorem Que.ne {w : World} {base : Nat} {e t : TypeId} {a : Option Addr} {n c m k : Nat} {f : Nat → Value} {xs : List Value} (h : Que w base e a n c xs) (hr : w.rowIs k t m f) (hne : e ≠ t) : ∀ g off, a = some ⟨g, off, none⟩ → g ≠ k := by
  intro g off hg e1
  subst e1
  obtain ⟨hl, hn, hc, ⟨h1, _⟩ | ⟨g', off', cur, h1, hb, hg2, hs, ht⟩⟩ := h
  · rw [h1] at hg; simp at hg
  · rw [h1] at hg; injection hg with hg; injection hg with e1 e2
    subst e1
    obtain ⟨x, hx, _⟩ := hr
    rw [hx] at hg2; injection hg2 with hg2; injection hg2 with _ e3; exact hne e3.symm
theorem run_append_at (w : World) (t ty e : TypeId) (i : TypeInfo) (ht : P.underlying t = some (.slice e)) (hi : P.info? e = some i) (g off sLen sCap : Nat) (cur : Array Value) (hg : w.heap[g]? = some (.cells cur e (0, 0)))
    (a : Addr) (m c : Nat) (news : List Value) (hl : news.length = m * i.size) (hnews : ∀ j u, news[j]? = some u → w.cell? (a.add j) = some u) (h1 : ∀ u ∈ news, u.oneCell' = true)
    (hroom : sLen + m ≤ sCap) (hfit : off + sLen * i.size + news.length ≤ cur.size) :
    (Builtin.append_ #[t, t] ty #[.slice (some ⟨g, off, none⟩) sLen sCap, .slice (some a) m c]).run P w =
      .ok (.slice (some ⟨g, off, none⟩) (sLen + m) sCap) (w.setRow g (cur.toList.take (off + sLen * i.size) ++ news ++ cur.toList.drop (off + sLen * i.size + news.length)).toArray) := by
  have hf := run_firstCells_some (P := P) w i.size m a m c news hl hnews
  have hst := run_storeCells_at P g (off + sLen * i.size) e news 0 cur w hg (by simpa using hfit) h1
  simp only [Nat.add_zero] at hst
  simp [Builtin.append_, run_underlying ht, sizeOf, typeInfo, hi, Builtin.lenOf, hroom, hf, Addr.add_lit, hst]
theorem run_append_que (w : World) (base : Nat) (t ty e : TypeId) (bytes : Nat) (z : Value) (ht : P.underlying t = some (.slice e)) (hi : (P.info? e).map (fun i => (i.zero, i.size, i.bytes)) = some (some z, 1, bytes))
    (hzs : z.cells.size = 1) (a : Option Addr) (n c : Nat) (xs : List Value) (hq : Que w base e a n c xs) (base' : Nat) (ad : Option Addr) (m c' : Nat) (news : List Value) (hsrc : Que w base' e ad m c' news) (h1 : ∀ u ∈ news, u.oneCell' = true)
    (h63 : n + m ≤ maxLen) (hbytes : (n + m) * bytes ≤ 140737488355328) (hbase : base ≤ w.heap.size) :
    ∃ a' cap w', (Builtin.append_ #[t, t] ty #[.slice a n c, .slice ad m c']).run P w = .ok (.slice a' (n + m) cap) w' ∧ Que w' base e a' (n + m) cap (xs ++ news) ∧ Turn (fun k => ∃ off, a = some ⟨k, off, none⟩) w w' ∧ ((∃ g off off', a' = some ⟨g, off, none⟩ ∧ a = some ⟨g, off', none⟩) ∨ a' = none ∨ ∃ g off, a' = some ⟨g, off, none⟩ ∧ w.heap.size ≤ g) := by
  obtain ⟨i, hi', hzz⟩ := Option.map_eq_some_iff.1 hi
  simp only [Prod.mk.injEq] at hzz
  obtain ⟨hz, hs, hb⟩ := hzz
  have hsml : n + m ≤ 9223372036854775807 := by unfold maxLen at h63; omega
  rcases Nat.eq_zero_or_pos m with rfl | hm
  · have hn : news = [] := List.eq_nil_of_length_eq_zero hsrc.1
    subst hn
    refine ⟨a, c, w, run_append_zero w t ty e i ht hi' a n c hq.2.1 ad c', by simpa using hq, Turn.refl _ _, ?_⟩
    obtain ⟨_, _, _, ⟨h1, _⟩ | ⟨g, off, _, h1, _⟩⟩ := hq
    · exact .inr (.inl h1)
    · exact .inl ⟨g, off, off, h1, h1⟩
  · obtain ⟨hl2, hn2, hc2, ⟨_, h0⟩ | ⟨sg, soff, scur, rfl, _, hsg, hss, hst⟩⟩ := id hsrc
    · omega
    have hcells := hsrc.cells
    have hnl : news.length = m * i.size := by rw [hs, Nat.mul_one]; exact hl2
    obtain ⟨hl, hnc, hcm, ⟨rfl, rfl⟩ | ⟨g, off, cur, rfl, hbg, hg, hcs, htk⟩⟩ := id hq
    · obtain rfl : n = 0 := by omega
      have hx : xs = [] := List.eq_nil_of_length_eq_zero hl
      subst hx
      have hr := run_append_nil (P := P) w t ty e i z ht hi' hz ⟨sg, soff, none⟩ m c' news hnl hcells hm (by omega) (by rw [hb]; have hb2 := hbytes; simp only [Nat.zero_add] at hb2; omega)
      have hge := grownCap_ge w (0 + m) 0 e
      have hcm2 : grownCap w (0 + m) 0 e ≤ maxLen := grownCap_le_maxLen w (0 + m) 0 e h63
      refine ⟨_, _, _, by rw [Nat.zero_add]; exact hr, ?_, ((Turn.refl _ w).drew).alloc _, .inr (.inr ⟨_, _, rfl, Nat.le_refl _⟩)⟩
      rw [Nat.zero_add] at hge hcm2 ⊢
      rw [List.nil_append]
      refine ⟨hl2, hge, hcm2, .inr ⟨_, 0, _, rfl, hbase, heap_alloc_new w.drew _, ?_, ?_⟩⟩
      · simp only [Array.size_append, List.size_toArray, size_zeroCells, hzs, hl2]
        omega
      · rw [List.drop_zero, Array.toList_append, ← hl2]
        exact List.take_left
    · by_cases hroom : n + m ≤ c
      · have hfit : off + n * i.size + news.length ≤ cur.size := by rw [hs, hl2]; omega
        have hr := run_append_at (P := P) w t ty e i ht hi' g off n c cur hg ⟨sg, soff, none⟩ m c' news hnl hcells h1 hroom hfit
        rw [hs, Nat.mul_one] at hr hfit
        refine ⟨_, _, _, hr, ⟨by simp [hl, hl2], hroom, hcm, .inr ⟨g, off, _, rfl, hbg, setRow_heap w g cur _ e _ hg, ?_, ?_⟩⟩, (Turn.refl _ w).setRow (fun _ => ⟨off, rfl⟩) _, .inl ⟨g, off, off, rfl, rfl⟩⟩
        · simp only [List.size_toArray, List.length_append, List.length_take, List.length_drop, Array.length_toList]
          omega
        · have hcl : cur.toList.length = cur.size := Array.length_toList
          have e1 : (cur.toList.take (off + n)).drop off = xs := by rw [List.drop_take, Nat.add_sub_cancel_left]; exact htk
          have e2 : (cur.toList.take (off + n)).length = off + n := by rw [List.length_take]; omega
          rw [List.append_assoc, List.drop_append_of_le_length (by omega), e1, ← List.append_assoc, ← hl, ← hl2, ← List.length_append]
          exact List.take_left
      · have hr := run_append_grow (P := P) w t ty e i z ht hi' hz ⟨g, off, none⟩ n c xs (by rw [hs, Nat.mul_one]; exact hl) hq.cells ⟨sg, soff, none⟩ m c' news hnl hcells (by omega) (by omega) (growslice_fits (by omega) (by rw [hb]; exact hbytes))
        have hge := grownCap_ge w (n + m) c e
        have hcm2 : grownCap w (n + m) c e ≤ maxLen := grownCap_le_maxLen w (n + m) c e h63
        refine ⟨_, _, _, hr, ⟨by simp [hl, hl2], hge, hcm2, .inr ⟨_, 0, _, rfl, hbase, heap_alloc_new w.drew _, ?_, ?_⟩⟩, ((Turn.refl _ w).drew).alloc _, .inr (.inr ⟨_, _, rfl, Nat.le_refl _⟩)⟩
        · simp only [Array.size_append, List.size_toArray, size_zeroCells, hzs, hl, hl2]
          omega
        · rw [List.drop_zero]
          simp only [Array.toList_append, List.append_assoc]
          rw [← List.append_assoc, ← hl, ← hl2, ← List.length_append]
          exact List.take_left
theorem wpList_append_que {w : World} {ops : Array Oper} {rest : List Oper} {o : Oper} {act : Act} {Q : Exit → Act → World → Prop} (hgd : o.guard = none) (s x : Operand) (t : TypeId)
    (ho : o.op = .call { callee := .builtin .append, args := #[s, x], argTypes := #[t, t] })
    (base : Nat) (e : TypeId) (bytes : Nat) (z : Value) (ht : P.underlying t = some (.slice e)) (hi : (P.info? e).map (fun i => (i.zero, i.size, i.bytes)) = some (some z, 1, bytes))
    (hzs : z.cells.size = 1) (a : Option Addr) (n c : Nat) (xs : List Value) (hs : act.eval s = .slice a n c) (hq : Que w base e a n c xs) (base' : Nat) (ad : Option Addr) (m c' : Nat) (news : List Value) (hx : act.eval x = .slice ad m c') (hsrc : Que w base' e ad m c' news) (h1 : ∀ u ∈ news, u.oneCell' = true)
    (h63 : n + m ≤ maxLen) (hbytes : (n + m) * bytes ≤ 140737488355328) (hbase : base ≤ w.heap.size)
    (h : ∀ a' cap w', Hid (Que w' base e a' (n + m) cap (xs ++ news)) → Hid (Turn (fun k => ∃ off, a = some ⟨k, off, none⟩) w w') → Hid ((∃ g off off', a' = some ⟨g, off, none⟩ ∧ a = some ⟨g, off', none⟩) ∨ a' = none ∨ ∃ g off, a' = some ⟨g, off, none⟩ ∧ w.heap.size ≤ g) →
      wpList P ops Q rest (act.put o.dst (.slice a' (n + m) cap)) w') : wpList P ops Q (o :: rest) act w := by
  obtain ⟨a', cap, w', hrun, h2, h3, h4⟩ := run_append_que (P := P) w base t o.type e bytes z ht hi hzs a n c xs hq base' ad m c' news hsrc h1 h63 hbytes hbase
  refine wpList_plain hgd fun K hK => ?_
  unfold Oper.wp
  simp [execOp, ho, resolve, invoke, builtin, hs, hx, hrun, Result.andThen]
  exact hK _ _ (h a' cap w' h2 h3 h4)
end Go.Proofs.Ythfkgkddklnnhaa
