/- The laws' own helpers of layer 2: Few, Made. -/
import Derived.Test.YteanlncnhncpbaaDoesA
import Derived.Test.YteanlncnhncpbaaDoesB
import Derived.Test.YteanlncnhncpbaaDoesC
import Derived.Test.YteanlncnhncpbaaDoesD
namespace Go.Proofs.Yteanlncnhncpbaa
set_option linter.unusedVariables false
open Go.ChangeShapes Go.WideShapes Go.ChangeAt Go.RowKit
open M (W)

/-- A call of the laws' lists. -/
structure OpR where
  k : Int
  a : Int
  b : Int
  v : Nat
  near : Bool
def OpR.val (o : OpR) : Value := .agg #[.int .i64 o.k, .int .i64 o.a, .int .i64 o.b, .int .u64 o.v, .bool o.near]
def OpR.ok (o : OpR) : Prop := -9223372036854775808 ≤ o.a ∧ o.v < 18446744073709551616
theorem does_any {w0 w : World} {s : St} {x : Rf} (h : Both w0 w s x) (o : OpR) (ho : o.ok) (hfew : x.L.length < 1000) :
    Calls Try.prog 18 #[s.ptr, x.ptr, o.val] w fun e w' => e = .returned (.bool true) ∧ After w0 w' s x := by
  obtain ⟨k, a, b, v, near⟩ := o
  obtain ⟨ha, hv⟩ := ho
  unfold OpR.val
  simp only at *
  by_cases h1 : k = 1
  · subst h1
    cases near
    · exact does_1_no h a b v ha hv hfew
    · rcases Nat.eq_zero_or_pos x.L.length with hL | hL
      · exact does_1_empty h a b v ha hv hfew hL
      · exact does_1_at h a b v ha hv hfew hL
  by_cases h2 : k = 2
  · subst h2
    cases near
    · exact does_2_no h a b v ha hv hfew
    · rcases Nat.eq_zero_or_pos x.L.length with hL | hL
      · exact does_2_empty h a b v ha hv hfew hL
      · exact does_2_at h a b v ha hv hfew hL
  by_cases h3 : k = 3
  · subst h3
    cases near
    · exact does_3_no h a b v ha hv hfew
    · rcases Nat.eq_zero_or_pos x.L.length with hL | hL
      · exact does_3_empty h a b v ha hv hfew hL
      · exact does_3_at h a b v ha hv hfew hL
  have g1 : ((k : Int) == 1) = false := beq_eq_false_iff_ne.2 h1
  have g2 : ((k : Int) == 2) = false := beq_eq_false_iff_ne.2 h2
  have g3 : ((k : Int) == 3) = false := beq_eq_false_iff_ne.2 h3
  cases near
  · exact does_o_no h a b v k g1 g2 g3 ha hv hfew
  · rcases Nat.eq_zero_or_pos x.L.length with hL | hL
    · exact does_o_empty h a b v k g1 g2 g3 ha hv hfew hL
    · exact does_o_at h a b v k g1 g2 g3 ha hv hfew hL

/-- A row of calls that came in. -/
structure Ops (w : World) (a : Option Addr) (len : Nat) (F : Nat → OpR) : Prop where
  at_ : 0 < len → ∃ b off, a = some ⟨b, off, none⟩ ∧ b < w.heap.size ∧ ∀ j, j < len → (F j).ok ∧ w.cell? ⟨b, off + j * 5, none⟩ = some (.int .i64 (F j).k) ∧ w.cell? ⟨b, off + j * 5 + 1, none⟩ = some (.int .i64 (F j).a) ∧ w.cell? ⟨b, off + j * 5 + 2, none⟩ = some (.int .i64 (F j).b) ∧ w.cell? ⟨b, off + j * 5 + 3, none⟩ = some (.int .u64 (F j).v) ∧ w.cell? ⟨b, off + j * 5 + 4, none⟩ = some (.bool (F j).near)
theorem Ops.less {w : World} {a : Option Addr} {len len' : Nat} {F : Nat → OpR} (h : Ops w a len F) (hl : len' ≤ len) : Ops w a len' F :=
  ⟨fun h0 => by
    obtain ⟨b, off, e, hb, hc⟩ := h.at_ (by omega)
    exact ⟨b, off, e, hb, fun j hj => hc j (by omega)⟩⟩
theorem Ops.below {w w' : World} {a : Option Addr} {len : Nat} {F : Nat → OpR} (h : Ops w a len F) (t : Below w.heap.size w w') : Ops w' a len F :=
  ⟨fun h0 => by
    obtain ⟨b, off, e, hb, hc⟩ := h.at_ h0
    refine ⟨b, off, e, Nat.lt_of_lt_of_le hb t.size, fun j hj => ?_⟩
    have key : ∀ i, w'.cell? ⟨b, i, none⟩ = w.cell? ⟨b, i, none⟩ := fun i => t.cell (p := ⟨b, i, none⟩) hb
    rw [key, key, key, key, key]
    exact hc j hj⟩
theorem few_any (a : Option Addr) (len cap : Nat) (w : World) (h : len ≤ cap) (hm : cap ≤ maxLen) : Calls Try.prog 17 #[.slice a len cap] w fun e w' => e = .returned (.slice a (min len 200) cap) ∧ w' = w := by
  unfold maxLen at hm
  by_cases hl : 200 < len
  · have e : min len 200 = 200 := by omega
    rw [e]
    have hc : 200 ≤ cap := by omega
    go_enter Try.func17, Try.ntmps17
    go_wp2
    go_ret
    exact ⟨rfl, rfl⟩
  · have e : min len 200 = len := by omega
    rw [e]
    go_enter Try.func17, Try.ntmps17
    go_wp2
    go_ret
    exact ⟨rfl, rfl⟩
/-- Nothing is made. -/
def MadeNil (w : World) (e : Ending) (w' : World) : Prop := e = .returned (.tuple #[.pointer none, .pointer none]) ∧ Still w w'
theorem made_big (n : Nat) (a : Option Addr) (len cap : Nat) (A : Option Addr) (m mc : Nat) (w : World) (hn : n ≤ 4000) (hl : 512 < len) (hc : len ≤ cap) (hm : cap ≤ maxLen) :
    Calls Try.prog 15 #[.int .i64 n, .slice a len cap, .slice A m mc] w (MadeNil w) := by
  unfold MadeNil
  unfold maxLen at hm
  by_cases h6 : 600 < len
  · have hc6 : 600 ≤ cap := by omega
    have HN := new_big n a 600 cap w (by omega) (by decide)
    go_enter Try.func15, Try.ntmps15
    go_wp2_with fail
    refine HN.mono ?_; rintro e w ⟨rfl, rfl⟩
    go_wp2_with fail
    go_ret2
    exact ⟨rfl, Still.refl _⟩
  · have HN := new_big n a len cap w (by omega) hl
    go_enter Try.func15, Try.ntmps15
    go_wp2_with fail
    refine HN.mono ?_; rintro e w ⟨rfl, rfl⟩
    go_wp2_with fail
    go_ret2
    exact ⟨rfl, Still.refl _⟩
theorem made_bad (n : Nat) (a : Option Addr) (len cap : Nat) (K N : Nat → Int) (A : Option Addr) (m mc : Nat) (w : World) (hn : n ≤ 4000) (hl : len ≤ 512) (hL : Lays w a len K N) (hb : ¬ ∀ j, j < len → M.mayBe (K j) (N j) = true) :
    Calls Try.prog 15 #[.int .i64 n, .slice a len cap, .slice A m mc] w (MadeNil w) := by
  unfold MadeNil
  have HN := new_bad n a len cap K N w (by omega) hl hL hb
  clear hL hb
  go_enter Try.func15, Try.ntmps15
  go_wp2_with fail
  refine HN.mono ?_; rintro e w1 ⟨rfl, t1⟩
  have HT := Lib.hid t1; clear t1
  go_wp2_with fail
  go_ret2
  exact ⟨rfl, HT.out⟩

def Rf.new (gx n : Nat) (a : Option Addr) (len cap : Nat) (K N : Nat → Int) : Rf := ⟨gx, n, a, len, cap, K, N, .slice none 0 0, []⟩
theorem both_start {w w1 : World} {s : St} {a : Option Addr} {len cap n : Nat} {K N : Nat → Int} (hs : HpIs w1 s) (t1 : Still w w1) (h1 : w.heap.size ≤ s.g) (h2 : w.heap.size ≤ s.gw) (hn : s.n = n) (ht : s.top = 0) (hw : ∀ i, s.ws i = 0) (hx : ∀ i, s.hx i = 0) (hm : s.m = len) (hk : s.lk = K) (hN : s.ln = N) (hL : Lays w a len K N) :
    Both w (w1.alloc (.cells #[.int .i64 n, .slice a len cap, .slice none 0 0] 46)) s (Rf.new w1.heap.size n a len cap K N) := by
  have T : Still w (w1.alloc (.cells #[.int .i64 n, .slice a len cap, .slice none 0 0] 46)) := t1.alloc _
  refine ⟨hs.alloc _, ⟨t1.size, T.size, ?_, hL.still T, ?_, World.ownsRow_nil _ _ _ _, fun o ho => by simp [Rf.new] at ho, by simp [Rf.new], by simp [Rf.new]⟩, h1, h2, hn.symm, hm.symm, hk.symm, hN.symm, fun o ho => by simp [Rf.new] at ho, ⟨ht.symm, fun o ho => by simp [Rf.new] at ho, fun k => ?_, fun i _ => hw i⟩, Still.below T, fun o ho => by simp [Rf.new] at ho⟩
  · refine ⟨_, heap_alloc_new w1 _, rfl, fun i hi => ?_⟩
    match i, hi with
    | 0, _ => rfl
    | 1, _ => rfl
    | 2, _ => rfl
  · intro b off e hl
    obtain ⟨b', off', e', hb, _⟩ := hL.at_ hl
    have : some (⟨b, off, none⟩ : Addr) = some ⟨b', off', none⟩ := e.symm.trans e'
    injection this with this
    injection this with e1 _ _
    omega
  · show M.inSet s.hx k = _
    unfold M.inSet
    rw [hx]; simp [Rf.new]
/-- A heap is made on both sides. -/
def MadeOk (w : World) (n : Nat) (e : Ending) (w' : World) : Prop := ∃ s x, e = .returned (.tuple #[s.ptr, x.ptr]) ∧ Both w w' s x ∧ s.n = n ∧ x.L.length ≤ 200
set_option maxRecDepth 100000 in
set_option maxHeartbeats 4000000 in
theorem made_ok (n : Nat) (a : Option Addr) (len cap : Nat) (K N : Nat → Int) (A : Option Addr) (m mc : Nat) (F : Nat → OpR) (w : World) (hn : n ≤ 4000) (hl : len ≤ 512) (hL : Lays w a len K N) (hg : ∀ j, j < len → M.mayBe (K j) (N j) = true) (hA : Ops w A m F) (hmc : m ≤ mc) (hmm : mc ≤ maxLen) :
    Calls Try.prog 15 #[.int .i64 n, .slice a len cap, .slice A m mc] w (MadeOk w n) := by
  have HN := new_ok n a len cap K N w (by omega) hl hL hg
  have HL := Lib.hid hL
  have HG := Lib.hid hg
  have HF := fun W => few_any A m mc W hmc hmm
  have HOPS := Lib.hid (hA.less (show min m 200 ≤ m by omega))
  obtain ⟨q, hq⟩ : ∃ q, min m 200 = q := ⟨_, rfl⟩
  rw [hq] at HF HOPS
  have hq2 : q ≤ 200 := by omega
  unfold MadeOk
  clear hL hg hA hq hmm hmc
  go_enter Try.func15, Try.ntmps15
  go_wp2_with fail
  refine HN.mono ?_; rintro e w1 ⟨s, rfl, hs, t1, g1, g2, g3, sn, st, sw, sx, sm, sk, sN⟩
  have HS := Lib.hid hs
  have HT := Lib.hid t1
  have HX := Lib.hid (And.intro g1 (And.intro g2 (And.intro sn (And.intro st (And.intro sw (And.intro sx (And.intro sm (And.intro sk sN))))))))
  clear hs t1 g1 g2 g3 sn st sw sx sm sk sN HN
  go_wp2_with fail
  refine (check_all n a len cap K N true w1 (by omega) hl (HL.out.still HT.out) ⟨fun _ => HG.out, fun _ => rfl⟩).mono ?_; rintro e w2 ⟨rfl, t2⟩
  have HB := Lib.hid (both_start (cap := cap) (HS.out.still t2) (HT.out.trans t2) HX.out.1 HX.out.2.1 HX.out.2.2.1 HX.out.2.2.2.1 HX.out.2.2.2.2.1 HX.out.2.2.2.2.2.1 HX.out.2.2.2.2.2.2.1 HX.out.2.2.2.2.2.2.2.1 HX.out.2.2.2.2.2.2.2.2 HL.out)
  have hsn := HX.out.2.2.1
  have HSN := Lib.hid hsn
  clear t2 hsn
  go_wp2_with fail
  refine (HF _).mono ?_; rintro e w3 ⟨rfl, rfl⟩
  generalize (w2.alloc (.cells #[.int .i64 n, .slice a len cap, .slice none 0 0] 46)) = W at HB ⊢
  obtain ⟨x0, hx0⟩ : ∃ x0, x0 = Rf.new w2.heap.size n a len cap K N := ⟨_, rfl⟩
  have hgx : w2.heap.size = x0.gx := by rw [hx0]; rfl
  rw [← hx0] at HB
  have hl0 : x0.L.length = 0 := by rw [hx0]; rfl
  have HL0 := Lib.hid hl0
  rw [hgx]
  clear hx0 hgx hl0
  go_wp2_with fail
  go_loopw [45] (fun v wr => ∃ (j : Nat) (s' : St) (x' : Rf), v = .int .i64 j ∧ j ≤ q ∧ Both w wr s' x' ∧ s'.g = s.g ∧ x'.gx = x0.gx ∧ s'.n = n ∧ x'.L.length ≤ j) (fun v _ => q - (intOf v).toNat)
  case atStart => exact ⟨0, s, x0, rfl, by omega, HB.out, rfl, rfl, HSN.out, by rw [HL0.out]; exact Nat.le_refl _⟩
  case round =>
    obtain ⟨j, s', x', rfl, hj, hb, hsg, hxg, hsn, hxl⟩ := hrel
    by_cases hjq : j < q
    · obtain ⟨b, off, hAe, hbl, hc⟩ := (HOPS.out.below hb.below).at_ (by omega)
      obtain ⟨hok, d0, d1, d2, d3, d4⟩ := hc j hjq
      subst hAe
      have HB2 := Lib.hid hb
      have hgxl := hb.rf.blk.lt
      have c2 : wr.cell? ⟨x'.gx, 2, none⟩ = some x'.lv := hb.rf.c2
      obtain ⟨la, lc, hlv⟩ := hb.rf.lv_slice
      rw [hlv] at c2
      have HD := does_any (hb.still ((Still.refl wr).alloc (.cells #[.int .i64 (F j).k, .int .i64 (F j).a, .int .i64 (F j).b, .int .u64 (F j).v, .bool (F j).near] 32))) (F j) hok (by omega)
      unfold OpR.val St.ptr Rf.ptr at HD
      rw [hsg, hxg] at HD
      rw [hxg] at c2 hgxl
      have hgb : b < wr.heap.size := hbl
      generalize F j = oo at hok d0 d1 d2 d3 d4 HD
      obtain ⟨okk, oa, ob, ov, on⟩ := oo
      simp only at d0 d1 d2 d3 d4 HD
      have HDD := Lib.hid HD
      have HEQ := Lib.hid (And.intro hsg (And.intro hxg (And.intro hsn hxl)))
      have few : x'.L.length ≤ 200 := by omega
      clear hc hb hlv hok HD hsg hxg hsn hxl
      by_cases hk1 : okk = 1
      · subst hk1
        by_cases h150 : x'.L.length < 150
        · go_wp2_with fail
          refine HDD.out.mono ?_; rintro e w4 ⟨rfl, s2, x2, hb2, e1, e2, e3, e4, e5⟩
          have HB3 := Lib.hid hb2
          have HE := Lib.hid (And.intro e1 (And.intro e2 (And.intro e3 e4)))
          clear hb2 e1 e2 e3 e4 e5
          go_wp2_with fail
          go_roundw
          case rel => exact ⟨j + 1, s2, x2, by go_num, by omega, HB3.out, HE.out.1.trans HEQ.out.1, HE.out.2.1.trans HEQ.out.2.1, HE.out.2.2.1.trans HEQ.out.2.2.1, by have := HE.out.2.2.2; have := HEQ.out.2.2.2; omega⟩
          case measure => simp [intOf]; omega
        · have hge : 150 ≤ x'.L.length := by omega
          clear h150
          go_wp2_with fail
          go_roundw
          case rel => exact ⟨j + 1, s', x', by go_num, by omega, HB2.out.still ((Still.refl wr).alloc _), HEQ.out.1, HEQ.out.2.1, HEQ.out.2.2.1, by have := HEQ.out.2.2.2; omega⟩
          case measure => simp [intOf]; omega
      · have hkf : ((okk : Int) != 1) = true := by simpa using hk1
        go_wp2_with fail
        refine HDD.out.mono ?_; rintro e w4 ⟨rfl, s2, x2, hb2, e1, e2, e3, e4, e5⟩
        have HB3 := Lib.hid hb2
        have HE := Lib.hid (And.intro e1 (And.intro e2 (And.intro e3 e4)))
        clear hb2 e1 e2 e3 e4 e5
        go_wp2_with fail
        go_roundw
        case rel => exact ⟨j + 1, s2, x2, by go_num, by omega, HB3.out, HE.out.1.trans HEQ.out.1, HE.out.2.1.trans HEQ.out.2.1, HE.out.2.2.1.trans HEQ.out.2.2.1, by have := HE.out.2.2.2; have := HEQ.out.2.2.2; omega⟩
        case measure => simp [intOf]; omega
    · have HB2 := Lib.hid hb
      have HEQ := Lib.hid (And.intro hsg (And.intro hxg (And.intro hsn hxl)))
      clear hb hsg hxg hsn hxl
      go_wp2_with fail
      go_ret2
      refine ⟨s', x', ?_, HB2.out, HEQ.out.2.2.1, by have := HEQ.out.2.2.2; omega⟩
      show Ending.returned (.tuple #[.pointer (some ⟨s.g, 0, none⟩), .pointer (some ⟨x0.gx, 0, none⟩)]) = .returned (.tuple #[.pointer (some ⟨s'.g, 0, none⟩), .pointer (some ⟨x'.gx, 0, none⟩)])
      rw [HEQ.out.1, HEQ.out.2.1]
end Go.Proofs.Yteanlncnhncpbaa
