/- Lemmas, put together: OpenClosing ClosesW ClosesW2. -/
import Derived.Test.YthfkgkddklnnhaaK27
import Derived.Test.YthfkgkddklnnhaaK19
import Derived.Test.YthfkgkddklnnhaaK05
import Derived.Test.YthfkgkddklnnhaaK10
import Derived.Test.YthfkgkddklnnhaaK18
import Derived.Test.YthfkgkddklnnhaaK04
/- The laws' closing of layer 2 as an argument. -/
namespace Go.Proofs.Ythfkgkddklnnhaa
set_option linter.unusedVariables false
open Go.ChangeShapes Go.WideShapes Go.ChangeAt Go.RowKit Go.Deep

theorem slice_form2 {H : Type} {enc : TypeId × Value → H} {w : World} {base : Nat} {spare : Nat → Bool} {held : Bool} {t e : TypeId} {fuel : Nat} {v : Value} {x : DataW H × List MemPlace} (ht : Try.prog.underlying t = some (.slice e))
    (h : DataW.trod enc Try.prog w base spare held fuel t [v] = some x) : ∃ a n c, v = .slice a n c := by
  rcases open_slice ht h with ⟨hcs, _⟩ | ⟨ad, l, c, m, n, D, Pl, hcs, _⟩
  · simp at hcs; exact ⟨_, _, _, hcs⟩
  · simp at hcs; exact ⟨_, _, _, hcs⟩
/-- Words that came in. -/
structure IsWds (w : World) (a : Option Addr) (len cap : Nat) (f : Nat → Nat) : Prop where
  le : len ≤ cap
  cap_le : cap ≤ maxLen
  rd : RdW w a len f
  lt : ∀ i, i < len → f i < 18446744073709551616
theorem open_wds {H : Type} {enc : TypeId × Value → H} {w : World} {fuel : Nat} {a : Option Addr} {len cap : Nat} {x : DataW H × List MemPlace}
    (h : DataW.trod enc Try.prog w 0 (fun _ => true) true fuel 24 [.slice a len cap] = some x) : ∃ f, IsWds w a len cap f := by
  rcases open_ints Try.underlying24 Try.underlying33 (by kernel_rfl) h with ⟨hcs, _⟩ | ⟨ad, l, c, zs, hcs, _, hl, hm, hz, hx, hcell, hwz⟩
  · simp at hcs
    obtain ⟨rfl, rfl, rfl⟩ := hcs
    exact ⟨fun _ => 0, Nat.le_refl _, Nat.zero_le _, ⟨fun h => absurd h (Nat.lt_irrefl _)⟩, fun i hi => by omega⟩
  · simp at hcs
    obtain ⟨rfl, rfl, rfl⟩ := hcs
    have hz' : zs.length = cap := by simpa using hz
    have hw : ∀ i, i < zs.length → 0 ≤ zs.getD i 0 ∧ zs.getD i 0 ≤ 18446744073709551615 := fun i hi => by
      have h1 := hwz (zs.getD i 0) (by rw [List.getD_eq_getElem?_getD, List.getElem?_eq_getElem hi]; exact List.getElem_mem _)
      simpa [Lit.wf, IntKind.min, IntKind.max, IntKind.signed, IntKind.bits] using h1
    refine ⟨fun i => (zs.getD i 0).toNat, hl, hm, ⟨fun h0 => ?_⟩, fun i hi => ?_⟩
    · obtain ⟨b, off, spot⟩ := ad
      have c0 := hcell 0 (by omega)
      have hspot : spot = none := by simpa [Addr.add] using World.cell?_spot c0
      subst hspot
      refine ⟨b, off, rfl, World.block_lt_of_cell? w ⟨b, off + 0, none⟩ (by rw [← Go.WideShapes.add_plain]; exact c0), fun i hi => ?_⟩
      have c1 := hcell i (by omega)
      rw [Go.WideShapes.add_plain] at c1
      rw [c1]
      have := hw i (by omega)
      rw [Int.toNat_of_nonneg this.1]
    · have := hw i (by omega)
      omega
structure IsClosing (w : World) (a0 : Option Addr) (n0 c0 : Nat) (K N : Nat → Int) (a1 : Option Addr) (n1 c1 : Nat) (F : Nat → OpR) (a2 : Option Addr) (n2 c2 : Nat) (f : Nat → Nat) (t : Int) : Prop where
  lays : IsLays w a0 n0 c0 K N
  ops : IsOps w a1 n1 c1 F
  wds : IsWds w a2 n2 c2 f
  lo : -9223372036854775808 ≤ t
  hi : t ≤ 9223372036854775807
theorem cellsLays2 : Try.prog.cellsOf 22 = 1 := by kernel_rfl
theorem cellsOps2 : Try.prog.cellsOf 23 = 1 := by kernel_rfl
theorem cellsWds : Try.prog.cellsOf 24 = 1 := by kernel_rfl
theorem cellsTop : Try.prog.cellsOf 3 = 1 := by kernel_rfl
theorem cellsClosing : Try.prog.cellsOf 26 = 4 := by kernel_rfl
theorem list4 {α : Type} : ∀ (l : List α), l.length = 4 → ∃ a b c d, l = [a, b, c, d]
  | [a, b, c, d], _ => ⟨a, b, c, d, rfl⟩
theorem closing_cells {H : Type} {enc : TypeId × Value → H} {w : World} {fuel : Nat} {cs : List Value} {x : DataW H × List MemPlace}
    (h : DataW.trod enc Try.prog w 0 (fun _ => true) true fuel 26 cs = some x) : ∃ (a0 : Option Addr) (n0 c0 : Nat) (K N : Nat → Int) (a1 : Option Addr) (n1 c1 : Nat) (F : Nat → OpR) (a2 : Option Addr) (n2 c2 : Nat) (f : Nat → Nat) (t : Int), IsClosing w a0 n0 c0 K N a1 n1 c1 F a2 n2 c2 f t ∧ cs = [.slice a0 n0 c0, .slice a1 n1 c1, .slice a2 n2 c2, .int .i64 t] := by
  obtain ⟨xs, n, _, _, hlen, hxl, hg⟩ := DataW.trod_struct Try.underlying26 h
  rw [cellsClosing] at hlen
  obtain ⟨v0, v1, v2, v3, rfl⟩ := list4 cs hlen
  have hx : ∀ i, i < 4 → ∃ y, xs[i]? = some y := fun i hi => ⟨_, List.getElem?_eq_getElem (by rw [hxl]; exact hi)⟩
  obtain ⟨y0, g0⟩ := hx 0 (by decide)
  obtain ⟨y1, g1⟩ := hx 1 (by decide)
  obtain ⟨y2, g2⟩ := hx 2 (by decide)
  obtain ⟨y3, g3⟩ := hx 3 (by decide)
  have h0 := (hg 0 _ rfl).trans g0
  have h1 := (hg 1 _ rfl).trans g1
  have h2 := (hg 2 _ rfl).trans g2
  have h3 := (hg 3 _ rfl).trans g3
  simp only [List.getElem_toArray, List.getElem_cons_zero, List.getElem_cons_succ, cellsLays2, cellsOps2, cellsWds, cellsTop, List.drop_zero, List.drop_succ_cons, List.take_succ_cons, List.take_zero] at h0 h1 h2 h3
  obtain ⟨a0, n0, c0, rfl⟩ := slice_form2 Try.underlying22 h0
  obtain ⟨a1, n1, c1, rfl⟩ := slice_form2 Try.underlying23 h1
  obtain ⟨a2, n2, c2, rfl⟩ := slice_form2 Try.underlying24 h2
  obtain ⟨t, e3, _, w3⟩ := DataW.trod_int Try.underlying3 h3
  simp at e3
  subst e3
  have w3' : -9223372036854775808 ≤ t ∧ t ≤ 9223372036854775807 := by simpa [Lit.wf, IntKind.min, IntKind.max, IntKind.signed, IntKind.bits] using w3
  obtain ⟨K, N, w0⟩ := open_lays h0
  obtain ⟨F, w1⟩ := open_ops h1
  obtain ⟨f, w2⟩ := open_wds h2
  exact ⟨a0, n0, c0, K, N, a1, n1, c1, F, a2, n2, c2, f, t, ⟨w0, w1, w2, w3'.1, w3'.2⟩, rfl⟩
end Go.Proofs.Ythfkgkddklnnhaa
/- HeapCloses' walk: words that are stored, and closed, or refused. -/
namespace Go.Proofs.Ythfkgkddklnnhaa
set_option linter.unusedVariables false
open Go.ChangeShapes Go.WideShapes Go.ChangeAt Go.RowKit
open M (W)

def St.stored (s : St) (f : Nat → Nat) (k : Nat) : St := { s with ws := fun i => if i < k then f i else s.ws i }
theorem stored_zero (s : St) (f : Nat → Nat) : s.stored f 0 = s := by
  obtain ⟨g, gw, gl, n, ws, top, hx, m, lk, ln⟩ := s
  simp [St.stored]
theorem stored_succ (s : St) (f : Nat → Nat) (k : Nat) : (s.stored f k).put k (f k) = s.stored f (k + 1) := by
  unfold St.put St.stored
  congr 1
  funext i
  show (if i = k then f k else if i < k then f i else s.ws i) = if i < k + 1 then f i else s.ws i
  by_cases h : i = k
  · subst h; rw [if_pos rfl, if_pos (by omega)]
  · rw [if_neg h]
    by_cases h2 : i < k
    · rw [if_pos h2, if_pos (by omega)]
    · rw [if_neg h2, if_neg (by omega)]
theorem u64s_set (f : Nat → Nat) (n k v : Nat) (g : Nat → Nat) (hg : ∀ i, g i = if i = k then v else f i) : (M.u64s f n).set k (.int .u64 (v : Int)) = M.u64s g n := by
  apply List.ext_getElem?
  intro i
  rw [List.getElem?_set, u64s_len]
  by_cases h : i < n
  · rw [u64s_get f n i h, u64s_get g n i h, hg]
    by_cases e : k = i
    · subst e; rw [if_pos rfl, if_pos h, if_pos rfl]
    · rw [if_neg e, if_neg (fun x => e x.symm)]
  · rw [List.getElem?_eq_none (show (M.u64s f n).length ≤ i by rw [u64s_len]; omega), List.getElem?_eq_none (show (M.u64s g n).length ≤ i by rw [u64s_len]; omega)]
    by_cases e : k = i
    · rw [if_pos e, if_neg (by omega)]
    · rw [if_neg e]
theorem RfIs.rebase {B B' : Nat} {w : World} {x : Rf} (h : RfIs B w x) (hB : B' ≤ B) (hold : ∀ b off, x.a = some ⟨b, off, none⟩ → 0 < x.len → b < B') : RfIs B' w x :=
  { h with base := Nat.le_trans hB h.base, le := Nat.le_trans hB h.le, old := hold, row := own_base h.row hB, rows := fun o ho => ⟨own_base (h.rows o ho).1 hB, own_base (h.rows o ho).2 hB⟩ }
/-- A block beyond all of these. -/
theorem RfIs.far {B : Nat} {w1 w w' : World} {x : Rf} {gr : Nat} (h1 : RfIs B w1 x) (h : RfIs B w x) (t : Turn (fun k => k = gr) w w') (hg : w1.heap.size ≤ gr) : RfIs B w' x := by
  refine h.keep t ?_ ?_ ?_ ?_
  · rintro k rfl; exact Nat.le_trans h1.le hg
  · intro e; have := h1.blk.lt; omega
  · intro k hk e; have := (h1.row.lt k hk).2; omega
  · intro o ho k hk e
    rcases hk with hk | hk
    · have := ((h1.rows o ho).1.lt k hk).2; omega
    · have := ((h1.rows o ho).2.lt k hk).2; omega
theorem HpIs.far {w1 w w' : World} {s1 s : St} {gr : Nat} (h1 : HpIs w1 s1) (h : HpIs w s) (e1 : s.g = s1.g) (e2 : s.gw = s1.gw) (e3 : s.gl = s1.gl) (t : Turn (fun k => k = gr) w w') (hg : w1.heap.size ≤ gr) : HpIs w' s := by
  refine h.keep t ?_ ?_ ?_
  · intro e; have := h1.blk.lt; omega
  · intro e; have := h1.words.lt; omega
  · intro e; have := h1.lays.lt; omega
theorem Near.far {w0 w1 w w' : World} {s1 s : St} {x : Rf} {gr : Nat} (h1 : Near w0 w1 s1 x) (h : Near w0 w s x) (e1 : s.g = s1.g) (e2 : s.gw = s1.gw) (e3 : s.gl = s1.gl) (t : Turn (fun k => k = gr) w w') (hg : w1.heap.size ≤ gr) : Near w0 w' s x :=
  { h with hp := h1.hp.far h.hp e1 e2 e3 t hg, rf := h1.rf.far h.rf t hg, below := t.own h.below (Nat.le_refl _) (fun k e => by have := h1.below.size; omega) }
theorem made_n (n : Nat) (hn : n ≤ 4000) {w : World} {a0 : Option Addr} {n0 c0 : Nat} {K N : Nat → Int} {a1 : Option Addr} {n1 c1 : Nat} {F : Nat → OpR} (hl : IsLays w a0 n0 c0 K N) (ho : IsOps w a1 n1 c1 F) (W : World) (hW : Still w W) :
    Calls Try.prog 6 #[.int .i64 n, .slice a0 n0 c0, .slice a1 n1 c1] W fun e w' => MadeNil W e w' ∨ MadeAt W n n0 K N e w' := by
  have hL : Lays W a0 n0 K N := hl.lays.still hW
  have hO : Ops W a1 n1 F := ho.ops.below (Still.below hW)
  by_cases hl2 : 512 < n0
  · exact (made_big n _ _ _ _ _ _ W hn hl2 hl.le hl.cap_le).mono fun _ _ h => .inl h
  · by_cases hg : ∀ j, j < n0 → M.mayBe (K j) (N j) = true
    · exact (made_at n _ _ _ K N _ _ _ F W hn (by omega) hL hg hO ho.le ho.cap_le).mono fun _ _ h => .inr h
    · exact (made_bad n _ _ _ K N _ _ _ W hn (by omega) hL hg).mono fun _ _ h => .inl h
set_option maxRecDepth 100000 in
theorem read_out (n : Nat) (top : Int) (htop : top < 0 ∨ (n : Int) < top) (a : Option Addr) (c : Nat) (la : Option Addr) (lm lc : Nat) (w : World) (hn : n ≤ 65536) (hc : n ≤ c) :
    Calls Try.prog 10 #[.slice a n c, .int .i64 top, .slice la lm lc] w fun e w' => e = .returned (.tuple #[.pointer none, .bool false]) ∧ Still w w' := by
  by_cases h0 : top < 0
  · clear htop
    go_enter Try.func10, Try.ntmps10
    go_wp2_with fail
    go_ret2
    exact ⟨rfl, (Still.refl w).alloc _⟩
  · have h1 : (n : Int) < top := by omega
    clear htop
    go_enter Try.func10, Try.ntmps10
    go_wp2_with fail
    go_ret2
    exact ⟨rfl, (Still.refl w).alloc _⟩
end Go.Proofs.Ythfkgkddklnnhaa
/- HeapCloses' walk. -/
namespace Go.Proofs.Ythfkgkddklnnhaa
set_option linter.unusedVariables false
open Go.ChangeShapes Go.WideShapes Go.ChangeAt Go.RowKit
open M (W)

/-- What was read stays as it is when a heap is closed that stood there before. -/
theorem RfIs.beside {B5 B' : Nat} {w6 w7 : World} {y : Rf} {g gw : Nat} (h : RfIs B5 w6 y) (hg : g < B5) (hgw : gw < B5) (hB : B' ≤ B5) (h1 : B' ≤ g) (h2 : B' ≤ gw) (hold : ∀ b off, y.a = some ⟨b, off, none⟩ → 0 < y.len → b < B') (t : Turn (fun k => k = g ∨ k = gw) w6 w7) : RfIs B' w7 y := by
  refine (h.rebase hB hold).keep t ?_ ?_ ?_ ?_
  · rintro k (rfl | rfl)
    · exact h1
    · exact h2
  · rintro (e | e) <;> (have := h.base; omega)
  · rintro k hk (e | e) <;> (have := (h.row.lt k hk).1; omega)
  · rintro o ho k (hk | hk) (e | e)
    · have := ((h.rows o ho).1.lt k hk).1; omega
    · have := ((h.rows o ho).1.lt k hk).1; omega
    · have := ((h.rows o ho).2.lt k hk).1; omega
    · have := ((h.rows o ho).2.lt k hk).1; omega
theorem rd_own {w : World} {B n c : Nat} {a : Option Addr} {f : Nat → Nat} (h : w.ownsRow B 33 1 (.slice a n c) n (M.u64s f n)) : RdW w a n f :=
  ⟨fun h0 => by
    obtain ⟨g, rfl, hg, _, _, hc, _⟩ := own_form h h0
    exact ⟨g, 0, rfl, hg, fun i hi => by rw [Nat.zero_add]; exact hc i _ (u64s_get f n i hi)⟩⟩
set_option maxRecDepth 100000 in
set_option maxHeartbeats 8000000 in
theorem closes_w {w : World} {a0 : Option Addr} {n0 c0 : Nat} {K N : Nat → Int} {a1 : Option Addr} {n1 c1 : Nat} {F : Nat → OpR} {a2 : Option Addr} {n2 c2 : Nat} {f : Nat → Nat} {t : Int} (h : IsClosing w a0 n0 c0 K N a1 n1 c1 F a2 n2 c2 f t) :
    Calls Try.prog 3 #[.agg #[.slice a0 n0 c0, .slice a1 n1 c1, .slice a2 n2 c2, .int .i64 t]] w fun e w' => e = .returned (.bool true) ∧ Below w.heap.size w w' := by
  have HIN := Lib.hid h
  have hc2 := h.wds.le
  have hm2 := h.wds.cap_le
  have htl := h.lo
  have hth := h.hi
  unfold maxLen at hm2
  clear h
  go_enter Try.func3, Try.ntmps3
  go_wp2_with fail
  go_quiet (fail)
  have S0 : Still w ((w.alloc (.cells #[.slice a0 n0 c0, .slice a1 n1 c1, .slice a2 n2 c2, .int .i64 t] 26)).drewN nq) := ((Still.refl w).alloc _).drewN nq
  have HS0 := Lib.hid S0
  clear S0
  generalize (w.alloc (.cells #[.slice a0 n0 c0, .slice a1 n1 c1, .slice a2 n2 c2, .int .i64 t] 26)).drewN nq = W0 at *
  have HMD := Lib.hid (made_n 300 (by decide) HIN.out.lays HIN.out.ops W0 HS0.out)
  rcases Nat.lt_or_ge 300 n2 with hl | hl
  · have hc3 : 300 ≤ c2 := by omega
    have HRD : Hid (RdW w a2 300 f) := ⟨fun _ => by
      obtain ⟨b, off, e, hb, hc⟩ := HIN.out.wds.rd.at_ (by omega)
      exact ⟨b, off, e, hb, fun i hi => hc i (by omega)⟩⟩
    have HLT : Hid (∀ i, i < 300 → f i < 18446744073709551616) := fun i hi => HIN.out.wds.lt i (by omega)
    obtain ⟨bw, ow, hwa, _⟩ := HIN.out.wds.rd.at_ (by omega)
    subst hwa
    go_wp2_with fail
    refine HMD.out.mono ?_; rintro e w1 (⟨rfl, t1⟩ | ⟨s, x, rfl, hb, hsn, hxl, hsm, hlk, hln⟩)
    · have HT := Lib.hid (HS0.out.trans t1)
      clear t1 HMD
      go_wp2_with fail
      refine (lives_any _).mono ?_; rintro e w2 ⟨rfl, b2⟩
      go_wp2_with fail
      go_ret
      exact ⟨rfl, (Still.below HT.out).trans (b2.mono HT.out.size)⟩
    have HB := Lib.hid hb
    have HSN := Lib.hid hsn
    have hgx := hb.rf.blk.lt
    clear hb hsn hsm hlk hln HMD
    go_wp2_with fail
    refine (row_any s x w1 HB.out.agree).mono ?_; rintro e w2 ⟨⟨ra, rc, rfl, hown⟩, t2⟩
    rw [HSN.out] at hown
    rw [HSN.out]
    have HN2 := Lib.hid (HB.out.near.still t2)
    have HT2 := Lib.hid t2
    have HOW := Lib.hid hown
    clear t2 hown
    go_wp2_with fail
    go_loopw [41] (fun v wr => ∃ k : Nat, v = .int .i64 k ∧ k ≤ 300 ∧ Near W0 wr (s.stored f k) x ∧ wr.ownsRow w1.heap.size 33 1 (.slice ra 300 rc) 300 (M.u64s (s.stored f k).ws 300)) (fun v _ => 300 - (intOf v).toNat)
    case atStart => exact ⟨0, rfl, by omega, by rw [stored_zero]; exact HN2.out, by rw [stored_zero]; exact HOW.out⟩
    case round =>
      obtain ⟨k, rfl, hk, hnear, hown⟩ := hrel
      have HNR := Lib.hid hnear
      have HOR := Lib.hid hown
      have hBW : Below w.heap.size w wr := (Still.below HS0.out).trans (hnear.below.mono HS0.out.size)
      have HBW := Lib.hid hBW
      by_cases hlt : k < 300
      · obtain ⟨bw', ow', e0, hbw, hcell⟩ := HRD.out.at_ (by omega)
        have ck := hcell k hlt
        rw [← hBW.cell (p := ⟨bw', ow' + k, none⟩) hbw] at ck
        have hbw2 : bw' < wr.heap.size := Nat.lt_of_lt_of_le hbw hBW.size
        have hfk := HLT.out k hlt
        obtain ⟨V, hV⟩ : ∃ V, f k = V := ⟨_, rfl⟩
        rw [hV] at ck hfk
        have hst : Calls Try.prog 9 #[s.ptr, .int .i64 k, .int .u64 V] wr fun e w' => e = .returned (.tuple #[]) ∧ HpIs w' ((s.stored f k).put k V) ∧ Turn (fun k => k = s.gw) wr w' :=
          store_in (s.stored f k) k V wr hnear.hp (by show k < s.n; rw [HSN.out]; omega) hfk
        have HST := Lib.hid hst
        have HV := Lib.hid hV
        obtain ⟨rfl, rfl⟩ : bw = bw' ∧ ow = ow' := by injection e0 with e0; injection e0 with e1 e2; exact ⟨e1, e2⟩
        clear hcell hst hV hnear hown hBW
        go_wp2_with fail
        refine HST.out.mono ?_; rintro e w3 ⟨rfl, hp3, t3⟩
        have hn3 : Near W0 w3 (s.stored f (k + 1)) x := by
          have := HNR.out.step (t3.mono fun k _ e => .inr e) hp3 rfl rfl
          rw [← stored_succ, HV.out]; exact this
        have hown3 := own_keep HOR.out t3 (fun g hg e => by
          have h1 := (HOR.out.lt g hg).1
          have h2 := HB.out.hp.words.lt
          omega)
        obtain ⟨gr, hra, hgr, hr1, hr2, hr3, hr4⟩ := own_form hown3 (by omega)
        subst hra
        have hc3' := hr3 k _ (u64s_get _ 300 k (by omega))
        have hf3 := hr4 k
        have HN3 := Lib.hid hn3
        have HO3 := Lib.hid hown3
        unfold maxLen at hr2
        have hgB : w1.heap.size ≤ gr := by
          have := (hown3.lt gr (by simp [Value.ownBlock])).1
          exact this
        clear hr3 hr4 hn3 hown3 hp3 t3
        go_wp2_with fail
        go_roundw
        case rel =>
          refine ⟨k + 1, by go_num, by omega, ?_, ?_⟩
          · exact HB.out.near.far HN3.out rfl rfl rfl ((Turn.refl (fun k => k = gr) w3).setCell (fun _ => rfl) _) hgB
          · have := own_put (i := k) HO3.out (.int .u64 (V : Nat))
            rw [u64s_set (s.stored f k).ws 300 k V (s.stored f (k + 1)).ws (fun i => by
              rw [← stored_succ, HV.out]; rfl)] at this
            exact this
        case measure => simp [intOf]; omega
      · obtain rfl : k = 300 := by omega
        clear hlt
        obtain ⟨S, hS⟩ : ∃ S, s.stored f 300 = S := ⟨_, rfl⟩
        have hSp : S.ptr = s.ptr := by rw [← hS]; rfl
        have hSn : S.n = 300 := by rw [← hS]; exact HSN.out
        have hSt : S.top = s.top := by rw [← hS]; rfl
        have hSm : S.m = s.m ∧ S.lk = s.lk ∧ S.ln = s.ln ∧ S.g = s.g ∧ S.gw = s.gw := by rw [← hS]; exact ⟨rfl, rfl, rfl, rfl, rfl⟩
        rw [hS] at hnear hown HNR HOR
        have so1 : ∀ W, HpIs W S → Calls Try.prog 9 #[s.ptr, .int .i64 (-1), .int .u64 5] W fun e w' => e = .returned (.tuple #[]) ∧ w' = W := fun W hW => by
          rw [← hSp]; exact store_out S (-1) 5 W hW (.inl (by decide))
        have so2 : ∀ W, HpIs W S → Calls Try.prog 9 #[s.ptr, .int .i64 300, .int .u64 5] W fun e w' => e = .returned (.tuple #[]) ∧ w' = W := fun W hW => by
          rw [← hSp]; exact store_out S 300 5 W hW (.inr (by rw [hSn]; decide))
        have c1 : wr.cell? ⟨x.gx, 1, none⟩ = some (.slice x.a s.m x.cap) := by rw [← HB.out.len]; exact hnear.rf.c1
        have hgxr : x.gx < wr.heap.size := hnear.rf.blk.lt
        have hLS : Lays wr x.a S.m S.lk S.ln := by
          have := hnear.rf.lays
          rw [HB.out.len, HB.out.K, HB.out.N] at this
          rw [hSm.1, hSm.2.1, hSm.2.2.1]; exact this
        have hRW : RdW wr ra 300 S.ws := rd_own hown
        have hrc := (own_le hown).1
        have hrcm := (own_le hown).2.1
        have HSP := Lib.hid hSp
        have HSN2 := Lib.hid hSn
        have HST := Lib.hid hSt
        have HSM := Lib.hid hSm
        have HLS := Lib.hid hLS
        have HRW := Lib.hid hRW
        have HRCM := Lib.hid hrcm
        have hBW : Below w.heap.size w wr := (Still.below HS0.out).trans (hnear.below.mono HS0.out.size)
        have HBW := Lib.hid hBW
        have HSO := Lib.hid (And.intro (so1 wr hnear.hp) (so2 wr hnear.hp))
        clear so1 so2 hSp hSn hSt hSm hLS hRW hrcm hBW hown hnear hS
        by_cases ht : 0 ≤ t ∧ t ≤ 300
        · obtain ⟨T, rfl⟩ := Int.eq_ofNat_of_zero_le ht.1
          have hT : T ≤ 300 := by omega
          have hkk : ∀ j, j < S.m → S.lk j = 1 ∨ S.lk j = 2 ∨ S.lk j = 3 := HNR.out.hp.kinds
          have hread := read_in S T (by rw [HSN2.out]; exact hT) (by rw [HSN2.out]; decide) HNR.out.hp.m_le hkk HNR.out.hp.ws_lt ra rc x.a x.cap wr (by rw [HSN2.out]; exact HRW.out) (by rw [HSN2.out]; exact hrc) HRCM.out HLS.out
          rw [HSN2.out, HSM.out.1] at hread
          have HREAD := Lib.hid hread
          clear hread hkk ht htl hth
          go_wp2_with fail
          refine HSO.out.1.mono ?_; rintro e w3 ⟨rfl, rfl⟩
          go_wp2_with fail
          refine HSO.out.2.mono ?_; rintro e w4 ⟨rfl, rfl⟩
          go_wp2_with fail
          refine HREAD.out.mono ?_; rintro e w5 (⟨y, rfl, hy, hya, hyn, hym, hyk, hyN, hlaid, t5⟩ | ⟨rfl, t5, hno⟩)
          · have HY := Lib.hid hy
            have HYA := Lib.hid hya
            have HYS := Lib.hid (And.intro hyn (And.intro hym (And.intro hyk hyN)))
            have HLAID := Lib.hid hlaid
            have HN5 := Lib.hid (HNR.out.still t5)
            have hgy := hy.blk.lt
            clear hy hya hyn hym hyk hyN hlaid t5
            have hclose := close_in S T w5 HN5.out.hp (by rw [HSN2.out]; exact hT)
            rw [HSP.out] at hclose
            have HCL := Lib.hid hclose
            clear hclose
            go_wp2_with fail
            have hcl := HLAID.out.closes HN5.out.hp.m_le (by omega)
            have HCLS := Lib.hid hcl
            clear hcl
            refine HCL.out.mono ?_; rintro e w6 (⟨l, hc, rfl, hp6, t6⟩ | ⟨hno, _, _⟩)
            case inr => exact absurd HCLS.out.1 (hno _)
            have hll : l = y.L.map RO.at_ := hc.1.same HCLS.out.1.1
            subst hll
            have hg5 : S.g < w4.heap.size := HNR.out.hp.blk.lt
            have hgw5 : S.gw < w4.heap.size := HNR.out.hp.words.lt
            have hW0 : W0.heap.size ≤ w4.heap.size := HNR.out.below.size
            have hrf6 : RfIs W0.heap.size w6 y := HY.out.beside hg5 hgw5 hW0 HNR.out.bg HNR.out.bgw (fun b off e h0 => by
              rw [HYA.out] at e
              refine HB.out.rf.old b off e ?_
              have h1 := HYS.out.2.1
              have h2 := HB.out.len
              have h3 := HSM.out.1
              omega) t6
            have hag : Agree W0.heap.size w6 (S.closed T (y.L.map RO.at_)) y := ⟨hp6, hrf6, HYS.out.1, HYS.out.2.1, HYS.out.2.2.1, HYS.out.2.2.2, HCLS.out.2⟩
            have hsame := same_any _ y w6 hag
            have hbl6 : Below W0.heap.size W0 w6 := t6.own HN5.out.below (Nat.le_refl _) (by
              rintro k (rfl | rfl)
              · exact HNR.out.bg
              · exact HNR.out.bgw)
            have hsame2 : Calls Try.prog 15 #[s.ptr, y.ptr] w6 fun e w' => e = .returned (.bool true) ∧ Still w6 w' := by rw [← HSP.out]; exact hsame
            have HSAME := Lib.hid hsame2
            have HBL6 := Lib.hid hbl6
            clear hc hp6 t6 hrf6 hag hsame hsame2 hbl6 HCL
            go_wp2_with (first
              | (go_at_call 15; (with_reducible refine HSAME.out.mono ?_); rintro e w7 ⟨rfl, t7⟩; have HT7 := Lib.hid t7; clear t7)
              | (go_at_call 7; (with_reducible refine (lives_any _).mono ?_); rintro e w9 ⟨rfl, hb⟩))
            go_ret
            have h1 := (Still.below HS0.out).trans (HBL6.out.mono HS0.out.size)
            have h2 := h1.trans ((Still.below HT7.out).mono h1.size)
            exact ⟨rfl, h2.trans (hb.mono h2.size)⟩
          · have HN5 := Lib.hid (HNR.out.still t5)
            have hclose := close_not T HN5.out.hp (by rw [HSN2.out]; exact hT) hno
            rw [HSP.out] at hclose
            have HCL := Lib.hid hclose
            clear hclose hno t5
            go_wp2_with fail
            refine HCL.out.mono ?_; rintro e w6 ⟨rfl, t6⟩
            have HN6 := Lib.hid (HN5.out.still t6)
            have htop := top_any S w6 HN6.out.hp
            rw [HSP.out, HST.out] at htop
            have HTOP := Lib.hid htop
            have hxt := fun W (hW : RfIs W0.heap.size W x) => refTop_any x W hW HB.out.agree.valid
            rw [HB.out.agree.sum] at hxt
            have HXT := Lib.hid hxt
            have hl1 : ∀ W, HpIs W S → Calls Try.prog 14 #[s.ptr, .int .i64 (-1)] W fun e w' => e = .returned (.int .u64 0) ∧ w' = W := fun W hW => by
              rw [← HSP.out]; exact load_out S (-1) W hW (.inl (by decide))
            have hl2 : ∀ W, HpIs W S → Calls Try.prog 14 #[s.ptr, .int .i64 300] W fun e w' => e = .returned (.int .u64 0) ∧ w' = W := fun W hW => by
              rw [← HSP.out]; exact load_out S 300 W hW (.inr (by rw [HSN2.out]; decide))
            have HL1 := Lib.hid hl1
            have HL2 := Lib.hid hl2
            have xx : ((s.top : Int) == s.top) = true := by simp
            clear htop hxt hl1 hl2 t6
            go_wp2_with (first
              | (go_at_call 12; (with_reducible refine HTOP.out.mono ?_); rintro e w6 ⟨rfl, rfl⟩)
              | (go_at_call 13; (with_reducible refine (HXT.out _ HN6.out.rf).mono ?_); rintro e w7 ⟨rfl, t7⟩; have HN7 := Lib.hid (HN6.out.still t7); clear t7)
              | (go_at_call 14; (with_reducible refine (HL1.out _ HN7.out.hp).mono ?_); rintro e w7 ⟨rfl, rfl⟩)
              | (go_at_call 14; (with_reducible refine (HL2.out _ HN7.out.hp).mono ?_); rintro e w7 ⟨rfl, rfl⟩)
              | (go_at_call 7; (with_reducible refine (lives_any _).mono ?_); rintro e w9 ⟨rfl, hb⟩))
            go_ret
            have h1 := (Still.below HS0.out).trans (HN7.out.below.mono HS0.out.size)
            exact ⟨rfl, h1.trans (hb.mono h1.size)⟩
        · have HTT : Hid (t < 0 ∨ (300 : Int) < t) := by unfold Hid; omega
          have hread := read_out 300 t HTT.out ra rc x.a s.m x.cap wr (by decide) hrc
          have HREAD := Lib.hid hread
          clear hread ht htl hth
          go_wp2_with fail
          refine HSO.out.1.mono ?_; rintro e w3 ⟨rfl, rfl⟩
          go_wp2_with fail
          refine HSO.out.2.mono ?_; rintro e w4 ⟨rfl, rfl⟩
          go_wp2_with fail
          refine HREAD.out.mono ?_; rintro e w5 ⟨rfl, t5⟩
          have HN5 := Lib.hid (HNR.out.still t5)
          have hclose := close_out S t w5 HN5.out.hp (by rw [HSN2.out]; exact HTT.out)
          rw [HSP.out] at hclose
          have HCL := Lib.hid hclose
          clear hclose t5
          go_wp2_with fail
          refine HCL.out.mono ?_; rintro e w6 ⟨rfl, t6⟩
          have HN6 := Lib.hid (HN5.out.still t6)
          have htop := top_any S w6 HN6.out.hp
          rw [HSP.out, HST.out] at htop
          have HTOP := Lib.hid htop
          have hxt := fun W (hW : RfIs W0.heap.size W x) => refTop_any x W hW HB.out.agree.valid
          rw [HB.out.agree.sum] at hxt
          have HXT := Lib.hid hxt
          have hl1 : ∀ W, HpIs W S → Calls Try.prog 14 #[s.ptr, .int .i64 (-1)] W fun e w' => e = .returned (.int .u64 0) ∧ w' = W := fun W hW => by
            rw [← HSP.out]; exact load_out S (-1) W hW (.inl (by decide))
          have hl2 : ∀ W, HpIs W S → Calls Try.prog 14 #[s.ptr, .int .i64 300] W fun e w' => e = .returned (.int .u64 0) ∧ w' = W := fun W hW => by
            rw [← HSP.out]; exact load_out S 300 W hW (.inr (by rw [HSN2.out]; decide))
          have HL1 := Lib.hid hl1
          have HL2 := Lib.hid hl2
          have xx : ((s.top : Int) == s.top) = true := by simp
          clear htop hxt hl1 hl2 t6
          go_wp2_with (first
            | (go_at_call 12; (with_reducible refine HTOP.out.mono ?_); rintro e w6 ⟨rfl, rfl⟩)
            | (go_at_call 13; (with_reducible refine (HXT.out _ HN6.out.rf).mono ?_); rintro e w7 ⟨rfl, t7⟩; have HN7 := Lib.hid (HN6.out.still t7); clear t7)
            | (go_at_call 14; (with_reducible refine (HL1.out _ HN7.out.hp).mono ?_); rintro e w7 ⟨rfl, rfl⟩)
            | (go_at_call 14; (with_reducible refine (HL2.out _ HN7.out.hp).mono ?_); rintro e w7 ⟨rfl, rfl⟩)
            | (go_at_call 7; (with_reducible refine (lives_any _).mono ?_); rintro e w9 ⟨rfl, hb⟩))
          go_ret
          have h1 := (Still.below HS0.out).trans (HN7.out.below.mono HS0.out.size)
          exact ⟨rfl, h1.trans (hb.mono h1.size)⟩
  · have HRD : Hid (RdW w a2 n2 f) := HIN.out.wds.rd
    have HLT : Hid (∀ i, i < n2 → f i < 18446744073709551616) := HIN.out.wds.lt
    have hli : ¬ (300 : Int) < n2 := by omega
    go_wp2_with fail
    refine HMD.out.mono ?_; rintro e w1 (⟨rfl, t1⟩ | ⟨s, x, rfl, hb, hsn, hxl, hsm, hlk, hln⟩)
    · have HT := Lib.hid (HS0.out.trans t1)
      clear t1 HMD
      go_wp2_with fail
      refine (lives_any _).mono ?_; rintro e w2 ⟨rfl, b2⟩
      go_wp2_with fail
      go_ret
      exact ⟨rfl, (Still.below HT.out).trans (b2.mono HT.out.size)⟩
    have HB := Lib.hid hb
    have HSN := Lib.hid hsn
    have hgx := hb.rf.blk.lt
    clear hb hsn hsm hlk hln HMD
    go_wp2_with fail
    refine (row_any s x w1 HB.out.agree).mono ?_; rintro e w2 ⟨⟨ra, rc, rfl, hown⟩, t2⟩
    rw [HSN.out] at hown
    rw [HSN.out]
    have HN2 := Lib.hid (HB.out.near.still t2)
    have HT2 := Lib.hid t2
    have HOW := Lib.hid hown
    clear t2 hown
    go_wp2_with fail
    go_loopw [41] (fun v wr => ∃ k : Nat, v = .int .i64 k ∧ k ≤ n2 ∧ Near W0 wr (s.stored f k) x ∧ wr.ownsRow w1.heap.size 33 1 (.slice ra 300 rc) 300 (M.u64s (s.stored f k).ws 300)) (fun v _ => n2 - (intOf v).toNat)
    case atStart => exact ⟨0, rfl, by omega, by rw [stored_zero]; exact HN2.out, by rw [stored_zero]; exact HOW.out⟩
    case round =>
      obtain ⟨k, rfl, hk, hnear, hown⟩ := hrel
      have HNR := Lib.hid hnear
      have HOR := Lib.hid hown
      have hBW : Below w.heap.size w wr := (Still.below HS0.out).trans (hnear.below.mono HS0.out.size)
      have HBW := Lib.hid hBW
      by_cases hlt : k < n2
      · obtain ⟨bw', ow', e0, hbw, hcell⟩ := HRD.out.at_ (by omega)
        have ck := hcell k hlt
        rw [← hBW.cell (p := ⟨bw', ow' + k, none⟩) hbw] at ck
        have hbw2 : bw' < wr.heap.size := Nat.lt_of_lt_of_le hbw hBW.size
        have hfk := HLT.out k hlt
        obtain ⟨V, hV⟩ : ∃ V, f k = V := ⟨_, rfl⟩
        rw [hV] at ck hfk
        have hst : Calls Try.prog 9 #[s.ptr, .int .i64 k, .int .u64 V] wr fun e w' => e = .returned (.tuple #[]) ∧ HpIs w' ((s.stored f k).put k V) ∧ Turn (fun k => k = s.gw) wr w' :=
          store_in (s.stored f k) k V wr hnear.hp (by show k < s.n; rw [HSN.out]; omega) hfk
        have HST := Lib.hid hst
        have HV := Lib.hid hV
        subst e0
        clear hcell hst hV hnear hown hBW
        go_wp2_with fail
        refine HST.out.mono ?_; rintro e w3 ⟨rfl, hp3, t3⟩
        have hn3 : Near W0 w3 (s.stored f (k + 1)) x := by
          have := HNR.out.step (t3.mono fun k _ e => .inr e) hp3 rfl rfl
          rw [← stored_succ, HV.out]; exact this
        have hown3 := own_keep HOR.out t3 (fun g hg e => by
          have h1 := (HOR.out.lt g hg).1
          have h2 := HB.out.hp.words.lt
          omega)
        obtain ⟨gr, hra, hgr, hr1, hr2, hr3, hr4⟩ := own_form hown3 (by omega)
        subst hra
        have hc3' := hr3 k _ (u64s_get _ 300 k (by omega))
        have hf3 := hr4 k
        have HN3 := Lib.hid hn3
        have HO3 := Lib.hid hown3
        unfold maxLen at hr2
        have hgB : w1.heap.size ≤ gr := by
          have := (hown3.lt gr (by simp [Value.ownBlock])).1
          exact this
        clear hr3 hr4 hn3 hown3 hp3 t3
        go_wp2_with fail
        go_roundw
        case rel =>
          refine ⟨k + 1, by go_num, by omega, ?_, ?_⟩
          · exact HB.out.near.far HN3.out rfl rfl rfl ((Turn.refl (fun k => k = gr) w3).setCell (fun _ => rfl) _) hgB
          · have := own_put (i := k) HO3.out (.int .u64 (V : Nat))
            rw [u64s_set (s.stored f k).ws 300 k V (s.stored f (k + 1)).ws (fun i => by
              rw [← stored_succ, HV.out]; rfl)] at this
            exact this
        case measure => simp [intOf]; omega
      · obtain rfl : k = n2 := by omega
        clear hlt
        obtain ⟨S, hS⟩ : ∃ S, s.stored f k = S := ⟨_, rfl⟩
        have hSp : S.ptr = s.ptr := by rw [← hS]; rfl
        have hSn : S.n = 300 := by rw [← hS]; exact HSN.out
        have hSt : S.top = s.top := by rw [← hS]; rfl
        have hSm : S.m = s.m ∧ S.lk = s.lk ∧ S.ln = s.ln ∧ S.g = s.g ∧ S.gw = s.gw := by rw [← hS]; exact ⟨rfl, rfl, rfl, rfl, rfl⟩
        rw [hS] at hnear hown HNR HOR
        have so1 : ∀ W, HpIs W S → Calls Try.prog 9 #[s.ptr, .int .i64 (-1), .int .u64 5] W fun e w' => e = .returned (.tuple #[]) ∧ w' = W := fun W hW => by
          rw [← hSp]; exact store_out S (-1) 5 W hW (.inl (by decide))
        have so2 : ∀ W, HpIs W S → Calls Try.prog 9 #[s.ptr, .int .i64 300, .int .u64 5] W fun e w' => e = .returned (.tuple #[]) ∧ w' = W := fun W hW => by
          rw [← hSp]; exact store_out S 300 5 W hW (.inr (by rw [hSn]; decide))
        have c1 : wr.cell? ⟨x.gx, 1, none⟩ = some (.slice x.a s.m x.cap) := by rw [← HB.out.len]; exact hnear.rf.c1
        have hgxr : x.gx < wr.heap.size := hnear.rf.blk.lt
        have hLS : Lays wr x.a S.m S.lk S.ln := by
          have := hnear.rf.lays
          rw [HB.out.len, HB.out.K, HB.out.N] at this
          rw [hSm.1, hSm.2.1, hSm.2.2.1]; exact this
        have hRW : RdW wr ra 300 S.ws := rd_own hown
        have hrc := (own_le hown).1
        have hrcm := (own_le hown).2.1
        have HSP := Lib.hid hSp
        have HSN2 := Lib.hid hSn
        have HST := Lib.hid hSt
        have HSM := Lib.hid hSm
        have HLS := Lib.hid hLS
        have HRW := Lib.hid hRW
        have HRCM := Lib.hid hrcm
        have hBW : Below w.heap.size w wr := (Still.below HS0.out).trans (hnear.below.mono HS0.out.size)
        have HBW := Lib.hid hBW
        have HSO := Lib.hid (And.intro (so1 wr hnear.hp) (so2 wr hnear.hp))
        clear so1 so2 hSp hSn hSt hSm hLS hRW hrcm hBW hown hnear hS
        by_cases ht : 0 ≤ t ∧ t ≤ 300
        · obtain ⟨T, rfl⟩ := Int.eq_ofNat_of_zero_le ht.1
          have hT : T ≤ 300 := by omega
          have hkk : ∀ j, j < S.m → S.lk j = 1 ∨ S.lk j = 2 ∨ S.lk j = 3 := HNR.out.hp.kinds
          have hread := read_in S T (by rw [HSN2.out]; exact hT) (by rw [HSN2.out]; decide) HNR.out.hp.m_le hkk HNR.out.hp.ws_lt ra rc x.a x.cap wr (by rw [HSN2.out]; exact HRW.out) (by rw [HSN2.out]; exact hrc) HRCM.out HLS.out
          rw [HSN2.out, HSM.out.1] at hread
          have HREAD := Lib.hid hread
          clear hread hkk ht htl hth
          go_wp2_with fail
          refine HSO.out.1.mono ?_; rintro e w3 ⟨rfl, rfl⟩
          go_wp2_with fail
          refine HSO.out.2.mono ?_; rintro e w4 ⟨rfl, rfl⟩
          go_wp2_with fail
          refine HREAD.out.mono ?_; rintro e w5 (⟨y, rfl, hy, hya, hyn, hym, hyk, hyN, hlaid, t5⟩ | ⟨rfl, t5, hno⟩)
          · have HY := Lib.hid hy
            have HYA := Lib.hid hya
            have HYS := Lib.hid (And.intro hyn (And.intro hym (And.intro hyk hyN)))
            have HLAID := Lib.hid hlaid
            have HN5 := Lib.hid (HNR.out.still t5)
            have hgy := hy.blk.lt
            clear hy hya hyn hym hyk hyN hlaid t5
            have hclose := close_in S T w5 HN5.out.hp (by rw [HSN2.out]; exact hT)
            rw [HSP.out] at hclose
            have HCL := Lib.hid hclose
            clear hclose
            go_wp2_with fail
            have hcl := HLAID.out.closes HN5.out.hp.m_le (by omega)
            have HCLS := Lib.hid hcl
            clear hcl
            refine HCL.out.mono ?_; rintro e w6 (⟨l, hc, rfl, hp6, t6⟩ | ⟨hno, _, _⟩)
            case inr => exact absurd HCLS.out.1 (hno _)
            have hll : l = y.L.map RO.at_ := hc.1.same HCLS.out.1.1
            subst hll
            have hg5 : S.g < w4.heap.size := HNR.out.hp.blk.lt
            have hgw5 : S.gw < w4.heap.size := HNR.out.hp.words.lt
            have hW0 : W0.heap.size ≤ w4.heap.size := HNR.out.below.size
            have hrf6 : RfIs W0.heap.size w6 y := HY.out.beside hg5 hgw5 hW0 HNR.out.bg HNR.out.bgw (fun b off e h0 => by
              rw [HYA.out] at e
              refine HB.out.rf.old b off e ?_
              have h1 := HYS.out.2.1
              have h2 := HB.out.len
              have h3 := HSM.out.1
              omega) t6
            have hag : Agree W0.heap.size w6 (S.closed T (y.L.map RO.at_)) y := ⟨hp6, hrf6, HYS.out.1, HYS.out.2.1, HYS.out.2.2.1, HYS.out.2.2.2, HCLS.out.2⟩
            have hsame := same_any _ y w6 hag
            have hbl6 : Below W0.heap.size W0 w6 := t6.own HN5.out.below (Nat.le_refl _) (by
              rintro k (rfl | rfl)
              · exact HNR.out.bg
              · exact HNR.out.bgw)
            have hsame2 : Calls Try.prog 15 #[s.ptr, y.ptr] w6 fun e w' => e = .returned (.bool true) ∧ Still w6 w' := by rw [← HSP.out]; exact hsame
            have HSAME := Lib.hid hsame2
            have HBL6 := Lib.hid hbl6
            clear hc hp6 t6 hrf6 hag hsame hsame2 hbl6 HCL
            go_wp2_with (first
              | (go_at_call 15; (with_reducible refine HSAME.out.mono ?_); rintro e w7 ⟨rfl, t7⟩; have HT7 := Lib.hid t7; clear t7)
              | (go_at_call 7; (with_reducible refine (lives_any _).mono ?_); rintro e w9 ⟨rfl, hb⟩))
            go_ret
            have h1 := (Still.below HS0.out).trans (HBL6.out.mono HS0.out.size)
            have h2 := h1.trans ((Still.below HT7.out).mono h1.size)
            exact ⟨rfl, h2.trans (hb.mono h2.size)⟩
          · have HN5 := Lib.hid (HNR.out.still t5)
            have hclose := close_not T HN5.out.hp (by rw [HSN2.out]; exact hT) hno
            rw [HSP.out] at hclose
            have HCL := Lib.hid hclose
            clear hclose hno t5
            go_wp2_with fail
            refine HCL.out.mono ?_; rintro e w6 ⟨rfl, t6⟩
            have HN6 := Lib.hid (HN5.out.still t6)
            have htop := top_any S w6 HN6.out.hp
            rw [HSP.out, HST.out] at htop
            have HTOP := Lib.hid htop
            have hxt := fun W (hW : RfIs W0.heap.size W x) => refTop_any x W hW HB.out.agree.valid
            rw [HB.out.agree.sum] at hxt
            have HXT := Lib.hid hxt
            have hl1 : ∀ W, HpIs W S → Calls Try.prog 14 #[s.ptr, .int .i64 (-1)] W fun e w' => e = .returned (.int .u64 0) ∧ w' = W := fun W hW => by
              rw [← HSP.out]; exact load_out S (-1) W hW (.inl (by decide))
            have hl2 : ∀ W, HpIs W S → Calls Try.prog 14 #[s.ptr, .int .i64 300] W fun e w' => e = .returned (.int .u64 0) ∧ w' = W := fun W hW => by
              rw [← HSP.out]; exact load_out S 300 W hW (.inr (by rw [HSN2.out]; decide))
            have HL1 := Lib.hid hl1
            have HL2 := Lib.hid hl2
            have xx : ((s.top : Int) == s.top) = true := by simp
            clear htop hxt hl1 hl2 t6
            go_wp2_with (first
              | (go_at_call 12; (with_reducible refine HTOP.out.mono ?_); rintro e w6 ⟨rfl, rfl⟩)
              | (go_at_call 13; (with_reducible refine (HXT.out _ HN6.out.rf).mono ?_); rintro e w7 ⟨rfl, t7⟩; have HN7 := Lib.hid (HN6.out.still t7); clear t7)
              | (go_at_call 14; (with_reducible refine (HL1.out _ HN7.out.hp).mono ?_); rintro e w7 ⟨rfl, rfl⟩)
              | (go_at_call 14; (with_reducible refine (HL2.out _ HN7.out.hp).mono ?_); rintro e w7 ⟨rfl, rfl⟩)
              | (go_at_call 7; (with_reducible refine (lives_any _).mono ?_); rintro e w9 ⟨rfl, hb⟩))
            go_ret
            have h1 := (Still.below HS0.out).trans (HN7.out.below.mono HS0.out.size)
            exact ⟨rfl, h1.trans (hb.mono h1.size)⟩
        · have HTT : Hid (t < 0 ∨ (300 : Int) < t) := by unfold Hid; omega
          have hread := read_out 300 t HTT.out ra rc x.a s.m x.cap wr (by decide) hrc
          have HREAD := Lib.hid hread
          clear hread ht htl hth
          go_wp2_with fail
          refine HSO.out.1.mono ?_; rintro e w3 ⟨rfl, rfl⟩
          go_wp2_with fail
          refine HSO.out.2.mono ?_; rintro e w4 ⟨rfl, rfl⟩
          go_wp2_with fail
          refine HREAD.out.mono ?_; rintro e w5 ⟨rfl, t5⟩
          have HN5 := Lib.hid (HNR.out.still t5)
          have hclose := close_out S t w5 HN5.out.hp (by rw [HSN2.out]; exact HTT.out)
          rw [HSP.out] at hclose
          have HCL := Lib.hid hclose
          clear hclose t5
          go_wp2_with fail
          refine HCL.out.mono ?_; rintro e w6 ⟨rfl, t6⟩
          have HN6 := Lib.hid (HN5.out.still t6)
          have htop := top_any S w6 HN6.out.hp
          rw [HSP.out, HST.out] at htop
          have HTOP := Lib.hid htop
          have hxt := fun W (hW : RfIs W0.heap.size W x) => refTop_any x W hW HB.out.agree.valid
          rw [HB.out.agree.sum] at hxt
          have HXT := Lib.hid hxt
          have hl1 : ∀ W, HpIs W S → Calls Try.prog 14 #[s.ptr, .int .i64 (-1)] W fun e w' => e = .returned (.int .u64 0) ∧ w' = W := fun W hW => by
            rw [← HSP.out]; exact load_out S (-1) W hW (.inl (by decide))
          have hl2 : ∀ W, HpIs W S → Calls Try.prog 14 #[s.ptr, .int .i64 300] W fun e w' => e = .returned (.int .u64 0) ∧ w' = W := fun W hW => by
            rw [← HSP.out]; exact load_out S 300 W hW (.inr (by rw [HSN2.out]; decide))
          have HL1 := Lib.hid hl1
          have HL2 := Lib.hid hl2
          have xx : ((s.top : Int) == s.top) = true := by simp
          clear htop hxt hl1 hl2 t6
          go_wp2_with (first
            | (go_at_call 12; (with_reducible refine HTOP.out.mono ?_); rintro e w6 ⟨rfl, rfl⟩)
            | (go_at_call 13; (with_reducible refine (HXT.out _ HN6.out.rf).mono ?_); rintro e w7 ⟨rfl, t7⟩; have HN7 := Lib.hid (HN6.out.still t7); clear t7)
            | (go_at_call 14; (with_reducible refine (HL1.out _ HN7.out.hp).mono ?_); rintro e w7 ⟨rfl, rfl⟩)
            | (go_at_call 14; (with_reducible refine (HL2.out _ HN7.out.hp).mono ?_); rintro e w7 ⟨rfl, rfl⟩)
            | (go_at_call 7; (with_reducible refine (lives_any _).mono ?_); rintro e w9 ⟨rfl, hb⟩))
          go_ret
          have h1 := (Still.below HS0.out).trans (HN7.out.below.mono HS0.out.size)
          exact ⟨rfl, h1.trans (hb.mono h1.size)⟩
end Go.Proofs.Ythfkgkddklnnhaa
