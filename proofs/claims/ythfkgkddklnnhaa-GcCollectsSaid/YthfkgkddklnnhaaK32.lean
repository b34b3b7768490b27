/- Lemmas, put together: Col2. -/
import Derived.Test.YthfkgkddklnnhaaK31
import Derived.Test.YthfkgkddklnnhaaK29
import Derived.Test.YthfkgkddklnnhaaK20
import Derived.Deep.RegionWith
import Derived.Deep.RegionHeld3
import Derived.Deep.RegionLaw
import Derived.StillTailTactics
/- The document's Collect. -/
namespace Go.Proofs.Ythfkgkddklnnhaa
set_option linter.unusedVariables false
open Go.ChangeShapes Go.WideShapes Go.ChangeAt Go.RowKit
open M (W)

theorem infoInt : (Try.prog.info? 3).map (fun i => (i.zero, i.size, i.bytes)) = some (some (.int .i64 0), 1, 8) := by kernel_rfl
theorem makeI (n : Nat) (h : n ≤ 65536) : ∀ W, (Instr.makeSlice 86 (.int .i64 (n : Int)) (.int .i64 (n : Int))).run Try.prog W = .ok (.slice (some ⟨W.heap.size, 0, none⟩) n n) (W.alloc (.cells (madeCells #[.int .i64 0] n) 3)) :=
  fun W => run_make_row' _ _ _ 8 Try.underlying86 infoInt rfl .i64 .i64 n (by omega) (by omega) W
theorem stepB {w3 wA W wB : World} {v v' : Value} {n n' : Nat} {xs xs' : List Value} (hSA : Still w3 wA) (hA : wA.ownsRow w3.heap.size 33 1 v n xs) (tB : Turn (fun k => v'.ownBlock = some k) W wB) (hown : W.ownsRow w3.heap.size 5 1 v' n' xs') (hW : Still wA W) : Hid (Still w3 wB) ∧ Hid (wB.ownsRow w3.heap.size 33 1 v n xs) :=
  ⟨Still.own_turn (hSA.trans hW) tB hown, own_other (own_keep hA hW (fun _ _ e => e)) tB hown (by decide)⟩
theorem Blk.new2 {W : World} {g : Nat} {t : TypeId} {cs : Array Value} (h : W.heap.size = g) : Blk (W.alloc (.cells cs t)) g t cs := by subst h; exact Blk.new W t cs
theorem carry {W W' : World} {e : TypeId} {base size n : Nat} {v : Value} {xs : List Value} (t : Turn (fun k => v.ownBlock = some k) W W') (hown : W.ownsRow base e size v n xs) : ∀ (k : Nat) (t : TypeId) (cs : Array Value), Blk W k t cs → e ≠ t → Blk W' k t cs := fun k t' cs hb hne => hb.other t hown hne
/-- Where Collect stands between two objects, in the first round. -/
structure Col (w : World) (s : St) (x : Rf) (mk : Nat → Bool) (t : Nat → Nat) (gi : Nat) (is : Nat → Bool) (gx gt i p : Nat) (wr : World) (y : Rf) : Prop where
  isr : wr.rowIs gi 4 x.L.length (fun k => .bool (is k))
  rf : RfIs w.heap.size wr y
  gx : y.gx = gx
  n : y.n = x.n
  len : y.len = x.len
  K : y.K = x.K
  N : y.N = x.N
  core : y.L.map RO.core = (M.keptL mk t (x.L.take i)).map RO.core
  tile : TileTo s s.top p (x.L.drop i)
  sum : y.sum y.L = (t p : Nat)
  few : y.L.length ≤ i
  to : wr.rowIs gt 3 x.L.length (fun k => .int .i64 (if k < i then (match x.L[k]? with | none => 0 | some o => if mk o.at_ = true then t o.at_ else 0) else 0 : Nat))
  still : Still w wr
theorem rf_new {w w1 : World} (ht : Still w w1) (n : Nat) (a : Option Addr) (len cap : Nat) (K N : Nat → Int) (hL : Lays w1 a len K N) (hold : ∀ b off, a = some ⟨b, off, none⟩ → 0 < len → b < w.heap.size) : RfIs w.heap.size (w1.alloc (.cells #[.int .i64 n, .slice a len cap, .slice none 0 0] 39)) (Rf.new w1.heap.size n a len cap K N) := by
  have T : Still w1 (w1.alloc (.cells #[.int .i64 n, .slice a len cap, .slice none 0 0] 39)) := (Still.refl w1).alloc _
  refine ⟨ht.size, Nat.le_trans ht.size T.size, ?_, hL.still T, hold, World.ownsRow_nil _ _ _ _, fun o ho => by simp [Rf.new] at ho, by simp [Rf.new], by simp [Rf.new]⟩
  refine ⟨_, heap_alloc_new w1 _, rfl, fun i hi => ?_⟩
  match i, hi with
  | 0, _ => rfl
  | 1, _ => rfl
  | 2, _ => rfl
theorem Col.go {w wr wr' : World} {s : St} {x : Rf} {mk : Nat → Bool} {t : Nat → Nat} {gi : Nat} {is : Nat → Bool} {gx gt i p : Nat} {y : Rf} (h : Col w s x mk t gi is gx gt i p wr y) (tt : Still wr wr') : Col w s x mk t gi is gx gt i p wr' y :=
  { h with isr := h.isr.of_block (tt.block _ h.isr.lt (fun e => e)), rf := h.rf.still tt, to := h.to.of_block (tt.block _ h.to.lt (fun e => e)), still := h.still.trans tt }
/-- An object that goes. -/
theorem Col.skip {w0 w wr : World} {s : St} {x : Rf} {mk : Nat → Bool} {gi : Nat} {is : Nat → Bool} {gx gt i p : Nat} {y : Rf} {o : RO} (h : Col w s x mk (M.tof s mk x.L) gi is gx gt i p wr y) (hr : Right w0 s x.L) (ho : x.L[i]? = some o) (hm : mk o.at_ = false) : Col w s x mk (M.tof s mk x.L) gi is gx gt (i + 1) (p + s.sz o) wr y := by
  obtain ⟨hat, htile⟩ : o.at_ = p ∧ TileTo s s.top (p + s.sz o) (x.L.drop (i + 1)) := by
    have e : x.L.drop i = o :: x.L.drop (i + 1) := by
      obtain ⟨hl, he⟩ := List.getElem?_eq_some_iff.1 ho
      rw [List.drop_eq_getElem_cons hl, he]
    have := h.tile
    rw [e] at this; exact this
  have hz : ∀ o ∈ x.L, 1 ≤ s.sz o := fun o ho => (hr.sim.good o ho).sz.2.2
  have hst := tof_step (mk := mk) hr.laid.tile hz o (List.mem_of_getElem? ho)
  rw [hm, if_neg (by decide), hat, Nat.add_zero] at hst
  refine { h with core := ?_, tile := htile, sum := by rw [hst]; exact h.sum, few := by have := h.few; omega, to := h.to.congr fun k hk => ?_ }
  · rw [take_snocR ho, keptL_snoc, if_neg (by rw [hm]; decide), List.append_nil]; exact h.core
  · by_cases e : k = i
    · subst e
      rw [if_neg (Nat.lt_irrefl _), if_pos (by omega), ho]
      show Value.int .i64 ((0 : Nat) : Int) = Value.int .i64 ((if mk o.at_ = true then _ else 0 : Nat) : Int)
      rw [hm]; rfl
    · by_cases e2 : k < i
      · rw [if_pos e2, if_pos (by omega)]
      · rw [if_neg e2, if_neg (by omega)]
/-- An object that is kept. -/
theorem Col.grow {B : Nat} {w0 w wr w3 W W4 : World} {s : St} {x : Rf} {mk : Nat → Bool} {gi : Nat} {is : Nat → Bool} {gx gt i p g cap : Nat} {y : Rf} {o o' : RO} {f : Nat → Value} (h : Col w s x mk (M.tof s mk x.L) gi is gx gt i p wr y) (hag : Agree B w0 s x) (hr : Right w0 s x.L) (ho : x.L[i]? = some o) (hm : mk o.at_ = true)
    (hrf : RfIs w.heap.size w3 y) (hto : w3.rowIs gt 3 x.L.length f) (hf : f = fun k => if k = i then .int .i64 (M.tof s mk x.L p : Nat) else .int .i64 (if k < i then (match x.L[k]? with | none => 0 | some o => if mk o.at_ = true then M.tof s mk x.L o.at_ else 0) else 0 : Nat)) (hisr : w3.rowIs gi 4 x.L.length (fun k => .bool (is k))) (hst : Still w w3) (hW : Still w3 W)
    (hc : o'.core = (o.kept (M.tof s mk x.L)).core) (hrow' : o'.row W w3.heap.size) (hrow : W4.ownsRow w.heap.size 73 5 (.slice (some ⟨g, 0, none⟩) (y.L.length + 1) cap) (y.L.length + 1) (y.L.flatMap RO.cells ++ o'.cells)) (t4 : Turn (fun k => y.lv.ownBlock = some k) W W4) (hl : y.L.length < 1000) :
    Col w s x mk (M.tof s mk x.L) gi is gx gt (i + 1) (p + s.sz o) (W4.setCell ⟨gx, 2, none⟩ (.slice (some ⟨g, 0, none⟩) (y.L.length + 1) cap)) (y.more (.slice (some ⟨g, 0, none⟩) (y.L.length + 1) cap) o') := by
  obtain ⟨r1, r2⟩ := hrf.more hW hrow' hrow t4 hl
  rw [h.gx] at r1 r2
  obtain ⟨hat, htile⟩ : o.at_ = p ∧ TileTo s s.top (p + s.sz o) (x.L.drop (i + 1)) := by
    have e : x.L.drop i = o :: x.L.drop (i + 1) := by
      obtain ⟨hl, he⟩ := List.getElem?_eq_some_iff.1 ho
      rw [List.drop_eq_getElem_cons hl, he]
    have := h.tile
    rw [e] at this; exact this
  have hz : ∀ o ∈ x.L, 1 ≤ s.sz o := fun o ho => (hr.sim.good o ho).sz.2.2
  have hst2 := tof_step (mk := mk) hr.laid.tile hz o (List.mem_of_getElem? ho)
  rw [hm, if_pos rfl, hat] at hst2
  refine ⟨?_, r1, h.gx, h.n, h.len, h.K, h.N, ?_, htile, ?_, ?_, ?_, ?_⟩
  · refine hisr.of_block (r2.block _ hisr.lt ?_)
    rintro (e | e)
    · have hb := hrf.blk
      rw [h.gx] at hb
      exact HpIs.rowIs_ne hisr hb (by decide) e
    · exact own_type hrf.row hisr (by decide) e
  · rw [take_snocR ho, keptL_snoc, if_pos hm]
    show (y.L ++ [o']).map RO.core = _
    rw [List.map_append, List.map_append, h.core]
    show _ ++ [o'.core] = _ ++ [(o.kept _).core]
    rw [hc]
  · show y.sum (y.L ++ [o']) = _
    have e1 : ∀ K : List RO, (y.more (.slice (some ⟨g, 0, none⟩) (y.L.length + 1) cap) o').sum K = y.sum K := fun K => rfl
    rw [y.sum_snoc, h.sum, hst2]
    have e2 : y.need o' = (s.sz o : Int) := by
      obtain ⟨_, c2, c3, _⟩ := core_eq hc
      have c2' : o'.sh = o.sh := c2
      have c3' : o'.n = o.n := c3
      unfold Rf.need
      rw [c2', c3', h.len, h.K, h.N, (hag.kd o.sh).1, (hag.kd o.sh).2]
      exact (hr.sim.good o (List.mem_of_getElem? ho)).sz.2.1
    rw [e2]; simp
  · show (y.L ++ [o']).length ≤ i + 1
    have := h.few
    simp; omega
  · refine (hto.of_block (r2.block _ hto.lt ?_)).congr fun k hk => ?_
    · rintro (e | e)
      · have hb := hrf.blk
        rw [h.gx] at hb
        exact HpIs.rowIs_ne hto hb (by decide) e
      · exact own_type hrf.row hto (by decide) e
    · rw [hf]
      by_cases e : k = i
      · subst e
        show (if k = k then _ else _) = _
        rw [if_pos rfl, if_pos (by omega), ho]
        show _ = Value.int .i64 ((if mk o.at_ = true then _ else 0 : Nat) : Int)
        rw [if_pos hm, hat]
      · show (if k = i then _ else _) = _
        rw [if_neg e]
        by_cases e2 : k < i
        · rw [if_pos e2, if_pos (by omega)]
        · rw [if_neg e2, if_neg (by omega)]
  · refine Still.own hst (r2.mono fun k _ e => ?_)
    rcases e with e | e
    · have := hrf.base; rw [h.gx] at this; omega
    · exact (hrf.row.lt k e).1
theorem rch_obj {w : World} {s : St} {L : List RO} {rl : List Nat} (h : Right w s L) (hfit : ∀ v ∈ rl, s.fits (v : Nat) = true) {b : Nat} (hr : M.Rch L rl b) : ∃ o ∈ L, o.at_ = b := by
  induction hr with
  | root hv he =>
    obtain ⟨o, ho, e⟩ := h.root (hfit _ hv) he
    exact ⟨o, ho, by omega⟩
  | field ho _ hv he _ =>
    obtain ⟨o, ho, e⟩ := h.root (h.fit _ ho _ hv) he
    exact ⟨o, ho, by omega⟩
theorem upd_at (y : Rf) (i : Nat) (q q2 : RO) (h : y.L[i]? = some q) : (y.upd i q2).L[i]? = some q2 := by
  show (y.L.set i q2)[i]? = some q2
  exact List.getElem?_set_self (List.getElem?_eq_some_iff.1 h).1
/-- What Collect answers and leaves. -/
def ColPost (w : World) (x : Rf) (L : List RO) (l : List Nat) (e : Ending) (w' : World) : Prop :=
  ∃ (y : Rf) (oa : Option Addr) (on oc : Nat), e = .returned (.tuple #[y.ptr, .slice oa on oc]) ∧ RfIs w.heap.size w' y ∧ y.n = x.n ∧ y.len = x.len ∧ y.K = x.K ∧ y.N = x.N ∧ y.L.map RO.core = L.map RO.core ∧ l.length = on ∧ w'.ownsRow w.heap.size 33 1 (.slice oa on oc) on (M.u64l l) ∧ Still w w'
/-- Where Collect stands in the second round. -/
structure Ren (w : World) (x : Rf) (t : Nat → Nat) (f : Nat → Value) (gx gt : Nat) (lv : Value) (K : List RO) (i k : Nat) (wr : World) (y : Rf) : Prop where
  rf : RfIs w.heap.size wr y
  gx : y.gx = gx
  lv : y.lv = lv
  n : y.n = x.n
  len : y.len = x.len
  Kk : y.K = x.K
  N : y.N = x.N
  core : y.L.map RO.core = (M.stage t K i k).map RO.core
  to : wr.rowIs gt 3 x.L.length f
  still : Still w wr
theorem Ren.go {w wr wr' : World} {x : Rf} {t : Nat → Nat} {f : Nat → Value} {gx gt : Nat} {lv : Value} {K : List RO} {i k : Nat} {y : Rf} (h : Ren w x t f gx gt lv K i k wr y) (tt : Still wr wr') : Ren w x t f gx gt lv K i k wr' y :=
  { h with rf := h.rf.still tt, to := h.to.of_block (tt.block _ h.to.lt (fun e => e)), still := h.still.trans tt }
theorem Ren.at_ {w wr : World} {x : Rf} {t : Nat → Nat} {f : Nat → Value} {gx gt : Nat} {lv : Value} {K : List RO} {i k j : Nat} {y : Rf} {q : RO} (h : Ren w x t f gx gt lv K i k wr y) (hq : y.L[j]? = some q) : ∃ o, K[j]? = some o ∧ q.core = ({ o with fs := if j < i then o.fs.map (M.ren t) else if j = i then M.renTo t k o.fs else o.fs } : RO).core := by
  have h1 : (y.L.map RO.core)[j]? = ((M.stage t K i k).map RO.core)[j]? := by rw [h.core]
  rw [List.getElem?_map, List.getElem?_map, stage_at, hq] at h1
  cases ho : K[j]? with
  | none => rw [ho] at h1; simp at h1
  | some o =>
    rw [ho] at h1
    simp only [Option.map_some, Option.some.injEq] at h1
    exact ⟨o, rfl, h1⟩
theorem Ren.len_eq {w wr : World} {x : Rf} {t : Nat → Nat} {f : Nat → Value} {gx gt : Nat} {lv : Value} {K : List RO} {i k : Nat} {y : Rf} (h : Ren w x t f gx gt lv K i k wr y) : y.L.length = K.length := by
  have := congrArg List.length h.core
  rw [List.length_map, List.length_map, stage_len] at this
  exact this
theorem Ren.set {w wr W : World} {x : Rf} {t : Nat → Nat} {f : Nat → Value} {gx gt : Nat} {lv : Value} {K : List RO} {i k g : Nat} {y : Rf} {o q : RO} (h : Ren w x t f gx gt lv K i k wr y) (hW : Still wr W) (ho : K[i]? = some o) (hk : k < o.fs.length) (hq : y.L[i]? = some q) (hg : q.fa = some ⟨g, 0, none⟩) :
    Ren w x t f gx gt lv K i (k + 1) (W.setCell ⟨g, k, none⟩ (.int .u64 (M.ren t (o.fs.getD k 0) : Nat))) (y.upd i { q with fs := q.fs.set k (M.ren t (o.fs.getD k 0)) }) ∧ w.heap.size ≤ g := by
  obtain ⟨o2, ho2, hc⟩ := h.at_ hq
  rw [ho] at ho2
  injection ho2 with ho2
  subst ho2
  rw [if_neg (Nat.lt_irrefl _), if_pos rfl] at hc
  have hfs : q.fs = M.renTo t k o.fs := (core_eq hc).2.2.2.1
  have hW2 := h.go hW
  obtain ⟨r1, r2⟩ := hW2.rf.updF (v := M.ren t (o.fs.getD k 0)) hq hg (by rw [hfs, renTo_len]; exact hk)
  have T : Turn (fun b => b = g) W (W.setCell ⟨g, k, none⟩ (.int .u64 (M.ren t (o.fs.getD k 0) : Nat))) := (Turn.refl (fun b => b = g) W).setCell (p := ⟨g, k, none⟩) (fun _ => rfl) _
  have hfb : q.fv.ownBlock = some g := by show Value.ownBlock (.slice q.fa _ _) = _; rw [hg]; rfl
  refine ⟨⟨r1, h.gx, h.lv, h.n, h.len, h.Kk, h.N, ?_, ?_, ?_⟩, r2⟩
  · refine stage_set t K y.L i k o _ ho h.core ?_
    obtain ⟨c1, c2, c3, _, c5⟩ := core_eq hc
    have e : q.fs.set k (M.ren t (o.fs.getD k 0)) = M.renTo t (k + 1) o.fs := by
      rw [hfs, List.getD_eq_getElem?_getD, List.getElem?_eq_getElem hk]
      exact renTo_set t k o.fs hk
    show (q.at_, q.sh, q.n, q.fs.set k _, q.bs) = (o.at_, o.sh, o.n, M.renTo t (k + 1) o.fs, o.bs)
    rw [e]
    rw [show q.at_ = o.at_ from c1, show q.sh = o.sh from c2, show q.n = o.n from c3, show q.bs = o.bs from c5]
  · exact hW2.to.of_block (T.block _ hW2.to.lt (fun e => own_type (hW2.rf.rows q (List.mem_of_getElem? hq)).1 hW2.to (by decide) (by rw [hfb, e])))
  · exact Still.own hW2.still (T.mono fun b _ e => by rw [e]; exact r2)
set_option maxRecDepth 100000 in
set_option maxHeartbeats 8000000 in
theorem refCollect_any {B B0 base' : Nat} (s : St) (x : Rf) (w w0 : World) (hrf : RfIs B w x) (h : Agree B0 w0 s x) (hff : ∀ o ∈ x.L, ∀ v ∈ o.fs, s.fits (v : Nat) = true) (rl : List Nat) (a : Option Addr) (n c : Nat) (hsrc : Que w base' 33 a n c (M.u64l rl)) (hlt : ∀ v ∈ rl, v < 18446744073709551616) (hn : n ≤ 30) (hfit : ∀ v ∈ rl, s.fits (v : Nat) = true) (mk : Nat → Bool) (hmk : ∀ b, mk b = true ↔ M.Rch x.L rl b) (hr : Right w0 s x.L) :
    Calls Try.prog 20 #[x.ptr, .slice a n c] w (ColPost w x (M.slid mk (M.tof s mk x.L) x.L) (rl.map (M.ren (M.tof s mk x.L)))) := by
  have hREA := reached_any x w hrf rl a n c base' hsrc hlt (by omega) (fun o ho => (h.sim.good o ho).flat.2.2.2.1) (fun o ho => (h.sim.good o ho).fl)
    (fun v hv he => by obtain ⟨o, ho, e⟩ := hr.root (hfit v hv) he; exact ⟨o, ho, by omega⟩)
    (fun o ho v hv he => by obtain ⟨q, hq, e⟩ := hr.root (hff o ho v hv) he; exact ⟨q, hq, by omega⟩)
    (fun j k p o hj hk e => by
      rcases Nat.lt_trichotomy j k with h1 | h1 | h1
      · exact absurd (by omega) (h.sim.uniq hk j p h1 hj)
      · exact h1
      · exact absurd (by omega) (h.sim.uniq hj k o h1 hk))
  have hxl : x.L.length ≤ 1000 := hrf.few
  have HREA := Lib.hid hREA
  have HH := Lib.hid h
  have HRF0 := Lib.hid hrf
  have HSRC := Lib.hid hsrc
  have HLT := Lib.hid hlt
  have HFIT := Lib.hid hfit
  have HFF := Lib.hid hff
  have HMK := Lib.hid hmk
  have HR := Lib.hid hr
  obtain ⟨xa, xc, hlv⟩ := hrf.lv_slice
  have HLV := Lib.hid hlv
  clear h hrf hsrc hlt hfit hff hmk hr hREA hlv
  go_enter Try.func20, Try.ntmps20
  go_wp2_with fail
  refine HREA.out.mono ?_; rintro e w1 ⟨gi, is, rfl, his, hiff, t1, hgi⟩
  have hR1 := HRF0.out.still t1
  have c0 := hR1.c0
  have c1 := hR1.c1
  have c2 := hR1.c2
  rw [HLV.out] at c2
  have hgx := hR1.blk.lt
  have HIS := Lib.hid his
  have HIFF := Lib.hid hiff
  have HT1 := Lib.hid t1
  clear hR1 his hiff t1 HREA
  go_wp2_with fail
  have hmk := makeI x.L.length (by omega)
  refine wp_region_still_tail 9 (by kernel_rfl) (by kernel_rfl) ?_
  simp only [List.take_succ_cons, List.take_zero, List.drop_succ_cons, List.drop_zero]
  change wpStill _ _ w1.drew (fun a' => wpList _ _ _ _ a' w1.drew) _ _
  have c2d : w1.drew.cell? ⟨x.gx, 2, none⟩ = some (.slice xa x.L.length xc) := c2
  have hgxd : x.gx < w1.drew.heap.size := hgx
  have hsd : w1.drew.heap.size = w1.heap.size := rfl
  have HT2 : Hid (Still w w1.drew) := HT1.out.drew
  have HIS2 : Hid (w1.drew.rowIs gi 4 x.L.length (fun k => .bool (is k))) := HIS.out
  repeat still_step
  refine wpStill_nil ?_
  clear c0 c1 c2 hgx hsd HIS HT1
  generalize w1.drew = w1 at *
  have hy0 := rf_new HT2.out x.n x.a x.len x.cap x.K x.N (HRF0.out.lays.still HT2.out) (fun b off e h0 => by
    obtain ⟨b', off', e', hb, _⟩ := HRF0.out.lays.at_ h0
    have := e.symm.trans e'
    injection this with this
    injection this with e1 _ _
    omega)
  have hcol0 : Col w s x mk (M.tof s mk x.L) gi is w1.heap.size (w1.heap.size + 1) 0 0 ((w1.alloc (.cells #[.int .i64 x.n, .slice x.a x.len x.cap, .slice none 0 0] 39)).alloc (.cells (madeCells #[.int .i64 0] x.L.length) 3)) (Rf.new w1.heap.size x.n x.a x.len x.cap x.K x.N) := by
    refine ⟨(HIS2.out.alloc _).alloc _, hy0.still ((Still.refl _).alloc _), rfl, rfl, rfl, rfl, rfl, rfl, HH.out.sim.tile.to, ?_, Nat.le_refl _, ?_, (HT2.out.alloc _).alloc _⟩
    · rw [tof_zero HH.out.sim.tile.to (Nat.le_refl _)]; rfl
    · have := World.rowIs_made (w1.alloc (.cells #[.int .i64 x.n, .slice x.a x.len x.cap, .slice none 0 0] 39)) (.int .i64 0) x.L.length 3
      simp only [World.size_alloc] at this
      exact this.congr fun i _ => by simp
  have HCOL := Lib.hid hcol0
  have HGY : Hid (w.heap.size ≤ w1.heap.size) := HT2.out.size
  clear hy0 hcol0
  go_wp2_with fail
  go_loopw [41] (fun v wr => ∃ (i p : Nat) (y : Rf), v = .int .i64 i ∧ i ≤ x.L.length ∧ Col w s x mk (M.tof s mk x.L) gi is w1.heap.size (w1.heap.size + 1) i p wr y) (fun v _ => x.L.length - (intOf v).toNat)
  case atStart => exact ⟨0, 0, _, rfl, by omega, HCOL.out⟩
  case round =>
    clear HCOL
    obtain ⟨i, p, y, rfl, hi, hcol⟩ := hrel
    by_cases hlt : i < x.L.length
    · obtain ⟨o, ho⟩ : ∃ o, x.L[i]? = some o := ⟨_, List.getElem?_eq_getElem hlt⟩
      have hism : is i = mk o.at_ := by
        have h1 := HIFF.out i o ho
        have h2 := HMK.out o.at_
        cases h3 : is i <;> cases h4 : mk o.at_ <;> simp [h3, h4] at h1 h2 ⊢ <;> (first | exact absurd h2 h1 | exact absurd h1 h2 | (exfalso; exact h1 h2) | (exfalso; exact h2 h1))
      rcases (HRF0.out.still hcol.still).lv_form with ⟨_, h0⟩ | ⟨g, cap, h1, hg, hb, hle, hmm, hf, hcc⟩
      · rw [h0] at hlt; simp at hlt
      have h2 := h1.symm.trans HLV.out
      injection h2 with h3 _ h4
      subst h3; subst h4
      obtain ⟨d0, d1, d2, d3, d4⟩ := hcc i o ho
      have hom := List.mem_of_getElem? ho
      have ci := hcol.isr.cell (i := i) hlt
      rw [hism] at ci
      have hgi2 : gi < wr.heap.size := hcol.isr.lt
      have HC := Lib.hid hcol
      have HO := Lib.hid ho
      have HOM := Lib.hid hom
      have HBK := Lib.hid (Blk.new wr 73 o.arr)
      unfold maxLen at hmm
      clear hcc h1 hf hb hle hcol ho hom hism
      cases hm : mk o.at_ with
      | false =>
        rw [hm] at ci
        have HM := Lib.hid hm
        clear hm
        go_wp2_with fail
        go_roundw
        case rel => exact ⟨i + 1, p + s.sz o, y, by go_num, by omega, (HC.out.skip HR.out HO.out HM.out).go ((Still.refl wr).alloc _)⟩
        case measure => simp [intOf]; omega
      | true =>
        rw [hm] at ci
        have HM := Lib.hid hm
        clear hm
        have hval : ∀ j, j < y.len → y.K j = 1 ∨ y.K j = 2 ∨ y.K j = 3 := by rw [HC.out.len, HC.out.K]; exact HH.out.valid
        have htop := refTop_any y (wr.alloc (.cells o.arr 73)) (HC.out.rf.still ((Still.refl wr).alloc _)) hval
        rw [HC.out.sum] at htop
        have hyp : y.ptr = .pointer (some ⟨w1.heap.size, 0, none⟩) := by show Value.pointer (some ⟨y.gx, 0, none⟩) = _; rw [HC.out.gx]
        rw [hyp] at htop
        obtain ⟨T, hT⟩ : ∃ T, M.tof s mk x.L p = T := ⟨_, rfl⟩
        rw [hT] at htop
        have HTOP := Lib.hid htop
        have HTT := Lib.hid hT
        clear hval htop hyp hT
        go_wp2_with fail
        refine HTOP.out.mono ?_; rintro e w2 ⟨rfl, t2⟩
        have HC2 := Lib.hid (HC.out.go (((Still.refl wr).alloc _).trans t2))
        have HB2 := Lib.hid (Still.blk t2 HBK.out)
        have HS2 := Lib.hid ((((Still.refl wr).alloc (.cells o.arr 73))).trans t2)
        have hto := HC2.out.to.lt
        have hcto := HC2.out.to.cell (i := i) hlt
        have hfto := HC2.out.to.frozen i
        clear t2
        go_wp2_with fail
        have t3 : Turn (fun k => k = w1.heap.size + 1) w2 (w2.setCell ⟨w1.heap.size + 1, i, none⟩ (.int .i64 T)) := (Turn.refl (fun k => k = w1.heap.size + 1) w2).setCell (p := ⟨w1.heap.size + 1, i, none⟩) (fun _ => rfl) _
        have hgyle := HGY.out
        have hrf3 := HC2.out.rf.keep t3 (fun k e => by subst e; omega) (fun e => by have := HC2.out.gx; omega) (fun k hk e => own_type HC2.out.rf.row HC2.out.to (by decide) (by rw [hk, e])) (fun q hq k hk e => by
          rcases hk with hk | hk
          · exact own_type (HC2.out.rf.rows q hq).1 HC2.out.to (by decide) (by rw [hk, e])
          · exact own_type (HC2.out.rf.rows q hq).2 HC2.out.to (by decide) (by rw [hk, e]))
        have hto3 := HC2.out.to.set i (.int .i64 T)
        have hb3 := HB2.out.keep t3 (by have := HC.out.to.lt; omega)
        have hst3 : Still w (w2.setCell ⟨w1.heap.size + 1, i, none⟩ (.int .i64 T)) := Still.own HC2.out.still (t3.mono fun k _ e => by subst e; omega)
        have hfs3 := own_keep ((HRF0.out.still HC2.out.still).rows o HOM.out).1 t3 (fun k hk e => own_type ((HRF0.out.still HC2.out.still).rows o HOM.out).1 HC2.out.to (by decide) (by rw [hk, e]))
        have hbs3 := own_keep ((HRF0.out.still HC2.out.still).rows o HOM.out).2 t3 (fun k hk e => own_type ((HRF0.out.still HC2.out.still).rows o HOM.out).2 HC2.out.to (by decide) (by rw [hk, e]))
        have hisr3 := HC2.out.isr.of_block (t3.block _ HC2.out.isr.lt (fun e => HpIs.rowIs_ne HC2.out.isr HC2.out.to (by decide) e))
        have HRF3 := Lib.hid hrf3
        have HTO3 := Lib.hid hto3
        have HB3 := Lib.hid hb3
        have HST3 := Lib.hid hst3
        have HFS3 := Lib.hid hfs3
        have HBS3 := Lib.hid hbs3
        have HISR3 := Lib.hid hisr3
        have hszr : w2.heap.size = (w2.setCell ⟨w1.heap.size + 1, i, none⟩ (.int .i64 T)).heap.size := by simp
        have hbxl : wr.heap.size < w2.heap.size := HB2.out.lt
        have hwl := HS2.out.size
        have hgyr : w1.heap.size + 1 < wr.heap.size := HC.out.to.lt
        have HLVY : Hid (∀ k, y.lv.ownBlock = some k → w.heap.size ≤ k ∧ k < wr.heap.size) := fun k hk => HC.out.rf.row.lt k hk
        rw [hszr] at hbxl hwl
        clear t3 hrf3 hto3 hb3 hst3 hfs3 hbs3 hisr3 hszr hto hcto hfto HB2
        generalize w2.setCell ⟨w1.heap.size + 1, i, none⟩ (.int .i64 T) = w3 at *
        obtain ⟨ya, yc, hyv⟩ := HRF3.out.lv_slice
        have c2y : w3.cell? ⟨w1.heap.size, 2, none⟩ = some (.slice ya y.L.length yc) := by rw [← hyv, ← HC.out.gx]; exact HRF3.out.c2
        have cto : w3.cell? ⟨w1.heap.size + 1, i, none⟩ = some (.int .i64 T) := by rw [HTO3.out.cell hlt, if_pos rfl]
        obtain ⟨b0, b1, b2, b3, b4⟩ := blk5 HB3.out
        have HYV := Lib.hid hyv
        have hyl : y.L.length ≤ 1000 := HRF3.out.few
        have hfl := (HH.out.sim.good o HOM.out).flat.2.2.2
        have HFL := Lib.hid hfl
        have HKP : Hid (∀ W, Turn (fun k => k = w1.heap.size ∨ y.lv.ownBlock = some k) w3 W → W.cell? ⟨w1.heap.size + 1, i, none⟩ = some (.int .i64 T) ∧ W.cell? ⟨wr.heap.size, 1, none⟩ = some (.int .i64 o.sh) ∧ W.cell? ⟨wr.heap.size, 2, none⟩ = some (.int .i64 o.n) ∧ W.cell? ⟨wr.heap.size, 3, none⟩ = some o.fv ∧ W.cell? ⟨wr.heap.size, 4, none⟩ = some o.bv) := fun W tW => by
          have n1 : ¬ (w1.heap.size + 1 = w1.heap.size ∨ y.lv.ownBlock = some (w1.heap.size + 1)) := by
            rintro (e | e)
            · omega
            · exact own_type HRF3.out.row HTO3.out (by decide) e
          have n2 : ¬ (wr.heap.size = w1.heap.size ∨ y.lv.ownBlock = some wr.heap.size) := by
            rintro (e | e)
            · omega
            · have := (HLVY.out _ e).2; omega
          exact ⟨(tW.cell (p := ⟨w1.heap.size + 1, i, none⟩) (by simp; omega) n1).trans cto, (tW.cell (p := ⟨wr.heap.size, 1, none⟩) hbxl n2).trans b1, (tW.cell (p := ⟨wr.heap.size, 2, none⟩) hbxl n2).trans b2, (tW.cell (p := ⟨wr.heap.size, 3, none⟩) hbxl n2).trans b3, (tW.cell (p := ⟨wr.heap.size, 4, none⟩) hbxl n2).trans b4⟩
        have hgy3 : w1.heap.size < w3.heap.size := by omega
        have hgyf : w3.frozen? ⟨w1.heap.size, 2, none⟩ = false := by rw [← HC.out.gx]; exact HRF3.out.blk.frozen 2
        have hne1 : ¬ w1.heap.size = wr.heap.size := by omega
        clear hfl hyv b0
        have HTOF : Hid ((fun j => if j = i then .int .i64 T else .int .i64 (if j < i then (match x.L[j]? with | none => 0 | some o => if mk o.at_ = true then M.tof s mk x.L o.at_ else 0) else 0 : Nat)) = fun k => if k = i then Value.int .i64 (M.tof s mk x.L p : Nat) else .int .i64 (if k < i then (match x.L[k]? with | none => 0 | some o => if mk o.at_ = true then M.tof s mk x.L o.at_ else 0) else 0 : Nat)) := by rw [HTT.out]; rfl
        have HOAT : Hid (o.at_ = p) := by
          have e : x.L.drop i = o :: x.L.drop (i + 1) := by
            obtain ⟨hl, he⟩ := List.getElem?_eq_some_iff.1 HO.out
            rw [List.drop_eq_getElem_cons hl, he]
          have := HC.out.tile
          rw [e] at this; exact this.1
        have HCORE : Hid (∀ a5 k5 a6 k6, (⟨T, o.sh, o.n, o.fs, o.bs, a5, k5, a6, k6⟩ : RO).core = (o.kept (M.tof s mk x.L)).core) := fun a5 k5 a6 k6 => by
          show (T, _) = (M.tof s mk x.L o.at_, _)
          rw [HOAT.out, HTT.out]; rfl
        have HROWY : Hid (w3.ownsRow w.heap.size 73 5 (.slice ya y.L.length yc) y.L.length (y.L.flatMap RO.cells)) := by
          have := HRF3.out.row; rw [HYV.out] at this; exact this
        have NLY : Hid ((Value.slice ya y.L.length yc).ownBlock ≠ some w1.heap.size) := by
          have := own_type HRF3.out.row HRF3.out.blk (by decide); rw [HYV.out, HC.out.gx] at this; exact this
        refine wp_region_held_drew (S := fun W => W.cell? ⟨w1.heap.size + 1, i, none⟩ = some (.int .i64 T) ∧ W.cell? ⟨wr.heap.size, 1, none⟩ = some (.int .i64 o.sh) ∧ W.cell? ⟨wr.heap.size, 2, none⟩ = some (.int .i64 o.n) ∧ W.cell? ⟨wr.heap.size, 3, none⟩ = some o.fv ∧ W.cell? ⟨wr.heap.size, 4, none⟩ = some o.bv) (by kernel_rfl) ?_ (fun hHeld => ?_)
        · exact HKP.out _ (Turn.drew (Turn.refl _ _))
        try simp only [Act.put, List.getElem_toArray, List.getElem_cons_succ, List.getElem_cons_zero, List.setIfInBounds_toArray, List.set_cons_zero, List.set_cons_succ]
        refine wpAnyH_take (i := 0) (v := ?_) rfl (by kernel_rfl) (by kernel_rfl) (by kernel_rfl) (fun _ _ _ h => h) (Or.inl ⟨by rfl, ?_⟩) (by assumption) ?_
        rotate_left
        · intro w hSw; (try dsimp only at hSw); go_simp; try with_reducible rfl
        try simp only [Act.put, List.getElem_toArray, List.getElem_cons_succ, List.getElem_cons_zero, List.setIfInBounds_toArray, List.set_cons_zero, List.set_cons_succ]
        refine wpAnyH_take (i := 1) (v := ?_) rfl (by kernel_rfl) (by kernel_rfl) (by kernel_rfl) (fun _ _ _ h => h) (Or.inl ⟨by rfl, ?_⟩) (by assumption) ?_
        rotate_left
        · intro w hSw; (try dsimp only at hSw); go_simp; try with_reducible rfl
        try simp only [Act.put, List.getElem_toArray, List.getElem_cons_succ, List.getElem_cons_zero, List.setIfInBounds_toArray, List.set_cons_zero, List.set_cons_succ]
        refine wpAnyH_take (i := 2) (v := ?_) rfl (by kernel_rfl) (by kernel_rfl) (by kernel_rfl) (fun _ _ _ h => h) (Or.inl ⟨by rfl, ?_⟩) (by assumption) ?_
        rotate_left
        · intro w hSw; (try dsimp only at hSw); go_simp; try with_reducible rfl
        try simp only [Act.put, List.getElem_toArray, List.getElem_cons_succ, List.getElem_cons_zero, List.setIfInBounds_toArray, List.set_cons_zero, List.set_cons_succ]
        refine wpAnyH_take (i := 3) (v := ?_) rfl (by kernel_rfl) (by kernel_rfl) (by kernel_rfl) (fun _ _ _ h => h) (Or.inl ⟨by rfl, ?_⟩) (by assumption) ?_
        rotate_left
        · intro w hSw; (try dsimp only at hSw); go_simp; try with_reducible rfl
        try simp only [Act.put, List.getElem_toArray, List.getElem_cons_succ, List.getElem_cons_zero, List.setIfInBounds_toArray, List.set_cons_zero, List.set_cons_succ]
        refine wpAnyH_take (i := 5) (v := ?_) rfl (by kernel_rfl) (by kernel_rfl) (by kernel_rfl) (fun _ _ _ h => h) (Or.inl ⟨by rfl, ?_⟩) (by assumption) ?_
        rotate_left
        · intro w hSw; (try dsimp only at hSw); go_simp; try with_reducible rfl
        try simp only [Act.put, List.getElem_toArray, List.getElem_cons_succ, List.getElem_cons_zero, List.setIfInBounds_toArray, List.set_cons_zero, List.set_cons_succ]
        refine wpAnyH_take (i := 6) (v := ?_) rfl (by kernel_rfl) (by kernel_rfl) (by kernel_rfl) (fun _ _ _ h => h) (Or.inl ⟨by rfl, ?_⟩) (by assumption) ?_
        rotate_left
        · intro w hSw; (try dsimp only at hSw); go_simp; try with_reducible rfl
        try simp only [Act.put, List.getElem_toArray, List.getElem_cons_succ, List.getElem_cons_zero, List.setIfInBounds_toArray, List.set_cons_zero, List.set_cons_succ]
        refine wpAnyH_take (i := 7) (v := ?_) rfl (by kernel_rfl) (by kernel_rfl) (by kernel_rfl) (fun _ _ _ h => h) (Or.inl ⟨by rfl, ?_⟩) (by assumption) ?_
        rotate_left
        · intro w hSw; (try dsimp only at hSw); go_simp; try with_reducible rfl
        try simp only [Act.put, List.getElem_toArray, List.getElem_cons_succ, List.getElem_cons_zero, List.setIfInBounds_toArray, List.set_cons_zero, List.set_cons_succ]
        refine wpAnyH_take (i := 8) (v := ?_) rfl (by kernel_rfl) (by kernel_rfl) (by kernel_rfl) (fun _ _ _ h => h) (Or.inl ⟨by rfl, ?_⟩) (by assumption) ?_
        rotate_left
        · intro w hSw; (try dsimp only at hSw); go_simp; try with_reducible rfl
        try simp only [Act.put, List.getElem_toArray, List.getElem_cons_succ, List.getElem_cons_zero, List.setIfInBounds_toArray, List.set_cons_zero, List.set_cons_succ]
        refine wpAnyH_take (i := 9) (v := ?_) rfl (by kernel_rfl) (by kernel_rfl) (by kernel_rfl) (fun _ _ _ h => h) (Or.inl ⟨by rfl, ?_⟩) (by assumption) ?_
        rotate_left
        · intro w hSw; (try dsimp only at hSw); go_simp; try with_reducible rfl
        try simp only [Act.put, List.getElem_toArray, List.getElem_cons_succ, List.getElem_cons_zero, List.setIfInBounds_toArray, List.set_cons_zero, List.set_cons_succ]
        refine wpAnyH_take (i := 10) (v := ?_) rfl (by kernel_rfl) (by kernel_rfl) (by kernel_rfl) (fun _ _ _ h => h) (Or.inl ⟨by rfl, ?_⟩) (by assumption) ?_
        rotate_left
        · intro w hSw; (try dsimp only at hSw); go_simp; try with_reducible rfl
        try simp only [Act.put, List.getElem_toArray, List.getElem_cons_succ, List.getElem_cons_zero, List.setIfInBounds_toArray, List.set_cons_zero, List.set_cons_succ]
        refine wpAnyH_take (i := 11) (v := ?_) rfl (by kernel_rfl) (by kernel_rfl) (by kernel_rfl) (fun _ _ _ h => h) (Or.inl ⟨by rfl, ?_⟩) (by assumption) ?_
        rotate_left
        · intro w hSw; (try dsimp only at hSw); go_simp; try with_reducible rfl
        try simp only [Act.put, List.getElem_toArray, List.getElem_cons_succ, List.getElem_cons_zero, List.setIfInBounds_toArray, List.set_cons_zero, List.set_cons_succ]
        refine wpAnyH_take (i := 12) (v := ?_) rfl (by kernel_rfl) (by kernel_rfl) (by kernel_rfl) (fun _ _ _ h => h) (Or.inl ⟨by rfl, ?_⟩) (by assumption) ?_
        rotate_left
        · intro w hSw; (try dsimp only at hSw); go_simp; try with_reducible rfl
        try simp only [Act.put, List.getElem_toArray, List.getElem_cons_succ, List.getElem_cons_zero, List.setIfInBounds_toArray, List.set_cons_zero, List.set_cons_succ]
        refine wpAnyH_take (i := 14) (v := ?_) rfl (by kernel_rfl) (by kernel_rfl) (by kernel_rfl) (fun _ _ _ h => h) (Or.inl ⟨by rfl, ?_⟩) (by assumption) ?_
        rotate_left
        · intro w hSw; (try dsimp only at hSw); go_simp; try with_reducible rfl
        try simp only [Act.put, List.getElem_toArray, List.getElem_cons_succ, List.getElem_cons_zero, List.setIfInBounds_toArray, List.set_cons_zero, List.set_cons_succ]
        refine wpAnyH_take (i := 15) (v := ?_) rfl (by kernel_rfl) (by kernel_rfl) (by kernel_rfl) (fun _ _ _ h => h) (Or.inl ⟨by rfl, ?_⟩) (by assumption) ?_
        rotate_left
        · intro w hSw; (try dsimp only at hSw); go_simp; try with_reducible rfl
        try simp only [Act.put, List.getElem_toArray, List.getElem_cons_succ, List.getElem_cons_zero, List.setIfInBounds_toArray, List.set_cons_zero, List.set_cons_succ]
        refine wpAnyH_take (i := 18) (v := ?_) rfl (by kernel_rfl) (by kernel_rfl) (by kernel_rfl) (fun _ _ _ h => h) (Or.inl ⟨by rfl, ?_⟩) (by assumption) ?_
        rotate_left
        · intro w hSw; (try dsimp only at hSw); go_simp; try with_reducible rfl
        try simp only [Act.put, List.getElem_toArray, List.getElem_cons_succ, List.getElem_cons_zero, List.setIfInBounds_toArray, List.set_cons_zero, List.set_cons_succ]
        refine wpAnyH_take (i := 19) (v := ?_) rfl (by kernel_rfl) (by kernel_rfl) (by kernel_rfl) (fun _ _ _ h => h) (Or.inl ⟨by rfl, ?_⟩) (by assumption) ?_
        rotate_left
        · intro w hSw; (try dsimp only at hSw); go_simp; try with_reducible rfl
        try simp only [Act.put, List.getElem_toArray, List.getElem_cons_succ, List.getElem_cons_zero, List.setIfInBounds_toArray, List.set_cons_zero, List.set_cons_succ]
        refine wpAnyH_ready (rs := [4, 13, 17]) (by kernel_rfl) (by simp) ?_
        refine AllReadyH.cons rfl (fun K hK => ?_) (AllReadyH.cons rfl (fun K hK => ?_) (AllReadyH.cons rfl (fun K hK => ?_) AllReadyH.nil))
        · go_simp
          refine hK.out _ _ ?_ (fun hHeld => ?_)
          · go_keep
          clear hK K
          try simp only [Act.put, List.getElem_toArray, List.getElem_cons_succ, List.getElem_cons_zero, List.setIfInBounds_toArray, List.set_cons_zero, List.set_cons_succ]
          refine wpAnyH_ready (rs := [13, 17]) (by kernel_rfl) (by simp) ?_
          refine AllReadyH.cons rfl (fun K hK => ?_) (AllReadyH.cons rfl (fun K hK => ?_) AllReadyH.nil)
          · go_simp
            refine hK.out _ _ ?_ (fun hHeld => ?_)
            · go_keep
            clear hK K
            try simp only [Act.put, List.getElem_toArray, List.getElem_cons_succ, List.getElem_cons_zero, List.setIfInBounds_toArray, List.set_cons_zero, List.set_cons_succ]
            refine wpAnyH_ready (rs := [16, 17]) (by kernel_rfl) (by simp) ?_
            refine AllReadyH.cons rfl (fun K hK => ?_) (AllReadyH.cons rfl (fun K hK => ?_) AllReadyH.nil)
            · refine step_append_row rfl (.tmp 68) (.tmp 70) 24 rfl w3.heap.size 33 1 8 (.int .u64 0) Try.underlying24 infoU rfl (by decide) _ 0 0 [] (by rfl) (own_empty (by first | exact Blk.new _ _ _ | exact (Blk.new _ _ _).alloc _ | exact Blk.new2 (by simp)) (by first | (simp; done) | (simp; omega))) B o.fa o.fs.length o.fc (o.fs.map fun v : Nat => Value.int .u64 (v : Int)) (by rfl) (own_keep HFS3.out (by (first | exact (((Still.refl w3).drew).alloc _) | exact ((((Still.refl w3).drew).alloc _).alloc _))) (fun _ _ e => e)) (nats_one _) (by have := HFL.out; unfold maxLen; omega) (by have := HFL.out; omega) (by first | (simp; done) | (simp; omega)) ?_
              simp only [Nat.zero_add, List.nil_append]
              intro a5 k5 wA hA tA
              have HSA : Hid (Still w3 wA) := Still.own_turn (by (first | exact (((Still.refl w3).drew).alloc _) | exact ((((Still.refl w3).drew).alloc _).alloc _))) tA.out (own_empty (size := 1) (by first | exact Blk.new _ _ _ | exact (Blk.new _ _ _).alloc _ | exact Blk.new2 (by simp)) (by first | (simp; done) | (simp; omega)))
              have q2A : wA.cell? ⟨w1.heap.size, 2, none⟩ = some (.slice ya y.L.length yc) := (HSA.out.cell (p := ⟨w1.heap.size, 2, none⟩) hgy3).trans c2y
              have hgA : w1.heap.size < wA.heap.size := Nat.lt_of_lt_of_le hgy3 HSA.out.size
              have HKA := Lib.hid (carry tA.out (own_empty (base := w3.heap.size) (size := 1) (by first | exact Blk.new _ _ _ | exact (Blk.new _ _ _).alloc _ | exact Blk.new2 (by simp)) (by first | (simp; done) | (simp; omega))))
              clear tA
              refine hK.out _ _ ?_ (fun hHeld => ?_)
              · exact HKP.out _ (Still.turn HSA.out)
              clear hK K
              try simp only [Act.put, List.getElem_toArray, List.getElem_cons_succ, List.getElem_cons_zero, List.setIfInBounds_toArray, List.set_cons_zero, List.set_cons_succ]
              refine wpAnyH_ready (rs := [17]) (by kernel_rfl) (by simp) ?_
              refine AllReadyH.cons rfl (fun K hK => ?_) AllReadyH.nil
              go_simp
              refine hK.out _ _ ?_ (fun hHeld => ?_)
              · go_keep
              clear hK K
              try simp only [Act.put, List.getElem_toArray, List.getElem_cons_succ, List.getElem_cons_zero, List.setIfInBounds_toArray, List.set_cons_zero, List.set_cons_succ]
              refine wpAnyH_ready (rs := [20]) (by kernel_rfl) (by simp) ?_
              refine AllReadyH.cons rfl (fun K hK => ?_) AllReadyH.nil
              refine step_append_row rfl (.tmp 72) (.tmp 74) 71 rfl w3.heap.size 5 1 1 (.int .u8 0) Try.underlying71 infoB rfl (by decide) _ 0 0 [] (by rfl) (own_empty (by first | exact Blk.new _ _ _ | exact HKA.out _ _ _ (Blk.new _ _ _) (by decide) | exact HKA.out _ _ _ (Blk.new2 (by simp)) (by decide) | exact HKA.out _ _ _ ((Blk.new _ _ _).alloc _) (by decide)) (by have := HSA.out.size; first | omega | (simp; done) | (simp; omega))) B o.ba o.bs.length o.bc (o.bs.map fun v : Nat => Value.int .u8 (v : Int)) (by rfl) (own_keep HBS3.out (by first | exact HSA.out | exact HSA.out.alloc _) (fun _ _ e => e)) (by intro u hu; obtain ⟨v, _, rfl⟩ := List.mem_map.1 hu; rfl) (by have := HFL.out; unfold maxLen; omega) (by have := HFL.out; omega) (by have := HSA.out.size; simp; omega) ?_
              simp only [Nat.zero_add, List.nil_append]
              intro a6 k6 wB hB tB
              obtain ⟨HSB, HAB⟩ := stepB HSA.out hA.out tB.out (own_empty (size := 1) (by first | exact Blk.new _ _ _ | exact HKA.out _ _ _ (Blk.new _ _ _) (by decide) | exact HKA.out _ _ _ (Blk.new2 (by simp)) (by decide) | exact HKA.out _ _ _ ((Blk.new _ _ _).alloc _) (by decide)) (by have := HSA.out.size; first | omega | (simp; done) | (simp; omega))) (by first | exact Still.refl _ | exact (Still.refl _).alloc _)
              have q2B : wB.cell? ⟨w1.heap.size, 2, none⟩ = some (.slice ya y.L.length yc) := (HSB.out.cell (p := ⟨w1.heap.size, 2, none⟩) hgy3).trans c2y
              have hgB : w1.heap.size < wB.heap.size := Nat.lt_of_lt_of_le hgy3 HSB.out.size
              clear tB
              refine hK.out _ _ ?_ (fun hHeld => ?_)
              · exact HKP.out _ (Still.turn HSB.out)
              clear hK K
              try simp only [Act.put, List.getElem_toArray, List.getElem_cons_succ, List.getElem_cons_zero, List.setIfInBounds_toArray, List.set_cons_zero, List.set_cons_succ]
              refine wpAnyH_take (i := 21) (v := ?_) rfl (by kernel_rfl) (by kernel_rfl) (by kernel_rfl) (fun _ _ _ h => h) (Or.inl ⟨by rfl, ?_⟩) (by assumption) ?_
              rotate_left
              · intro w hSw; (try dsimp only at hSw); go_simp; try with_reducible rfl
              try simp only [Act.put, List.getElem_toArray, List.getElem_cons_succ, List.getElem_cons_zero, List.setIfInBounds_toArray, List.set_cons_zero, List.set_cons_succ]
              refine wpAnyH_ready (rs := [22]) (by kernel_rfl) (by simp) ?_
              refine AllReadyH.cons rfl (fun K hK => ?_) AllReadyH.nil
              go_simp
              refine hK.out _ _ ?_ (fun hHeld => ?_)
              · exact HKP.out _ (Still.turn (HSB.out.alloc _))
              clear hK K
              try simp only [Act.put, List.getElem_toArray, List.getElem_cons_succ, List.getElem_cons_zero, List.setIfInBounds_toArray, List.set_cons_zero, List.set_cons_succ]
              refine wpAnyH_ready (rs := [23]) (by kernel_rfl) (by simp) ?_
              refine AllReadyH.cons rfl (fun K hK => ?_) AllReadyH.nil
              refine step_append_form rfl (.tmp 59) (.tmp 77) 37 rfl w.heap.size 73 5 72 _ Try.underlying37 infoO rfl (by decide) ya y.L.length yc _ (by rfl) (own_keep HROWY.out (HSB.out.alloc _) (fun _ _ e => e)) ⟨wB.heap.size, 0, none⟩ 1 1 [.int .i64 T, .int .i64 o.sh, .int .i64 o.n, .slice a5 o.fs.length k5, .slice a6 o.bs.length k6] (by rfl) rfl (fun j u hj => by rw [Addr.add_lit, Nat.zero_add, (Blk.new wB 73 #[.int .i64 T, .int .i64 o.sh, .int .i64 o.n, .slice a5 o.fs.length k5, .slice a6 o.bs.length k6]).cell j]; simpa using hj) (by simp [Value.oneCell']) (by decide) (by unfold maxLen; omega) (by omega) (by have := HST3.out.size; have := HSB.out.size; simp; omega) ?_
              intro g9 c9 wC hC tC nC
              have HTC : Hid (Turn (fun k => k = w1.heap.size ∨ y.lv.ownBlock = some k) w3 wC) := (Still.turn (HSB.out.alloc _)).trans (tC.out.mono fun k _ e => .inr (by rw [HYV.out]; exact e))
              have q2C : wC.cell? ⟨w1.heap.size, 2, none⟩ = some (.slice ya y.L.length yc) := (tC.out.cell (p := ⟨w1.heap.size, 2, none⟩) (by simp; omega) NLY.out).trans ((World.cell?_alloc_lt wB _ ⟨w1.heap.size, 2, none⟩ hgB).trans q2B)
              have q2Cf : wC.frozen? ⟨w1.heap.size, 2, none⟩ = false := (tC.out.frozen (p := ⟨w1.heap.size, 2, none⟩) (by simp; omega) NLY.out).trans ((Turn.frozen (HSB.out.alloc _) (p := ⟨w1.heap.size, 2, none⟩) hgy3 (fun e => e)).trans hgyf)
              refine hK.out _ _ ?_ (fun hHeld => ?_)
              · exact HKP.out _ HTC.out
              clear hK K
              try simp only [Act.put, List.getElem_toArray, List.getElem_cons_succ, List.getElem_cons_zero, List.setIfInBounds_toArray, List.set_cons_zero, List.set_cons_succ]
              refine wpAnyH_take (i := 24) (v := ?_) rfl (by kernel_rfl) (by kernel_rfl) (by kernel_rfl) (fun _ _ _ h => h) (Or.inl ⟨by rfl, ?_⟩) (by assumption) ?_
              rotate_left
              · intro w hSw; (try dsimp only at hSw); go_simp; try with_reducible rfl
              try simp only [Act.put, List.getElem_toArray, List.getElem_cons_succ, List.getElem_cons_zero, List.setIfInBounds_toArray, List.set_cons_zero, List.set_cons_succ]
              refine wpAnyH_take (i := 25) (v := ?_) rfl (by kernel_rfl) (by kernel_rfl) (by kernel_rfl) (fun _ _ _ h => h) (Or.inl ⟨by rfl, ?_⟩) (by assumption) ?_
              rotate_left
              · intro w hSw; (try dsimp only at hSw); go_simp; try with_reducible rfl
              try simp only [Act.put, List.getElem_toArray, List.getElem_cons_succ, List.getElem_cons_zero, List.setIfInBounds_toArray, List.set_cons_zero, List.set_cons_succ]
              refine wpAnyH_ready (rs := [26]) (by kernel_rfl) (by simp) ?_
              refine AllReadyH.cons rfl (fun K hK => ?_) AllReadyH.nil
              go_simp
              refine hK.out _ _ ?_ (fun hHeld => ?_)
              · exact HKP.out _ (Turn.setCell HTC.out (fun _ => .inl rfl) _)
              clear hK K
              try simp only [Act.put, List.getElem_toArray, List.getElem_cons_succ, List.getElem_cons_zero, List.setIfInBounds_toArray, List.set_cons_zero, List.set_cons_succ]
              refine wpAnyH_done (by kernel_rfl) ?_ _
              go_wp2_with fail
              go_roundw
              case rel =>
                exact ⟨i + 1, p + s.sz o, _, by go_num, by omega, HC.out.grow HH.out HR.out HO.out HM.out HRF3.out HTO3.out HTOF.out HISR3.out HST3.out (HSB.out.alloc _) (o' := ⟨T, o.sh, o.n, o.fs, o.bs, a5, k5, a6, k6⟩) (HCORE.out _ _ _ _) ⟨own_keep HAB.out ((Still.refl wB).alloc _) (fun _ _ e => e), own_keep hB.out ((Still.refl wB).alloc _) (fun _ _ e => e)⟩ hC.out (by rw [HYV.out]; exact tC.out) (by have := HC.out.few; omega)⟩
              case measure => simp [intOf]; omega
            · go_simp
              refine hK.out _ _ ?_ (fun hHeld => ?_)
              · go_keep
              clear hK K
              try simp only [Act.put, List.getElem_toArray, List.getElem_cons_succ, List.getElem_cons_zero, List.setIfInBounds_toArray, List.set_cons_zero, List.set_cons_succ]
              refine wpAnyH_ready (rs := [16]) (by kernel_rfl) (by simp) ?_
              refine AllReadyH.cons rfl (fun K hK => ?_) AllReadyH.nil
              refine step_append_row rfl (.tmp 68) (.tmp 70) 24 rfl w3.heap.size 33 1 8 (.int .u64 0) Try.underlying24 infoU rfl (by decide) _ 0 0 [] (by rfl) (own_empty (by first | exact Blk.new _ _ _ | exact (Blk.new _ _ _).alloc _ | exact Blk.new2 (by simp)) (by first | (simp; done) | (simp; omega))) B o.fa o.fs.length o.fc (o.fs.map fun v : Nat => Value.int .u64 (v : Int)) (by rfl) (own_keep HFS3.out (by (first | exact (((Still.refl w3).drew).alloc _) | exact ((((Still.refl w3).drew).alloc _).alloc _))) (fun _ _ e => e)) (nats_one _) (by have := HFL.out; unfold maxLen; omega) (by have := HFL.out; omega) (by first | (simp; done) | (simp; omega)) ?_
              simp only [Nat.zero_add, List.nil_append]
              intro a5 k5 wA hA tA
              have HSA : Hid (Still w3 wA) := Still.own_turn (by (first | exact (((Still.refl w3).drew).alloc _) | exact ((((Still.refl w3).drew).alloc _).alloc _))) tA.out (own_empty (size := 1) (by first | exact Blk.new _ _ _ | exact (Blk.new _ _ _).alloc _ | exact Blk.new2 (by simp)) (by first | (simp; done) | (simp; omega)))
              have q2A : wA.cell? ⟨w1.heap.size, 2, none⟩ = some (.slice ya y.L.length yc) := (HSA.out.cell (p := ⟨w1.heap.size, 2, none⟩) hgy3).trans c2y
              have hgA : w1.heap.size < wA.heap.size := Nat.lt_of_lt_of_le hgy3 HSA.out.size
              have HKA := Lib.hid (carry tA.out (own_empty (base := w3.heap.size) (size := 1) (by first | exact Blk.new _ _ _ | exact (Blk.new _ _ _).alloc _ | exact Blk.new2 (by simp)) (by first | (simp; done) | (simp; omega))))
              clear tA
              refine hK.out _ _ ?_ (fun hHeld => ?_)
              · exact HKP.out _ (Still.turn HSA.out)
              clear hK K
              try simp only [Act.put, List.getElem_toArray, List.getElem_cons_succ, List.getElem_cons_zero, List.setIfInBounds_toArray, List.set_cons_zero, List.set_cons_succ]
              refine wpAnyH_ready (rs := [20]) (by kernel_rfl) (by simp) ?_
              refine AllReadyH.cons rfl (fun K hK => ?_) AllReadyH.nil
              refine step_append_row rfl (.tmp 72) (.tmp 74) 71 rfl w3.heap.size 5 1 1 (.int .u8 0) Try.underlying71 infoB rfl (by decide) _ 0 0 [] (by rfl) (own_empty (by first | exact Blk.new _ _ _ | exact HKA.out _ _ _ (Blk.new _ _ _) (by decide) | exact HKA.out _ _ _ (Blk.new2 (by simp)) (by decide) | exact HKA.out _ _ _ ((Blk.new _ _ _).alloc _) (by decide)) (by have := HSA.out.size; first | omega | (simp; done) | (simp; omega))) B o.ba o.bs.length o.bc (o.bs.map fun v : Nat => Value.int .u8 (v : Int)) (by rfl) (own_keep HBS3.out (by first | exact HSA.out | exact HSA.out.alloc _) (fun _ _ e => e)) (by intro u hu; obtain ⟨v, _, rfl⟩ := List.mem_map.1 hu; rfl) (by have := HFL.out; unfold maxLen; omega) (by have := HFL.out; omega) (by have := HSA.out.size; simp; omega) ?_
              simp only [Nat.zero_add, List.nil_append]
              intro a6 k6 wB hB tB
              obtain ⟨HSB, HAB⟩ := stepB HSA.out hA.out tB.out (own_empty (size := 1) (by first | exact Blk.new _ _ _ | exact HKA.out _ _ _ (Blk.new _ _ _) (by decide) | exact HKA.out _ _ _ (Blk.new2 (by simp)) (by decide) | exact HKA.out _ _ _ ((Blk.new _ _ _).alloc _) (by decide)) (by have := HSA.out.size; first | omega | (simp; done) | (simp; omega))) (by first | exact Still.refl _ | exact (Still.refl _).alloc _)
              have q2B : wB.cell? ⟨w1.heap.size, 2, none⟩ = some (.slice ya y.L.length yc) := (HSB.out.cell (p := ⟨w1.heap.size, 2, none⟩) hgy3).trans c2y
              have hgB : w1.heap.size < wB.heap.size := Nat.lt_of_lt_of_le hgy3 HSB.out.size
              clear tB
              refine hK.out _ _ ?_ (fun hHeld => ?_)
              · exact HKP.out _ (Still.turn HSB.out)
              clear hK K
              try simp only [Act.put, List.getElem_toArray, List.getElem_cons_succ, List.getElem_cons_zero, List.setIfInBounds_toArray, List.set_cons_zero, List.set_cons_succ]
              refine wpAnyH_take (i := 21) (v := ?_) rfl (by kernel_rfl) (by kernel_rfl) (by kernel_rfl) (fun _ _ _ h => h) (Or.inl ⟨by rfl, ?_⟩) (by assumption) ?_
              rotate_left
              · intro w hSw; (try dsimp only at hSw); go_simp; try with_reducible rfl
              try simp only [Act.put, List.getElem_toArray, List.getElem_cons_succ, List.getElem_cons_zero, List.setIfInBounds_toArray, List.set_cons_zero, List.set_cons_succ]
              refine wpAnyH_ready (rs := [22]) (by kernel_rfl) (by simp) ?_
              refine AllReadyH.cons rfl (fun K hK => ?_) AllReadyH.nil
              go_simp
              refine hK.out _ _ ?_ (fun hHeld => ?_)
              · exact HKP.out _ (Still.turn (HSB.out.alloc _))
              clear hK K
              try simp only [Act.put, List.getElem_toArray, List.getElem_cons_succ, List.getElem_cons_zero, List.setIfInBounds_toArray, List.set_cons_zero, List.set_cons_succ]
              refine wpAnyH_ready (rs := [23]) (by kernel_rfl) (by simp) ?_
              refine AllReadyH.cons rfl (fun K hK => ?_) AllReadyH.nil
              refine step_append_form rfl (.tmp 59) (.tmp 77) 37 rfl w.heap.size 73 5 72 _ Try.underlying37 infoO rfl (by decide) ya y.L.length yc _ (by rfl) (own_keep HROWY.out (HSB.out.alloc _) (fun _ _ e => e)) ⟨wB.heap.size, 0, none⟩ 1 1 [.int .i64 T, .int .i64 o.sh, .int .i64 o.n, .slice a5 o.fs.length k5, .slice a6 o.bs.length k6] (by rfl) rfl (fun j u hj => by rw [Addr.add_lit, Nat.zero_add, (Blk.new wB 73 #[.int .i64 T, .int .i64 o.sh, .int .i64 o.n, .slice a5 o.fs.length k5, .slice a6 o.bs.length k6]).cell j]; simpa using hj) (by simp [Value.oneCell']) (by decide) (by unfold maxLen; omega) (by omega) (by have := HST3.out.size; have := HSB.out.size; simp; omega) ?_
              intro g9 c9 wC hC tC nC
              have HTC : Hid (Turn (fun k => k = w1.heap.size ∨ y.lv.ownBlock = some k) w3 wC) := (Still.turn (HSB.out.alloc _)).trans (tC.out.mono fun k _ e => .inr (by rw [HYV.out]; exact e))
              have q2C : wC.cell? ⟨w1.heap.size, 2, none⟩ = some (.slice ya y.L.length yc) := (tC.out.cell (p := ⟨w1.heap.size, 2, none⟩) (by simp; omega) NLY.out).trans ((World.cell?_alloc_lt wB _ ⟨w1.heap.size, 2, none⟩ hgB).trans q2B)
              have q2Cf : wC.frozen? ⟨w1.heap.size, 2, none⟩ = false := (tC.out.frozen (p := ⟨w1.heap.size, 2, none⟩) (by simp; omega) NLY.out).trans ((Turn.frozen (HSB.out.alloc _) (p := ⟨w1.heap.size, 2, none⟩) hgy3 (fun e => e)).trans hgyf)
              refine hK.out _ _ ?_ (fun hHeld => ?_)
              · exact HKP.out _ HTC.out
              clear hK K
              try simp only [Act.put, List.getElem_toArray, List.getElem_cons_succ, List.getElem_cons_zero, List.setIfInBounds_toArray, List.set_cons_zero, List.set_cons_succ]
              refine wpAnyH_take (i := 24) (v := ?_) rfl (by kernel_rfl) (by kernel_rfl) (by kernel_rfl) (fun _ _ _ h => h) (Or.inl ⟨by rfl, ?_⟩) (by assumption) ?_
              rotate_left
              · intro w hSw; (try dsimp only at hSw); go_simp; try with_reducible rfl
              try simp only [Act.put, List.getElem_toArray, List.getElem_cons_succ, List.getElem_cons_zero, List.setIfInBounds_toArray, List.set_cons_zero, List.set_cons_succ]
              refine wpAnyH_take (i := 25) (v := ?_) rfl (by kernel_rfl) (by kernel_rfl) (by kernel_rfl) (fun _ _ _ h => h) (Or.inl ⟨by rfl, ?_⟩) (by assumption) ?_
              rotate_left
              · intro w hSw; (try dsimp only at hSw); go_simp; try with_reducible rfl
              try simp only [Act.put, List.getElem_toArray, List.getElem_cons_succ, List.getElem_cons_zero, List.setIfInBounds_toArray, List.set_cons_zero, List.set_cons_succ]
              refine wpAnyH_ready (rs := [26]) (by kernel_rfl) (by simp) ?_
              refine AllReadyH.cons rfl (fun K hK => ?_) AllReadyH.nil
              go_simp
              refine hK.out _ _ ?_ (fun hHeld => ?_)
              · exact HKP.out _ (Turn.setCell HTC.out (fun _ => .inl rfl) _)
              clear hK K
              try simp only [Act.put, List.getElem_toArray, List.getElem_cons_succ, List.getElem_cons_zero, List.setIfInBounds_toArray, List.set_cons_zero, List.set_cons_succ]
              refine wpAnyH_done (by kernel_rfl) ?_ _
              go_wp2_with fail
              go_roundw
              case rel =>
                exact ⟨i + 1, p + s.sz o, _, by go_num, by omega, HC.out.grow HH.out HR.out HO.out HM.out HRF3.out HTO3.out HTOF.out HISR3.out HST3.out (HSB.out.alloc _) (o' := ⟨T, o.sh, o.n, o.fs, o.bs, a5, k5, a6, k6⟩) (HCORE.out _ _ _ _) ⟨own_keep HAB.out ((Still.refl wB).alloc _) (fun _ _ e => e), own_keep hB.out ((Still.refl wB).alloc _) (fun _ _ e => e)⟩ hC.out (by rw [HYV.out]; exact tC.out) (by have := HC.out.few; omega)⟩
              case measure => simp [intOf]; omega
          · go_simp
            refine hK.out _ _ ?_ (fun hHeld => ?_)
            · go_keep
            clear hK K
            try simp only [Act.put, List.getElem_toArray, List.getElem_cons_succ, List.getElem_cons_zero, List.setIfInBounds_toArray, List.set_cons_zero, List.set_cons_succ]
            refine wpAnyH_ready (rs := [13]) (by kernel_rfl) (by simp) ?_
            refine AllReadyH.cons rfl (fun K hK => ?_) AllReadyH.nil
            go_simp
            refine hK.out _ _ ?_ (fun hHeld => ?_)
            · go_keep
            clear hK K
            try simp only [Act.put, List.getElem_toArray, List.getElem_cons_succ, List.getElem_cons_zero, List.setIfInBounds_toArray, List.set_cons_zero, List.set_cons_succ]
            refine wpAnyH_ready (rs := [16]) (by kernel_rfl) (by simp) ?_
            refine AllReadyH.cons rfl (fun K hK => ?_) AllReadyH.nil
            refine step_append_row rfl (.tmp 68) (.tmp 70) 24 rfl w3.heap.size 33 1 8 (.int .u64 0) Try.underlying24 infoU rfl (by decide) _ 0 0 [] (by rfl) (own_empty (by first | exact Blk.new _ _ _ | exact (Blk.new _ _ _).alloc _ | exact Blk.new2 (by simp)) (by first | (simp; done) | (simp; omega))) B o.fa o.fs.length o.fc (o.fs.map fun v : Nat => Value.int .u64 (v : Int)) (by rfl) (own_keep HFS3.out (by (first | exact (((Still.refl w3).drew).alloc _) | exact ((((Still.refl w3).drew).alloc _).alloc _))) (fun _ _ e => e)) (nats_one _) (by have := HFL.out; unfold maxLen; omega) (by have := HFL.out; omega) (by first | (simp; done) | (simp; omega)) ?_
            simp only [Nat.zero_add, List.nil_append]
            intro a5 k5 wA hA tA
            have HSA : Hid (Still w3 wA) := Still.own_turn (by (first | exact (((Still.refl w3).drew).alloc _) | exact ((((Still.refl w3).drew).alloc _).alloc _))) tA.out (own_empty (size := 1) (by first | exact Blk.new _ _ _ | exact (Blk.new _ _ _).alloc _ | exact Blk.new2 (by simp)) (by first | (simp; done) | (simp; omega)))
            have q2A : wA.cell? ⟨w1.heap.size, 2, none⟩ = some (.slice ya y.L.length yc) := (HSA.out.cell (p := ⟨w1.heap.size, 2, none⟩) hgy3).trans c2y
            have hgA : w1.heap.size < wA.heap.size := Nat.lt_of_lt_of_le hgy3 HSA.out.size
            have HKA := Lib.hid (carry tA.out (own_empty (base := w3.heap.size) (size := 1) (by first | exact Blk.new _ _ _ | exact (Blk.new _ _ _).alloc _ | exact Blk.new2 (by simp)) (by first | (simp; done) | (simp; omega))))
            clear tA
            refine hK.out _ _ ?_ (fun hHeld => ?_)
            · exact HKP.out _ (Still.turn HSA.out)
            clear hK K
            try simp only [Act.put, List.getElem_toArray, List.getElem_cons_succ, List.getElem_cons_zero, List.setIfInBounds_toArray, List.set_cons_zero, List.set_cons_succ]
            refine wpAnyH_ready (rs := [20]) (by kernel_rfl) (by simp) ?_
            refine AllReadyH.cons rfl (fun K hK => ?_) AllReadyH.nil
            refine step_append_row rfl (.tmp 72) (.tmp 74) 71 rfl w3.heap.size 5 1 1 (.int .u8 0) Try.underlying71 infoB rfl (by decide) _ 0 0 [] (by rfl) (own_empty (by first | exact Blk.new _ _ _ | exact HKA.out _ _ _ (Blk.new _ _ _) (by decide) | exact HKA.out _ _ _ (Blk.new2 (by simp)) (by decide) | exact HKA.out _ _ _ ((Blk.new _ _ _).alloc _) (by decide)) (by have := HSA.out.size; first | omega | (simp; done) | (simp; omega))) B o.ba o.bs.length o.bc (o.bs.map fun v : Nat => Value.int .u8 (v : Int)) (by rfl) (own_keep HBS3.out (by first | exact HSA.out | exact HSA.out.alloc _) (fun _ _ e => e)) (by intro u hu; obtain ⟨v, _, rfl⟩ := List.mem_map.1 hu; rfl) (by have := HFL.out; unfold maxLen; omega) (by have := HFL.out; omega) (by have := HSA.out.size; simp; omega) ?_
            simp only [Nat.zero_add, List.nil_append]
            intro a6 k6 wB hB tB
            obtain ⟨HSB, HAB⟩ := stepB HSA.out hA.out tB.out (own_empty (size := 1) (by first | exact Blk.new _ _ _ | exact HKA.out _ _ _ (Blk.new _ _ _) (by decide) | exact HKA.out _ _ _ (Blk.new2 (by simp)) (by decide) | exact HKA.out _ _ _ ((Blk.new _ _ _).alloc _) (by decide)) (by have := HSA.out.size; first | omega | (simp; done) | (simp; omega))) (by first | exact Still.refl _ | exact (Still.refl _).alloc _)
            have q2B : wB.cell? ⟨w1.heap.size, 2, none⟩ = some (.slice ya y.L.length yc) := (HSB.out.cell (p := ⟨w1.heap.size, 2, none⟩) hgy3).trans c2y
            have hgB : w1.heap.size < wB.heap.size := Nat.lt_of_lt_of_le hgy3 HSB.out.size
            clear tB
            refine hK.out _ _ ?_ (fun hHeld => ?_)
            · exact HKP.out _ (Still.turn HSB.out)
            clear hK K
            try simp only [Act.put, List.getElem_toArray, List.getElem_cons_succ, List.getElem_cons_zero, List.setIfInBounds_toArray, List.set_cons_zero, List.set_cons_succ]
            refine wpAnyH_take (i := 21) (v := ?_) rfl (by kernel_rfl) (by kernel_rfl) (by kernel_rfl) (fun _ _ _ h => h) (Or.inl ⟨by rfl, ?_⟩) (by assumption) ?_
            rotate_left
            · intro w hSw; (try dsimp only at hSw); go_simp; try with_reducible rfl
            try simp only [Act.put, List.getElem_toArray, List.getElem_cons_succ, List.getElem_cons_zero, List.setIfInBounds_toArray, List.set_cons_zero, List.set_cons_succ]
            refine wpAnyH_ready (rs := [22]) (by kernel_rfl) (by simp) ?_
            refine AllReadyH.cons rfl (fun K hK => ?_) AllReadyH.nil
            go_simp
            refine hK.out _ _ ?_ (fun hHeld => ?_)
            · exact HKP.out _ (Still.turn (HSB.out.alloc _))
            clear hK K
            try simp only [Act.put, List.getElem_toArray, List.getElem_cons_succ, List.getElem_cons_zero, List.setIfInBounds_toArray, List.set_cons_zero, List.set_cons_succ]
            refine wpAnyH_ready (rs := [23]) (by kernel_rfl) (by simp) ?_
            refine AllReadyH.cons rfl (fun K hK => ?_) AllReadyH.nil
            refine step_append_form rfl (.tmp 59) (.tmp 77) 37 rfl w.heap.size 73 5 72 _ Try.underlying37 infoO rfl (by decide) ya y.L.length yc _ (by rfl) (own_keep HROWY.out (HSB.out.alloc _) (fun _ _ e => e)) ⟨wB.heap.size, 0, none⟩ 1 1 [.int .i64 T, .int .i64 o.sh, .int .i64 o.n, .slice a5 o.fs.length k5, .slice a6 o.bs.length k6] (by rfl) rfl (fun j u hj => by rw [Addr.add_lit, Nat.zero_add, (Blk.new wB 73 #[.int .i64 T, .int .i64 o.sh, .int .i64 o.n, .slice a5 o.fs.length k5, .slice a6 o.bs.length k6]).cell j]; simpa using hj) (by simp [Value.oneCell']) (by decide) (by unfold maxLen; omega) (by omega) (by have := HST3.out.size; have := HSB.out.size; simp; omega) ?_
            intro g9 c9 wC hC tC nC
            have HTC : Hid (Turn (fun k => k = w1.heap.size ∨ y.lv.ownBlock = some k) w3 wC) := (Still.turn (HSB.out.alloc _)).trans (tC.out.mono fun k _ e => .inr (by rw [HYV.out]; exact e))
            have q2C : wC.cell? ⟨w1.heap.size, 2, none⟩ = some (.slice ya y.L.length yc) := (tC.out.cell (p := ⟨w1.heap.size, 2, none⟩) (by simp; omega) NLY.out).trans ((World.cell?_alloc_lt wB _ ⟨w1.heap.size, 2, none⟩ hgB).trans q2B)
            have q2Cf : wC.frozen? ⟨w1.heap.size, 2, none⟩ = false := (tC.out.frozen (p := ⟨w1.heap.size, 2, none⟩) (by simp; omega) NLY.out).trans ((Turn.frozen (HSB.out.alloc _) (p := ⟨w1.heap.size, 2, none⟩) hgy3 (fun e => e)).trans hgyf)
            refine hK.out _ _ ?_ (fun hHeld => ?_)
            · exact HKP.out _ HTC.out
            clear hK K
            try simp only [Act.put, List.getElem_toArray, List.getElem_cons_succ, List.getElem_cons_zero, List.setIfInBounds_toArray, List.set_cons_zero, List.set_cons_succ]
            refine wpAnyH_take (i := 24) (v := ?_) rfl (by kernel_rfl) (by kernel_rfl) (by kernel_rfl) (fun _ _ _ h => h) (Or.inl ⟨by rfl, ?_⟩) (by assumption) ?_
            rotate_left
            · intro w hSw; (try dsimp only at hSw); go_simp; try with_reducible rfl
            try simp only [Act.put, List.getElem_toArray, List.getElem_cons_succ, List.getElem_cons_zero, List.setIfInBounds_toArray, List.set_cons_zero, List.set_cons_succ]
            refine wpAnyH_take (i := 25) (v := ?_) rfl (by kernel_rfl) (by kernel_rfl) (by kernel_rfl) (fun _ _ _ h => h) (Or.inl ⟨by rfl, ?_⟩) (by assumption) ?_
            rotate_left
            · intro w hSw; (try dsimp only at hSw); go_simp; try with_reducible rfl
            try simp only [Act.put, List.getElem_toArray, List.getElem_cons_succ, List.getElem_cons_zero, List.setIfInBounds_toArray, List.set_cons_zero, List.set_cons_succ]
            refine wpAnyH_ready (rs := [26]) (by kernel_rfl) (by simp) ?_
            refine AllReadyH.cons rfl (fun K hK => ?_) AllReadyH.nil
            go_simp
            refine hK.out _ _ ?_ (fun hHeld => ?_)
            · exact HKP.out _ (Turn.setCell HTC.out (fun _ => .inl rfl) _)
            clear hK K
            try simp only [Act.put, List.getElem_toArray, List.getElem_cons_succ, List.getElem_cons_zero, List.setIfInBounds_toArray, List.set_cons_zero, List.set_cons_succ]
            refine wpAnyH_done (by kernel_rfl) ?_ _
            go_wp2_with fail
            go_roundw
            case rel =>
              exact ⟨i + 1, p + s.sz o, _, by go_num, by omega, HC.out.grow HH.out HR.out HO.out HM.out HRF3.out HTO3.out HTOF.out HISR3.out HST3.out (HSB.out.alloc _) (o' := ⟨T, o.sh, o.n, o.fs, o.bs, a5, k5, a6, k6⟩) (HCORE.out _ _ _ _) ⟨own_keep HAB.out ((Still.refl wB).alloc _) (fun _ _ e => e), own_keep hB.out ((Still.refl wB).alloc _) (fun _ _ e => e)⟩ hC.out (by rw [HYV.out]; exact tC.out) (by have := HC.out.few; omega)⟩
            case measure => simp [intOf]; omega
        · go_simp
          refine hK.out _ _ ?_ (fun hHeld => ?_)
          · go_keep
          clear hK K
          try simp only [Act.put, List.getElem_toArray, List.getElem_cons_succ, List.getElem_cons_zero, List.setIfInBounds_toArray, List.set_cons_zero, List.set_cons_succ]
          refine wpAnyH_ready (rs := [4, 16, 17]) (by kernel_rfl) (by simp) ?_
          refine AllReadyH.cons rfl (fun K hK => ?_) (AllReadyH.cons rfl (fun K hK => ?_) (AllReadyH.cons rfl (fun K hK => ?_) AllReadyH.nil))
          · go_simp
            refine hK.out _ _ ?_ (fun hHeld => ?_)
            · go_keep
            clear hK K
            try simp only [Act.put, List.getElem_toArray, List.getElem_cons_succ, List.getElem_cons_zero, List.setIfInBounds_toArray, List.set_cons_zero, List.set_cons_succ]
            refine wpAnyH_ready (rs := [16, 17]) (by kernel_rfl) (by simp) ?_
            refine AllReadyH.cons rfl (fun K hK => ?_) (AllReadyH.cons rfl (fun K hK => ?_) AllReadyH.nil)
            · refine step_append_row rfl (.tmp 68) (.tmp 70) 24 rfl w3.heap.size 33 1 8 (.int .u64 0) Try.underlying24 infoU rfl (by decide) _ 0 0 [] (by rfl) (own_empty (by first | exact Blk.new _ _ _ | exact (Blk.new _ _ _).alloc _ | exact Blk.new2 (by simp)) (by first | (simp; done) | (simp; omega))) B o.fa o.fs.length o.fc (o.fs.map fun v : Nat => Value.int .u64 (v : Int)) (by rfl) (own_keep HFS3.out (by (first | exact (((Still.refl w3).drew).alloc _) | exact ((((Still.refl w3).drew).alloc _).alloc _))) (fun _ _ e => e)) (nats_one _) (by have := HFL.out; unfold maxLen; omega) (by have := HFL.out; omega) (by first | (simp; done) | (simp; omega)) ?_
              simp only [Nat.zero_add, List.nil_append]
              intro a5 k5 wA hA tA
              have HSA : Hid (Still w3 wA) := Still.own_turn (by (first | exact (((Still.refl w3).drew).alloc _) | exact ((((Still.refl w3).drew).alloc _).alloc _))) tA.out (own_empty (size := 1) (by first | exact Blk.new _ _ _ | exact (Blk.new _ _ _).alloc _ | exact Blk.new2 (by simp)) (by first | (simp; done) | (simp; omega)))
              have q2A : wA.cell? ⟨w1.heap.size, 2, none⟩ = some (.slice ya y.L.length yc) := (HSA.out.cell (p := ⟨w1.heap.size, 2, none⟩) hgy3).trans c2y
              have hgA : w1.heap.size < wA.heap.size := Nat.lt_of_lt_of_le hgy3 HSA.out.size
              have HKA := Lib.hid (carry tA.out (own_empty (base := w3.heap.size) (size := 1) (by first | exact Blk.new _ _ _ | exact (Blk.new _ _ _).alloc _ | exact Blk.new2 (by simp)) (by first | (simp; done) | (simp; omega))))
              clear tA
              refine hK.out _ _ ?_ (fun hHeld => ?_)
              · exact HKP.out _ (Still.turn HSA.out)
              clear hK K
              try simp only [Act.put, List.getElem_toArray, List.getElem_cons_succ, List.getElem_cons_zero, List.setIfInBounds_toArray, List.set_cons_zero, List.set_cons_succ]
              refine wpAnyH_ready (rs := [17]) (by kernel_rfl) (by simp) ?_
              refine AllReadyH.cons rfl (fun K hK => ?_) AllReadyH.nil
              go_simp
              refine hK.out _ _ ?_ (fun hHeld => ?_)
              · go_keep
              clear hK K
              try simp only [Act.put, List.getElem_toArray, List.getElem_cons_succ, List.getElem_cons_zero, List.setIfInBounds_toArray, List.set_cons_zero, List.set_cons_succ]
              refine wpAnyH_ready (rs := [20]) (by kernel_rfl) (by simp) ?_
              refine AllReadyH.cons rfl (fun K hK => ?_) AllReadyH.nil
              refine step_append_row rfl (.tmp 72) (.tmp 74) 71 rfl w3.heap.size 5 1 1 (.int .u8 0) Try.underlying71 infoB rfl (by decide) _ 0 0 [] (by rfl) (own_empty (by first | exact Blk.new _ _ _ | exact HKA.out _ _ _ (Blk.new _ _ _) (by decide) | exact HKA.out _ _ _ (Blk.new2 (by simp)) (by decide) | exact HKA.out _ _ _ ((Blk.new _ _ _).alloc _) (by decide)) (by have := HSA.out.size; first | omega | (simp; done) | (simp; omega))) B o.ba o.bs.length o.bc (o.bs.map fun v : Nat => Value.int .u8 (v : Int)) (by rfl) (own_keep HBS3.out (by first | exact HSA.out | exact HSA.out.alloc _) (fun _ _ e => e)) (by intro u hu; obtain ⟨v, _, rfl⟩ := List.mem_map.1 hu; rfl) (by have := HFL.out; unfold maxLen; omega) (by have := HFL.out; omega) (by have := HSA.out.size; simp; omega) ?_
              simp only [Nat.zero_add, List.nil_append]
              intro a6 k6 wB hB tB
              obtain ⟨HSB, HAB⟩ := stepB HSA.out hA.out tB.out (own_empty (size := 1) (by first | exact Blk.new _ _ _ | exact HKA.out _ _ _ (Blk.new _ _ _) (by decide) | exact HKA.out _ _ _ (Blk.new2 (by simp)) (by decide) | exact HKA.out _ _ _ ((Blk.new _ _ _).alloc _) (by decide)) (by have := HSA.out.size; first | omega | (simp; done) | (simp; omega))) (by first | exact Still.refl _ | exact (Still.refl _).alloc _)
              have q2B : wB.cell? ⟨w1.heap.size, 2, none⟩ = some (.slice ya y.L.length yc) := (HSB.out.cell (p := ⟨w1.heap.size, 2, none⟩) hgy3).trans c2y
              have hgB : w1.heap.size < wB.heap.size := Nat.lt_of_lt_of_le hgy3 HSB.out.size
              clear tB
              refine hK.out _ _ ?_ (fun hHeld => ?_)
              · exact HKP.out _ (Still.turn HSB.out)
              clear hK K
              try simp only [Act.put, List.getElem_toArray, List.getElem_cons_succ, List.getElem_cons_zero, List.setIfInBounds_toArray, List.set_cons_zero, List.set_cons_succ]
              refine wpAnyH_take (i := 21) (v := ?_) rfl (by kernel_rfl) (by kernel_rfl) (by kernel_rfl) (fun _ _ _ h => h) (Or.inl ⟨by rfl, ?_⟩) (by assumption) ?_
              rotate_left
              · intro w hSw; (try dsimp only at hSw); go_simp; try with_reducible rfl
              try simp only [Act.put, List.getElem_toArray, List.getElem_cons_succ, List.getElem_cons_zero, List.setIfInBounds_toArray, List.set_cons_zero, List.set_cons_succ]
              refine wpAnyH_ready (rs := [22]) (by kernel_rfl) (by simp) ?_
              refine AllReadyH.cons rfl (fun K hK => ?_) AllReadyH.nil
              go_simp
              refine hK.out _ _ ?_ (fun hHeld => ?_)
              · exact HKP.out _ (Still.turn (HSB.out.alloc _))
              clear hK K
              try simp only [Act.put, List.getElem_toArray, List.getElem_cons_succ, List.getElem_cons_zero, List.setIfInBounds_toArray, List.set_cons_zero, List.set_cons_succ]
              refine wpAnyH_ready (rs := [23]) (by kernel_rfl) (by simp) ?_
              refine AllReadyH.cons rfl (fun K hK => ?_) AllReadyH.nil
              refine step_append_form rfl (.tmp 59) (.tmp 77) 37 rfl w.heap.size 73 5 72 _ Try.underlying37 infoO rfl (by decide) ya y.L.length yc _ (by rfl) (own_keep HROWY.out (HSB.out.alloc _) (fun _ _ e => e)) ⟨wB.heap.size, 0, none⟩ 1 1 [.int .i64 T, .int .i64 o.sh, .int .i64 o.n, .slice a5 o.fs.length k5, .slice a6 o.bs.length k6] (by rfl) rfl (fun j u hj => by rw [Addr.add_lit, Nat.zero_add, (Blk.new wB 73 #[.int .i64 T, .int .i64 o.sh, .int .i64 o.n, .slice a5 o.fs.length k5, .slice a6 o.bs.length k6]).cell j]; simpa using hj) (by simp [Value.oneCell']) (by decide) (by unfold maxLen; omega) (by omega) (by have := HST3.out.size; have := HSB.out.size; simp; omega) ?_
              intro g9 c9 wC hC tC nC
              have HTC : Hid (Turn (fun k => k = w1.heap.size ∨ y.lv.ownBlock = some k) w3 wC) := (Still.turn (HSB.out.alloc _)).trans (tC.out.mono fun k _ e => .inr (by rw [HYV.out]; exact e))
              have q2C : wC.cell? ⟨w1.heap.size, 2, none⟩ = some (.slice ya y.L.length yc) := (tC.out.cell (p := ⟨w1.heap.size, 2, none⟩) (by simp; omega) NLY.out).trans ((World.cell?_alloc_lt wB _ ⟨w1.heap.size, 2, none⟩ hgB).trans q2B)
              have q2Cf : wC.frozen? ⟨w1.heap.size, 2, none⟩ = false := (tC.out.frozen (p := ⟨w1.heap.size, 2, none⟩) (by simp; omega) NLY.out).trans ((Turn.frozen (HSB.out.alloc _) (p := ⟨w1.heap.size, 2, none⟩) hgy3 (fun e => e)).trans hgyf)
              refine hK.out _ _ ?_ (fun hHeld => ?_)
              · exact HKP.out _ HTC.out
              clear hK K
              try simp only [Act.put, List.getElem_toArray, List.getElem_cons_succ, List.getElem_cons_zero, List.setIfInBounds_toArray, List.set_cons_zero, List.set_cons_succ]
              refine wpAnyH_take (i := 24) (v := ?_) rfl (by kernel_rfl) (by kernel_rfl) (by kernel_rfl) (fun _ _ _ h => h) (Or.inl ⟨by rfl, ?_⟩) (by assumption) ?_
              rotate_left
              · intro w hSw; (try dsimp only at hSw); go_simp; try with_reducible rfl
              try simp only [Act.put, List.getElem_toArray, List.getElem_cons_succ, List.getElem_cons_zero, List.setIfInBounds_toArray, List.set_cons_zero, List.set_cons_succ]
              refine wpAnyH_take (i := 25) (v := ?_) rfl (by kernel_rfl) (by kernel_rfl) (by kernel_rfl) (fun _ _ _ h => h) (Or.inl ⟨by rfl, ?_⟩) (by assumption) ?_
              rotate_left
              · intro w hSw; (try dsimp only at hSw); go_simp; try with_reducible rfl
              try simp only [Act.put, List.getElem_toArray, List.getElem_cons_succ, List.getElem_cons_zero, List.setIfInBounds_toArray, List.set_cons_zero, List.set_cons_succ]
              refine wpAnyH_ready (rs := [26]) (by kernel_rfl) (by simp) ?_
              refine AllReadyH.cons rfl (fun K hK => ?_) AllReadyH.nil
              go_simp
              refine hK.out _ _ ?_ (fun hHeld => ?_)
              · exact HKP.out _ (Turn.setCell HTC.out (fun _ => .inl rfl) _)
              clear hK K
              try simp only [Act.put, List.getElem_toArray, List.getElem_cons_succ, List.getElem_cons_zero, List.setIfInBounds_toArray, List.set_cons_zero, List.set_cons_succ]
              refine wpAnyH_done (by kernel_rfl) ?_ _
              go_wp2_with fail
              go_roundw
              case rel =>
                exact ⟨i + 1, p + s.sz o, _, by go_num, by omega, HC.out.grow HH.out HR.out HO.out HM.out HRF3.out HTO3.out HTOF.out HISR3.out HST3.out (HSB.out.alloc _) (o' := ⟨T, o.sh, o.n, o.fs, o.bs, a5, k5, a6, k6⟩) (HCORE.out _ _ _ _) ⟨own_keep HAB.out ((Still.refl wB).alloc _) (fun _ _ e => e), own_keep hB.out ((Still.refl wB).alloc _) (fun _ _ e => e)⟩ hC.out (by rw [HYV.out]; exact tC.out) (by have := HC.out.few; omega)⟩
              case measure => simp [intOf]; omega
            · go_simp
              refine hK.out _ _ ?_ (fun hHeld => ?_)
              · go_keep
              clear hK K
              try simp only [Act.put, List.getElem_toArray, List.getElem_cons_succ, List.getElem_cons_zero, List.setIfInBounds_toArray, List.set_cons_zero, List.set_cons_succ]
              refine wpAnyH_ready (rs := [16]) (by kernel_rfl) (by simp) ?_
              refine AllReadyH.cons rfl (fun K hK => ?_) AllReadyH.nil
              refine step_append_row rfl (.tmp 68) (.tmp 70) 24 rfl w3.heap.size 33 1 8 (.int .u64 0) Try.underlying24 infoU rfl (by decide) _ 0 0 [] (by rfl) (own_empty (by first | exact Blk.new _ _ _ | exact (Blk.new _ _ _).alloc _ | exact Blk.new2 (by simp)) (by first | (simp; done) | (simp; omega))) B o.fa o.fs.length o.fc (o.fs.map fun v : Nat => Value.int .u64 (v : Int)) (by rfl) (own_keep HFS3.out (by (first | exact (((Still.refl w3).drew).alloc _) | exact ((((Still.refl w3).drew).alloc _).alloc _))) (fun _ _ e => e)) (nats_one _) (by have := HFL.out; unfold maxLen; omega) (by have := HFL.out; omega) (by first | (simp; done) | (simp; omega)) ?_
              simp only [Nat.zero_add, List.nil_append]
              intro a5 k5 wA hA tA
              have HSA : Hid (Still w3 wA) := Still.own_turn (by (first | exact (((Still.refl w3).drew).alloc _) | exact ((((Still.refl w3).drew).alloc _).alloc _))) tA.out (own_empty (size := 1) (by first | exact Blk.new _ _ _ | exact (Blk.new _ _ _).alloc _ | exact Blk.new2 (by simp)) (by first | (simp; done) | (simp; omega)))
              have q2A : wA.cell? ⟨w1.heap.size, 2, none⟩ = some (.slice ya y.L.length yc) := (HSA.out.cell (p := ⟨w1.heap.size, 2, none⟩) hgy3).trans c2y
              have hgA : w1.heap.size < wA.heap.size := Nat.lt_of_lt_of_le hgy3 HSA.out.size
              have HKA := Lib.hid (carry tA.out (own_empty (base := w3.heap.size) (size := 1) (by first | exact Blk.new _ _ _ | exact (Blk.new _ _ _).alloc _ | exact Blk.new2 (by simp)) (by first | (simp; done) | (simp; omega))))
              clear tA
              refine hK.out _ _ ?_ (fun hHeld => ?_)
              · exact HKP.out _ (Still.turn HSA.out)
              clear hK K
              try simp only [Act.put, List.getElem_toArray, List.getElem_cons_succ, List.getElem_cons_zero, List.setIfInBounds_toArray, List.set_cons_zero, List.set_cons_succ]
              refine wpAnyH_ready (rs := [20]) (by kernel_rfl) (by simp) ?_
              refine AllReadyH.cons rfl (fun K hK => ?_) AllReadyH.nil
              refine step_append_row rfl (.tmp 72) (.tmp 74) 71 rfl w3.heap.size 5 1 1 (.int .u8 0) Try.underlying71 infoB rfl (by decide) _ 0 0 [] (by rfl) (own_empty (by first | exact Blk.new _ _ _ | exact HKA.out _ _ _ (Blk.new _ _ _) (by decide) | exact HKA.out _ _ _ (Blk.new2 (by simp)) (by decide) | exact HKA.out _ _ _ ((Blk.new _ _ _).alloc _) (by decide)) (by have := HSA.out.size; first | omega | (simp; done) | (simp; omega))) B o.ba o.bs.length o.bc (o.bs.map fun v : Nat => Value.int .u8 (v : Int)) (by rfl) (own_keep HBS3.out (by first | exact HSA.out | exact HSA.out.alloc _) (fun _ _ e => e)) (by intro u hu; obtain ⟨v, _, rfl⟩ := List.mem_map.1 hu; rfl) (by have := HFL.out; unfold maxLen; omega) (by have := HFL.out; omega) (by have := HSA.out.size; simp; omega) ?_
              simp only [Nat.zero_add, List.nil_append]
              intro a6 k6 wB hB tB
              obtain ⟨HSB, HAB⟩ := stepB HSA.out hA.out tB.out (own_empty (size := 1) (by first | exact Blk.new _ _ _ | exact HKA.out _ _ _ (Blk.new _ _ _) (by decide) | exact HKA.out _ _ _ (Blk.new2 (by simp)) (by decide) | exact HKA.out _ _ _ ((Blk.new _ _ _).alloc _) (by decide)) (by have := HSA.out.size; first | omega | (simp; done) | (simp; omega))) (by first | exact Still.refl _ | exact (Still.refl _).alloc _)
              have q2B : wB.cell? ⟨w1.heap.size, 2, none⟩ = some (.slice ya y.L.length yc) := (HSB.out.cell (p := ⟨w1.heap.size, 2, none⟩) hgy3).trans c2y
              have hgB : w1.heap.size < wB.heap.size := Nat.lt_of_lt_of_le hgy3 HSB.out.size
              clear tB
              refine hK.out _ _ ?_ (fun hHeld => ?_)
              · exact HKP.out _ (Still.turn HSB.out)
              clear hK K
              try simp only [Act.put, List.getElem_toArray, List.getElem_cons_succ, List.getElem_cons_zero, List.setIfInBounds_toArray, List.set_cons_zero, List.set_cons_succ]
              refine wpAnyH_take (i := 21) (v := ?_) rfl (by kernel_rfl) (by kernel_rfl) (by kernel_rfl) (fun _ _ _ h => h) (Or.inl ⟨by rfl, ?_⟩) (by assumption) ?_
              rotate_left
              · intro w hSw; (try dsimp only at hSw); go_simp; try with_reducible rfl
              try simp only [Act.put, List.getElem_toArray, List.getElem_cons_succ, List.getElem_cons_zero, List.setIfInBounds_toArray, List.set_cons_zero, List.set_cons_succ]
              refine wpAnyH_ready (rs := [22]) (by kernel_rfl) (by simp) ?_
              refine AllReadyH.cons rfl (fun K hK => ?_) AllReadyH.nil
              go_simp
              refine hK.out _ _ ?_ (fun hHeld => ?_)
              · exact HKP.out _ (Still.turn (HSB.out.alloc _))
              clear hK K
              try simp only [Act.put, List.getElem_toArray, List.getElem_cons_succ, List.getElem_cons_zero, List.setIfInBounds_toArray, List.set_cons_zero, List.set_cons_succ]
              refine wpAnyH_ready (rs := [23]) (by kernel_rfl) (by simp) ?_
              refine AllReadyH.cons rfl (fun K hK => ?_) AllReadyH.nil
              refine step_append_form rfl (.tmp 59) (.tmp 77) 37 rfl w.heap.size 73 5 72 _ Try.underlying37 infoO rfl (by decide) ya y.L.length yc _ (by rfl) (own_keep HROWY.out (HSB.out.alloc _) (fun _ _ e => e)) ⟨wB.heap.size, 0, none⟩ 1 1 [.int .i64 T, .int .i64 o.sh, .int .i64 o.n, .slice a5 o.fs.length k5, .slice a6 o.bs.length k6] (by rfl) rfl (fun j u hj => by rw [Addr.add_lit, Nat.zero_add, (Blk.new wB 73 #[.int .i64 T, .int .i64 o.sh, .int .i64 o.n, .slice a5 o.fs.length k5, .slice a6 o.bs.length k6]).cell j]; simpa using hj) (by simp [Value.oneCell']) (by decide) (by unfold maxLen; omega) (by omega) (by have := HST3.out.size; have := HSB.out.size; simp; omega) ?_
              intro g9 c9 wC hC tC nC
              have HTC : Hid (Turn (fun k => k = w1.heap.size ∨ y.lv.ownBlock = some k) w3 wC) := (Still.turn (HSB.out.alloc _)).trans (tC.out.mono fun k _ e => .inr (by rw [HYV.out]; exact e))
              have q2C : wC.cell? ⟨w1.heap.size, 2, none⟩ = some (.slice ya y.L.length yc) := (tC.out.cell (p := ⟨w1.heap.size, 2, none⟩) (by simp; omega) NLY.out).trans ((World.cell?_alloc_lt wB _ ⟨w1.heap.size, 2, none⟩ hgB).trans q2B)
              have q2Cf : wC.frozen? ⟨w1.heap.size, 2, none⟩ = false := (tC.out.frozen (p := ⟨w1.heap.size, 2, none⟩) (by simp; omega) NLY.out).trans ((Turn.frozen (HSB.out.alloc _) (p := ⟨w1.heap.size, 2, none⟩) hgy3 (fun e => e)).trans hgyf)
              refine hK.out _ _ ?_ (fun hHeld => ?_)
              · exact HKP.out _ HTC.out
              clear hK K
              try simp only [Act.put, List.getElem_toArray, List.getElem_cons_succ, List.getElem_cons_zero, List.setIfInBounds_toArray, List.set_cons_zero, List.set_cons_succ]
              refine wpAnyH_take (i := 24) (v := ?_) rfl (by kernel_rfl) (by kernel_rfl) (by kernel_rfl) (fun _ _ _ h => h) (Or.inl ⟨by rfl, ?_⟩) (by assumption) ?_
              rotate_left
              · intro w hSw; (try dsimp only at hSw); go_simp; try with_reducible rfl
              try simp only [Act.put, List.getElem_toArray, List.getElem_cons_succ, List.getElem_cons_zero, List.setIfInBounds_toArray, List.set_cons_zero, List.set_cons_succ]
              refine wpAnyH_take (i := 25) (v := ?_) rfl (by kernel_rfl) (by kernel_rfl) (by kernel_rfl) (fun _ _ _ h => h) (Or.inl ⟨by rfl, ?_⟩) (by assumption) ?_
              rotate_left
              · intro w hSw; (try dsimp only at hSw); go_simp; try with_reducible rfl
              try simp only [Act.put, List.getElem_toArray, List.getElem_cons_succ, List.getElem_cons_zero, List.setIfInBounds_toArray, List.set_cons_zero, List.set_cons_succ]
              refine wpAnyH_ready (rs := [26]) (by kernel_rfl) (by simp) ?_
              refine AllReadyH.cons rfl (fun K hK => ?_) AllReadyH.nil
              go_simp
              refine hK.out _ _ ?_ (fun hHeld => ?_)
              · exact HKP.out _ (Turn.setCell HTC.out (fun _ => .inl rfl) _)
              clear hK K
              try simp only [Act.put, List.getElem_toArray, List.getElem_cons_succ, List.getElem_cons_zero, List.setIfInBounds_toArray, List.set_cons_zero, List.set_cons_succ]
              refine wpAnyH_done (by kernel_rfl) ?_ _
              go_wp2_with fail
              go_roundw
              case rel =>
                exact ⟨i + 1, p + s.sz o, _, by go_num, by omega, HC.out.grow HH.out HR.out HO.out HM.out HRF3.out HTO3.out HTOF.out HISR3.out HST3.out (HSB.out.alloc _) (o' := ⟨T, o.sh, o.n, o.fs, o.bs, a5, k5, a6, k6⟩) (HCORE.out _ _ _ _) ⟨own_keep HAB.out ((Still.refl wB).alloc _) (fun _ _ e => e), own_keep hB.out ((Still.refl wB).alloc _) (fun _ _ e => e)⟩ hC.out (by rw [HYV.out]; exact tC.out) (by have := HC.out.few; omega)⟩
              case measure => simp [intOf]; omega
          · refine step_append_row rfl (.tmp 68) (.tmp 70) 24 rfl w3.heap.size 33 1 8 (.int .u64 0) Try.underlying24 infoU rfl (by decide) _ 0 0 [] (by rfl) (own_empty (by first | exact Blk.new _ _ _ | exact (Blk.new _ _ _).alloc _ | exact Blk.new2 (by simp)) (by first | (simp; done) | (simp; omega))) B o.fa o.fs.length o.fc (o.fs.map fun v : Nat => Value.int .u64 (v : Int)) (by rfl) (own_keep HFS3.out (by (first | exact (((Still.refl w3).drew).alloc _) | exact ((((Still.refl w3).drew).alloc _).alloc _))) (fun _ _ e => e)) (nats_one _) (by have := HFL.out; unfold maxLen; omega) (by have := HFL.out; omega) (by first | (simp; done) | (simp; omega)) ?_
            simp only [Nat.zero_add, List.nil_append]
            intro a5 k5 wA hA tA
            have HSA : Hid (Still w3 wA) := Still.own_turn (by (first | exact (((Still.refl w3).drew).alloc _) | exact ((((Still.refl w3).drew).alloc _).alloc _))) tA.out (own_empty (size := 1) (by first | exact Blk.new _ _ _ | exact (Blk.new _ _ _).alloc _ | exact Blk.new2 (by simp)) (by first | (simp; done) | (simp; omega)))
            have q2A : wA.cell? ⟨w1.heap.size, 2, none⟩ = some (.slice ya y.L.length yc) := (HSA.out.cell (p := ⟨w1.heap.size, 2, none⟩) hgy3).trans c2y
            have hgA : w1.heap.size < wA.heap.size := Nat.lt_of_lt_of_le hgy3 HSA.out.size
            have HKA := Lib.hid (carry tA.out (own_empty (base := w3.heap.size) (size := 1) (by first | exact Blk.new _ _ _ | exact (Blk.new _ _ _).alloc _ | exact Blk.new2 (by simp)) (by first | (simp; done) | (simp; omega))))
            clear tA
            refine hK.out _ _ ?_ (fun hHeld => ?_)
            · exact HKP.out _ (Still.turn HSA.out)
            clear hK K
            try simp only [Act.put, List.getElem_toArray, List.getElem_cons_succ, List.getElem_cons_zero, List.setIfInBounds_toArray, List.set_cons_zero, List.set_cons_succ]
            refine wpAnyH_ready (rs := [4, 17]) (by kernel_rfl) (by simp) ?_
            refine AllReadyH.cons rfl (fun K hK => ?_) (AllReadyH.cons rfl (fun K hK => ?_) AllReadyH.nil)
            · go_simp
              refine hK.out _ _ ?_ (fun hHeld => ?_)
              · go_keep
              clear hK K
              try simp only [Act.put, List.getElem_toArray, List.getElem_cons_succ, List.getElem_cons_zero, List.setIfInBounds_toArray, List.set_cons_zero, List.set_cons_succ]
              refine wpAnyH_ready (rs := [17]) (by kernel_rfl) (by simp) ?_
              refine AllReadyH.cons rfl (fun K hK => ?_) AllReadyH.nil
              go_simp
              refine hK.out _ _ ?_ (fun hHeld => ?_)
              · go_keep
              clear hK K
              try simp only [Act.put, List.getElem_toArray, List.getElem_cons_succ, List.getElem_cons_zero, List.setIfInBounds_toArray, List.set_cons_zero, List.set_cons_succ]
              refine wpAnyH_ready (rs := [20]) (by kernel_rfl) (by simp) ?_
              refine AllReadyH.cons rfl (fun K hK => ?_) AllReadyH.nil
              refine step_append_row rfl (.tmp 72) (.tmp 74) 71 rfl w3.heap.size 5 1 1 (.int .u8 0) Try.underlying71 infoB rfl (by decide) _ 0 0 [] (by rfl) (own_empty (by first | exact Blk.new _ _ _ | exact HKA.out _ _ _ (Blk.new _ _ _) (by decide) | exact HKA.out _ _ _ (Blk.new2 (by simp)) (by decide) | exact HKA.out _ _ _ ((Blk.new _ _ _).alloc _) (by decide)) (by have := HSA.out.size; first | omega | (simp; done) | (simp; omega))) B o.ba o.bs.length o.bc (o.bs.map fun v : Nat => Value.int .u8 (v : Int)) (by rfl) (own_keep HBS3.out (by first | exact HSA.out | exact HSA.out.alloc _) (fun _ _ e => e)) (by intro u hu; obtain ⟨v, _, rfl⟩ := List.mem_map.1 hu; rfl) (by have := HFL.out; unfold maxLen; omega) (by have := HFL.out; omega) (by have := HSA.out.size; simp; omega) ?_
              simp only [Nat.zero_add, List.nil_append]
              intro a6 k6 wB hB tB
              obtain ⟨HSB, HAB⟩ := stepB HSA.out hA.out tB.out (own_empty (size := 1) (by first | exact Blk.new _ _ _ | exact HKA.out _ _ _ (Blk.new _ _ _) (by decide) | exact HKA.out _ _ _ (Blk.new2 (by simp)) (by decide) | exact HKA.out _ _ _ ((Blk.new _ _ _).alloc _) (by decide)) (by have := HSA.out.size; first | omega | (simp; done) | (simp; omega))) (by first | exact Still.refl _ | exact (Still.refl _).alloc _)
              have q2B : wB.cell? ⟨w1.heap.size, 2, none⟩ = some (.slice ya y.L.length yc) := (HSB.out.cell (p := ⟨w1.heap.size, 2, none⟩) hgy3).trans c2y
              have hgB : w1.heap.size < wB.heap.size := Nat.lt_of_lt_of_le hgy3 HSB.out.size
              clear tB
              refine hK.out _ _ ?_ (fun hHeld => ?_)
              · exact HKP.out _ (Still.turn HSB.out)
              clear hK K
              try simp only [Act.put, List.getElem_toArray, List.getElem_cons_succ, List.getElem_cons_zero, List.setIfInBounds_toArray, List.set_cons_zero, List.set_cons_succ]
              refine wpAnyH_take (i := 21) (v := ?_) rfl (by kernel_rfl) (by kernel_rfl) (by kernel_rfl) (fun _ _ _ h => h) (Or.inl ⟨by rfl, ?_⟩) (by assumption) ?_
              rotate_left
              · intro w hSw; (try dsimp only at hSw); go_simp; try with_reducible rfl
              try simp only [Act.put, List.getElem_toArray, List.getElem_cons_succ, List.getElem_cons_zero, List.setIfInBounds_toArray, List.set_cons_zero, List.set_cons_succ]
              refine wpAnyH_ready (rs := [22]) (by kernel_rfl) (by simp) ?_
              refine AllReadyH.cons rfl (fun K hK => ?_) AllReadyH.nil
              go_simp
              refine hK.out _ _ ?_ (fun hHeld => ?_)
              · exact HKP.out _ (Still.turn (HSB.out.alloc _))
              clear hK K
              try simp only [Act.put, List.getElem_toArray, List.getElem_cons_succ, List.getElem_cons_zero, List.setIfInBounds_toArray, List.set_cons_zero, List.set_cons_succ]
              refine wpAnyH_ready (rs := [23]) (by kernel_rfl) (by simp) ?_
              refine AllReadyH.cons rfl (fun K hK => ?_) AllReadyH.nil
              refine step_append_form rfl (.tmp 59) (.tmp 77) 37 rfl w.heap.size 73 5 72 _ Try.underlying37 infoO rfl (by decide) ya y.L.length yc _ (by rfl) (own_keep HROWY.out (HSB.out.alloc _) (fun _ _ e => e)) ⟨wB.heap.size, 0, none⟩ 1 1 [.int .i64 T, .int .i64 o.sh, .int .i64 o.n, .slice a5 o.fs.length k5, .slice a6 o.bs.length k6] (by rfl) rfl (fun j u hj => by rw [Addr.add_lit, Nat.zero_add, (Blk.new wB 73 #[.int .i64 T, .int .i64 o.sh, .int .i64 o.n, .slice a5 o.fs.length k5, .slice a6 o.bs.length k6]).cell j]; simpa using hj) (by simp [Value.oneCell']) (by decide) (by unfold maxLen; omega) (by omega) (by have := HST3.out.size; have := HSB.out.size; simp; omega) ?_
              intro g9 c9 wC hC tC nC
              have HTC : Hid (Turn (fun k => k = w1.heap.size ∨ y.lv.ownBlock = some k) w3 wC) := (Still.turn (HSB.out.alloc _)).trans (tC.out.mono fun k _ e => .inr (by rw [HYV.out]; exact e))
              have q2C : wC.cell? ⟨w1.heap.size, 2, none⟩ = some (.slice ya y.L.length yc) := (tC.out.cell (p := ⟨w1.heap.size, 2, none⟩) (by simp; omega) NLY.out).trans ((World.cell?_alloc_lt wB _ ⟨w1.heap.size, 2, none⟩ hgB).trans q2B)
              have q2Cf : wC.frozen? ⟨w1.heap.size, 2, none⟩ = false := (tC.out.frozen (p := ⟨w1.heap.size, 2, none⟩) (by simp; omega) NLY.out).trans ((Turn.frozen (HSB.out.alloc _) (p := ⟨w1.heap.size, 2, none⟩) hgy3 (fun e => e)).trans hgyf)
              refine hK.out _ _ ?_ (fun hHeld => ?_)
              · exact HKP.out _ HTC.out
              clear hK K
              try simp only [Act.put, List.getElem_toArray, List.getElem_cons_succ, List.getElem_cons_zero, List.setIfInBounds_toArray, List.set_cons_zero, List.set_cons_succ]
              refine wpAnyH_take (i := 24) (v := ?_) rfl (by kernel_rfl) (by kernel_rfl) (by kernel_rfl) (fun _ _ _ h => h) (Or.inl ⟨by rfl, ?_⟩) (by assumption) ?_
              rotate_left
              · intro w hSw; (try dsimp only at hSw); go_simp; try with_reducible rfl
              try simp only [Act.put, List.getElem_toArray, List.getElem_cons_succ, List.getElem_cons_zero, List.setIfInBounds_toArray, List.set_cons_zero, List.set_cons_succ]
              refine wpAnyH_take (i := 25) (v := ?_) rfl (by kernel_rfl) (by kernel_rfl) (by kernel_rfl) (fun _ _ _ h => h) (Or.inl ⟨by rfl, ?_⟩) (by assumption) ?_
              rotate_left
              · intro w hSw; (try dsimp only at hSw); go_simp; try with_reducible rfl
              try simp only [Act.put, List.getElem_toArray, List.getElem_cons_succ, List.getElem_cons_zero, List.setIfInBounds_toArray, List.set_cons_zero, List.set_cons_succ]
              refine wpAnyH_ready (rs := [26]) (by kernel_rfl) (by simp) ?_
              refine AllReadyH.cons rfl (fun K hK => ?_) AllReadyH.nil
              go_simp
              refine hK.out _ _ ?_ (fun hHeld => ?_)
              · exact HKP.out _ (Turn.setCell HTC.out (fun _ => .inl rfl) _)
              clear hK K
              try simp only [Act.put, List.getElem_toArray, List.getElem_cons_succ, List.getElem_cons_zero, List.setIfInBounds_toArray, List.set_cons_zero, List.set_cons_succ]
              refine wpAnyH_done (by kernel_rfl) ?_ _
              go_wp2_with fail
              go_roundw
              case rel =>
                exact ⟨i + 1, p + s.sz o, _, by go_num, by omega, HC.out.grow HH.out HR.out HO.out HM.out HRF3.out HTO3.out HTOF.out HISR3.out HST3.out (HSB.out.alloc _) (o' := ⟨T, o.sh, o.n, o.fs, o.bs, a5, k5, a6, k6⟩) (HCORE.out _ _ _ _) ⟨own_keep HAB.out ((Still.refl wB).alloc _) (fun _ _ e => e), own_keep hB.out ((Still.refl wB).alloc _) (fun _ _ e => e)⟩ hC.out (by rw [HYV.out]; exact tC.out) (by have := HC.out.few; omega)⟩
              case measure => simp [intOf]; omega
            · go_simp
              refine hK.out _ _ ?_ (fun hHeld => ?_)
              · go_keep
              clear hK K
              try simp only [Act.put, List.getElem_toArray, List.getElem_cons_succ, List.getElem_cons_zero, List.setIfInBounds_toArray, List.set_cons_zero, List.set_cons_succ]
              refine wpAnyH_ready (rs := [4, 20]) (by kernel_rfl) (by simp) ?_
              refine AllReadyH.cons rfl (fun K hK => ?_) (AllReadyH.cons rfl (fun K hK => ?_) AllReadyH.nil)
              · go_simp
                refine hK.out _ _ ?_ (fun hHeld => ?_)
                · go_keep
                clear hK K
                try simp only [Act.put, List.getElem_toArray, List.getElem_cons_succ, List.getElem_cons_zero, List.setIfInBounds_toArray, List.set_cons_zero, List.set_cons_succ]
                refine wpAnyH_ready (rs := [20]) (by kernel_rfl) (by simp) ?_
                refine AllReadyH.cons rfl (fun K hK => ?_) AllReadyH.nil
                refine step_append_row rfl (.tmp 72) (.tmp 74) 71 rfl w3.heap.size 5 1 1 (.int .u8 0) Try.underlying71 infoB rfl (by decide) _ 0 0 [] (by rfl) (own_empty (by first | exact Blk.new _ _ _ | exact HKA.out _ _ _ (Blk.new _ _ _) (by decide) | exact HKA.out _ _ _ (Blk.new2 (by simp)) (by decide) | exact HKA.out _ _ _ ((Blk.new _ _ _).alloc _) (by decide)) (by have := HSA.out.size; first | omega | (simp; done) | (simp; omega))) B o.ba o.bs.length o.bc (o.bs.map fun v : Nat => Value.int .u8 (v : Int)) (by rfl) (own_keep HBS3.out (by first | exact HSA.out | exact HSA.out.alloc _) (fun _ _ e => e)) (by intro u hu; obtain ⟨v, _, rfl⟩ := List.mem_map.1 hu; rfl) (by have := HFL.out; unfold maxLen; omega) (by have := HFL.out; omega) (by have := HSA.out.size; simp; omega) ?_
                simp only [Nat.zero_add, List.nil_append]
                intro a6 k6 wB hB tB
                obtain ⟨HSB, HAB⟩ := stepB HSA.out hA.out tB.out (own_empty (size := 1) (by first | exact Blk.new _ _ _ | exact HKA.out _ _ _ (Blk.new _ _ _) (by decide) | exact HKA.out _ _ _ (Blk.new2 (by simp)) (by decide) | exact HKA.out _ _ _ ((Blk.new _ _ _).alloc _) (by decide)) (by have := HSA.out.size; first | omega | (simp; done) | (simp; omega))) (by first | exact Still.refl _ | exact (Still.refl _).alloc _)
                have q2B : wB.cell? ⟨w1.heap.size, 2, none⟩ = some (.slice ya y.L.length yc) := (HSB.out.cell (p := ⟨w1.heap.size, 2, none⟩) hgy3).trans c2y
                have hgB : w1.heap.size < wB.heap.size := Nat.lt_of_lt_of_le hgy3 HSB.out.size
                clear tB
                refine hK.out _ _ ?_ (fun hHeld => ?_)
                · exact HKP.out _ (Still.turn HSB.out)
                clear hK K
                try simp only [Act.put, List.getElem_toArray, List.getElem_cons_succ, List.getElem_cons_zero, List.setIfInBounds_toArray, List.set_cons_zero, List.set_cons_succ]
                refine wpAnyH_take (i := 21) (v := ?_) rfl (by kernel_rfl) (by kernel_rfl) (by kernel_rfl) (fun _ _ _ h => h) (Or.inl ⟨by rfl, ?_⟩) (by assumption) ?_
                rotate_left
                · intro w hSw; (try dsimp only at hSw); go_simp; try with_reducible rfl
                try simp only [Act.put, List.getElem_toArray, List.getElem_cons_succ, List.getElem_cons_zero, List.setIfInBounds_toArray, List.set_cons_zero, List.set_cons_succ]
                refine wpAnyH_ready (rs := [22]) (by kernel_rfl) (by simp) ?_
                refine AllReadyH.cons rfl (fun K hK => ?_) AllReadyH.nil
                go_simp
                refine hK.out _ _ ?_ (fun hHeld => ?_)
                · exact HKP.out _ (Still.turn (HSB.out.alloc _))
                clear hK K
                try simp only [Act.put, List.getElem_toArray, List.getElem_cons_succ, List.getElem_cons_zero, List.setIfInBounds_toArray, List.set_cons_zero, List.set_cons_succ]
                refine wpAnyH_ready (rs := [23]) (by kernel_rfl) (by simp) ?_
                refine AllReadyH.cons rfl (fun K hK => ?_) AllReadyH.nil
                refine step_append_form rfl (.tmp 59) (.tmp 77) 37 rfl w.heap.size 73 5 72 _ Try.underlying37 infoO rfl (by decide) ya y.L.length yc _ (by rfl) (own_keep HROWY.out (HSB.out.alloc _) (fun _ _ e => e)) ⟨wB.heap.size, 0, none⟩ 1 1 [.int .i64 T, .int .i64 o.sh, .int .i64 o.n, .slice a5 o.fs.length k5, .slice a6 o.bs.length k6] (by rfl) rfl (fun j u hj => by rw [Addr.add_lit, Nat.zero_add, (Blk.new wB 73 #[.int .i64 T, .int .i64 o.sh, .int .i64 o.n, .slice a5 o.fs.length k5, .slice a6 o.bs.length k6]).cell j]; simpa using hj) (by simp [Value.oneCell']) (by decide) (by unfold maxLen; omega) (by omega) (by have := HST3.out.size; have := HSB.out.size; simp; omega) ?_
                intro g9 c9 wC hC tC nC
                have HTC : Hid (Turn (fun k => k = w1.heap.size ∨ y.lv.ownBlock = some k) w3 wC) := (Still.turn (HSB.out.alloc _)).trans (tC.out.mono fun k _ e => .inr (by rw [HYV.out]; exact e))
                have q2C : wC.cell? ⟨w1.heap.size, 2, none⟩ = some (.slice ya y.L.length yc) := (tC.out.cell (p := ⟨w1.heap.size, 2, none⟩) (by simp; omega) NLY.out).trans ((World.cell?_alloc_lt wB _ ⟨w1.heap.size, 2, none⟩ hgB).trans q2B)
                have q2Cf : wC.frozen? ⟨w1.heap.size, 2, none⟩ = false := (tC.out.frozen (p := ⟨w1.heap.size, 2, none⟩) (by simp; omega) NLY.out).trans ((Turn.frozen (HSB.out.alloc _) (p := ⟨w1.heap.size, 2, none⟩) hgy3 (fun e => e)).trans hgyf)
                refine hK.out _ _ ?_ (fun hHeld => ?_)
                · exact HKP.out _ HTC.out
                clear hK K
                try simp only [Act.put, List.getElem_toArray, List.getElem_cons_succ, List.getElem_cons_zero, List.setIfInBounds_toArray, List.set_cons_zero, List.set_cons_succ]
                refine wpAnyH_take (i := 24) (v := ?_) rfl (by kernel_rfl) (by kernel_rfl) (by kernel_rfl) (fun _ _ _ h => h) (Or.inl ⟨by rfl, ?_⟩) (by assumption) ?_
                rotate_left
                · intro w hSw; (try dsimp only at hSw); go_simp; try with_reducible rfl
                try simp only [Act.put, List.getElem_toArray, List.getElem_cons_succ, List.getElem_cons_zero, List.setIfInBounds_toArray, List.set_cons_zero, List.set_cons_succ]
                refine wpAnyH_take (i := 25) (v := ?_) rfl (by kernel_rfl) (by kernel_rfl) (by kernel_rfl) (fun _ _ _ h => h) (Or.inl ⟨by rfl, ?_⟩) (by assumption) ?_
                rotate_left
                · intro w hSw; (try dsimp only at hSw); go_simp; try with_reducible rfl
                try simp only [Act.put, List.getElem_toArray, List.getElem_cons_succ, List.getElem_cons_zero, List.setIfInBounds_toArray, List.set_cons_zero, List.set_cons_succ]
                refine wpAnyH_ready (rs := [26]) (by kernel_rfl) (by simp) ?_
                refine AllReadyH.cons rfl (fun K hK => ?_) AllReadyH.nil
                go_simp
                refine hK.out _ _ ?_ (fun hHeld => ?_)
                · exact HKP.out _ (Turn.setCell HTC.out (fun _ => .inl rfl) _)
                clear hK K
                try simp only [Act.put, List.getElem_toArray, List.getElem_cons_succ, List.getElem_cons_zero, List.setIfInBounds_toArray, List.set_cons_zero, List.set_cons_succ]
                refine wpAnyH_done (by kernel_rfl) ?_ _
                go_wp2_with fail
                go_roundw
                case rel =>
                  exact ⟨i + 1, p + s.sz o, _, by go_num, by omega, HC.out.grow HH.out HR.out HO.out HM.out HRF3.out HTO3.out HTOF.out HISR3.out HST3.out (HSB.out.alloc _) (o' := ⟨T, o.sh, o.n, o.fs, o.bs, a5, k5, a6, k6⟩) (HCORE.out _ _ _ _) ⟨own_keep HAB.out ((Still.refl wB).alloc _) (fun _ _ e => e), own_keep hB.out ((Still.refl wB).alloc _) (fun _ _ e => e)⟩ hC.out (by rw [HYV.out]; exact tC.out) (by have := HC.out.few; omega)⟩
                case measure => simp [intOf]; omega
              · refine step_append_row rfl (.tmp 72) (.tmp 74) 71 rfl w3.heap.size 5 1 1 (.int .u8 0) Try.underlying71 infoB rfl (by decide) _ 0 0 [] (by rfl) (own_empty (by first | exact Blk.new _ _ _ | exact HKA.out _ _ _ (Blk.new _ _ _) (by decide) | exact HKA.out _ _ _ (Blk.new2 (by simp)) (by decide) | exact HKA.out _ _ _ ((Blk.new _ _ _).alloc _) (by decide)) (by have := HSA.out.size; first | omega | (simp; done) | (simp; omega))) B o.ba o.bs.length o.bc (o.bs.map fun v : Nat => Value.int .u8 (v : Int)) (by rfl) (own_keep HBS3.out (by first | exact HSA.out | exact HSA.out.alloc _) (fun _ _ e => e)) (by intro u hu; obtain ⟨v, _, rfl⟩ := List.mem_map.1 hu; rfl) (by have := HFL.out; unfold maxLen; omega) (by have := HFL.out; omega) (by have := HSA.out.size; simp; omega) ?_
                simp only [Nat.zero_add, List.nil_append]
                intro a6 k6 wB hB tB
                obtain ⟨HSB, HAB⟩ := stepB HSA.out hA.out tB.out (own_empty (size := 1) (by first | exact Blk.new _ _ _ | exact HKA.out _ _ _ (Blk.new _ _ _) (by decide) | exact HKA.out _ _ _ (Blk.new2 (by simp)) (by decide) | exact HKA.out _ _ _ ((Blk.new _ _ _).alloc _) (by decide)) (by have := HSA.out.size; first | omega | (simp; done) | (simp; omega))) (by first | exact Still.refl _ | exact (Still.refl _).alloc _)
                have q2B : wB.cell? ⟨w1.heap.size, 2, none⟩ = some (.slice ya y.L.length yc) := (HSB.out.cell (p := ⟨w1.heap.size, 2, none⟩) hgy3).trans c2y
                have hgB : w1.heap.size < wB.heap.size := Nat.lt_of_lt_of_le hgy3 HSB.out.size
                clear tB
                refine hK.out _ _ ?_ (fun hHeld => ?_)
                · exact HKP.out _ (Still.turn HSB.out)
                clear hK K
                try simp only [Act.put, List.getElem_toArray, List.getElem_cons_succ, List.getElem_cons_zero, List.setIfInBounds_toArray, List.set_cons_zero, List.set_cons_succ]
                refine wpAnyH_take (i := 21) (v := ?_) rfl (by kernel_rfl) (by kernel_rfl) (by kernel_rfl) (fun _ _ _ h => h) (Or.inl ⟨by rfl, ?_⟩) (by assumption) ?_
                rotate_left
                · intro w hSw; (try dsimp only at hSw); go_simp; try with_reducible rfl
                try simp only [Act.put, List.getElem_toArray, List.getElem_cons_succ, List.getElem_cons_zero, List.setIfInBounds_toArray, List.set_cons_zero, List.set_cons_succ]
                refine wpAnyH_ready (rs := [4, 22]) (by kernel_rfl) (by simp) ?_
                refine AllReadyH.cons rfl (fun K hK => ?_) (AllReadyH.cons rfl (fun K hK => ?_) AllReadyH.nil)
                · go_simp
                  refine hK.out _ _ ?_ (fun hHeld => ?_)
                  · go_keep
                  clear hK K
                  try simp only [Act.put, List.getElem_toArray, List.getElem_cons_succ, List.getElem_cons_zero, List.setIfInBounds_toArray, List.set_cons_zero, List.set_cons_succ]
                  refine wpAnyH_ready (rs := [22]) (by kernel_rfl) (by simp) ?_
                  refine AllReadyH.cons rfl (fun K hK => ?_) AllReadyH.nil
                  go_simp
                  refine hK.out _ _ ?_ (fun hHeld => ?_)
                  · exact HKP.out _ (Still.turn (HSB.out.alloc _))
                  clear hK K
                  try simp only [Act.put, List.getElem_toArray, List.getElem_cons_succ, List.getElem_cons_zero, List.setIfInBounds_toArray, List.set_cons_zero, List.set_cons_succ]
                  refine wpAnyH_ready (rs := [23]) (by kernel_rfl) (by simp) ?_
                  refine AllReadyH.cons rfl (fun K hK => ?_) AllReadyH.nil
                  refine step_append_form rfl (.tmp 59) (.tmp 77) 37 rfl w.heap.size 73 5 72 _ Try.underlying37 infoO rfl (by decide) ya y.L.length yc _ (by rfl) (own_keep HROWY.out (HSB.out.alloc _) (fun _ _ e => e)) ⟨wB.heap.size, 0, none⟩ 1 1 [.int .i64 T, .int .i64 o.sh, .int .i64 o.n, .slice a5 o.fs.length k5, .slice a6 o.bs.length k6] (by rfl) rfl (fun j u hj => by rw [Addr.add_lit, Nat.zero_add, (Blk.new wB 73 #[.int .i64 T, .int .i64 o.sh, .int .i64 o.n, .slice a5 o.fs.length k5, .slice a6 o.bs.length k6]).cell j]; simpa using hj) (by simp [Value.oneCell']) (by decide) (by unfold maxLen; omega) (by omega) (by have := HST3.out.size; have := HSB.out.size; simp; omega) ?_
                  intro g9 c9 wC hC tC nC
                  have HTC : Hid (Turn (fun k => k = w1.heap.size ∨ y.lv.ownBlock = some k) w3 wC) := (Still.turn (HSB.out.alloc _)).trans (tC.out.mono fun k _ e => .inr (by rw [HYV.out]; exact e))
                  have q2C : wC.cell? ⟨w1.heap.size, 2, none⟩ = some (.slice ya y.L.length yc) := (tC.out.cell (p := ⟨w1.heap.size, 2, none⟩) (by simp; omega) NLY.out).trans ((World.cell?_alloc_lt wB _ ⟨w1.heap.size, 2, none⟩ hgB).trans q2B)
                  have q2Cf : wC.frozen? ⟨w1.heap.size, 2, none⟩ = false := (tC.out.frozen (p := ⟨w1.heap.size, 2, none⟩) (by simp; omega) NLY.out).trans ((Turn.frozen (HSB.out.alloc _) (p := ⟨w1.heap.size, 2, none⟩) hgy3 (fun e => e)).trans hgyf)
                  refine hK.out _ _ ?_ (fun hHeld => ?_)
                  · exact HKP.out _ HTC.out
                  clear hK K
                  try simp only [Act.put, List.getElem_toArray, List.getElem_cons_succ, List.getElem_cons_zero, List.setIfInBounds_toArray, List.set_cons_zero, List.set_cons_succ]
                  refine wpAnyH_take (i := 24) (v := ?_) rfl (by kernel_rfl) (by kernel_rfl) (by kernel_rfl) (fun _ _ _ h => h) (Or.inl ⟨by rfl, ?_⟩) (by assumption) ?_
                  rotate_left
                  · intro w hSw; (try dsimp only at hSw); go_simp; try with_reducible rfl
                  try simp only [Act.put, List.getElem_toArray, List.getElem_cons_succ, List.getElem_cons_zero, List.setIfInBounds_toArray, List.set_cons_zero, List.set_cons_succ]
                  refine wpAnyH_take (i := 25) (v := ?_) rfl (by kernel_rfl) (by kernel_rfl) (by kernel_rfl) (fun _ _ _ h => h) (Or.inl ⟨by rfl, ?_⟩) (by assumption) ?_
                  rotate_left
                  · intro w hSw; (try dsimp only at hSw); go_simp; try with_reducible rfl
                  try simp only [Act.put, List.getElem_toArray, List.getElem_cons_succ, List.getElem_cons_zero, List.setIfInBounds_toArray, List.set_cons_zero, List.set_cons_succ]
                  refine wpAnyH_ready (rs := [26]) (by kernel_rfl) (by simp) ?_
                  refine AllReadyH.cons rfl (fun K hK => ?_) AllReadyH.nil
                  go_simp
                  refine hK.out _ _ ?_ (fun hHeld => ?_)
                  · exact HKP.out _ (Turn.setCell HTC.out (fun _ => .inl rfl) _)
                  clear hK K
                  try simp only [Act.put, List.getElem_toArray, List.getElem_cons_succ, List.getElem_cons_zero, List.setIfInBounds_toArray, List.set_cons_zero, List.set_cons_succ]
                  refine wpAnyH_done (by kernel_rfl) ?_ _
                  go_wp2_with fail
                  go_roundw
                  case rel =>
                    exact ⟨i + 1, p + s.sz o, _, by go_num, by omega, HC.out.grow HH.out HR.out HO.out HM.out HRF3.out HTO3.out HTOF.out HISR3.out HST3.out (HSB.out.alloc _) (o' := ⟨T, o.sh, o.n, o.fs, o.bs, a5, k5, a6, k6⟩) (HCORE.out _ _ _ _) ⟨own_keep HAB.out ((Still.refl wB).alloc _) (fun _ _ e => e), own_keep hB.out ((Still.refl wB).alloc _) (fun _ _ e => e)⟩ hC.out (by rw [HYV.out]; exact tC.out) (by have := HC.out.few; omega)⟩
                  case measure => simp [intOf]; omega
                · go_simp
                  refine hK.out _ _ ?_ (fun hHeld => ?_)
                  · exact HKP.out _ (Still.turn (HSB.out.alloc _))
                  clear hK K
                  try simp only [Act.put, List.getElem_toArray, List.getElem_cons_succ, List.getElem_cons_zero, List.setIfInBounds_toArray, List.set_cons_zero, List.set_cons_succ]
                  refine wpAnyH_ready (rs := [4]) (by kernel_rfl) (by simp) ?_
                  refine AllReadyH.cons rfl (fun K hK => ?_) AllReadyH.nil
                  go_simp
                  refine hK.out _ _ ?_ (fun hHeld => ?_)
                  · go_keep
                  clear hK K
                  try simp only [Act.put, List.getElem_toArray, List.getElem_cons_succ, List.getElem_cons_zero, List.setIfInBounds_toArray, List.set_cons_zero, List.set_cons_succ]
                  refine wpAnyH_ready (rs := [23]) (by kernel_rfl) (by simp) ?_
                  refine AllReadyH.cons rfl (fun K hK => ?_) AllReadyH.nil
                  refine step_append_form rfl (.tmp 59) (.tmp 77) 37 rfl w.heap.size 73 5 72 _ Try.underlying37 infoO rfl (by decide) ya y.L.length yc _ (by rfl) (own_keep HROWY.out (HSB.out.alloc _) (fun _ _ e => e)) ⟨wB.heap.size, 0, none⟩ 1 1 [.int .i64 T, .int .i64 o.sh, .int .i64 o.n, .slice a5 o.fs.length k5, .slice a6 o.bs.length k6] (by rfl) rfl (fun j u hj => by rw [Addr.add_lit, Nat.zero_add, (Blk.new wB 73 #[.int .i64 T, .int .i64 o.sh, .int .i64 o.n, .slice a5 o.fs.length k5, .slice a6 o.bs.length k6]).cell j]; simpa using hj) (by simp [Value.oneCell']) (by decide) (by unfold maxLen; omega) (by omega) (by have := HST3.out.size; have := HSB.out.size; simp; omega) ?_
                  intro g9 c9 wC hC tC nC
                  have HTC : Hid (Turn (fun k => k = w1.heap.size ∨ y.lv.ownBlock = some k) w3 wC) := (Still.turn (HSB.out.alloc _)).trans (tC.out.mono fun k _ e => .inr (by rw [HYV.out]; exact e))
                  have q2C : wC.cell? ⟨w1.heap.size, 2, none⟩ = some (.slice ya y.L.length yc) := (tC.out.cell (p := ⟨w1.heap.size, 2, none⟩) (by simp; omega) NLY.out).trans ((World.cell?_alloc_lt wB _ ⟨w1.heap.size, 2, none⟩ hgB).trans q2B)
                  have q2Cf : wC.frozen? ⟨w1.heap.size, 2, none⟩ = false := (tC.out.frozen (p := ⟨w1.heap.size, 2, none⟩) (by simp; omega) NLY.out).trans ((Turn.frozen (HSB.out.alloc _) (p := ⟨w1.heap.size, 2, none⟩) hgy3 (fun e => e)).trans hgyf)
                  refine hK.out _ _ ?_ (fun hHeld => ?_)
                  · exact HKP.out _ HTC.out
                  clear hK K
                  try simp only [Act.put, List.getElem_toArray, List.getElem_cons_succ, List.getElem_cons_zero, List.setIfInBounds_toArray, List.set_cons_zero, List.set_cons_succ]
                  refine wpAnyH_take (i := 24) (v := ?_) rfl (by kernel_rfl) (by kernel_rfl) (by kernel_rfl) (fun _ _ _ h => h) (Or.inl ⟨by rfl, ?_⟩) (by assumption) ?_
                  rotate_left
                  · intro w hSw; (try dsimp only at hSw); go_simp; try with_reducible rfl
                  try simp only [Act.put, List.getElem_toArray, List.getElem_cons_succ, List.getElem_cons_zero, List.setIfInBounds_toArray, List.set_cons_zero, List.set_cons_succ]
                  refine wpAnyH_take (i := 25) (v := ?_) rfl (by kernel_rfl) (by kernel_rfl) (by kernel_rfl) (fun _ _ _ h => h) (Or.inl ⟨by rfl, ?_⟩) (by assumption) ?_
                  rotate_left
                  · intro w hSw; (try dsimp only at hSw); go_simp; try with_reducible rfl
                  try simp only [Act.put, List.getElem_toArray, List.getElem_cons_succ, List.getElem_cons_zero, List.setIfInBounds_toArray, List.set_cons_zero, List.set_cons_succ]
                  refine wpAnyH_ready (rs := [26]) (by kernel_rfl) (by simp) ?_
                  refine AllReadyH.cons rfl (fun K hK => ?_) AllReadyH.nil
                  go_simp
                  refine hK.out _ _ ?_ (fun hHeld => ?_)
                  · exact HKP.out _ (Turn.setCell HTC.out (fun _ => .inl rfl) _)
                  clear hK K
                  try simp only [Act.put, List.getElem_toArray, List.getElem_cons_succ, List.getElem_cons_zero, List.setIfInBounds_toArray, List.set_cons_zero, List.set_cons_succ]
                  refine wpAnyH_done (by kernel_rfl) ?_ _
                  go_wp2_with fail
                  go_roundw
                  case rel =>
                    exact ⟨i + 1, p + s.sz o, _, by go_num, by omega, HC.out.grow HH.out HR.out HO.out HM.out HRF3.out HTO3.out HTOF.out HISR3.out HST3.out (HSB.out.alloc _) (o' := ⟨T, o.sh, o.n, o.fs, o.bs, a5, k5, a6, k6⟩) (HCORE.out _ _ _ _) ⟨own_keep HAB.out ((Still.refl wB).alloc _) (fun _ _ e => e), own_keep hB.out ((Still.refl wB).alloc _) (fun _ _ e => e)⟩ hC.out (by rw [HYV.out]; exact tC.out) (by have := HC.out.few; omega)⟩
                  case measure => simp [intOf]; omega
          · go_simp
            refine hK.out _ _ ?_ (fun hHeld => ?_)
            · go_keep
            clear hK K
            try simp only [Act.put, List.getElem_toArray, List.getElem_cons_succ, List.getElem_cons_zero, List.setIfInBounds_toArray, List.set_cons_zero, List.set_cons_succ]
            refine wpAnyH_ready (rs := [4, 16]) (by kernel_rfl) (by simp) ?_
            refine AllReadyH.cons rfl (fun K hK => ?_) (AllReadyH.cons rfl (fun K hK => ?_) AllReadyH.nil)
            · go_simp
              refine hK.out _ _ ?_ (fun hHeld => ?_)
              · go_keep
              clear hK K
              try simp only [Act.put, List.getElem_toArray, List.getElem_cons_succ, List.getElem_cons_zero, List.setIfInBounds_toArray, List.set_cons_zero, List.set_cons_succ]
              refine wpAnyH_ready (rs := [16]) (by kernel_rfl) (by simp) ?_
              refine AllReadyH.cons rfl (fun K hK => ?_) AllReadyH.nil
              refine step_append_row rfl (.tmp 68) (.tmp 70) 24 rfl w3.heap.size 33 1 8 (.int .u64 0) Try.underlying24 infoU rfl (by decide) _ 0 0 [] (by rfl) (own_empty (by first | exact Blk.new _ _ _ | exact (Blk.new _ _ _).alloc _ | exact Blk.new2 (by simp)) (by first | (simp; done) | (simp; omega))) B o.fa o.fs.length o.fc (o.fs.map fun v : Nat => Value.int .u64 (v : Int)) (by rfl) (own_keep HFS3.out (by (first | exact (((Still.refl w3).drew).alloc _) | exact ((((Still.refl w3).drew).alloc _).alloc _))) (fun _ _ e => e)) (nats_one _) (by have := HFL.out; unfold maxLen; omega) (by have := HFL.out; omega) (by first | (simp; done) | (simp; omega)) ?_
              simp only [Nat.zero_add, List.nil_append]
              intro a5 k5 wA hA tA
              have HSA : Hid (Still w3 wA) := Still.own_turn (by (first | exact (((Still.refl w3).drew).alloc _) | exact ((((Still.refl w3).drew).alloc _).alloc _))) tA.out (own_empty (size := 1) (by first | exact Blk.new _ _ _ | exact (Blk.new _ _ _).alloc _ | exact Blk.new2 (by simp)) (by first | (simp; done) | (simp; omega)))
              have q2A : wA.cell? ⟨w1.heap.size, 2, none⟩ = some (.slice ya y.L.length yc) := (HSA.out.cell (p := ⟨w1.heap.size, 2, none⟩) hgy3).trans c2y
              have hgA : w1.heap.size < wA.heap.size := Nat.lt_of_lt_of_le hgy3 HSA.out.size
              have HKA := Lib.hid (carry tA.out (own_empty (base := w3.heap.size) (size := 1) (by first | exact Blk.new _ _ _ | exact (Blk.new _ _ _).alloc _ | exact Blk.new2 (by simp)) (by first | (simp; done) | (simp; omega))))
              clear tA
              refine hK.out _ _ ?_ (fun hHeld => ?_)
              · exact HKP.out _ (Still.turn HSA.out)
              clear hK K
              try simp only [Act.put, List.getElem_toArray, List.getElem_cons_succ, List.getElem_cons_zero, List.setIfInBounds_toArray, List.set_cons_zero, List.set_cons_succ]
              refine wpAnyH_ready (rs := [20]) (by kernel_rfl) (by simp) ?_
              refine AllReadyH.cons rfl (fun K hK => ?_) AllReadyH.nil
              refine step_append_row rfl (.tmp 72) (.tmp 74) 71 rfl w3.heap.size 5 1 1 (.int .u8 0) Try.underlying71 infoB rfl (by decide) _ 0 0 [] (by rfl) (own_empty (by first | exact Blk.new _ _ _ | exact HKA.out _ _ _ (Blk.new _ _ _) (by decide) | exact HKA.out _ _ _ (Blk.new2 (by simp)) (by decide) | exact HKA.out _ _ _ ((Blk.new _ _ _).alloc _) (by decide)) (by have := HSA.out.size; first | omega | (simp; done) | (simp; omega))) B o.ba o.bs.length o.bc (o.bs.map fun v : Nat => Value.int .u8 (v : Int)) (by rfl) (own_keep HBS3.out (by first | exact HSA.out | exact HSA.out.alloc _) (fun _ _ e => e)) (by intro u hu; obtain ⟨v, _, rfl⟩ := List.mem_map.1 hu; rfl) (by have := HFL.out; unfold maxLen; omega) (by have := HFL.out; omega) (by have := HSA.out.size; simp; omega) ?_
              simp only [Nat.zero_add, List.nil_append]
              intro a6 k6 wB hB tB
              obtain ⟨HSB, HAB⟩ := stepB HSA.out hA.out tB.out (own_empty (size := 1) (by first | exact Blk.new _ _ _ | exact HKA.out _ _ _ (Blk.new _ _ _) (by decide) | exact HKA.out _ _ _ (Blk.new2 (by simp)) (by decide) | exact HKA.out _ _ _ ((Blk.new _ _ _).alloc _) (by decide)) (by have := HSA.out.size; first | omega | (simp; done) | (simp; omega))) (by first | exact Still.refl _ | exact (Still.refl _).alloc _)
              have q2B : wB.cell? ⟨w1.heap.size, 2, none⟩ = some (.slice ya y.L.length yc) := (HSB.out.cell (p := ⟨w1.heap.size, 2, none⟩) hgy3).trans c2y
              have hgB : w1.heap.size < wB.heap.size := Nat.lt_of_lt_of_le hgy3 HSB.out.size
              clear tB
              refine hK.out _ _ ?_ (fun hHeld => ?_)
              · exact HKP.out _ (Still.turn HSB.out)
              clear hK K
              try simp only [Act.put, List.getElem_toArray, List.getElem_cons_succ, List.getElem_cons_zero, List.setIfInBounds_toArray, List.set_cons_zero, List.set_cons_succ]
              refine wpAnyH_take (i := 21) (v := ?_) rfl (by kernel_rfl) (by kernel_rfl) (by kernel_rfl) (fun _ _ _ h => h) (Or.inl ⟨by rfl, ?_⟩) (by assumption) ?_
              rotate_left
              · intro w hSw; (try dsimp only at hSw); go_simp; try with_reducible rfl
              try simp only [Act.put, List.getElem_toArray, List.getElem_cons_succ, List.getElem_cons_zero, List.setIfInBounds_toArray, List.set_cons_zero, List.set_cons_succ]
              refine wpAnyH_ready (rs := [22]) (by kernel_rfl) (by simp) ?_
              refine AllReadyH.cons rfl (fun K hK => ?_) AllReadyH.nil
              go_simp
              refine hK.out _ _ ?_ (fun hHeld => ?_)
              · exact HKP.out _ (Still.turn (HSB.out.alloc _))
              clear hK K
              try simp only [Act.put, List.getElem_toArray, List.getElem_cons_succ, List.getElem_cons_zero, List.setIfInBounds_toArray, List.set_cons_zero, List.set_cons_succ]
              refine wpAnyH_ready (rs := [23]) (by kernel_rfl) (by simp) ?_
              refine AllReadyH.cons rfl (fun K hK => ?_) AllReadyH.nil
              refine step_append_form rfl (.tmp 59) (.tmp 77) 37 rfl w.heap.size 73 5 72 _ Try.underlying37 infoO rfl (by decide) ya y.L.length yc _ (by rfl) (own_keep HROWY.out (HSB.out.alloc _) (fun _ _ e => e)) ⟨wB.heap.size, 0, none⟩ 1 1 [.int .i64 T, .int .i64 o.sh, .int .i64 o.n, .slice a5 o.fs.length k5, .slice a6 o.bs.length k6] (by rfl) rfl (fun j u hj => by rw [Addr.add_lit, Nat.zero_add, (Blk.new wB 73 #[.int .i64 T, .int .i64 o.sh, .int .i64 o.n, .slice a5 o.fs.length k5, .slice a6 o.bs.length k6]).cell j]; simpa using hj) (by simp [Value.oneCell']) (by decide) (by unfold maxLen; omega) (by omega) (by have := HST3.out.size; have := HSB.out.size; simp; omega) ?_
              intro g9 c9 wC hC tC nC
              have HTC : Hid (Turn (fun k => k = w1.heap.size ∨ y.lv.ownBlock = some k) w3 wC) := (Still.turn (HSB.out.alloc _)).trans (tC.out.mono fun k _ e => .inr (by rw [HYV.out]; exact e))
              have q2C : wC.cell? ⟨w1.heap.size, 2, none⟩ = some (.slice ya y.L.length yc) := (tC.out.cell (p := ⟨w1.heap.size, 2, none⟩) (by simp; omega) NLY.out).trans ((World.cell?_alloc_lt wB _ ⟨w1.heap.size, 2, none⟩ hgB).trans q2B)
              have q2Cf : wC.frozen? ⟨w1.heap.size, 2, none⟩ = false := (tC.out.frozen (p := ⟨w1.heap.size, 2, none⟩) (by simp; omega) NLY.out).trans ((Turn.frozen (HSB.out.alloc _) (p := ⟨w1.heap.size, 2, none⟩) hgy3 (fun e => e)).trans hgyf)
              refine hK.out _ _ ?_ (fun hHeld => ?_)
              · exact HKP.out _ HTC.out
              clear hK K
              try simp only [Act.put, List.getElem_toArray, List.getElem_cons_succ, List.getElem_cons_zero, List.setIfInBounds_toArray, List.set_cons_zero, List.set_cons_succ]
              refine wpAnyH_take (i := 24) (v := ?_) rfl (by kernel_rfl) (by kernel_rfl) (by kernel_rfl) (fun _ _ _ h => h) (Or.inl ⟨by rfl, ?_⟩) (by assumption) ?_
              rotate_left
              · intro w hSw; (try dsimp only at hSw); go_simp; try with_reducible rfl
              try simp only [Act.put, List.getElem_toArray, List.getElem_cons_succ, List.getElem_cons_zero, List.setIfInBounds_toArray, List.set_cons_zero, List.set_cons_succ]
              refine wpAnyH_take (i := 25) (v := ?_) rfl (by kernel_rfl) (by kernel_rfl) (by kernel_rfl) (fun _ _ _ h => h) (Or.inl ⟨by rfl, ?_⟩) (by assumption) ?_
              rotate_left
              · intro w hSw; (try dsimp only at hSw); go_simp; try with_reducible rfl
              try simp only [Act.put, List.getElem_toArray, List.getElem_cons_succ, List.getElem_cons_zero, List.setIfInBounds_toArray, List.set_cons_zero, List.set_cons_succ]
              refine wpAnyH_ready (rs := [26]) (by kernel_rfl) (by simp) ?_
              refine AllReadyH.cons rfl (fun K hK => ?_) AllReadyH.nil
              go_simp
              refine hK.out _ _ ?_ (fun hHeld => ?_)
              · exact HKP.out _ (Turn.setCell HTC.out (fun _ => .inl rfl) _)
              clear hK K
              try simp only [Act.put, List.getElem_toArray, List.getElem_cons_succ, List.getElem_cons_zero, List.setIfInBounds_toArray, List.set_cons_zero, List.set_cons_succ]
              refine wpAnyH_done (by kernel_rfl) ?_ _
              go_wp2_with fail
              go_roundw
              case rel =>
                exact ⟨i + 1, p + s.sz o, _, by go_num, by omega, HC.out.grow HH.out HR.out HO.out HM.out HRF3.out HTO3.out HTOF.out HISR3.out HST3.out (HSB.out.alloc _) (o' := ⟨T, o.sh, o.n, o.fs, o.bs, a5, k5, a6, k6⟩) (HCORE.out _ _ _ _) ⟨own_keep HAB.out ((Still.refl wB).alloc _) (fun _ _ e => e), own_keep hB.out ((Still.refl wB).alloc _) (fun _ _ e => e)⟩ hC.out (by rw [HYV.out]; exact tC.out) (by have := HC.out.few; omega)⟩
              case measure => simp [intOf]; omega
            · refine step_append_row rfl (.tmp 68) (.tmp 70) 24 rfl w3.heap.size 33 1 8 (.int .u64 0) Try.underlying24 infoU rfl (by decide) _ 0 0 [] (by rfl) (own_empty (by first | exact Blk.new _ _ _ | exact (Blk.new _ _ _).alloc _ | exact Blk.new2 (by simp)) (by first | (simp; done) | (simp; omega))) B o.fa o.fs.length o.fc (o.fs.map fun v : Nat => Value.int .u64 (v : Int)) (by rfl) (own_keep HFS3.out (by (first | exact (((Still.refl w3).drew).alloc _) | exact ((((Still.refl w3).drew).alloc _).alloc _))) (fun _ _ e => e)) (nats_one _) (by have := HFL.out; unfold maxLen; omega) (by have := HFL.out; omega) (by first | (simp; done) | (simp; omega)) ?_
              simp only [Nat.zero_add, List.nil_append]
              intro a5 k5 wA hA tA
              have HSA : Hid (Still w3 wA) := Still.own_turn (by (first | exact (((Still.refl w3).drew).alloc _) | exact ((((Still.refl w3).drew).alloc _).alloc _))) tA.out (own_empty (size := 1) (by first | exact Blk.new _ _ _ | exact (Blk.new _ _ _).alloc _ | exact Blk.new2 (by simp)) (by first | (simp; done) | (simp; omega)))
              have q2A : wA.cell? ⟨w1.heap.size, 2, none⟩ = some (.slice ya y.L.length yc) := (HSA.out.cell (p := ⟨w1.heap.size, 2, none⟩) hgy3).trans c2y
              have hgA : w1.heap.size < wA.heap.size := Nat.lt_of_lt_of_le hgy3 HSA.out.size
              have HKA := Lib.hid (carry tA.out (own_empty (base := w3.heap.size) (size := 1) (by first | exact Blk.new _ _ _ | exact (Blk.new _ _ _).alloc _ | exact Blk.new2 (by simp)) (by first | (simp; done) | (simp; omega))))
              clear tA
              refine hK.out _ _ ?_ (fun hHeld => ?_)
              · exact HKP.out _ (Still.turn HSA.out)
              clear hK K
              try simp only [Act.put, List.getElem_toArray, List.getElem_cons_succ, List.getElem_cons_zero, List.setIfInBounds_toArray, List.set_cons_zero, List.set_cons_succ]
              refine wpAnyH_ready (rs := [4, 20]) (by kernel_rfl) (by simp) ?_
              refine AllReadyH.cons rfl (fun K hK => ?_) (AllReadyH.cons rfl (fun K hK => ?_) AllReadyH.nil)
              · go_simp
                refine hK.out _ _ ?_ (fun hHeld => ?_)
                · go_keep
                clear hK K
                try simp only [Act.put, List.getElem_toArray, List.getElem_cons_succ, List.getElem_cons_zero, List.setIfInBounds_toArray, List.set_cons_zero, List.set_cons_succ]
                refine wpAnyH_ready (rs := [20]) (by kernel_rfl) (by simp) ?_
                refine AllReadyH.cons rfl (fun K hK => ?_) AllReadyH.nil
                refine step_append_row rfl (.tmp 72) (.tmp 74) 71 rfl w3.heap.size 5 1 1 (.int .u8 0) Try.underlying71 infoB rfl (by decide) _ 0 0 [] (by rfl) (own_empty (by first | exact Blk.new _ _ _ | exact HKA.out _ _ _ (Blk.new _ _ _) (by decide) | exact HKA.out _ _ _ (Blk.new2 (by simp)) (by decide) | exact HKA.out _ _ _ ((Blk.new _ _ _).alloc _) (by decide)) (by have := HSA.out.size; first | omega | (simp; done) | (simp; omega))) B o.ba o.bs.length o.bc (o.bs.map fun v : Nat => Value.int .u8 (v : Int)) (by rfl) (own_keep HBS3.out (by first | exact HSA.out | exact HSA.out.alloc _) (fun _ _ e => e)) (by intro u hu; obtain ⟨v, _, rfl⟩ := List.mem_map.1 hu; rfl) (by have := HFL.out; unfold maxLen; omega) (by have := HFL.out; omega) (by have := HSA.out.size; simp; omega) ?_
                simp only [Nat.zero_add, List.nil_append]
                intro a6 k6 wB hB tB
                obtain ⟨HSB, HAB⟩ := stepB HSA.out hA.out tB.out (own_empty (size := 1) (by first | exact Blk.new _ _ _ | exact HKA.out _ _ _ (Blk.new _ _ _) (by decide) | exact HKA.out _ _ _ (Blk.new2 (by simp)) (by decide) | exact HKA.out _ _ _ ((Blk.new _ _ _).alloc _) (by decide)) (by have := HSA.out.size; first | omega | (simp; done) | (simp; omega))) (by first | exact Still.refl _ | exact (Still.refl _).alloc _)
                have q2B : wB.cell? ⟨w1.heap.size, 2, none⟩ = some (.slice ya y.L.length yc) := (HSB.out.cell (p := ⟨w1.heap.size, 2, none⟩) hgy3).trans c2y
                have hgB : w1.heap.size < wB.heap.size := Nat.lt_of_lt_of_le hgy3 HSB.out.size
                clear tB
                refine hK.out _ _ ?_ (fun hHeld => ?_)
                · exact HKP.out _ (Still.turn HSB.out)
                clear hK K
                try simp only [Act.put, List.getElem_toArray, List.getElem_cons_succ, List.getElem_cons_zero, List.setIfInBounds_toArray, List.set_cons_zero, List.set_cons_succ]
                refine wpAnyH_take (i := 21) (v := ?_) rfl (by kernel_rfl) (by kernel_rfl) (by kernel_rfl) (fun _ _ _ h => h) (Or.inl ⟨by rfl, ?_⟩) (by assumption) ?_
                rotate_left
                · intro w hSw; (try dsimp only at hSw); go_simp; try with_reducible rfl
                try simp only [Act.put, List.getElem_toArray, List.getElem_cons_succ, List.getElem_cons_zero, List.setIfInBounds_toArray, List.set_cons_zero, List.set_cons_succ]
                refine wpAnyH_ready (rs := [22]) (by kernel_rfl) (by simp) ?_
                refine AllReadyH.cons rfl (fun K hK => ?_) AllReadyH.nil
                go_simp
                refine hK.out _ _ ?_ (fun hHeld => ?_)
                · exact HKP.out _ (Still.turn (HSB.out.alloc _))
                clear hK K
                try simp only [Act.put, List.getElem_toArray, List.getElem_cons_succ, List.getElem_cons_zero, List.setIfInBounds_toArray, List.set_cons_zero, List.set_cons_succ]
                refine wpAnyH_ready (rs := [23]) (by kernel_rfl) (by simp) ?_
                refine AllReadyH.cons rfl (fun K hK => ?_) AllReadyH.nil
                refine step_append_form rfl (.tmp 59) (.tmp 77) 37 rfl w.heap.size 73 5 72 _ Try.underlying37 infoO rfl (by decide) ya y.L.length yc _ (by rfl) (own_keep HROWY.out (HSB.out.alloc _) (fun _ _ e => e)) ⟨wB.heap.size, 0, none⟩ 1 1 [.int .i64 T, .int .i64 o.sh, .int .i64 o.n, .slice a5 o.fs.length k5, .slice a6 o.bs.length k6] (by rfl) rfl (fun j u hj => by rw [Addr.add_lit, Nat.zero_add, (Blk.new wB 73 #[.int .i64 T, .int .i64 o.sh, .int .i64 o.n, .slice a5 o.fs.length k5, .slice a6 o.bs.length k6]).cell j]; simpa using hj) (by simp [Value.oneCell']) (by decide) (by unfold maxLen; omega) (by omega) (by have := HST3.out.size; have := HSB.out.size; simp; omega) ?_
                intro g9 c9 wC hC tC nC
                have HTC : Hid (Turn (fun k => k = w1.heap.size ∨ y.lv.ownBlock = some k) w3 wC) := (Still.turn (HSB.out.alloc _)).trans (tC.out.mono fun k _ e => .inr (by rw [HYV.out]; exact e))
                have q2C : wC.cell? ⟨w1.heap.size, 2, none⟩ = some (.slice ya y.L.length yc) := (tC.out.cell (p := ⟨w1.heap.size, 2, none⟩) (by simp; omega) NLY.out).trans ((World.cell?_alloc_lt wB _ ⟨w1.heap.size, 2, none⟩ hgB).trans q2B)
                have q2Cf : wC.frozen? ⟨w1.heap.size, 2, none⟩ = false := (tC.out.frozen (p := ⟨w1.heap.size, 2, none⟩) (by simp; omega) NLY.out).trans ((Turn.frozen (HSB.out.alloc _) (p := ⟨w1.heap.size, 2, none⟩) hgy3 (fun e => e)).trans hgyf)
                refine hK.out _ _ ?_ (fun hHeld => ?_)
                · exact HKP.out _ HTC.out
                clear hK K
                try simp only [Act.put, List.getElem_toArray, List.getElem_cons_succ, List.getElem_cons_zero, List.setIfInBounds_toArray, List.set_cons_zero, List.set_cons_succ]
                refine wpAnyH_take (i := 24) (v := ?_) rfl (by kernel_rfl) (by kernel_rfl) (by kernel_rfl) (fun _ _ _ h => h) (Or.inl ⟨by rfl, ?_⟩) (by assumption) ?_
                rotate_left
                · intro w hSw; (try dsimp only at hSw); go_simp; try with_reducible rfl
                try simp only [Act.put, List.getElem_toArray, List.getElem_cons_succ, List.getElem_cons_zero, List.setIfInBounds_toArray, List.set_cons_zero, List.set_cons_succ]
                refine wpAnyH_take (i := 25) (v := ?_) rfl (by kernel_rfl) (by kernel_rfl) (by kernel_rfl) (fun _ _ _ h => h) (Or.inl ⟨by rfl, ?_⟩) (by assumption) ?_
                rotate_left
                · intro w hSw; (try dsimp only at hSw); go_simp; try with_reducible rfl
                try simp only [Act.put, List.getElem_toArray, List.getElem_cons_succ, List.getElem_cons_zero, List.setIfInBounds_toArray, List.set_cons_zero, List.set_cons_succ]
                refine wpAnyH_ready (rs := [26]) (by kernel_rfl) (by simp) ?_
                refine AllReadyH.cons rfl (fun K hK => ?_) AllReadyH.nil
                go_simp
                refine hK.out _ _ ?_ (fun hHeld => ?_)
                · exact HKP.out _ (Turn.setCell HTC.out (fun _ => .inl rfl) _)
                clear hK K
                try simp only [Act.put, List.getElem_toArray, List.getElem_cons_succ, List.getElem_cons_zero, List.setIfInBounds_toArray, List.set_cons_zero, List.set_cons_succ]
                refine wpAnyH_done (by kernel_rfl) ?_ _
                go_wp2_with fail
                go_roundw
                case rel =>
                  exact ⟨i + 1, p + s.sz o, _, by go_num, by omega, HC.out.grow HH.out HR.out HO.out HM.out HRF3.out HTO3.out HTOF.out HISR3.out HST3.out (HSB.out.alloc _) (o' := ⟨T, o.sh, o.n, o.fs, o.bs, a5, k5, a6, k6⟩) (HCORE.out _ _ _ _) ⟨own_keep HAB.out ((Still.refl wB).alloc _) (fun _ _ e => e), own_keep hB.out ((Still.refl wB).alloc _) (fun _ _ e => e)⟩ hC.out (by rw [HYV.out]; exact tC.out) (by have := HC.out.few; omega)⟩
                case measure => simp [intOf]; omega
              · refine step_append_row rfl (.tmp 72) (.tmp 74) 71 rfl w3.heap.size 5 1 1 (.int .u8 0) Try.underlying71 infoB rfl (by decide) _ 0 0 [] (by rfl) (own_empty (by first | exact Blk.new _ _ _ | exact HKA.out _ _ _ (Blk.new _ _ _) (by decide) | exact HKA.out _ _ _ (Blk.new2 (by simp)) (by decide) | exact HKA.out _ _ _ ((Blk.new _ _ _).alloc _) (by decide)) (by have := HSA.out.size; first | omega | (simp; done) | (simp; omega))) B o.ba o.bs.length o.bc (o.bs.map fun v : Nat => Value.int .u8 (v : Int)) (by rfl) (own_keep HBS3.out (by first | exact HSA.out | exact HSA.out.alloc _) (fun _ _ e => e)) (by intro u hu; obtain ⟨v, _, rfl⟩ := List.mem_map.1 hu; rfl) (by have := HFL.out; unfold maxLen; omega) (by have := HFL.out; omega) (by have := HSA.out.size; simp; omega) ?_
                simp only [Nat.zero_add, List.nil_append]
                intro a6 k6 wB hB tB
                obtain ⟨HSB, HAB⟩ := stepB HSA.out hA.out tB.out (own_empty (size := 1) (by first | exact Blk.new _ _ _ | exact HKA.out _ _ _ (Blk.new _ _ _) (by decide) | exact HKA.out _ _ _ (Blk.new2 (by simp)) (by decide) | exact HKA.out _ _ _ ((Blk.new _ _ _).alloc _) (by decide)) (by have := HSA.out.size; first | omega | (simp; done) | (simp; omega))) (by first | exact Still.refl _ | exact (Still.refl _).alloc _)
                have q2B : wB.cell? ⟨w1.heap.size, 2, none⟩ = some (.slice ya y.L.length yc) := (HSB.out.cell (p := ⟨w1.heap.size, 2, none⟩) hgy3).trans c2y
                have hgB : w1.heap.size < wB.heap.size := Nat.lt_of_lt_of_le hgy3 HSB.out.size
                clear tB
                refine hK.out _ _ ?_ (fun hHeld => ?_)
                · exact HKP.out _ (Still.turn HSB.out)
                clear hK K
                try simp only [Act.put, List.getElem_toArray, List.getElem_cons_succ, List.getElem_cons_zero, List.setIfInBounds_toArray, List.set_cons_zero, List.set_cons_succ]
                refine wpAnyH_take (i := 21) (v := ?_) rfl (by kernel_rfl) (by kernel_rfl) (by kernel_rfl) (fun _ _ _ h => h) (Or.inl ⟨by rfl, ?_⟩) (by assumption) ?_
                rotate_left
                · intro w hSw; (try dsimp only at hSw); go_simp; try with_reducible rfl
                try simp only [Act.put, List.getElem_toArray, List.getElem_cons_succ, List.getElem_cons_zero, List.setIfInBounds_toArray, List.set_cons_zero, List.set_cons_succ]
                refine wpAnyH_ready (rs := [4, 22]) (by kernel_rfl) (by simp) ?_
                refine AllReadyH.cons rfl (fun K hK => ?_) (AllReadyH.cons rfl (fun K hK => ?_) AllReadyH.nil)
                · go_simp
                  refine hK.out _ _ ?_ (fun hHeld => ?_)
                  · go_keep
                  clear hK K
                  try simp only [Act.put, List.getElem_toArray, List.getElem_cons_succ, List.getElem_cons_zero, List.setIfInBounds_toArray, List.set_cons_zero, List.set_cons_succ]
                  refine wpAnyH_ready (rs := [22]) (by kernel_rfl) (by simp) ?_
                  refine AllReadyH.cons rfl (fun K hK => ?_) AllReadyH.nil
                  go_simp
                  refine hK.out _ _ ?_ (fun hHeld => ?_)
                  · exact HKP.out _ (Still.turn (HSB.out.alloc _))
                  clear hK K
                  try simp only [Act.put, List.getElem_toArray, List.getElem_cons_succ, List.getElem_cons_zero, List.setIfInBounds_toArray, List.set_cons_zero, List.set_cons_succ]
                  refine wpAnyH_ready (rs := [23]) (by kernel_rfl) (by simp) ?_
                  refine AllReadyH.cons rfl (fun K hK => ?_) AllReadyH.nil
                  refine step_append_form rfl (.tmp 59) (.tmp 77) 37 rfl w.heap.size 73 5 72 _ Try.underlying37 infoO rfl (by decide) ya y.L.length yc _ (by rfl) (own_keep HROWY.out (HSB.out.alloc _) (fun _ _ e => e)) ⟨wB.heap.size, 0, none⟩ 1 1 [.int .i64 T, .int .i64 o.sh, .int .i64 o.n, .slice a5 o.fs.length k5, .slice a6 o.bs.length k6] (by rfl) rfl (fun j u hj => by rw [Addr.add_lit, Nat.zero_add, (Blk.new wB 73 #[.int .i64 T, .int .i64 o.sh, .int .i64 o.n, .slice a5 o.fs.length k5, .slice a6 o.bs.length k6]).cell j]; simpa using hj) (by simp [Value.oneCell']) (by decide) (by unfold maxLen; omega) (by omega) (by have := HST3.out.size; have := HSB.out.size; simp; omega) ?_
                  intro g9 c9 wC hC tC nC
                  have HTC : Hid (Turn (fun k => k = w1.heap.size ∨ y.lv.ownBlock = some k) w3 wC) := (Still.turn (HSB.out.alloc _)).trans (tC.out.mono fun k _ e => .inr (by rw [HYV.out]; exact e))
                  have q2C : wC.cell? ⟨w1.heap.size, 2, none⟩ = some (.slice ya y.L.length yc) := (tC.out.cell (p := ⟨w1.heap.size, 2, none⟩) (by simp; omega) NLY.out).trans ((World.cell?_alloc_lt wB _ ⟨w1.heap.size, 2, none⟩ hgB).trans q2B)
                  have q2Cf : wC.frozen? ⟨w1.heap.size, 2, none⟩ = false := (tC.out.frozen (p := ⟨w1.heap.size, 2, none⟩) (by simp; omega) NLY.out).trans ((Turn.frozen (HSB.out.alloc _) (p := ⟨w1.heap.size, 2, none⟩) hgy3 (fun e => e)).trans hgyf)
                  refine hK.out _ _ ?_ (fun hHeld => ?_)
                  · exact HKP.out _ HTC.out
                  clear hK K
                  try simp only [Act.put, List.getElem_toArray, List.getElem_cons_succ, List.getElem_cons_zero, List.setIfInBounds_toArray, List.set_cons_zero, List.set_cons_succ]
                  refine wpAnyH_take (i := 24) (v := ?_) rfl (by kernel_rfl) (by kernel_rfl) (by kernel_rfl) (fun _ _ _ h => h) (Or.inl ⟨by rfl, ?_⟩) (by assumption) ?_
                  rotate_left
                  · intro w hSw; (try dsimp only at hSw); go_simp; try with_reducible rfl
                  try simp only [Act.put, List.getElem_toArray, List.getElem_cons_succ, List.getElem_cons_zero, List.setIfInBounds_toArray, List.set_cons_zero, List.set_cons_succ]
                  refine wpAnyH_take (i := 25) (v := ?_) rfl (by kernel_rfl) (by kernel_rfl) (by kernel_rfl) (fun _ _ _ h => h) (Or.inl ⟨by rfl, ?_⟩) (by assumption) ?_
                  rotate_left
                  · intro w hSw; (try dsimp only at hSw); go_simp; try with_reducible rfl
                  try simp only [Act.put, List.getElem_toArray, List.getElem_cons_succ, List.getElem_cons_zero, List.setIfInBounds_toArray, List.set_cons_zero, List.set_cons_succ]
                  refine wpAnyH_ready (rs := [26]) (by kernel_rfl) (by simp) ?_
                  refine AllReadyH.cons rfl (fun K hK => ?_) AllReadyH.nil
                  go_simp
                  refine hK.out _ _ ?_ (fun hHeld => ?_)
                  · exact HKP.out _ (Turn.setCell HTC.out (fun _ => .inl rfl) _)
                  clear hK K
                  try simp only [Act.put, List.getElem_toArray, List.getElem_cons_succ, List.getElem_cons_zero, List.setIfInBounds_toArray, List.set_cons_zero, List.set_cons_succ]
                  refine wpAnyH_done (by kernel_rfl) ?_ _
                  go_wp2_with fail
                  go_roundw
                  case rel =>
                    exact ⟨i + 1, p + s.sz o, _, by go_num, by omega, HC.out.grow HH.out HR.out HO.out HM.out HRF3.out HTO3.out HTOF.out HISR3.out HST3.out (HSB.out.alloc _) (o' := ⟨T, o.sh, o.n, o.fs, o.bs, a5, k5, a6, k6⟩) (HCORE.out _ _ _ _) ⟨own_keep HAB.out ((Still.refl wB).alloc _) (fun _ _ e => e), own_keep hB.out ((Still.refl wB).alloc _) (fun _ _ e => e)⟩ hC.out (by rw [HYV.out]; exact tC.out) (by have := HC.out.few; omega)⟩
                  case measure => simp [intOf]; omega
                · go_simp
                  refine hK.out _ _ ?_ (fun hHeld => ?_)
                  · exact HKP.out _ (Still.turn (HSB.out.alloc _))
                  clear hK K
                  try simp only [Act.put, List.getElem_toArray, List.getElem_cons_succ, List.getElem_cons_zero, List.setIfInBounds_toArray, List.set_cons_zero, List.set_cons_succ]
                  refine wpAnyH_ready (rs := [4]) (by kernel_rfl) (by simp) ?_
                  refine AllReadyH.cons rfl (fun K hK => ?_) AllReadyH.nil
                  go_simp
                  refine hK.out _ _ ?_ (fun hHeld => ?_)
                  · go_keep
                  clear hK K
                  try simp only [Act.put, List.getElem_toArray, List.getElem_cons_succ, List.getElem_cons_zero, List.setIfInBounds_toArray, List.set_cons_zero, List.set_cons_succ]
                  refine wpAnyH_ready (rs := [23]) (by kernel_rfl) (by simp) ?_
                  refine AllReadyH.cons rfl (fun K hK => ?_) AllReadyH.nil
                  refine step_append_form rfl (.tmp 59) (.tmp 77) 37 rfl w.heap.size 73 5 72 _ Try.underlying37 infoO rfl (by decide) ya y.L.length yc _ (by rfl) (own_keep HROWY.out (HSB.out.alloc _) (fun _ _ e => e)) ⟨wB.heap.size, 0, none⟩ 1 1 [.int .i64 T, .int .i64 o.sh, .int .i64 o.n, .slice a5 o.fs.length k5, .slice a6 o.bs.length k6] (by rfl) rfl (fun j u hj => by rw [Addr.add_lit, Nat.zero_add, (Blk.new wB 73 #[.int .i64 T, .int .i64 o.sh, .int .i64 o.n, .slice a5 o.fs.length k5, .slice a6 o.bs.length k6]).cell j]; simpa using hj) (by simp [Value.oneCell']) (by decide) (by unfold maxLen; omega) (by omega) (by have := HST3.out.size; have := HSB.out.size; simp; omega) ?_
                  intro g9 c9 wC hC tC nC
                  have HTC : Hid (Turn (fun k => k = w1.heap.size ∨ y.lv.ownBlock = some k) w3 wC) := (Still.turn (HSB.out.alloc _)).trans (tC.out.mono fun k _ e => .inr (by rw [HYV.out]; exact e))
                  have q2C : wC.cell? ⟨w1.heap.size, 2, none⟩ = some (.slice ya y.L.length yc) := (tC.out.cell (p := ⟨w1.heap.size, 2, none⟩) (by simp; omega) NLY.out).trans ((World.cell?_alloc_lt wB _ ⟨w1.heap.size, 2, none⟩ hgB).trans q2B)
                  have q2Cf : wC.frozen? ⟨w1.heap.size, 2, none⟩ = false := (tC.out.frozen (p := ⟨w1.heap.size, 2, none⟩) (by simp; omega) NLY.out).trans ((Turn.frozen (HSB.out.alloc _) (p := ⟨w1.heap.size, 2, none⟩) hgy3 (fun e => e)).trans hgyf)
                  refine hK.out _ _ ?_ (fun hHeld => ?_)
                  · exact HKP.out _ HTC.out
                  clear hK K
                  try simp only [Act.put, List.getElem_toArray, List.getElem_cons_succ, List.getElem_cons_zero, List.setIfInBounds_toArray, List.set_cons_zero, List.set_cons_succ]
                  refine wpAnyH_take (i := 24) (v := ?_) rfl (by kernel_rfl) (by kernel_rfl) (by kernel_rfl) (fun _ _ _ h => h) (Or.inl ⟨by rfl, ?_⟩) (by assumption) ?_
                  rotate_left
                  · intro w hSw; (try dsimp only at hSw); go_simp; try with_reducible rfl
                  try simp only [Act.put, List.getElem_toArray, List.getElem_cons_succ, List.getElem_cons_zero, List.setIfInBounds_toArray, List.set_cons_zero, List.set_cons_succ]
                  refine wpAnyH_take (i := 25) (v := ?_) rfl (by kernel_rfl) (by kernel_rfl) (by kernel_rfl) (fun _ _ _ h => h) (Or.inl ⟨by rfl, ?_⟩) (by assumption) ?_
                  rotate_left
                  · intro w hSw; (try dsimp only at hSw); go_simp; try with_reducible rfl
                  try simp only [Act.put, List.getElem_toArray, List.getElem_cons_succ, List.getElem_cons_zero, List.setIfInBounds_toArray, List.set_cons_zero, List.set_cons_succ]
                  refine wpAnyH_ready (rs := [26]) (by kernel_rfl) (by simp) ?_
                  refine AllReadyH.cons rfl (fun K hK => ?_) AllReadyH.nil
                  go_simp
                  refine hK.out _ _ ?_ (fun hHeld => ?_)
                  · exact HKP.out _ (Turn.setCell HTC.out (fun _ => .inl rfl) _)
                  clear hK K
                  try simp only [Act.put, List.getElem_toArray, List.getElem_cons_succ, List.getElem_cons_zero, List.setIfInBounds_toArray, List.set_cons_zero, List.set_cons_succ]
                  refine wpAnyH_done (by kernel_rfl) ?_ _
                  go_wp2_with fail
                  go_roundw
                  case rel =>
                    exact ⟨i + 1, p + s.sz o, _, by go_num, by omega, HC.out.grow HH.out HR.out HO.out HM.out HRF3.out HTO3.out HTOF.out HISR3.out HST3.out (HSB.out.alloc _) (o' := ⟨T, o.sh, o.n, o.fs, o.bs, a5, k5, a6, k6⟩) (HCORE.out _ _ _ _) ⟨own_keep HAB.out ((Still.refl wB).alloc _) (fun _ _ e => e), own_keep hB.out ((Still.refl wB).alloc _) (fun _ _ e => e)⟩ hC.out (by rw [HYV.out]; exact tC.out) (by have := HC.out.few; omega)⟩
                  case measure => simp [intOf]; omega
        · go_simp
          refine hK.out _ _ ?_ (fun hHeld => ?_)
          · go_keep
          clear hK K
          try simp only [Act.put, List.getElem_toArray, List.getElem_cons_succ, List.getElem_cons_zero, List.setIfInBounds_toArray, List.set_cons_zero, List.set_cons_succ]
          refine wpAnyH_ready (rs := [4, 13]) (by kernel_rfl) (by simp) ?_
          refine AllReadyH.cons rfl (fun K hK => ?_) (AllReadyH.cons rfl (fun K hK => ?_) AllReadyH.nil)
          · go_simp
            refine hK.out _ _ ?_ (fun hHeld => ?_)
            · go_keep
            clear hK K
            try simp only [Act.put, List.getElem_toArray, List.getElem_cons_succ, List.getElem_cons_zero, List.setIfInBounds_toArray, List.set_cons_zero, List.set_cons_succ]
            refine wpAnyH_ready (rs := [13]) (by kernel_rfl) (by simp) ?_
            refine AllReadyH.cons rfl (fun K hK => ?_) AllReadyH.nil
            go_simp
            refine hK.out _ _ ?_ (fun hHeld => ?_)
            · go_keep
            clear hK K
            try simp only [Act.put, List.getElem_toArray, List.getElem_cons_succ, List.getElem_cons_zero, List.setIfInBounds_toArray, List.set_cons_zero, List.set_cons_succ]
            refine wpAnyH_ready (rs := [16]) (by kernel_rfl) (by simp) ?_
            refine AllReadyH.cons rfl (fun K hK => ?_) AllReadyH.nil
            refine step_append_row rfl (.tmp 68) (.tmp 70) 24 rfl w3.heap.size 33 1 8 (.int .u64 0) Try.underlying24 infoU rfl (by decide) _ 0 0 [] (by rfl) (own_empty (by first | exact Blk.new _ _ _ | exact (Blk.new _ _ _).alloc _ | exact Blk.new2 (by simp)) (by first | (simp; done) | (simp; omega))) B o.fa o.fs.length o.fc (o.fs.map fun v : Nat => Value.int .u64 (v : Int)) (by rfl) (own_keep HFS3.out (by (first | exact (((Still.refl w3).drew).alloc _) | exact ((((Still.refl w3).drew).alloc _).alloc _))) (fun _ _ e => e)) (nats_one _) (by have := HFL.out; unfold maxLen; omega) (by have := HFL.out; omega) (by first | (simp; done) | (simp; omega)) ?_
            simp only [Nat.zero_add, List.nil_append]
            intro a5 k5 wA hA tA
            have HSA : Hid (Still w3 wA) := Still.own_turn (by (first | exact (((Still.refl w3).drew).alloc _) | exact ((((Still.refl w3).drew).alloc _).alloc _))) tA.out (own_empty (size := 1) (by first | exact Blk.new _ _ _ | exact (Blk.new _ _ _).alloc _ | exact Blk.new2 (by simp)) (by first | (simp; done) | (simp; omega)))
            have q2A : wA.cell? ⟨w1.heap.size, 2, none⟩ = some (.slice ya y.L.length yc) := (HSA.out.cell (p := ⟨w1.heap.size, 2, none⟩) hgy3).trans c2y
            have hgA : w1.heap.size < wA.heap.size := Nat.lt_of_lt_of_le hgy3 HSA.out.size
            have HKA := Lib.hid (carry tA.out (own_empty (base := w3.heap.size) (size := 1) (by first | exact Blk.new _ _ _ | exact (Blk.new _ _ _).alloc _ | exact Blk.new2 (by simp)) (by first | (simp; done) | (simp; omega))))
            clear tA
            refine hK.out _ _ ?_ (fun hHeld => ?_)
            · exact HKP.out _ (Still.turn HSA.out)
            clear hK K
            try simp only [Act.put, List.getElem_toArray, List.getElem_cons_succ, List.getElem_cons_zero, List.setIfInBounds_toArray, List.set_cons_zero, List.set_cons_succ]
            refine wpAnyH_ready (rs := [20]) (by kernel_rfl) (by simp) ?_
            refine AllReadyH.cons rfl (fun K hK => ?_) AllReadyH.nil
            refine step_append_row rfl (.tmp 72) (.tmp 74) 71 rfl w3.heap.size 5 1 1 (.int .u8 0) Try.underlying71 infoB rfl (by decide) _ 0 0 [] (by rfl) (own_empty (by first | exact Blk.new _ _ _ | exact HKA.out _ _ _ (Blk.new _ _ _) (by decide) | exact HKA.out _ _ _ (Blk.new2 (by simp)) (by decide) | exact HKA.out _ _ _ ((Blk.new _ _ _).alloc _) (by decide)) (by have := HSA.out.size; first | omega | (simp; done) | (simp; omega))) B o.ba o.bs.length o.bc (o.bs.map fun v : Nat => Value.int .u8 (v : Int)) (by rfl) (own_keep HBS3.out (by first | exact HSA.out | exact HSA.out.alloc _) (fun _ _ e => e)) (by intro u hu; obtain ⟨v, _, rfl⟩ := List.mem_map.1 hu; rfl) (by have := HFL.out; unfold maxLen; omega) (by have := HFL.out; omega) (by have := HSA.out.size; simp; omega) ?_
            simp only [Nat.zero_add, List.nil_append]
            intro a6 k6 wB hB tB
            obtain ⟨HSB, HAB⟩ := stepB HSA.out hA.out tB.out (own_empty (size := 1) (by first | exact Blk.new _ _ _ | exact HKA.out _ _ _ (Blk.new _ _ _) (by decide) | exact HKA.out _ _ _ (Blk.new2 (by simp)) (by decide) | exact HKA.out _ _ _ ((Blk.new _ _ _).alloc _) (by decide)) (by have := HSA.out.size; first | omega | (simp; done) | (simp; omega))) (by first | exact Still.refl _ | exact (Still.refl _).alloc _)
            have q2B : wB.cell? ⟨w1.heap.size, 2, none⟩ = some (.slice ya y.L.length yc) := (HSB.out.cell (p := ⟨w1.heap.size, 2, none⟩) hgy3).trans c2y
            have hgB : w1.heap.size < wB.heap.size := Nat.lt_of_lt_of_le hgy3 HSB.out.size
            clear tB
            refine hK.out _ _ ?_ (fun hHeld => ?_)
            · exact HKP.out _ (Still.turn HSB.out)
            clear hK K
            try simp only [Act.put, List.getElem_toArray, List.getElem_cons_succ, List.getElem_cons_zero, List.setIfInBounds_toArray, List.set_cons_zero, List.set_cons_succ]
            refine wpAnyH_take (i := 21) (v := ?_) rfl (by kernel_rfl) (by kernel_rfl) (by kernel_rfl) (fun _ _ _ h => h) (Or.inl ⟨by rfl, ?_⟩) (by assumption) ?_
            rotate_left
            · intro w hSw; (try dsimp only at hSw); go_simp; try with_reducible rfl
            try simp only [Act.put, List.getElem_toArray, List.getElem_cons_succ, List.getElem_cons_zero, List.setIfInBounds_toArray, List.set_cons_zero, List.set_cons_succ]
            refine wpAnyH_ready (rs := [22]) (by kernel_rfl) (by simp) ?_
            refine AllReadyH.cons rfl (fun K hK => ?_) AllReadyH.nil
            go_simp
            refine hK.out _ _ ?_ (fun hHeld => ?_)
            · exact HKP.out _ (Still.turn (HSB.out.alloc _))
            clear hK K
            try simp only [Act.put, List.getElem_toArray, List.getElem_cons_succ, List.getElem_cons_zero, List.setIfInBounds_toArray, List.set_cons_zero, List.set_cons_succ]
            refine wpAnyH_ready (rs := [23]) (by kernel_rfl) (by simp) ?_
            refine AllReadyH.cons rfl (fun K hK => ?_) AllReadyH.nil
            refine step_append_form rfl (.tmp 59) (.tmp 77) 37 rfl w.heap.size 73 5 72 _ Try.underlying37 infoO rfl (by decide) ya y.L.length yc _ (by rfl) (own_keep HROWY.out (HSB.out.alloc _) (fun _ _ e => e)) ⟨wB.heap.size, 0, none⟩ 1 1 [.int .i64 T, .int .i64 o.sh, .int .i64 o.n, .slice a5 o.fs.length k5, .slice a6 o.bs.length k6] (by rfl) rfl (fun j u hj => by rw [Addr.add_lit, Nat.zero_add, (Blk.new wB 73 #[.int .i64 T, .int .i64 o.sh, .int .i64 o.n, .slice a5 o.fs.length k5, .slice a6 o.bs.length k6]).cell j]; simpa using hj) (by simp [Value.oneCell']) (by decide) (by unfold maxLen; omega) (by omega) (by have := HST3.out.size; have := HSB.out.size; simp; omega) ?_
            intro g9 c9 wC hC tC nC
            have HTC : Hid (Turn (fun k => k = w1.heap.size ∨ y.lv.ownBlock = some k) w3 wC) := (Still.turn (HSB.out.alloc _)).trans (tC.out.mono fun k _ e => .inr (by rw [HYV.out]; exact e))
            have q2C : wC.cell? ⟨w1.heap.size, 2, none⟩ = some (.slice ya y.L.length yc) := (tC.out.cell (p := ⟨w1.heap.size, 2, none⟩) (by simp; omega) NLY.out).trans ((World.cell?_alloc_lt wB _ ⟨w1.heap.size, 2, none⟩ hgB).trans q2B)
            have q2Cf : wC.frozen? ⟨w1.heap.size, 2, none⟩ = false := (tC.out.frozen (p := ⟨w1.heap.size, 2, none⟩) (by simp; omega) NLY.out).trans ((Turn.frozen (HSB.out.alloc _) (p := ⟨w1.heap.size, 2, none⟩) hgy3 (fun e => e)).trans hgyf)
            refine hK.out _ _ ?_ (fun hHeld => ?_)
            · exact HKP.out _ HTC.out
            clear hK K
            try simp only [Act.put, List.getElem_toArray, List.getElem_cons_succ, List.getElem_cons_zero, List.setIfInBounds_toArray, List.set_cons_zero, List.set_cons_succ]
            refine wpAnyH_take (i := 24) (v := ?_) rfl (by kernel_rfl) (by kernel_rfl) (by kernel_rfl) (fun _ _ _ h => h) (Or.inl ⟨by rfl, ?_⟩) (by assumption) ?_
            rotate_left
            · intro w hSw; (try dsimp only at hSw); go_simp; try with_reducible rfl
            try simp only [Act.put, List.getElem_toArray, List.getElem_cons_succ, List.getElem_cons_zero, List.setIfInBounds_toArray, List.set_cons_zero, List.set_cons_succ]
            refine wpAnyH_take (i := 25) (v := ?_) rfl (by kernel_rfl) (by kernel_rfl) (by kernel_rfl) (fun _ _ _ h => h) (Or.inl ⟨by rfl, ?_⟩) (by assumption) ?_
            rotate_left
            · intro w hSw; (try dsimp only at hSw); go_simp; try with_reducible rfl
            try simp only [Act.put, List.getElem_toArray, List.getElem_cons_succ, List.getElem_cons_zero, List.setIfInBounds_toArray, List.set_cons_zero, List.set_cons_succ]
            refine wpAnyH_ready (rs := [26]) (by kernel_rfl) (by simp) ?_
            refine AllReadyH.cons rfl (fun K hK => ?_) AllReadyH.nil
            go_simp
            refine hK.out _ _ ?_ (fun hHeld => ?_)
            · exact HKP.out _ (Turn.setCell HTC.out (fun _ => .inl rfl) _)
            clear hK K
            try simp only [Act.put, List.getElem_toArray, List.getElem_cons_succ, List.getElem_cons_zero, List.setIfInBounds_toArray, List.set_cons_zero, List.set_cons_succ]
            refine wpAnyH_done (by kernel_rfl) ?_ _
            go_wp2_with fail
            go_roundw
            case rel =>
              exact ⟨i + 1, p + s.sz o, _, by go_num, by omega, HC.out.grow HH.out HR.out HO.out HM.out HRF3.out HTO3.out HTOF.out HISR3.out HST3.out (HSB.out.alloc _) (o' := ⟨T, o.sh, o.n, o.fs, o.bs, a5, k5, a6, k6⟩) (HCORE.out _ _ _ _) ⟨own_keep HAB.out ((Still.refl wB).alloc _) (fun _ _ e => e), own_keep hB.out ((Still.refl wB).alloc _) (fun _ _ e => e)⟩ hC.out (by rw [HYV.out]; exact tC.out) (by have := HC.out.few; omega)⟩
            case measure => simp [intOf]; omega
          · go_simp
            refine hK.out _ _ ?_ (fun hHeld => ?_)
            · go_keep
            clear hK K
            try simp only [Act.put, List.getElem_toArray, List.getElem_cons_succ, List.getElem_cons_zero, List.setIfInBounds_toArray, List.set_cons_zero, List.set_cons_succ]
            refine wpAnyH_ready (rs := [4, 16]) (by kernel_rfl) (by simp) ?_
            refine AllReadyH.cons rfl (fun K hK => ?_) (AllReadyH.cons rfl (fun K hK => ?_) AllReadyH.nil)
            · go_simp
              refine hK.out _ _ ?_ (fun hHeld => ?_)
              · go_keep
              clear hK K
              try simp only [Act.put, List.getElem_toArray, List.getElem_cons_succ, List.getElem_cons_zero, List.setIfInBounds_toArray, List.set_cons_zero, List.set_cons_succ]
              refine wpAnyH_ready (rs := [16]) (by kernel_rfl) (by simp) ?_
              refine AllReadyH.cons rfl (fun K hK => ?_) AllReadyH.nil
              refine step_append_row rfl (.tmp 68) (.tmp 70) 24 rfl w3.heap.size 33 1 8 (.int .u64 0) Try.underlying24 infoU rfl (by decide) _ 0 0 [] (by rfl) (own_empty (by first | exact Blk.new _ _ _ | exact (Blk.new _ _ _).alloc _ | exact Blk.new2 (by simp)) (by first | (simp; done) | (simp; omega))) B o.fa o.fs.length o.fc (o.fs.map fun v : Nat => Value.int .u64 (v : Int)) (by rfl) (own_keep HFS3.out (by (first | exact (((Still.refl w3).drew).alloc _) | exact ((((Still.refl w3).drew).alloc _).alloc _))) (fun _ _ e => e)) (nats_one _) (by have := HFL.out; unfold maxLen; omega) (by have := HFL.out; omega) (by first | (simp; done) | (simp; omega)) ?_
              simp only [Nat.zero_add, List.nil_append]
              intro a5 k5 wA hA tA
              have HSA : Hid (Still w3 wA) := Still.own_turn (by (first | exact (((Still.refl w3).drew).alloc _) | exact ((((Still.refl w3).drew).alloc _).alloc _))) tA.out (own_empty (size := 1) (by first | exact Blk.new _ _ _ | exact (Blk.new _ _ _).alloc _ | exact Blk.new2 (by simp)) (by first | (simp; done) | (simp; omega)))
              have q2A : wA.cell? ⟨w1.heap.size, 2, none⟩ = some (.slice ya y.L.length yc) := (HSA.out.cell (p := ⟨w1.heap.size, 2, none⟩) hgy3).trans c2y
              have hgA : w1.heap.size < wA.heap.size := Nat.lt_of_lt_of_le hgy3 HSA.out.size
              have HKA := Lib.hid (carry tA.out (own_empty (base := w3.heap.size) (size := 1) (by first | exact Blk.new _ _ _ | exact (Blk.new _ _ _).alloc _ | exact Blk.new2 (by simp)) (by first | (simp; done) | (simp; omega))))
              clear tA
              refine hK.out _ _ ?_ (fun hHeld => ?_)
              · exact HKP.out _ (Still.turn HSA.out)
              clear hK K
              try simp only [Act.put, List.getElem_toArray, List.getElem_cons_succ, List.getElem_cons_zero, List.setIfInBounds_toArray, List.set_cons_zero, List.set_cons_succ]
              refine wpAnyH_ready (rs := [20]) (by kernel_rfl) (by simp) ?_
              refine AllReadyH.cons rfl (fun K hK => ?_) AllReadyH.nil
              refine step_append_row rfl (.tmp 72) (.tmp 74) 71 rfl w3.heap.size 5 1 1 (.int .u8 0) Try.underlying71 infoB rfl (by decide) _ 0 0 [] (by rfl) (own_empty (by first | exact Blk.new _ _ _ | exact HKA.out _ _ _ (Blk.new _ _ _) (by decide) | exact HKA.out _ _ _ (Blk.new2 (by simp)) (by decide) | exact HKA.out _ _ _ ((Blk.new _ _ _).alloc _) (by decide)) (by have := HSA.out.size; first | omega | (simp; done) | (simp; omega))) B o.ba o.bs.length o.bc (o.bs.map fun v : Nat => Value.int .u8 (v : Int)) (by rfl) (own_keep HBS3.out (by first | exact HSA.out | exact HSA.out.alloc _) (fun _ _ e => e)) (by intro u hu; obtain ⟨v, _, rfl⟩ := List.mem_map.1 hu; rfl) (by have := HFL.out; unfold maxLen; omega) (by have := HFL.out; omega) (by have := HSA.out.size; simp; omega) ?_
              simp only [Nat.zero_add, List.nil_append]
              intro a6 k6 wB hB tB
              obtain ⟨HSB, HAB⟩ := stepB HSA.out hA.out tB.out (own_empty (size := 1) (by first | exact Blk.new _ _ _ | exact HKA.out _ _ _ (Blk.new _ _ _) (by decide) | exact HKA.out _ _ _ (Blk.new2 (by simp)) (by decide) | exact HKA.out _ _ _ ((Blk.new _ _ _).alloc _) (by decide)) (by have := HSA.out.size; first | omega | (simp; done) | (simp; omega))) (by first | exact Still.refl _ | exact (Still.refl _).alloc _)
              have q2B : wB.cell? ⟨w1.heap.size, 2, none⟩ = some (.slice ya y.L.length yc) := (HSB.out.cell (p := ⟨w1.heap.size, 2, none⟩) hgy3).trans c2y
              have hgB : w1.heap.size < wB.heap.size := Nat.lt_of_lt_of_le hgy3 HSB.out.size
              clear tB
              refine hK.out _ _ ?_ (fun hHeld => ?_)
              · exact HKP.out _ (Still.turn HSB.out)
              clear hK K
              try simp only [Act.put, List.getElem_toArray, List.getElem_cons_succ, List.getElem_cons_zero, List.setIfInBounds_toArray, List.set_cons_zero, List.set_cons_succ]
              refine wpAnyH_take (i := 21) (v := ?_) rfl (by kernel_rfl) (by kernel_rfl) (by kernel_rfl) (fun _ _ _ h => h) (Or.inl ⟨by rfl, ?_⟩) (by assumption) ?_
              rotate_left
              · intro w hSw; (try dsimp only at hSw); go_simp; try with_reducible rfl
              try simp only [Act.put, List.getElem_toArray, List.getElem_cons_succ, List.getElem_cons_zero, List.setIfInBounds_toArray, List.set_cons_zero, List.set_cons_succ]
              refine wpAnyH_ready (rs := [22]) (by kernel_rfl) (by simp) ?_
              refine AllReadyH.cons rfl (fun K hK => ?_) AllReadyH.nil
              go_simp
              refine hK.out _ _ ?_ (fun hHeld => ?_)
              · exact HKP.out _ (Still.turn (HSB.out.alloc _))
              clear hK K
              try simp only [Act.put, List.getElem_toArray, List.getElem_cons_succ, List.getElem_cons_zero, List.setIfInBounds_toArray, List.set_cons_zero, List.set_cons_succ]
              refine wpAnyH_ready (rs := [23]) (by kernel_rfl) (by simp) ?_
              refine AllReadyH.cons rfl (fun K hK => ?_) AllReadyH.nil
              refine step_append_form rfl (.tmp 59) (.tmp 77) 37 rfl w.heap.size 73 5 72 _ Try.underlying37 infoO rfl (by decide) ya y.L.length yc _ (by rfl) (own_keep HROWY.out (HSB.out.alloc _) (fun _ _ e => e)) ⟨wB.heap.size, 0, none⟩ 1 1 [.int .i64 T, .int .i64 o.sh, .int .i64 o.n, .slice a5 o.fs.length k5, .slice a6 o.bs.length k6] (by rfl) rfl (fun j u hj => by rw [Addr.add_lit, Nat.zero_add, (Blk.new wB 73 #[.int .i64 T, .int .i64 o.sh, .int .i64 o.n, .slice a5 o.fs.length k5, .slice a6 o.bs.length k6]).cell j]; simpa using hj) (by simp [Value.oneCell']) (by decide) (by unfold maxLen; omega) (by omega) (by have := HST3.out.size; have := HSB.out.size; simp; omega) ?_
              intro g9 c9 wC hC tC nC
              have HTC : Hid (Turn (fun k => k = w1.heap.size ∨ y.lv.ownBlock = some k) w3 wC) := (Still.turn (HSB.out.alloc _)).trans (tC.out.mono fun k _ e => .inr (by rw [HYV.out]; exact e))
              have q2C : wC.cell? ⟨w1.heap.size, 2, none⟩ = some (.slice ya y.L.length yc) := (tC.out.cell (p := ⟨w1.heap.size, 2, none⟩) (by simp; omega) NLY.out).trans ((World.cell?_alloc_lt wB _ ⟨w1.heap.size, 2, none⟩ hgB).trans q2B)
              have q2Cf : wC.frozen? ⟨w1.heap.size, 2, none⟩ = false := (tC.out.frozen (p := ⟨w1.heap.size, 2, none⟩) (by simp; omega) NLY.out).trans ((Turn.frozen (HSB.out.alloc _) (p := ⟨w1.heap.size, 2, none⟩) hgy3 (fun e => e)).trans hgyf)
              refine hK.out _ _ ?_ (fun hHeld => ?_)
              · exact HKP.out _ HTC.out
              clear hK K
              try simp only [Act.put, List.getElem_toArray, List.getElem_cons_succ, List.getElem_cons_zero, List.setIfInBounds_toArray, List.set_cons_zero, List.set_cons_succ]
              refine wpAnyH_take (i := 24) (v := ?_) rfl (by kernel_rfl) (by kernel_rfl) (by kernel_rfl) (fun _ _ _ h => h) (Or.inl ⟨by rfl, ?_⟩) (by assumption) ?_
              rotate_left
              · intro w hSw; (try dsimp only at hSw); go_simp; try with_reducible rfl
              try simp only [Act.put, List.getElem_toArray, List.getElem_cons_succ, List.getElem_cons_zero, List.setIfInBounds_toArray, List.set_cons_zero, List.set_cons_succ]
              refine wpAnyH_take (i := 25) (v := ?_) rfl (by kernel_rfl) (by kernel_rfl) (by kernel_rfl) (fun _ _ _ h => h) (Or.inl ⟨by rfl, ?_⟩) (by assumption) ?_
              rotate_left
              · intro w hSw; (try dsimp only at hSw); go_simp; try with_reducible rfl
              try simp only [Act.put, List.getElem_toArray, List.getElem_cons_succ, List.getElem_cons_zero, List.setIfInBounds_toArray, List.set_cons_zero, List.set_cons_succ]
              refine wpAnyH_ready (rs := [26]) (by kernel_rfl) (by simp) ?_
              refine AllReadyH.cons rfl (fun K hK => ?_) AllReadyH.nil
              go_simp
              refine hK.out _ _ ?_ (fun hHeld => ?_)
              · exact HKP.out _ (Turn.setCell HTC.out (fun _ => .inl rfl) _)
              clear hK K
              try simp only [Act.put, List.getElem_toArray, List.getElem_cons_succ, List.getElem_cons_zero, List.setIfInBounds_toArray, List.set_cons_zero, List.set_cons_succ]
              refine wpAnyH_done (by kernel_rfl) ?_ _
              go_wp2_with fail
              go_roundw
              case rel =>
                exact ⟨i + 1, p + s.sz o, _, by go_num, by omega, HC.out.grow HH.out HR.out HO.out HM.out HRF3.out HTO3.out HTOF.out HISR3.out HST3.out (HSB.out.alloc _) (o' := ⟨T, o.sh, o.n, o.fs, o.bs, a5, k5, a6, k6⟩) (HCORE.out _ _ _ _) ⟨own_keep HAB.out ((Still.refl wB).alloc _) (fun _ _ e => e), own_keep hB.out ((Still.refl wB).alloc _) (fun _ _ e => e)⟩ hC.out (by rw [HYV.out]; exact tC.out) (by have := HC.out.few; omega)⟩
              case measure => simp [intOf]; omega
            · refine step_append_row rfl (.tmp 68) (.tmp 70) 24 rfl w3.heap.size 33 1 8 (.int .u64 0) Try.underlying24 infoU rfl (by decide) _ 0 0 [] (by rfl) (own_empty (by first | exact Blk.new _ _ _ | exact (Blk.new _ _ _).alloc _ | exact Blk.new2 (by simp)) (by first | (simp; done) | (simp; omega))) B o.fa o.fs.length o.fc (o.fs.map fun v : Nat => Value.int .u64 (v : Int)) (by rfl) (own_keep HFS3.out (by (first | exact (((Still.refl w3).drew).alloc _) | exact ((((Still.refl w3).drew).alloc _).alloc _))) (fun _ _ e => e)) (nats_one _) (by have := HFL.out; unfold maxLen; omega) (by have := HFL.out; omega) (by first | (simp; done) | (simp; omega)) ?_
              simp only [Nat.zero_add, List.nil_append]
              intro a5 k5 wA hA tA
              have HSA : Hid (Still w3 wA) := Still.own_turn (by (first | exact (((Still.refl w3).drew).alloc _) | exact ((((Still.refl w3).drew).alloc _).alloc _))) tA.out (own_empty (size := 1) (by first | exact Blk.new _ _ _ | exact (Blk.new _ _ _).alloc _ | exact Blk.new2 (by simp)) (by first | (simp; done) | (simp; omega)))
              have q2A : wA.cell? ⟨w1.heap.size, 2, none⟩ = some (.slice ya y.L.length yc) := (HSA.out.cell (p := ⟨w1.heap.size, 2, none⟩) hgy3).trans c2y
              have hgA : w1.heap.size < wA.heap.size := Nat.lt_of_lt_of_le hgy3 HSA.out.size
              have HKA := Lib.hid (carry tA.out (own_empty (base := w3.heap.size) (size := 1) (by first | exact Blk.new _ _ _ | exact (Blk.new _ _ _).alloc _ | exact Blk.new2 (by simp)) (by first | (simp; done) | (simp; omega))))
              clear tA
              refine hK.out _ _ ?_ (fun hHeld => ?_)
              · exact HKP.out _ (Still.turn HSA.out)
              clear hK K
              try simp only [Act.put, List.getElem_toArray, List.getElem_cons_succ, List.getElem_cons_zero, List.setIfInBounds_toArray, List.set_cons_zero, List.set_cons_succ]
              refine wpAnyH_ready (rs := [4, 20]) (by kernel_rfl) (by simp) ?_
              refine AllReadyH.cons rfl (fun K hK => ?_) (AllReadyH.cons rfl (fun K hK => ?_) AllReadyH.nil)
              · go_simp
                refine hK.out _ _ ?_ (fun hHeld => ?_)
                · go_keep
                clear hK K
                try simp only [Act.put, List.getElem_toArray, List.getElem_cons_succ, List.getElem_cons_zero, List.setIfInBounds_toArray, List.set_cons_zero, List.set_cons_succ]
                refine wpAnyH_ready (rs := [20]) (by kernel_rfl) (by simp) ?_
                refine AllReadyH.cons rfl (fun K hK => ?_) AllReadyH.nil
                refine step_append_row rfl (.tmp 72) (.tmp 74) 71 rfl w3.heap.size 5 1 1 (.int .u8 0) Try.underlying71 infoB rfl (by decide) _ 0 0 [] (by rfl) (own_empty (by first | exact Blk.new _ _ _ | exact HKA.out _ _ _ (Blk.new _ _ _) (by decide) | exact HKA.out _ _ _ (Blk.new2 (by simp)) (by decide) | exact HKA.out _ _ _ ((Blk.new _ _ _).alloc _) (by decide)) (by have := HSA.out.size; first | omega | (simp; done) | (simp; omega))) B o.ba o.bs.length o.bc (o.bs.map fun v : Nat => Value.int .u8 (v : Int)) (by rfl) (own_keep HBS3.out (by first | exact HSA.out | exact HSA.out.alloc _) (fun _ _ e => e)) (by intro u hu; obtain ⟨v, _, rfl⟩ := List.mem_map.1 hu; rfl) (by have := HFL.out; unfold maxLen; omega) (by have := HFL.out; omega) (by have := HSA.out.size; simp; omega) ?_
                simp only [Nat.zero_add, List.nil_append]
                intro a6 k6 wB hB tB
                obtain ⟨HSB, HAB⟩ := stepB HSA.out hA.out tB.out (own_empty (size := 1) (by first | exact Blk.new _ _ _ | exact HKA.out _ _ _ (Blk.new _ _ _) (by decide) | exact HKA.out _ _ _ (Blk.new2 (by simp)) (by decide) | exact HKA.out _ _ _ ((Blk.new _ _ _).alloc _) (by decide)) (by have := HSA.out.size; first | omega | (simp; done) | (simp; omega))) (by first | exact Still.refl _ | exact (Still.refl _).alloc _)
                have q2B : wB.cell? ⟨w1.heap.size, 2, none⟩ = some (.slice ya y.L.length yc) := (HSB.out.cell (p := ⟨w1.heap.size, 2, none⟩) hgy3).trans c2y
                have hgB : w1.heap.size < wB.heap.size := Nat.lt_of_lt_of_le hgy3 HSB.out.size
                clear tB
                refine hK.out _ _ ?_ (fun hHeld => ?_)
                · exact HKP.out _ (Still.turn HSB.out)
                clear hK K
                try simp only [Act.put, List.getElem_toArray, List.getElem_cons_succ, List.getElem_cons_zero, List.setIfInBounds_toArray, List.set_cons_zero, List.set_cons_succ]
                refine wpAnyH_take (i := 21) (v := ?_) rfl (by kernel_rfl) (by kernel_rfl) (by kernel_rfl) (fun _ _ _ h => h) (Or.inl ⟨by rfl, ?_⟩) (by assumption) ?_
                rotate_left
                · intro w hSw; (try dsimp only at hSw); go_simp; try with_reducible rfl
                try simp only [Act.put, List.getElem_toArray, List.getElem_cons_succ, List.getElem_cons_zero, List.setIfInBounds_toArray, List.set_cons_zero, List.set_cons_succ]
                refine wpAnyH_ready (rs := [22]) (by kernel_rfl) (by simp) ?_
                refine AllReadyH.cons rfl (fun K hK => ?_) AllReadyH.nil
                go_simp
                refine hK.out _ _ ?_ (fun hHeld => ?_)
                · exact HKP.out _ (Still.turn (HSB.out.alloc _))
                clear hK K
                try simp only [Act.put, List.getElem_toArray, List.getElem_cons_succ, List.getElem_cons_zero, List.setIfInBounds_toArray, List.set_cons_zero, List.set_cons_succ]
                refine wpAnyH_ready (rs := [23]) (by kernel_rfl) (by simp) ?_
                refine AllReadyH.cons rfl (fun K hK => ?_) AllReadyH.nil
                refine step_append_form rfl (.tmp 59) (.tmp 77) 37 rfl w.heap.size 73 5 72 _ Try.underlying37 infoO rfl (by decide) ya y.L.length yc _ (by rfl) (own_keep HROWY.out (HSB.out.alloc _) (fun _ _ e => e)) ⟨wB.heap.size, 0, none⟩ 1 1 [.int .i64 T, .int .i64 o.sh, .int .i64 o.n, .slice a5 o.fs.length k5, .slice a6 o.bs.length k6] (by rfl) rfl (fun j u hj => by rw [Addr.add_lit, Nat.zero_add, (Blk.new wB 73 #[.int .i64 T, .int .i64 o.sh, .int .i64 o.n, .slice a5 o.fs.length k5, .slice a6 o.bs.length k6]).cell j]; simpa using hj) (by simp [Value.oneCell']) (by decide) (by unfold maxLen; omega) (by omega) (by have := HST3.out.size; have := HSB.out.size; simp; omega) ?_
                intro g9 c9 wC hC tC nC
                have HTC : Hid (Turn (fun k => k = w1.heap.size ∨ y.lv.ownBlock = some k) w3 wC) := (Still.turn (HSB.out.alloc _)).trans (tC.out.mono fun k _ e => .inr (by rw [HYV.out]; exact e))
                have q2C : wC.cell? ⟨w1.heap.size, 2, none⟩ = some (.slice ya y.L.length yc) := (tC.out.cell (p := ⟨w1.heap.size, 2, none⟩) (by simp; omega) NLY.out).trans ((World.cell?_alloc_lt wB _ ⟨w1.heap.size, 2, none⟩ hgB).trans q2B)
                have q2Cf : wC.frozen? ⟨w1.heap.size, 2, none⟩ = false := (tC.out.frozen (p := ⟨w1.heap.size, 2, none⟩) (by simp; omega) NLY.out).trans ((Turn.frozen (HSB.out.alloc _) (p := ⟨w1.heap.size, 2, none⟩) hgy3 (fun e => e)).trans hgyf)
                refine hK.out _ _ ?_ (fun hHeld => ?_)
                · exact HKP.out _ HTC.out
                clear hK K
                try simp only [Act.put, List.getElem_toArray, List.getElem_cons_succ, List.getElem_cons_zero, List.setIfInBounds_toArray, List.set_cons_zero, List.set_cons_succ]
                refine wpAnyH_take (i := 24) (v := ?_) rfl (by kernel_rfl) (by kernel_rfl) (by kernel_rfl) (fun _ _ _ h => h) (Or.inl ⟨by rfl, ?_⟩) (by assumption) ?_
                rotate_left
                · intro w hSw; (try dsimp only at hSw); go_simp; try with_reducible rfl
                try simp only [Act.put, List.getElem_toArray, List.getElem_cons_succ, List.getElem_cons_zero, List.setIfInBounds_toArray, List.set_cons_zero, List.set_cons_succ]
                refine wpAnyH_take (i := 25) (v := ?_) rfl (by kernel_rfl) (by kernel_rfl) (by kernel_rfl) (fun _ _ _ h => h) (Or.inl ⟨by rfl, ?_⟩) (by assumption) ?_
                rotate_left
                · intro w hSw; (try dsimp only at hSw); go_simp; try with_reducible rfl
                try simp only [Act.put, List.getElem_toArray, List.getElem_cons_succ, List.getElem_cons_zero, List.setIfInBounds_toArray, List.set_cons_zero, List.set_cons_succ]
                refine wpAnyH_ready (rs := [26]) (by kernel_rfl) (by simp) ?_
                refine AllReadyH.cons rfl (fun K hK => ?_) AllReadyH.nil
                go_simp
                refine hK.out _ _ ?_ (fun hHeld => ?_)
                · exact HKP.out _ (Turn.setCell HTC.out (fun _ => .inl rfl) _)
                clear hK K
                try simp only [Act.put, List.getElem_toArray, List.getElem_cons_succ, List.getElem_cons_zero, List.setIfInBounds_toArray, List.set_cons_zero, List.set_cons_succ]
                refine wpAnyH_done (by kernel_rfl) ?_ _
                go_wp2_with fail
                go_roundw
                case rel =>
                  exact ⟨i + 1, p + s.sz o, _, by go_num, by omega, HC.out.grow HH.out HR.out HO.out HM.out HRF3.out HTO3.out HTOF.out HISR3.out HST3.out (HSB.out.alloc _) (o' := ⟨T, o.sh, o.n, o.fs, o.bs, a5, k5, a6, k6⟩) (HCORE.out _ _ _ _) ⟨own_keep HAB.out ((Still.refl wB).alloc _) (fun _ _ e => e), own_keep hB.out ((Still.refl wB).alloc _) (fun _ _ e => e)⟩ hC.out (by rw [HYV.out]; exact tC.out) (by have := HC.out.few; omega)⟩
                case measure => simp [intOf]; omega
              · refine step_append_row rfl (.tmp 72) (.tmp 74) 71 rfl w3.heap.size 5 1 1 (.int .u8 0) Try.underlying71 infoB rfl (by decide) _ 0 0 [] (by rfl) (own_empty (by first | exact Blk.new _ _ _ | exact HKA.out _ _ _ (Blk.new _ _ _) (by decide) | exact HKA.out _ _ _ (Blk.new2 (by simp)) (by decide) | exact HKA.out _ _ _ ((Blk.new _ _ _).alloc _) (by decide)) (by have := HSA.out.size; first | omega | (simp; done) | (simp; omega))) B o.ba o.bs.length o.bc (o.bs.map fun v : Nat => Value.int .u8 (v : Int)) (by rfl) (own_keep HBS3.out (by first | exact HSA.out | exact HSA.out.alloc _) (fun _ _ e => e)) (by intro u hu; obtain ⟨v, _, rfl⟩ := List.mem_map.1 hu; rfl) (by have := HFL.out; unfold maxLen; omega) (by have := HFL.out; omega) (by have := HSA.out.size; simp; omega) ?_
                simp only [Nat.zero_add, List.nil_append]
                intro a6 k6 wB hB tB
                obtain ⟨HSB, HAB⟩ := stepB HSA.out hA.out tB.out (own_empty (size := 1) (by first | exact Blk.new _ _ _ | exact HKA.out _ _ _ (Blk.new _ _ _) (by decide) | exact HKA.out _ _ _ (Blk.new2 (by simp)) (by decide) | exact HKA.out _ _ _ ((Blk.new _ _ _).alloc _) (by decide)) (by have := HSA.out.size; first | omega | (simp; done) | (simp; omega))) (by first | exact Still.refl _ | exact (Still.refl _).alloc _)
                have q2B : wB.cell? ⟨w1.heap.size, 2, none⟩ = some (.slice ya y.L.length yc) := (HSB.out.cell (p := ⟨w1.heap.size, 2, none⟩) hgy3).trans c2y
                have hgB : w1.heap.size < wB.heap.size := Nat.lt_of_lt_of_le hgy3 HSB.out.size
                clear tB
                refine hK.out _ _ ?_ (fun hHeld => ?_)
                · exact HKP.out _ (Still.turn HSB.out)
                clear hK K
                try simp only [Act.put, List.getElem_toArray, List.getElem_cons_succ, List.getElem_cons_zero, List.setIfInBounds_toArray, List.set_cons_zero, List.set_cons_succ]
                refine wpAnyH_take (i := 21) (v := ?_) rfl (by kernel_rfl) (by kernel_rfl) (by kernel_rfl) (fun _ _ _ h => h) (Or.inl ⟨by rfl, ?_⟩) (by assumption) ?_
                rotate_left
                · intro w hSw; (try dsimp only at hSw); go_simp; try with_reducible rfl
                try simp only [Act.put, List.getElem_toArray, List.getElem_cons_succ, List.getElem_cons_zero, List.setIfInBounds_toArray, List.set_cons_zero, List.set_cons_succ]
                refine wpAnyH_ready (rs := [4, 22]) (by kernel_rfl) (by simp) ?_
                refine AllReadyH.cons rfl (fun K hK => ?_) (AllReadyH.cons rfl (fun K hK => ?_) AllReadyH.nil)
                · go_simp
                  refine hK.out _ _ ?_ (fun hHeld => ?_)
                  · go_keep
                  clear hK K
                  try simp only [Act.put, List.getElem_toArray, List.getElem_cons_succ, List.getElem_cons_zero, List.setIfInBounds_toArray, List.set_cons_zero, List.set_cons_succ]
                  refine wpAnyH_ready (rs := [22]) (by kernel_rfl) (by simp) ?_
                  refine AllReadyH.cons rfl (fun K hK => ?_) AllReadyH.nil
                  go_simp
                  refine hK.out _ _ ?_ (fun hHeld => ?_)
                  · exact HKP.out _ (Still.turn (HSB.out.alloc _))
                  clear hK K
                  try simp only [Act.put, List.getElem_toArray, List.getElem_cons_succ, List.getElem_cons_zero, List.setIfInBounds_toArray, List.set_cons_zero, List.set_cons_succ]
                  refine wpAnyH_ready (rs := [23]) (by kernel_rfl) (by simp) ?_
                  refine AllReadyH.cons rfl (fun K hK => ?_) AllReadyH.nil
                  refine step_append_form rfl (.tmp 59) (.tmp 77) 37 rfl w.heap.size 73 5 72 _ Try.underlying37 infoO rfl (by decide) ya y.L.length yc _ (by rfl) (own_keep HROWY.out (HSB.out.alloc _) (fun _ _ e => e)) ⟨wB.heap.size, 0, none⟩ 1 1 [.int .i64 T, .int .i64 o.sh, .int .i64 o.n, .slice a5 o.fs.length k5, .slice a6 o.bs.length k6] (by rfl) rfl (fun j u hj => by rw [Addr.add_lit, Nat.zero_add, (Blk.new wB 73 #[.int .i64 T, .int .i64 o.sh, .int .i64 o.n, .slice a5 o.fs.length k5, .slice a6 o.bs.length k6]).cell j]; simpa using hj) (by simp [Value.oneCell']) (by decide) (by unfold maxLen; omega) (by omega) (by have := HST3.out.size; have := HSB.out.size; simp; omega) ?_
                  intro g9 c9 wC hC tC nC
                  have HTC : Hid (Turn (fun k => k = w1.heap.size ∨ y.lv.ownBlock = some k) w3 wC) := (Still.turn (HSB.out.alloc _)).trans (tC.out.mono fun k _ e => .inr (by rw [HYV.out]; exact e))
                  have q2C : wC.cell? ⟨w1.heap.size, 2, none⟩ = some (.slice ya y.L.length yc) := (tC.out.cell (p := ⟨w1.heap.size, 2, none⟩) (by simp; omega) NLY.out).trans ((World.cell?_alloc_lt wB _ ⟨w1.heap.size, 2, none⟩ hgB).trans q2B)
                  have q2Cf : wC.frozen? ⟨w1.heap.size, 2, none⟩ = false := (tC.out.frozen (p := ⟨w1.heap.size, 2, none⟩) (by simp; omega) NLY.out).trans ((Turn.frozen (HSB.out.alloc _) (p := ⟨w1.heap.size, 2, none⟩) hgy3 (fun e => e)).trans hgyf)
                  refine hK.out _ _ ?_ (fun hHeld => ?_)
                  · exact HKP.out _ HTC.out
                  clear hK K
                  try simp only [Act.put, List.getElem_toArray, List.getElem_cons_succ, List.getElem_cons_zero, List.setIfInBounds_toArray, List.set_cons_zero, List.set_cons_succ]
                  refine wpAnyH_take (i := 24) (v := ?_) rfl (by kernel_rfl) (by kernel_rfl) (by kernel_rfl) (fun _ _ _ h => h) (Or.inl ⟨by rfl, ?_⟩) (by assumption) ?_
                  rotate_left
                  · intro w hSw; (try dsimp only at hSw); go_simp; try with_reducible rfl
                  try simp only [Act.put, List.getElem_toArray, List.getElem_cons_succ, List.getElem_cons_zero, List.setIfInBounds_toArray, List.set_cons_zero, List.set_cons_succ]
                  refine wpAnyH_take (i := 25) (v := ?_) rfl (by kernel_rfl) (by kernel_rfl) (by kernel_rfl) (fun _ _ _ h => h) (Or.inl ⟨by rfl, ?_⟩) (by assumption) ?_
                  rotate_left
                  · intro w hSw; (try dsimp only at hSw); go_simp; try with_reducible rfl
                  try simp only [Act.put, List.getElem_toArray, List.getElem_cons_succ, List.getElem_cons_zero, List.setIfInBounds_toArray, List.set_cons_zero, List.set_cons_succ]
                  refine wpAnyH_ready (rs := [26]) (by kernel_rfl) (by simp) ?_
                  refine AllReadyH.cons rfl (fun K hK => ?_) AllReadyH.nil
                  go_simp
                  refine hK.out _ _ ?_ (fun hHeld => ?_)
                  · exact HKP.out _ (Turn.setCell HTC.out (fun _ => .inl rfl) _)
                  clear hK K
                  try simp only [Act.put, List.getElem_toArray, List.getElem_cons_succ, List.getElem_cons_zero, List.setIfInBounds_toArray, List.set_cons_zero, List.set_cons_succ]
                  refine wpAnyH_done (by kernel_rfl) ?_ _
                  go_wp2_with fail
                  go_roundw
                  case rel =>
                    exact ⟨i + 1, p + s.sz o, _, by go_num, by omega, HC.out.grow HH.out HR.out HO.out HM.out HRF3.out HTO3.out HTOF.out HISR3.out HST3.out (HSB.out.alloc _) (o' := ⟨T, o.sh, o.n, o.fs, o.bs, a5, k5, a6, k6⟩) (HCORE.out _ _ _ _) ⟨own_keep HAB.out ((Still.refl wB).alloc _) (fun _ _ e => e), own_keep hB.out ((Still.refl wB).alloc _) (fun _ _ e => e)⟩ hC.out (by rw [HYV.out]; exact tC.out) (by have := HC.out.few; omega)⟩
                  case measure => simp [intOf]; omega
                · go_simp
                  refine hK.out _ _ ?_ (fun hHeld => ?_)
                  · exact HKP.out _ (Still.turn (HSB.out.alloc _))
                  clear hK K
                  try simp only [Act.put, List.getElem_toArray, List.getElem_cons_succ, List.getElem_cons_zero, List.setIfInBounds_toArray, List.set_cons_zero, List.set_cons_succ]
                  refine wpAnyH_ready (rs := [4]) (by kernel_rfl) (by simp) ?_
                  refine AllReadyH.cons rfl (fun K hK => ?_) AllReadyH.nil
                  go_simp
                  refine hK.out _ _ ?_ (fun hHeld => ?_)
                  · go_keep
                  clear hK K
                  try simp only [Act.put, List.getElem_toArray, List.getElem_cons_succ, List.getElem_cons_zero, List.setIfInBounds_toArray, List.set_cons_zero, List.set_cons_succ]
                  refine wpAnyH_ready (rs := [23]) (by kernel_rfl) (by simp) ?_
                  refine AllReadyH.cons rfl (fun K hK => ?_) AllReadyH.nil
                  refine step_append_form rfl (.tmp 59) (.tmp 77) 37 rfl w.heap.size 73 5 72 _ Try.underlying37 infoO rfl (by decide) ya y.L.length yc _ (by rfl) (own_keep HROWY.out (HSB.out.alloc _) (fun _ _ e => e)) ⟨wB.heap.size, 0, none⟩ 1 1 [.int .i64 T, .int .i64 o.sh, .int .i64 o.n, .slice a5 o.fs.length k5, .slice a6 o.bs.length k6] (by rfl) rfl (fun j u hj => by rw [Addr.add_lit, Nat.zero_add, (Blk.new wB 73 #[.int .i64 T, .int .i64 o.sh, .int .i64 o.n, .slice a5 o.fs.length k5, .slice a6 o.bs.length k6]).cell j]; simpa using hj) (by simp [Value.oneCell']) (by decide) (by unfold maxLen; omega) (by omega) (by have := HST3.out.size; have := HSB.out.size; simp; omega) ?_
                  intro g9 c9 wC hC tC nC
                  have HTC : Hid (Turn (fun k => k = w1.heap.size ∨ y.lv.ownBlock = some k) w3 wC) := (Still.turn (HSB.out.alloc _)).trans (tC.out.mono fun k _ e => .inr (by rw [HYV.out]; exact e))
                  have q2C : wC.cell? ⟨w1.heap.size, 2, none⟩ = some (.slice ya y.L.length yc) := (tC.out.cell (p := ⟨w1.heap.size, 2, none⟩) (by simp; omega) NLY.out).trans ((World.cell?_alloc_lt wB _ ⟨w1.heap.size, 2, none⟩ hgB).trans q2B)
                  have q2Cf : wC.frozen? ⟨w1.heap.size, 2, none⟩ = false := (tC.out.frozen (p := ⟨w1.heap.size, 2, none⟩) (by simp; omega) NLY.out).trans ((Turn.frozen (HSB.out.alloc _) (p := ⟨w1.heap.size, 2, none⟩) hgy3 (fun e => e)).trans hgyf)
                  refine hK.out _ _ ?_ (fun hHeld => ?_)
                  · exact HKP.out _ HTC.out
                  clear hK K
                  try simp only [Act.put, List.getElem_toArray, List.getElem_cons_succ, List.getElem_cons_zero, List.setIfInBounds_toArray, List.set_cons_zero, List.set_cons_succ]
                  refine wpAnyH_take (i := 24) (v := ?_) rfl (by kernel_rfl) (by kernel_rfl) (by kernel_rfl) (fun _ _ _ h => h) (Or.inl ⟨by rfl, ?_⟩) (by assumption) ?_
                  rotate_left
                  · intro w hSw; (try dsimp only at hSw); go_simp; try with_reducible rfl
                  try simp only [Act.put, List.getElem_toArray, List.getElem_cons_succ, List.getElem_cons_zero, List.setIfInBounds_toArray, List.set_cons_zero, List.set_cons_succ]
                  refine wpAnyH_take (i := 25) (v := ?_) rfl (by kernel_rfl) (by kernel_rfl) (by kernel_rfl) (fun _ _ _ h => h) (Or.inl ⟨by rfl, ?_⟩) (by assumption) ?_
                  rotate_left
                  · intro w hSw; (try dsimp only at hSw); go_simp; try with_reducible rfl
                  try simp only [Act.put, List.getElem_toArray, List.getElem_cons_succ, List.getElem_cons_zero, List.setIfInBounds_toArray, List.set_cons_zero, List.set_cons_succ]
                  refine wpAnyH_ready (rs := [26]) (by kernel_rfl) (by simp) ?_
                  refine AllReadyH.cons rfl (fun K hK => ?_) AllReadyH.nil
                  go_simp
                  refine hK.out _ _ ?_ (fun hHeld => ?_)
                  · exact HKP.out _ (Turn.setCell HTC.out (fun _ => .inl rfl) _)
                  clear hK K
                  try simp only [Act.put, List.getElem_toArray, List.getElem_cons_succ, List.getElem_cons_zero, List.setIfInBounds_toArray, List.set_cons_zero, List.set_cons_succ]
                  refine wpAnyH_done (by kernel_rfl) ?_ _
                  go_wp2_with fail
                  go_roundw
                  case rel =>
                    exact ⟨i + 1, p + s.sz o, _, by go_num, by omega, HC.out.grow HH.out HR.out HO.out HM.out HRF3.out HTO3.out HTOF.out HISR3.out HST3.out (HSB.out.alloc _) (o' := ⟨T, o.sh, o.n, o.fs, o.bs, a5, k5, a6, k6⟩) (HCORE.out _ _ _ _) ⟨own_keep HAB.out ((Still.refl wB).alloc _) (fun _ _ e => e), own_keep hB.out ((Still.refl wB).alloc _) (fun _ _ e => e)⟩ hC.out (by rw [HYV.out]; exact tC.out) (by have := HC.out.few; omega)⟩
                  case measure => simp [intOf]; omega
    · obtain rfl : i = x.L.length := by omega
      have hK : x.L.take x.L.length = x.L := List.take_length
      obtain ⟨K, hKK⟩ : ∃ K, M.keptL mk (M.tof s mk x.L) x.L = K := ⟨_, rfl⟩
      obtain ⟨t, ht⟩ : ∃ t, M.tof s mk x.L = t := ⟨_, rfl⟩
      have hcore0 := hcol.core
      rw [hK] at hcore0
      obtain ⟨f, hf⟩ : ∃ f : Nat → Value, (fun k => Value.int .i64 (if k < x.L.length then (match x.L[k]? with | none => 0 | some o => if mk o.at_ = true then M.tof s mk x.L o.at_ else 0) else 0 : Nat)) = f := ⟨_, rfl⟩
      have hto0 := hcol.to
      rw [hf] at hto0
      have hren : Ren w x t f w1.heap.size (w1.heap.size + 1) y.lv K 0 0 wr y := by
        rw [← ht, ← hKK]
        exact ⟨hcol.rf, hcol.gx, rfl, hcol.n, hcol.len, hcol.K, hcol.N, by rw [stage_zero]; exact hcore0, hto0, hcol.still⟩
      have hfto : ∀ (r : Nat) (o : RO), x.L[r]? = some o → mk o.at_ = true → f r = .int .i64 (t o.at_ : Nat) := fun r o hr hm => by
        rw [← hf, ← ht]
        show Value.int .i64 (if r < x.L.length then _ else 0 : Nat) = _
        rw [if_pos (List.getElem?_eq_some_iff.1 hr).1, hr]
        show Value.int .i64 ((if mk o.at_ = true then _ else 0 : Nat) : Int) = _
        rw [if_pos hm]
      have hslid : M.slid mk t x.L = K.map fun o => { o with fs := o.fs.map (M.ren t) } := by rw [← hKK, ← ht]; exact slid_kept _ _ _
      have htle : ∀ b, mk b = true → t b ≤ 65536 := fun b hb => by
        rw [← ht]
        obtain ⟨o, ho, rfl⟩ := rch_obj HR.out HFIT.out ((HMK.out b).1 hb)
        have h2 := tof_below (mk := mk) HR.out ho
        obtain ⟨kk, hkk⟩ := List.mem_iff_getElem?.1 ho
        have h3 := (HR.out.sim.tile.get hkk).2
        have h4 := HR.out.hp.n_le
        have h5 := HR.out.hp.top_le
        omega
      have hfind : ∀ (v : Nat), v % 2 = 0 → M.Rch x.L rl (v / 2) → ∃ (r : Nat) (o : RO), x.L[r]? = some o ∧ r < x.L.length ∧ f r = .int .i64 (t (v / 2) : Nat) ∧ t (v / 2) ≤ 65536 ∧ ∀ W, RfIs B W x → Calls Try.prog 48 #[x.ptr, .int .i64 ((v / 2 : Nat) : Int)] W fun e w' => e = .returned (.int .i64 r) ∧ Still W w' := fun v he hr => by
        have hobj := rch_obj HR.out HFIT.out hr
        obtain ⟨o, ho, hat⟩ := hobj
        obtain ⟨r, hr2⟩ := List.mem_iff_getElem?.1 ho
        have hmo : mk o.at_ = true := (HMK.out _).2 (by rw [hat]; exact hr)
        refine ⟨r, o, hr2, (List.getElem?_eq_some_iff.1 hr2).1, by rw [hfto r o hr2 hmo, hat], htle _ (by rw [← hat]; exact hmo), fun W hW => ?_⟩
        exact find_at x r o _ W hW hr2 (by omega) (fun j p hj hp e => HH.out.sim.uniq hr2 j p hj hp (by omega))
      have hKr : ∀ o ∈ K, ∀ v ∈ o.fs, v < 18446744073709551616 ∧ (v % 2 = 0 → M.Rch x.L rl (v / 2)) := fun o ho v hv => by
        rw [← hKK] at ho
        unfold M.keptL at ho
        obtain ⟨q, hq, rfl⟩ := List.mem_map.1 ho
        obtain ⟨hq1, hq2⟩ := List.mem_filter.1 hq
        exact ⟨(HH.out.sim.good q hq1).fl v hv, fun he => .field hq1 ((HMK.out _).1 hq2) hv he⟩
      have HFLEN : Hid (∀ o ∈ K, o.fs.length ≤ 65536) := fun o ho => by
        rw [← hKK] at ho
        unfold M.keptL at ho
        obtain ⟨q, hq, rfl⟩ := List.mem_map.1 ho
        exact (HH.out.sim.good q (List.mem_filter.1 hq).1).flat.2.2.2.1
      have HREN := Lib.hid hren
      have HFD := Lib.hid hfind
      have HKR := Lib.hid hKr
      have HSL := Lib.hid hslid
      have HTL := Lib.hid htle
      have HTOFE := Lib.hid ht
      have HFT := Lib.hid hfto
      obtain ⟨ya, yc, hyv⟩ := hcol.rf.lv_slice
      have c2y : wr.cell? ⟨w1.heap.size, 2, none⟩ = some (.slice ya y.L.length yc) := by rw [← hyv, ← hcol.gx]; exact hcol.rf.c2
      have hgy3 : w1.heap.size < wr.heap.size := by rw [← hcol.gx]; exact hcol.rf.blk.lt
      have HYV := Lib.hid hyv
      have hfew := hcol.rf.few
      have hKl : y.L.length = K.length := hren.len_eq
      have HKL := Lib.hid hKl
      rw [ht]
      clear hren hfind hKr hslid htle hfto hyv hcol hcore0 hto0 hf hKK hK ht hlt hKl
      go_wp2_with fail
      rename World => wz
      go_loopw [87] (fun v wr => ∃ (i : Nat) (y' : Rf), v = .int .i64 i ∧ i ≤ y.L.length ∧ Ren w x t f w1.heap.size (w1.heap.size + 1) y.lv K i 0 wr y') (fun v _ => y.L.length - (intOf v).toNat)
      case atStart => exact ⟨0, y, rfl, by omega, HREN.out⟩
      case round =>
        clear HREN c2y
        obtain ⟨i, y', rfl, hi, hr⟩ := hrel
        by_cases hlt : i < y.L.length
        · obtain ⟨q, hq⟩ : ∃ q, y'.L[i]? = some q := ⟨_, List.getElem?_eq_getElem (by rw [hr.len_eq, ← HKL.out]; exact hlt)⟩
          obtain ⟨o, ho, hc⟩ := hr.at_ hq
          rw [if_neg (Nat.lt_irrefl _), if_pos rfl, renTo_zero] at hc
          have hqf : q.fs = o.fs := (core_eq hc).2.2.2.1
          have hom := List.mem_of_getElem? ho
          have hyl' : y'.L.length = y.L.length := by rw [hr.len_eq, ← HKL.out]
          obtain ⟨gl, cap, hl1, hgl, _, hl2, hl3, _, hl4⟩ : ∃ gl cap, y'.lv = .slice (some ⟨gl, 0, none⟩) y'.L.length cap ∧ gl < wr.heap.size ∧ w.heap.size ≤ gl ∧ y'.L.length ≤ cap ∧ cap ≤ maxLen ∧ (∀ o, wr.frozen? ⟨gl, o, none⟩ = false) ∧ ∀ k o, y'.L[k]? = some o → wr.cell? ⟨gl, k * 5, none⟩ = some (.int .i64 o.at_) ∧ wr.cell? ⟨gl, k * 5 + 1, none⟩ = some (.int .i64 o.sh) ∧ wr.cell? ⟨gl, k * 5 + 2, none⟩ = some (.int .i64 o.n) ∧ wr.cell? ⟨gl, k * 5 + 3, none⟩ = some o.fv ∧ wr.cell? ⟨gl, k * 5 + 4, none⟩ = some o.bv := by
            rcases hr.rf.lv_form with ⟨_, h0⟩ | hh
            · rw [h0] at hyl'; simp at hyl'; omega
            · exact hh
          have hlv2 : Value.slice ya y.L.length yc = .slice (some ⟨gl, 0, none⟩) y'.L.length cap := by rw [← HYV.out, ← hr.lv, hl1]
          injection hlv2 with e1 e2 e3
          subst e1; subst e3
          clear e2
          have c2w : wr.cell? ⟨w1.heap.size, 2, none⟩ = some (.slice (some ⟨gl, 0, none⟩) y.L.length yc) := by rw [← HYV.out, ← hr.gx, ← hr.lv]; exact hr.rf.c2
          have hgyw : w1.heap.size < wr.heap.size := by rw [← hr.gx]; exact hr.rf.blk.lt
          have c5w := (hl4 i q hq).2.2.2.1
          have hcapy : y.L.length ≤ yc := by rw [← hyl']; exact hl2
          unfold maxLen at hl3
          have hfl0 : o.fs.length ≤ 65536 := by
            rw [← hqf]
            have := (own_le (hr.rf.rows q (List.mem_of_getElem? hq)).1)
            have h2 := HFLEN.out o hom
            rw [hqf]; exact h2
          obtain ⟨fa, hfa⟩ : ∃ fa, q.fa = fa := ⟨_, rfl⟩
          obtain ⟨fc, hfc⟩ : ∃ fc, q.fc = fc := ⟨_, rfl⟩
          have hfv : q.fv = .slice fa o.fs.length fc := by unfold RO.fv; rw [hfa, hfc, hqf]
          rw [hfv] at c5w
          have HR0 := Lib.hid hr
          have HQ0 : Hid (∃ q', y'.L[i]? = some q' ∧ q'.fa = fa ∧ q'.fc = fc) := ⟨q, hq, hfa, hfc⟩
          have HO := Lib.hid ho
          have HOM := Lib.hid hom
          have HYL := Lib.hid hyl'
          have HLV4 : Hid (∀ W y2, RfIs w.heap.size W y2 → y2.lv = y.lv → ∀ k o, y2.L[k]? = some o → W.cell? ⟨gl, k * 5 + 3, none⟩ = some o.fv) := fun W y2 h2 e2 k o2 hk2 => by
            rcases h2.lv_form with ⟨_, h0⟩ | ⟨g3, cap3, h3, _, _, _, _, _, h4⟩
            · rw [h0] at hk2; simp at hk2
            · have e3 : Value.slice (some ⟨gl, 0, none⟩) y.L.length yc = .slice (some ⟨g3, 0, none⟩) y2.L.length cap3 := by rw [← HYV.out, ← e2, h3]
              injection e3 with e4 _ _
              injection e4 with e4
              injection e4 with e4 _ _
              subst e4
              exact (h4 k o2 hk2).2.2.2.1
          clear hr hq ho hom hc hqf hyl' hl4 hl1 hl2 hfa hfc hfv
          go_wp2_with fail
          clear c2w hgyw c5w hgl
          go_loopw [99] (fun v wr => ∃ (k : Nat) (y' : Rf), v = .int .i64 k ∧ k ≤ o.fs.length ∧ Ren w x t f w1.heap.size (w1.heap.size + 1) y.lv K i k wr y' ∧ ∃ q', y'.L[i]? = some q' ∧ q'.fa = fa ∧ q'.fc = fc) (fun v _ => o.fs.length - (intOf v).toNat)
          case atStart => exact ⟨0, y', rfl, by omega, HR0.out, HQ0.out⟩
          case round =>
            clear HR0 HQ0 HYL
            obtain ⟨k, y2, rfl, hk, hr, q, hq, hqa, hqc⟩ := hrel
            by_cases hkl : k < o.fs.length
            · obtain ⟨o2, ho2, hc⟩ := hr.at_ hq
              obtain rfl : o = o2 := by have := HO.out; rw [ho2] at this; injection this with this; exact this.symm
              rw [if_neg (Nat.lt_irrefl _), if_pos rfl] at hc
              have hqf : q.fs = M.renTo t k o.fs := (core_eq hc).2.2.2.1
              have hqm := List.mem_of_getElem? hq
              have hql : q.fs.length = o.fs.length := by rw [hqf, renTo_len]
              have hrow := (hr.rf.rows q hqm).1
              rw [hql, show q.fv = .slice fa o.fs.length fc by unfold RO.fv; rw [hqa, hqc, hql]] at hrow
              obtain ⟨gf, rfl, hgf, hg1, hg2, hg3, hg4⟩ := own_form hrow (by omega)
              have hgk : q.fs[k]? = some (o.fs.getD k 0) := by
                rw [hqf, renTo_get t k o.fs hkl, List.getD_eq_getElem?_getD, List.getElem?_eq_getElem hkl]; rfl
              have ck := hg3 k (.int .u64 (o.fs.getD k 0 : Nat)) (by rw [List.getElem?_map, hgk]; rfl)
              have hfk := hg4 k
              have hvm : o.fs.getD k 0 ∈ o.fs := getD_mem hkl
              obtain ⟨hvl, hvr⟩ := HKR.out o HOM.out _ hvm
              have hren : ∀ W, Still wr W → _ := fun W hW => hr.set hW HO.out hkl hq hqa
              have hsame : o.fs.getD k 0 % 2 = 1 → Ren w x t f w1.heap.size (w1.heap.size + 1) y.lv K i (k + 1) wr y2 := fun he => by
                refine { hr with core := ?_ }
                have e : M.stage t K i (k + 1) = M.stage t K i k := by
                  apply List.ext_getElem?
                  intro j
                  rw [stage_at, stage_at]
                  cases hj : K[j]? with
                  | none => rfl
                  | some r =>
                    simp only [Option.map_some, Option.some.injEq]
                    by_cases e1 : j = i
                    · subst e1
                      have : r = o := by have h1 := HO.out; rw [hj] at h1; injection h1
                      subst this
                      rw [renTo_same t k r.fs hkl (by
                        rw [List.getD_eq_getElem?_getD, List.getElem?_eq_getElem hkl] at he
                        unfold M.ren
                        rw [if_neg (by simp at he; omega)])]
                    · simp [e1]
                rw [e]; exact hr.core
              obtain ⟨v, hv⟩ : ∃ v, o.fs.getD k 0 = v := ⟨_, rfl⟩
              rw [hv] at ck hvl hvr hren hsame
              have c2w : wr.cell? ⟨w1.heap.size, 2, none⟩ = some (.slice (some ⟨gl, 0, none⟩) y.L.length yc) := by rw [← HYV.out, ← hr.gx, ← hr.lv]; exact hr.rf.c2
              have hgyw : w1.heap.size < wr.heap.size := by rw [← hr.gx]; exact hr.rf.blk.lt
              have c5w := HLV4.out wr y2 hr.rf hr.lv i q hq
              rw [show q.fv = .slice (some ⟨gf, 0, none⟩) o.fs.length fc by unfold RO.fv; rw [hqa, hqc, hql]] at c5w
              have HR0 := Lib.hid hr
              have HQ0 := Lib.hid (And.intro hq (And.intro hqa hqc))
              have HREN := Lib.hid hren
              have HSAME := Lib.hid hsame
              unfold maxLen at hg2
              by_cases he : v % 2 = 0
              · have xv : ((v : Int) % 2 == 0) = true := by rw [beq_iff_eq]; omega
                obtain ⟨r, p2, hr2, hrl, hfr, htb, hfn⟩ := HFD.out v he (hvr he)
                have cto := hr.to.cell (i := r) hrl
                rw [hfr] at cto
                have hren2 : ∀ W, Still wr W → Ren w x t f w1.heap.size (w1.heap.size + 1) y.lv K i (k + 1) (W.setCell ⟨gf, k, none⟩ (.int .u64 (2 * t (v / 2) : Nat))) (y2.upd i { q with fs := q.fs.set k (2 * t (v / 2)) }) := fun W hW => by
                  have := (hren W hW).1
                  rwa [show M.ren t v = 2 * t (v / 2) by unfold M.ren; rw [if_pos he]] at this
                obtain ⟨p, hp⟩ : ∃ p, v / 2 = p := ⟨_, rfl⟩
                obtain ⟨T, hT⟩ : ∃ T, t p = T := ⟨_, rfl⟩
                obtain ⟨T2, hT2⟩ : ∃ T2, 2 * T = T2 := ⟨_, rfl⟩
                rw [hp] at cto hfn htb hren2
                rw [hT] at cto htb hren2
                rw [hT2] at hren2
                have HREN2 := Lib.hid hren2
                have hfm : Hid (∀ W, RfIs B W x → Calls Try.prog 48 #[x.ptr, .int .i64 (p : Int)] W fun e w' => e = .returned (.int .i64 r) ∧ Still W w') := hfn
                have s1 : (v : Int).tdiv 2 = (p : Int) := by rw [Int.tdiv_eq_ediv_of_nonneg (by omega)]; omega
                have s1' : (v : Int) / 2 = (p : Int) := by omega
                have s2 : IntKind.i64.wrap (p : Int) = (p : Int) := by rw [IntKind.wrap_i64]; omega
                have s2' : IntKind.u64.wrap (p : Int) = (p : Int) := by rw [IntKind.wrap_u64]; omega
                have s3 : IntKind.u64.wrap (T : Int) = (T : Int) := by rw [IntKind.wrap_u64]; omega
                have s4 : IntKind.u64.wrap ((T : Int) * 2) = (T2 : Int) := by rw [IntKind.wrap_u64]; omega
                have hgfw : w.heap.size ≤ gf := (hren wr (Still.refl _)).2
                have ng1 : ¬ w1.heap.size = gf := fun e => by
                  have hb := hr.rf.blk
                  rw [hr.gx] at hb
                  exact own_type hrow hb (by decide) (by rw [e]; rfl)
                have ng2 : ¬ w1.heap.size + 1 = gf := fun e => own_type hrow hr.to (by decide) (by rw [e]; rfl)
                have ng3 : ¬ gl = gf := fun e => by
                  rcases own_types hr.rf.row hrow (by decide) with e1 | e1
                  · rw [hr.lv, HYV.out] at e1; simp [Value.ownBlock] at e1
                  · rw [hr.lv, HYV.out] at e1; exact e1 (by rw [e]; rfl)
                have hglw : gl < wr.heap.size := by
                  have := (hr.rf.row.lt gl (by rw [hr.lv, HYV.out]; rfl)).2
                  exact this
                have HKS : Hid (∀ W, Turn (fun b => b = gf) wr W → W.cell? ⟨w1.heap.size, 2, none⟩ = some (.slice (some ⟨gl, 0, none⟩) y.L.length yc) ∧ W.cell? ⟨gl, i * 5 + 3, none⟩ = some (.slice (some ⟨gf, 0, none⟩) o.fs.length fc) ∧ W.cell? ⟨w1.heap.size + 1, r, none⟩ = some (.int .i64 T) ∧ RfIs B W x) := fun W tW =>
                  ⟨(tW.cell (p := ⟨w1.heap.size, 2, none⟩) hgyw ng1).trans c2w, (tW.cell (p := ⟨gl, i * 5 + 3, none⟩) hglw ng3).trans c5w, (tW.cell (p := ⟨w1.heap.size + 1, r, none⟩) hr.to.lt ng2).trans cto, HRF0.out.far2 (HRF0.out.still hr.still) tW hgfw⟩
                have HK2 := Lib.hid (fun (W : World) (hW : Still wr W) (u : Value) => HKS.out (W.setCell ⟨gf, k, none⟩ u) (Turn.setCell (S := fun b => b = gf) (p := ⟨gf, k, none⟩) (Still.turn hW) (fun _ => rfl) u))
                have htol := hr.to.lt
                have hyy : y.L.length ≤ 1000 := hfew
                clear hr hq hqa hqc hc hqf hqm hql hrow hg3 hg4 hgk hren hsame hvm hvr hv ho2 hr2 hfr hfn hren2 hp hT hT2
                go_wp2_with fail
                go_region_held3 (fun W => W.cell? ⟨w1.heap.size, 2, none⟩ = some (.slice (some ⟨gl, 0, none⟩) y.L.length yc) ∧ W.cell? ⟨gl, i * 5 + 3, none⟩ = some (.slice (some ⟨gf, 0, none⟩) o.fs.length fc) ∧ W.cell? ⟨w1.heap.size + 1, r, none⟩ = some (.int .i64 T) ∧ RfIs B W x) (first | exact HK2.out _ HT5.out _ | exact HKS.out _ (Still.turn HT5.out) | exact HKS.out _ (Turn.drew (Turn.refl _ _)) | go_keep)
                  (first
                    | (go_at_call 48; refine (hfm.out _ ?_).mono ?_; (simp [*]); rintro e w5 ⟨rfl, t5⟩
                       have HT5 : Hid (Still wr w5) := ((Still.refl wr).drew).trans t5
                       have hfk5 : w5.frozen? ⟨gf, k, none⟩ = false := (HT5.out.frozen (p := ⟨gf, k, none⟩) hgf (fun e => e)).trans hfk
                       have hck5 : w5.cell? ⟨gf, k, none⟩ = some (.int .u64 v) := (HT5.out.cell (p := ⟨gf, k, none⟩) hgf).trans ck
                       clear t5))
                all_goals
                  go_wp2_with fail
                  go_roundw
                  case rel => exact ⟨k + 1, y2.upd i { q with fs := q.fs.set k T2 }, by go_num, by omega, HREN2.out _ HT5.out, { q with fs := q.fs.set k T2 }, upd_at y2 i q _ HQ0.out.1, HQ0.out.2.1, HQ0.out.2.2⟩
                  case measure => simp [intOf]; omega
              · have xv : ((v : Int) % 2 == 0) = false := by rw [beq_eq_false_iff_ne]; omega
                have HS1 := Lib.hid (hsame (by omega))
                clear hr hq hqa hqc hc hqf hqm hql hrow hg3 hg4 hgk hren hsame hvm hvr hv ho2
                go_wp2_with fail
                go_roundw
                case rel => exact ⟨k + 1, y2, by go_num, by omega, HS1.out, q, HQ0.out.1, HQ0.out.2.1, HQ0.out.2.2⟩
                case measure => simp [intOf]; omega
            · obtain rfl : k = o.fs.length := by omega
              have hr1 : Ren w x t f w1.heap.size (w1.heap.size + 1) y.lv K (i + 1) 0 wr y2 := { hr with core := by rw [← stage_next t K i o HO.out]; exact hr.core }
              have HR1 := Lib.hid hr1
              clear hr hr1 hq hqa hqc
              go_wp2_with fail
              go_roundw
              case rel => exact ⟨i + 1, y2, by go_num, by omega, HR1.out⟩
              case measure => simp [intOf]; omega
        · obtain rfl : i = y.L.length := by omega
          rw [HKL.out] at hr
          have hfin : y'.L.map RO.core = (M.slid mk t x.L).map RO.core := by
            rw [hr.core, stage_all, ← HSL.out]
          have HR0 := Lib.hid hr
          have HFIN := Lib.hid hfin
          have hnn : n ≤ c := HSRC.out.2.1
          have hlen : rl.length = n := by have := HSRC.out.1; unfold M.u64l at this; simpa using this
          have HLN := Lib.hid hlen
          have HRL := Lib.hid (ReadL.of_que HSRC.out).1
          have hcm := HSRC.out.2.2.1
          unfold maxLen at hcm
          clear hr hfin hlt hlen
          go_wp2_with fail
          rename World => wy
          go_loopw [14, 131] (fun vo v wr => ∃ (j oc : Nat) (oa : Option Addr), vo = .slice oa j oc ∧ v = .int .i64 j ∧ j ≤ n ∧ Still wy wr ∧ wr.ownsRow wy.heap.size 33 1 (.slice oa j oc) j (M.u64l ((rl.take j).map (M.ren t)))) (fun _ v _ => n - (intOf v).toNat)
          case atStart => exact ⟨0, 0, none, rfl, rfl, by omega, Still.refl _, World.ownsRow_nil _ _ _ _⟩
          case round =>
            obtain ⟨j, oc, oa, rfl, rfl, hj, ht, hown⟩ := hrel
            have HT := Lib.hid ht
            have HOW := Lib.hid hown
            have hR1 := HR0.out.go ht
            by_cases hjl : j < n
            · obtain ⟨b, off, rfl, hb, hcell⟩ := (HRL.out.still hR1.still).at_ (by have := HLN.out; omega)
              have cj := hcell j (by have := HLN.out; omega)
              have hvm : rl.getD j 0 ∈ rl := getD_mem (by have := HLN.out; omega)
              have hts : (rl.take (j + 1)).map (M.ren t) = (rl.take j).map (M.ren t) ++ [M.ren t (rl.getD j 0)] := by
                rw [List.take_succ_eq_append_getElem (by have := HLN.out; omega), List.map_append, List.getD_eq_getElem?_getD, List.getElem?_eq_getElem (by have := HLN.out; omega)]; rfl
              obtain ⟨v, hv⟩ : ∃ v, rl.getD j 0 = v := ⟨_, rfl⟩
              rw [hv] at cj hvm hts
              have hvl := HLT.out v hvm
              have HTS := Lib.hid hts
              by_cases he : v % 2 = 0
              · have xv : ((v : Int) % 2 == 0) = true := by rw [beq_iff_eq]; omega
                obtain ⟨r, p2, hr2, hrl, hfr, htb, hfn⟩ := HFD.out v he (.root hvm he)
                have cto := hR1.to.cell (i := r) hrl
                rw [hfr] at cto
                have htol := hR1.to.lt
                have hE : M.ren t v = 2 * t (v / 2) := by unfold M.ren; rw [if_pos he]
                have hfn2 := hfn wr (HRF0.out.still hR1.still)
                obtain ⟨p, hp⟩ : ∃ p, v / 2 = p := ⟨_, rfl⟩
                obtain ⟨T, hT⟩ : ∃ T, t p = T := ⟨_, rfl⟩
                obtain ⟨T2, hT2⟩ : ∃ T2, 2 * T = T2 := ⟨_, rfl⟩
                rw [hp] at cto hfn2 htb hE
                rw [hT] at cto htb hE
                rw [hT2] at hE
                have HE := Lib.hid hE
                have HFN := Lib.hid hfn2
                have s1 : (v : Int) / 2 = (p : Int) := by omega
                have s2 : IntKind.i64.wrap (p : Int) = (p : Int) := by rw [IntKind.wrap_i64]; omega
                have s3 : IntKind.u64.wrap (T : Int) = (T : Int) := by rw [IntKind.wrap_u64]; omega
                have s4 : IntKind.u64.wrap ((T : Int) * 2) = (T2 : Int) := by rw [IntKind.wrap_u64]; omega
                have hxx : x.L.length ≤ 1000 := hxl
                clear hcell hv hvm hts hr2 hfr hfn hfn2 hE hp hT hT2 hR1 ht hown he
                go_wp2_with fail
                refine HFN.out.mono ?_; rintro e w5 ⟨rfl, t5⟩
                have cto5 : w5.cell? ⟨w1.heap.size + 1, r, none⟩ = some (.int .i64 T) := (t5.cell (p := ⟨w1.heap.size + 1, r, none⟩) htol).trans cto
                have htol5 : w1.heap.size + 1 < w5.heap.size := Nat.lt_of_lt_of_le htol t5.size
                have HT5 := Lib.hid (HT.out.trans t5)
                have HOW5 := Lib.hid (own_keep HOW.out t5 (fun _ _ e => e))
                have HN1 := Lib.hid (one_new w5 33 (.int .u64 T2) w5.heap.size rfl)
                clear t5 cto htol
                go_wp2_with (first
                  | (at_builtin; refine wpList_append_form rfl (.tmp 148) (.tmp 150) 24 rfl wy.heap.size 33 1 8 (.int .u64 0) Try.underlying24 infoU rfl (by decide) oa j oc _ rfl (own_keep HOW5.out ((Still.refl w5).alloc (.cells #[.int .u64 T2] 33)) (fun _ _ e => e)) ⟨w5.heap.size, 0, none⟩ 1 1 [.int .u64 T2] rfl rfl HN1.out (by simp [Value.oneCell']) (by decide) (by unfold maxLen; omega) (by omega) (by have := HT5.out.size; simp; omega) ?_
                     intro g9 c9 w9 hown9 ht9 hnew9))
                go_roundw
                case rel =>
                  refine ⟨j + 1, c9, some ⟨g9, 0, none⟩, rfl, by go_num, by omega, (HT5.out.alloc _).own_turn ht9.out (own_keep HOW5.out ((Still.refl w5).alloc _) (fun _ _ e => e)), ?_⟩
                  rw [HTS.out, u64l_snoc, HE.out]; exact hown9.out
                case measure => simp [intOf]; omega
              · have xv : ((v : Int) % 2 == 0) = false := by rw [beq_eq_false_iff_ne]; omega
                have hE : M.ren t v = v := by unfold M.ren; rw [if_neg he]
                have HE := Lib.hid hE
                have HN1 := Lib.hid (one_new wr 33 (.int .u64 v) wr.heap.size rfl)
                clear hcell hv hvm hts hE hR1 ht hown he
                go_wp2_with (first
                  | (at_builtin; refine wpList_append_form rfl (.tmp 148) (.tmp 150) 24 rfl wy.heap.size 33 1 8 (.int .u64 0) Try.underlying24 infoU rfl (by decide) oa j oc _ rfl (own_keep HOW.out ((Still.refl wr).alloc (.cells #[.int .u64 v] 33)) (fun _ _ e => e)) ⟨wr.heap.size, 0, none⟩ 1 1 [.int .u64 v] rfl rfl HN1.out (by simp [Value.oneCell']) (by decide) (by unfold maxLen; omega) (by omega) (by have := HT.out.size; simp; omega) ?_
                     intro g9 c9 w9 hown9 ht9 hnew9))
                go_roundw
                case rel =>
                  refine ⟨j + 1, c9, some ⟨g9, 0, none⟩, rfl, by go_num, by omega, (HT.out.alloc _).own_turn ht9.out (own_keep HOW.out ((Still.refl wr).alloc _) (fun _ _ e => e)), ?_⟩
                  rw [HTS.out, u64l_snoc, HE.out]; exact hown9.out
                case measure => simp [intOf]; omega
            · obtain rfl : j = n := by omega
              have htk : rl.take j = rl := List.take_of_length_le (by have := HLN.out; omega)
              have HTK := Lib.hid htk
              clear hjl htk ht hown hR1
              go_wp2_with fail
              go_ret2
              unfold ColPost
              rw [HTOFE.out]
              refine ⟨y', oa, j, oc, ?_, HR0.out.rf.still HT.out, HR0.out.n, HR0.out.len, HR0.out.Kk, HR0.out.N, HFIN.out, ?_, ?_, HR0.out.still.trans HT.out⟩
              · show _ = Ending.returned (.tuple #[.pointer (some ⟨y'.gx, 0, none⟩), _])
                rw [HR0.out.gx]
                rfl
              · rw [List.length_map]; exact HLN.out
              · have := HOW.out
                rw [HTK.out] at this
                exact own_base this HR0.out.still.size
end Go.Proofs.Ythfkgkddklnnhaa
