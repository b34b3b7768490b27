/- Lemmas, put together: GcBegin Ground Collect Look. -/
import Derived.Test.YthfkgkddklnnhaaK13
import Derived.Test.YthfkgkddklnnhaaK04
import Derived.Test.YthfkgkddklnnhaaK14
/- The contract of gc's begin. -/
namespace Go.Proofs.Ythfkgkddklnnhaa
set_option linter.unusedVariables false
open Go.ChangeShapes Go.WideShapes Go.ChangeAt Go.RowKit
open M (W)

def cz (i : Nat) : Value := if i = 0 then .pointer none else if i = 1 then .slice none 0 0 else .bool false
def zC : Array Value := ((List.range 514).map cz).toArray
theorem zC_size : zC.size = 514 := by unfold zC; simp
theorem zC_at (i : Nat) (hi : i < 514) : zC[i]? = some (cz i) := by unfold zC; simp [hi]
set_option maxRecDepth 100000 in
theorem zeroColl : (Try.prog.info? 99).map (fun i => (i.zero, i.size)) = some (some (.agg zC), 514) := by kernel_rfl
/-- A collector's struct, while its bytes are asked. -/
def Cl.part (c : Cl) (s : St) (k i : Nat) : Value := if i = 0 then s.ptr else if i = 1 then .slice (some ⟨c.gr, 0, none⟩) c.r c.r else .bool (decide (i - 2 < k) && decide (s.kind ((i - 2 : Nat) : Int) = 3))
theorem zC_blk (W : World) (s : St) (c : Cl) : (W.alloc (.cells ((zC.setIfInBounds 0 s.ptr).setIfInBounds 1 (.slice (some ⟨c.gr, 0, none⟩) c.r c.r)) 99)).rowIs W.heap.size 99 514 (c.part s 0) := by
  refine ⟨_, heap_alloc_new W _, by simp [zC_size], fun i hi => ?_⟩
  rw [Array.getElem?_setIfInBounds, Array.getElem?_setIfInBounds]
  unfold Cl.part
  by_cases e1 : i = 1
  · subst e1; simp [zC_size]
  · by_cases e0 : i = 0
    · subst e0; simp [zC_size]
    · have e0' : ¬ 0 = i := fun e => e0 e.symm
      have e1' : ¬ 1 = i := fun e => e1 e.symm
      rw [if_neg e1', if_neg e0', if_neg e0, if_neg e1, zC_at i hi]
      unfold cz
      rw [if_neg e0, if_neg e1]; simp
/-- The roots that a caller hands on. -/
structure RootRow (w : World) (a : Option Addr) (n : Nat) (rv : Nat → Nat) (S : Nat → Prop) : Prop where
  at_ : 0 < n → ∃ b off, a = some ⟨b, off, none⟩ ∧ b < w.heap.size ∧ ¬ S b ∧ ∀ i, i < n → w.cell? ⟨b, off + i, none⟩ = some (.int .u64 (rv i))
  lt : ∀ i, rv i < 18446744073709551616
  le : n ≤ 65536
theorem RootRow.turn {w w' : World} {a : Option Addr} {n : Nat} {rv : Nat → Nat} {S : Nat → Prop} (h : RootRow w a n rv S) (t : Turn S w w') : RootRow w' a n rv S :=
  ⟨fun h0 => by
    obtain ⟨b, off, e, hb, hs, hc⟩ := h.at_ h0
    exact ⟨b, off, e, Nat.lt_of_lt_of_le hb t.size, hs, fun i hi => by rw [t.cell (p := ⟨b, _, none⟩) hb hs]; exact hc i hi⟩, h.lt, h.le⟩
theorem RootRow.mono {w : World} {a : Option Addr} {n : Nat} {rv : Nat → Nat} {S T : Nat → Prop} (h : RootRow w a n rv S) (hst : ∀ b, b < w.heap.size → T b → S b) : RootRow w a n rv T :=
  ⟨fun h0 => by
    obtain ⟨b, off, e, hb, hs, hc⟩ := h.at_ h0
    exact ⟨b, off, e, hb, fun ht => hs (hst b hb ht), hc⟩, h.lt, h.le⟩
theorem begin_nil (a : Option Addr) (n cap : Nat) (w : World) : Calls Try.prog 44 #[.pointer none, .slice a n cap] w fun e w' => e = .returned (.pointer none) ∧ w' = w := by
  go_enter Try.func44, Try.ntmps44
  go_wp2_with fail
  go_ret
  exact ⟨rfl, rfl⟩
/-- The memory of a heap and its roots. -/
def St.mem (s : St) (rv : Nat → Nat) : Nat → Nat := fun j => if j < s.n then s.ws j else rv (j - s.n)
set_option maxRecDepth 100000 in
set_option maxHeartbeats 8000000 in
theorem begin_any {w : World} {s : St} {L : List RO} (h : Right w s L) (a : Option Addr) (n cap : Nat) (rv : Nat → Nat) (hrow : RootRow w a n rv (fun b => b = s.g ∨ b = s.gw)) (hcap : n ≤ cap) (hcm : cap ≤ maxLen) :
    Calls Try.prog 44 #[s.ptr, .slice a n cap] w fun e w' => Right w' (s.as L) L ∧ Turn (fun b => b = s.g ∨ b = s.gw) w w' ∧
      ((∃ c, e = .returned c.ptr ∧ c.r = n ∧ GcIs w' (s.as L) c ((s.as L).mem rv) ∧ w.heap.size ≤ c.g ∧ w.heap.size ≤ c.gr ∧ ∀ i, i < n → s.fits (rv i) = true) ∨ (e = .returned (.pointer none) ∧ ∃ i, i < n ∧ s.fits (rv i) = false)) := by
  have HTP := top_any s w h.hp
  have HCL := right_close h
  have HH := Lib.hid h
  have HROW := Lib.hid hrow
  have hle := hrow.le
  have hg := h.hp.blk.lt
  unfold maxLen at hcm
  clear h hrow
  go_enter Try.func44, Try.ntmps44
  go_wp2_with fail
  refine HTP.mono ?_; rintro e w1 ⟨rfl, rfl⟩
  go_wp2_with fail
  refine HCL.mono ?_; rintro e w2 ⟨rfl, hb2, t2⟩
  have HB2 := Lib.hid hb2
  have HT2 := Lib.hid t2
  have HR2 := Lib.hid (HROW.out.turn t2)
  have hgl := hb2.hp.blk.lt
  clear hb2 t2 HTP HCL
  have hmk := makeW n hle
  have hzz := (zero_of_info zeroColl).1
  have hzs := zC_size
  have hze : ¬ zC = #[] := fun e => by rw [e] at hzs; simp at hzs
  go_wp2_with fail
  obtain ⟨c, hc⟩ : ∃ c : Cl, c = ⟨w2.heap.size + 1, w2.heap.size, n, rv⟩ := ⟨_, rfl⟩
  have hcg : w2.heap.size + 1 = c.g := by rw [hc]
  have hcgr : w2.heap.size = c.gr := by rw [hc]
  have hcr : n = c.r := by rw [hc]
  have hcrs : c.rs = rv := by rw [hc]
  have hblk := zC_blk (w2.alloc (.cells (madeCells #[.int .u64 0] n) 33)) s c
  have hesz : (w2.alloc (.cells (madeCells #[.int .u64 0] n) 33)).heap.size = c.g := by rw [← hcg]; simp
  rw [hesz, ← hcgr, ← hcr] at hblk
  have hrts := (World.rowIs_made w2 (.int .u64 0) n 33).alloc (.cells ((zC.setIfInBounds 0 s.ptr).setIfInBounds 1 (.slice (some ⟨w2.heap.size, 0, none⟩) n n)) 99)
  have hS3 : Still w2 ((w2.alloc (.cells (madeCells #[.int .u64 0] n) 33)).alloc (.cells ((zC.setIfInBounds 0 s.ptr).setIfInBounds 1 (.slice (some ⟨w2.heap.size, 0, none⟩) n n)) 99)) := ((Still.refl w2).alloc _).alloc _
  rw [hcg]
  generalize ((w2.alloc (.cells (madeCells #[.int .u64 0] n) 33)).alloc (.cells ((zC.setIfInBounds 0 s.ptr).setIfInBounds 1 (.slice (some ⟨w2.heap.size, 0, none⟩) n n)) 99)) = W3 at *
  rw [hcgr] at hrts ⊢
  have HBK := Lib.hid hblk
  have HRTS := Lib.hid hrts
  have HS3 := Lib.hid hS3
  have HC := Lib.hid (And.intro hcg (And.intro hcgr (And.intro hcr hcrs)))
  have hgne : c.g ≠ c.gr := by omega
  clear hblk hrts hS3 hmk hzz hzs hze hesz hc hgl hcg hcgr hcr hcrs
  go_loopw [26] (fun v wr => ∃ i, v = .int .i64 (i : Nat) ∧ i ≤ n ∧ wr.rowIs c.gr 33 n (fun j => .int .u64 (if j < i then (rv j : Int) else 0)) ∧ (∀ j, j < i → s.fits (rv j) = true) ∧ Turn (fun b => b = c.gr) W3 wr) (fun v _ => n - (intOf v).toNat)
  case atStart => exact ⟨0, rfl, by omega, HRTS.out.congr fun j _ => by rw [if_neg (by omega)], fun j hj => by omega, Turn.refl _ _⟩
  case round =>
    obtain ⟨i, rfl, hi, hrow, hfit, ht⟩ := hrel
    have HRW := Lib.hid hrow
    have HFT := Lib.hid hfit
    have HTR := Lib.hid ht
    have hnew : ∀ b, b < w2.heap.size → b ≠ c.gr := fun b hb => by have := HC.out.2.1; omega
    have HPR : Hid (HpIs wr (s.as L)) := (HB2.out.hp.still HS3.out).keep ht (hnew _ HB2.out.hp.blk.lt) (hnew _ HB2.out.hp.words.lt) (hnew _ HB2.out.hp.lays.lt)
    by_cases hlt : i < n
    · obtain ⟨b, off, hab, hbl, hbs, hcells⟩ := HR2.out.at_ (by omega)
      subst hab
      have hcell : wr.cell? ⟨b, off + i, none⟩ = some (.int .u64 (rv i)) := by
        rw [ht.cell (p := ⟨b, _, none⟩) (Nat.lt_of_lt_of_le hbl HS3.out.size) (hnew _ hbl), HS3.out.cell (p := ⟨b, _, none⟩) hbl]
        exact hcells i hlt
      have hbw : b < wr.heap.size := Nat.lt_of_lt_of_le hbl (Nat.le_trans HS3.out.size ht.size)
      have hFT := fits_any (s.as L) (rv i) wr HPR.out (by omega) (by have := HR2.out.lt i; omega)
      have hff : (s.as L).fits (rv i) = s.fits (rv i) := by
        have i1 := HH.out.sim.heads ((rv i : Int) / 2)
        have i2 := HB2.out.sim.heads ((rv i : Int) / 2)
        unfold St.is at i1 i2
        unfold St.fits M.fits M.inSet
        rw [i2, ← i1]
      rw [hff] at hFT
      change Calls _ _ #[.pointer (some ⟨s.g, 0, none⟩), _] _ _ at hFT
      have HFF := Lib.hid hFT
      have hbk := HBK.out.of_block (ht.block _ HBK.out.lt hgne)
      have c1 : wr.cell? ⟨c.g, 1, none⟩ = some (.slice (some ⟨c.gr, 0, none⟩) n n) := by
        rw [hbk.cell (i := 1) (by omega)]
        unfold Cl.part
        rw [if_neg (by omega), if_pos rfl, ← HC.out.2.2.1]
      have hcgl := hbk.lt
      have hgrl := hrow.lt
      have hfz : wr.frozen? ⟨c.gr, i, none⟩ = false := hrow.frozen i
      have hcc : wr.cell? ⟨c.gr, i, none⟩ = some (.int .u64 0) := by rw [hrow.cell (i := i) hlt, if_neg (by omega)]
      clear hrow hfit ht hcells hbk hFT hff
      generalize hrv : rv i = z at *
      have HRV := Lib.hid hrv
      clear hrv
      cases hz : s.fits z with
      | false =>
        have HZ := Lib.hid hz
        rw [hz] at HFF
        clear hz
        go_wp2_with fail
        refine HFF.out.mono ?_; rintro e w5 ⟨rfl, rfl⟩
        go_wp2_with fail
        go_ret
        have hst : Still w2 w5 := Still.own HS3.out (HTR.out.mono fun b _ e => by have := HC.out.2.1; omega)
        exact ⟨HB2.out.still hst, HT2.out.trans (Still.turn hst), .inr ⟨rfl, i, hlt, by rw [HRV.out]; exact HZ.out⟩⟩
      | true =>
        have HZ := Lib.hid hz
        rw [hz] at HFF
        clear hz
        go_wp2_with fail
        refine HFF.out.mono ?_; rintro e w5 ⟨rfl, rfl⟩
        go_wp2_with fail
        go_roundw
        case rel =>
          refine ⟨i + 1, by go_num, by omega, (HRW.out.set i (.int .u64 z)).congr fun j _ => ?_, fun j hj => ?_, HTR.out.setCell (p := ⟨c.gr, i, none⟩) (fun _ => rfl) _⟩
          · by_cases e : j = i
            · subst e; rw [if_pos rfl, if_pos (by omega), HRV.out]
            · rw [if_neg e]
              by_cases e2 : j < i
              · rw [if_pos e2, if_pos (by omega)]
              · rw [if_neg e2, if_neg (by omega)]
          · by_cases e : j = i
            · subst e; rw [HRV.out]; exact HZ.out
            · exact HFT.out j (by omega)
        case measure => simp [intOf]; omega
    · obtain rfl : i = n := by omega
      have hbk := HBK.out.of_block (ht.block _ HBK.out.lt hgne)
      have HBK2 := Lib.hid hbk
      have hrow2 := hrow.congr (g := fun j => .int .u64 (rv j)) fun j hj => by rw [if_pos hj]
      have HRW2 := Lib.hid hrow2
      have HTR2 : Hid (Turn (fun b => b = c.gr ∨ b = c.g) W3 wr) := ht.mono fun b _ e => .inl e
      clear hrow hfit ht hbk hrow2
      go_wp2_with fail
      go_loopw [43] (fun v wk => ∃ k, v = .int .i64 (k : Nat) ∧ k ≤ 512 ∧ wk.rowIs c.g 99 514 (c.part s k) ∧ wk.rowIs c.gr 33 i (fun j => .int .u64 (rv j)) ∧ Turn (fun b => b = c.gr ∨ b = c.g) W3 wk) (fun v _ => 512 - (intOf v).toNat)
      case atStart => exact ⟨0, rfl, by omega, HBK2.out, HRW2.out, HTR2.out⟩
      case round =>
        obtain ⟨k, rfl, hk, hb5, hr5, ht5⟩ := hrel
        have hnew2 : ∀ b, b < w2.heap.size → ¬ (b = c.gr ∨ b = c.g) := fun b hb => by have := HC.out.2.1; have := HC.out.1; omega
        have HP5 : Hid (HpIs wr (s.as L)) := (HB2.out.hp.still HS3.out).keep ht5 (hnew2 _ HB2.out.hp.blk.lt) (hnew2 _ HB2.out.hp.words.lt) (hnew2 _ HB2.out.hp.lays.lt)
        have HB5 := Lib.hid hb5
        have HR5 := Lib.hid hr5
        have HT5 := Lib.hid ht5
        by_cases hlt5 : k < 512
        · have hcx : wr.drew.cell? ⟨c.g, 2 + k, none⟩ = some (c.part s k (2 + k)) := hb5.cell (i := 2 + k) (by omega)
          have hfx : wr.drew.frozen? ⟨c.g, 2 + k, none⟩ = false := hb5.frozen _
          have hcgl : c.g < wr.drew.heap.size := hb5.lt
          have HPD : Hid (HpIs wr.drew (s.as L)) := HP5.out.still (Turn.drew (Still.refl wr) : Still wr wr.drew)
          have hKD := kind_any (s.as L) (k : Int) wr.drew HPD.out
          change Calls _ _ #[.pointer (some ⟨s.g, 0, none⟩), .int .i64 k] wr.drew fun e w' => e = .returned (.int .i64 (s.kind k)) ∧ w' = wr.drew at hKD
          have HKD := Lib.hid hKD
          clear hb5 hr5 ht5 hKD
          generalize hcp : c.part s k (2 + k) = old at *
          clear hcp
          go_wp2_with fail
          refine wp_region_still_tail 9 (by kernel_rfl) (by kernel_rfl) ?_
          simp only [List.take_succ_cons, List.take_zero, List.drop_succ_cons, List.drop_zero]
          change wpStill _ _ wr.drew (fun a' => wpList _ _ _ _ a' wr.drew) _ _
          repeat still_step
          still_call HKD.out
          repeat still_step
          refine wpStill_nil ?_
          go_wp2_with fail
          go_roundw
          case rel =>
            refine ⟨k + 1, by go_num, by omega, ?_, ?_, ?_⟩
            · have := HB5.out.set (2 + k) (.bool (s.kind k == 3))
              refine World.rowIs.congr (show ((wr.drew).setCell ⟨c.g, 2 + k, none⟩ (.bool (s.kind k == 3))).rowIs c.g _ _ _ from this) fun j hj => ?_
              unfold Cl.part
              by_cases e : j = 2 + k
              · subst e
                rw [if_pos rfl, if_neg (by omega), if_neg (by omega), show 2 + k - 2 = k by omega, decide_eq_true (show k < k + 1 by omega), Bool.true_and]
                congr 1
              · rw [if_neg e]
                by_cases e0 : j = 0
                · rw [if_pos e0, if_pos e0]
                · rw [if_neg e0, if_neg e0]
                  by_cases e1 : j = 1
                  · rw [if_pos e1, if_pos e1]
                  · rw [if_neg e1, if_neg e1]
                    have : decide (j - 2 < k) = decide (j - 2 < k + 1) := by rw [decide_eq_decide]; omega
                    rw [this]
            · exact HR5.out.of_block (((Turn.refl (fun b => b = c.g) wr).drew.setCell (p := ⟨c.g, 2 + k, none⟩) (fun _ => rfl) (.bool (s.kind k == 3))).block _ HR5.out.lt (fun e => hgne e.symm))
            · exact (HT5.out.drew).setCell (p := ⟨c.g, 2 + k, none⟩) (fun _ => .inr rfl) _
          case measure => simp [intOf]; omega
        · obtain rfl : k = 512 := by omega
          clear hb5 hr5 ht5
          go_wp2_with fail
          go_ret
          have hst : Still w2 wr := Still.own HS3.out (HT5.out.mono fun b _ e => by have := HC.out.2.1; have := HC.out.1; omega)
          have hml : ∀ j, (s.as L).mem rv j < 18446744073709551616 := fun j => by
            show (if j < s.n then (s.as L).ws j else rv (j - s.n)) < _
            split
            · exact HP5.out.ws_lt j
            · exact HR2.out.lt _
          have hp6 : HpIs wr ((s.as L).at ((s.as L).mem rv)) := ⟨HP5.out.blk, HP5.out.words.congr fun j hj => by
            show Value.int .u64 (((s.as L).ws j : Nat) : Int) = .int .u64 ((((if j < s.n then (s.as L).ws j else rv (j - s.n)) : Nat)) : Int)
            rw [if_pos (show j < s.n from hj)], HP5.out.lays, HP5.out.n_le, HP5.out.m_le, HP5.out.top_le, hml, HP5.out.hx_lt, HP5.out.kinds, HP5.out.lens⟩
          have hcr := HC.out.2.2.1
          have hgis : GcIs wr (s.as L) c ((s.as L).mem rv) := by
            refine ⟨⟨hp6, HB5.out.congr fun j hj => ?_, ?_, fun j => hml _, ?_, ?_⟩, hml⟩
            · unfold Cl.part Cl.cell
              by_cases e0 : j = 0
              · rw [if_pos e0, if_pos e0]; rfl
              · rw [if_neg e0, if_neg e0]
                by_cases e1 : j = 1
                · rw [if_pos e1, if_pos e1]; rfl
                · rw [if_neg e1, if_neg e1, decide_eq_true (show j - 2 < 512 by omega), Bool.true_and]; rfl
            · show wr.rowIs c.gr _ c.r _
              rw [← hcr]
              refine HR5.out.congr fun j hj => ?_
              show Value.int .u64 ((rv j : Nat) : Int) = .int .u64 ((((if s.n + j < s.n then (s.as L).ws (s.n + j) else rv (s.n + j - s.n)) : Nat)) : Int)
              rw [if_neg (by omega), show s.n + j - s.n = j by omega]
            · show c.r ≤ _; omega
            · show c.gr ≠ s.gw
              have h1 := HC.out.2.1
              have h2 : s.gw < w2.heap.size := HB2.out.hp.words.lt
              omega
          have hw12 := HT2.out.size
          exact ⟨HB2.out.still hst, HT2.out.trans (Still.turn hst), .inl ⟨c, rfl, hcr.symm, hgis, by have := HC.out.1; omega, by have := HC.out.2.1; omega, HFT.out⟩⟩
end Go.Proofs.Ythfkgkddklnnhaa
/- What gc's rounds go over, out of a heap that is right; no program in sight. -/
namespace Go.Proofs.Ythfkgkddklnnhaa
set_option linter.unusedVariables false
open M (W)

theorem Marked.rd0 {s : St} {L : List RO} {m0 m tof : Nat → Nat} {R : Nat → Prop} {mk : Nat → Bool} {r : Nat} (h : Marked s L m0 R mk m) : Rd0 s L m0 m tof mk r 0 [] m := by
  refine ⟨⟨fun o ho _ => rfl, fun j _ hj _ => ?_, List.nodup_nil, fun p hp => by simp at hp, fun p hp => by simp at hp, fun p hp => by simp at hp, fun p hp => by simp at hp⟩, fun j hj => by omega, fun p hp => by simp at hp⟩
  simp only [Bool.false_eq_true, if_false]
  exact h.rest j hj
/-- Objects one behind the other share no word. -/
theorem TileTo.far {s : St} {top : Nat} : ∀ {L : List RO} {p : Nat}, TileTo s top p L → (∀ o ∈ L, 1 ≤ s.sz o) → ∀ o ∈ L, ∀ q ∈ L, o = q ∨ o.at_ + s.sz o ≤ q.at_ ∨ q.at_ + s.sz q ≤ o.at_
  | [], p, h, hz, o, ho, q, hq => by simp at ho
  | a :: L, p, h, hz, o, ho, q, hq => by
    have h1 := h.1
    rcases List.mem_cons.1 ho with ho1 | ho1
    · rcases List.mem_cons.1 hq with hq1 | hq1
      · exact .inl (ho1.trans hq1.symm)
      · have := h.2.ge q hq1
        rw [ho1]
        exact .inr (.inl (by omega))
    · rcases List.mem_cons.1 hq with hq1 | hq1
      · have := h.2.ge o ho1
        rw [hq1]
        exact .inr (.inr (by omega))
      · exact TileTo.far h.2 (fun o ho => hz o (List.mem_cons_of_mem _ ho)) o ho1 q hq1
/-- The memory of a heap that is right, and of roots. -/
theorem LaidAs.ground {s : St} {L : List RO} (h : LaidAs s s.top L) (htop : s.top ≤ s.n) (hm : s.m ≤ 512) (rv : Nat → Nat) (hws : ∀ j, s.ws j < 18446744073709551616) (hrv : ∀ j, rv j < 18446744073709551616) : Ground s L (s.mem rv) := by
  have hz : ∀ o ∈ L, 1 ≤ s.sz o := fun o ho => (h.good o ho).sz.2.2
  have hin := h.tile.in.2
  have hfar := h.tile.far hz
  have hw : ∀ o ∈ L, ∀ i, i < s.sz o → s.mem rv (o.at_ + i) = s.ws (o.at_ + i) := fun o ho i hi => by
    have := hin o ho
    unfold St.mem
    rw [if_pos (by omega)]
  have hnf : ∀ o ∈ L, s.nf o + 1 ≤ s.sz o := fun o ho => by
    have := (h.good o ho).sz.1
    unfold St.nf St.fieldsOf
    rw [this]
    split <;> omega
  refine ⟨fun o ho p hp i j hi hj e => ?_, fun o ho p hp e => ?_, fun o ho => ?_, fun o ho i hi => ?_, hnf, fun o ho => by have := hin o ho; omega, fun o ho => ?_, fun j => ?_⟩
  · rcases hfar o ho p hp with rfl | x | x
    · exact ⟨rfl, by omega⟩
    · omega
    · omega
  · rcases hfar o ho p hp with x | x | x
    · exact x
    · have := hz o ho; omega
    · have := hz p hp; omega
  · have h1 := hw o ho 0 (hz o ho)
    rw [Nat.add_zero] at h1
    rw [h1, (h.good o ho).hd]
    exact Int.toNat_of_nonneg (M.hd_lo ..)
  · have h1 := hw o ho (1 + i) (by have := hnf o ho; omega)
    rw [← Nat.add_assoc] at h1
    rw [h1]
    by_cases hk : s.kind o.sh = 3
    · unfold St.nf St.fieldsOf at hi
      rw [if_pos hk] at hi; omega
    · obtain ⟨f1, f2, f3⟩ := (h.good o ho).f hk
      unfold St.nf St.fieldsOf at hi
      rw [if_neg hk] at hi
      have hmem : s.ws (o.at_ + 1 + i) ∈ o.fs := by
        rw [f3 i hi, List.getD_eq_getElem?_getD, List.getElem?_eq_getElem (by omega)]
        exact List.getElem_mem _
      by_cases c : s.ws (o.at_ + 1 + i) % 2 = 1
      · exact .inl c
      · rcases h.fit o ho _ hmem with x | ⟨p, hp, e⟩
        · exact .inl x
        · exact .inr ⟨p, hp, by omega⟩
  · have := (h.good o ho).kd
    omega
  · unfold St.mem
    split
    · exact hws j
    · exact hrv _
theorem LaidAs.field {s : St} {L : List RO} (h : LaidAs s s.top L) (htop : s.top ≤ s.n) (hm : s.m ≤ 512) (rv : Nat → Nat) (hws : ∀ j, s.ws j < 18446744073709551616) (hrv : ∀ j, rv j < 18446744073709551616) (mk : Nat → Bool) (r : Nat) (hr : ∀ i, i < r → rv i % 2 = 0 → ∃ q ∈ L, rv i = 2 * q.at_) : Field s L (s.mem rv) mk r := by
  refine ⟨h.ground htop hm rv hws hrv, h.tile, htop, fun i hi => ?_⟩
  have : s.mem rv (s.n + i) = rv i := by
    unfold St.mem
    rw [if_neg (by omega), show s.n + i - s.n = i by omega]
  rw [this]
  exact hr i hi
theorem Field.own {s : St} {L : List RO} {m0 m1 : Nat → Nat} {mk : Nat → Bool} {r : Nat} (h : Field s L m0 mk r) (hm : ∀ o ∈ L, ∀ i, i < s.sz o → m1 (o.at_ + i) = m0 (o.at_ + i)) (hlt : ∀ j, m1 j < 18446744073709551616) : Field s L m1 mk 0 := by
  have hG := h.ground
  refine ⟨⟨hG.ap, hG.un, fun o ho => ?_, fun o ho i hi => ?_, hG.nf, hG.le, hG.sh, hlt⟩, h.tile, h.top, fun i hi => by omega⟩
  · have h1 := hm o ho 0 (by have := hG.nf o ho; omega)
    rw [Nat.add_zero] at h1
    rw [h1]; exact hG.head o ho
  · have h1 := hm o ho (1 + i) (by have := hG.nf o ho; omega)
    rw [← Nat.add_assoc] at h1
    rw [h1]; exact hG.field o ho i hi
theorem Closed.own {s : St} {L : List RO} {m0 m1 : Nat → Nat} {mk : Nat → Bool} (h : Closed s L m0 mk) (hnf : ∀ o ∈ L, s.nf o + 1 ≤ s.sz o) (hm : ∀ o ∈ L, ∀ i, i < s.sz o → m1 (o.at_ + i) = m0 (o.at_ + i)) : Closed s L m1 mk := fun o ho hmk i hi => by
  have h1 := hm o ho (1 + i) (by have := hnf o ho; omega)
  rw [← Nat.add_assoc] at h1
  have := h o ho hmk i hi
  unfold Seen at this ⊢
  rw [h1]; exact this
theorem fin_own {s : St} {m0 m1 tof : Nat → Nat} {o : RO} {k : Nat} (hm : m1 (o.at_ + k) = m0 (o.at_ + k)) : M.fin s m1 tof o k = M.fin s m0 tof o k := by
  unfold M.fin
  rw [hm]
theorem Ground.none {s : St} {L : List RO} {m0 : Nat → Nat} {R : Nat → Prop} (h : Ground s L m0) : Marked s L m0 R (fun _ => false) m0 :=
  ⟨fun o ho => h.head o ho, fun _ _ => rfl, fun o _ x => by simp at x, fun b x => by simp at x⟩
end Go.Proofs.Ythfkgkddklnnhaa
/- The contract of gc's Collect. -/
namespace Go.Proofs.Ythfkgkddklnnhaa
set_option linter.unusedVariables false
open Go.ChangeShapes Go.WideShapes Go.ChangeAt Go.RowKit
open M (W)
/-- What Collect answers and leaves. -/
def Collected (w : World) (s : St) (L : List RO) (n : Nat) (rv : Nat → Nat) (R : Nat → Prop) (e : Ending) (w' : World) : Prop :=
  (e = .returned (.tuple #[.slice none 0 0, .int .i64 1]) ∧ (∃ i, i < n ∧ s.fits (rv i) = false) ∧ Right w' s L) ∨
  ((∀ i, i < n → s.fits (rv i) = true) ∧ ∃ (gr : Nat) (mk : Nat → Bool) (m : Nat → Nat), e = .returned (.tuple #[.slice (some ⟨gr, 0, none⟩) n n, .int .i64 0]) ∧ w.heap.size ≤ gr ∧ Closed s L (s.mem rv) mk ∧ (∀ b, mk b = true → R b) ∧ (∀ i, i < n → rv i % 2 = 0 → mk (rv i / 2) = true) ∧
    HpIs w' ((s.at m).closed (M.tof s mk L s.top) ((M.slid mk (M.tof s mk L) L).map RO.at_)) ∧ LaidAs (s.at m) (M.tof s mk L s.top) (M.slid mk (M.tof s mk L) L) ∧ w'.rowIs gr 33 n (fun i => .int .u64 (M.ren (M.tof s mk L) (rv i) : Nat)))
/-- Close of what is laid takes it. -/
theorem close_laid (s : St) (top : Nat) (L : List RO) (w : World) (h : HpIs w s) (htop : top ≤ s.n) (hl : LaidAs s top L) : Calls Try.prog 11 #[.pointer (some ⟨s.g, 0, none⟩), .int .i64 top] w fun e w' => e = .returned (.int .i64 0) ∧ HpIs w' (s.closed top (L.map RO.at_)) ∧ Turn (fun k => k = s.g ∨ k = s.gw) w w' := by
  have hc := hl.closes h.m_le (by have := h.n_le; omega)
  refine (close_in s top w h htop).mono fun e w' hor => ?_
  rcases hor with ⟨l, h1, he, hp, ht⟩ | ⟨hno, _, _⟩
  · have hll : l = L.map RO.at_ := h1.1.same hc.1.1
    subst hll
    exact ⟨he, hp, ht⟩
  · exact absurd hc.1 (hno _)
/-- What lies in the memory when the second round is over. -/
theorem over_laid {s : St} {L : List RO} {rv : Nat → Nat} {mk : Nat → Bool} {r : Nat} {hd m : Nat → Nat} {tied : List Nat} {res : Nat → Bool} (hF : Field s L (s.mem rv) mk r) (hL : LaidAs s s.top L) (hws : ∀ j, s.ws j < 18446744073709551616) (hcl : Closed s L (s.mem rv) mk) (h : Rd2 s L (s.mem rv) hd (M.tof s mk L) mk r s.top tied res m) :
    LaidAs (s.at m) (M.tof s mk L s.top) (M.slid mk (M.tof s mk L) L) ∧ ∀ i, i < r → m (s.n + i) = M.ren (M.tof s mk L) (rv i) := by
  have hin := hF.tile.in.2
  have htop := hF.top
  have hm : ∀ o ∈ L, ∀ i, i < s.sz o → s.ws (o.at_ + i) = s.mem rv (o.at_ + i) := fun o ho i hi => by
    have := hin o ho
    unfold St.mem
    rw [if_pos (by omega)]
  obtain ⟨h1, h2⟩ := h.over hF
  refine ⟨slid_laid (hF.own hm hws) hL (hcl.own hF.ground.nf hm) fun o ho hmk k hk => by rw [h1 o ho hmk k hk]; exact (fin_own (hm o ho k hk)).symm, fun i hi => ?_⟩
  have e : s.mem rv (s.n + i) = rv i := by
    unfold St.mem
    rw [if_neg (by omega), show s.n + i - s.n = i by omega]
  rw [h2 i hi, e]; rfl
set_option maxRecDepth 100000 in
set_option maxHeartbeats 4000000 in
theorem collect_any {w : World} {s : St} {L : List RO} (h : Right w s L) (a : Option Addr) (n cap : Nat) (rv : Nat → Nat) (R : Nat → Prop) (hrow : RootRow w a n rv (fun b => b = s.g ∨ b = s.gw)) (hcap : n ≤ cap) (hcm : cap ≤ maxLen) (hRC : RClosed (s.as L) L ((s.as L).mem rv) R) (hRr : ∀ i, i < n → rv i % 2 = 0 → R (rv i / 2)) :
    Calls Try.prog 18 #[s.ptr, .slice a n cap] w fun e w' => Collected w (s.as L) L n rv R e w' ∧ Turn (fun b => b = s.g ∨ b = s.gw) w w' := by
  have hB := begin_any h a n cap rv hrow hcap hcm
  have HH := Lib.hid h
  obtain ⟨S, hS⟩ : ∃ S, s.as L = S := ⟨_, rfl⟩
  have hSg : s.g = S.g := by rw [← hS]; rfl
  have hSgw : s.gw = S.gw := by rw [← hS]; rfl
  change Calls _ _ #[.pointer (some ⟨s.g, 0, none⟩), .slice a n cap] w _ at hB
  show Calls _ _ #[.pointer (some ⟨s.g, 0, none⟩), .slice a n cap] w fun e w' => Collected w (s.as L) L n rv R e w' ∧ Turn (fun b => b = s.g ∨ b = s.gw) w w'
  rw [hS, hSg, hSgw] at hB
  rw [hS] at hRC
  rw [hS, hSg, hSgw]
  have hfits : ∀ w1, Right w1 S L → ∀ v : Nat, S.fits v = s.fits v := fun w1 hb v => fits_same h.sim hb.sim v
  have HFS := Lib.hid hfits
  have HB := Lib.hid hB
  have HRC := Lib.hid hRC
  have HRR := Lib.hid hRr
  have HRL := Lib.hid hrow.lt
  clear h hrow hRC hRr hB hS hSg hSgw hfits
  go_enter Try.func18, Try.ntmps18
  go_wp2_with fail
  refine HB.out.mono ?_; rintro e w1 ⟨hb, t1, ⟨c, rfl, rfl, hg, hcg, hcgr, hfit⟩ | ⟨rfl, hno⟩⟩
  case inr =>
    have HT1 := Lib.hid t1
    have HB1 := Lib.hid hb
    have HNO : Hid (∃ i, i < n ∧ S.fits (rv i) = false) := by
      obtain ⟨i, hi, hf⟩ := hno
      exact ⟨i, hi, (HFS.out _ hb _).trans hf⟩
    clear hb t1 HB hno
    go_wp2_with fail
    go_ret2
    exact ⟨.inl ⟨rfl, HNO.out, HB1.out⟩, HT1.out⟩
  have HT1 := Lib.hid t1
  have hLa := hb.laid
  have hroot : ∀ i, i < c.r → rv i % 2 = 0 → ∃ q ∈ L, rv i = 2 * q.at_ := fun i hi he => HH.out.root (hfit i hi) he
  have HFT : Hid (∀ i, i < c.r → S.fits (rv i) = true) := fun i hi => (HFS.out _ hb _).trans (hfit i hi)
  have htn := hb.hp.top_le
  have hmm := hb.hp.m_le
  have hF := fun mk => hLa.field htn hmm rv hb.hp.ws_lt HRL.out mk c.r hroot
  have hmem : ∀ i, S.mem rv (S.n + i) = rv i := fun i => by
    unfold St.mem
    rw [if_neg (by omega), show S.n + i - S.n = i by omega]
  have hG := (hF (fun _ => false)).ground
  have hneed : ∀ o ∈ L, S.needOf o.sh o.n = S.sz o ∧ o.sh < 512 ∧ o.n ≤ 65536 ∧ 1 ≤ S.sz o := fun o ho => by
    have h1 := (hLa.good o ho).kd
    exact ⟨(hLa.good o ho).needOf, by omega, h1.2.1, (hLa.good o ho).sz.2.2⟩
  have HMK := Lib.hid (mark_any S c L (S.mem rv) R (fun _ => false) (S.mem rv) w1 hg hG HRC.out hG.none ⟨fun i hi => by
    rw [hmem]
    by_cases he : rv i % 2 = 0
    · exact .inr (hroot i hi he)
    · exact .inl (by omega), fun i hi he => by rw [hmem] at he ⊢; exact HRR.out i hi he⟩)
  have HF := Lib.hid hF
  have HND := Lib.hid hneed
  have HMM := Lib.hid hmem
  have HLA := Lib.hid hLa
  have HWS := Lib.hid hb.hp.ws_lt
  have HTN := Lib.hid htn
  have HM5 := Lib.hid hmm
  clear hb hLa hF hneed hmem hG hroot hg htn hmm t1 HB hfit
  go_wp2_with fail
  refine HMK.out.mono ?_; rintro e w2 ⟨rfl, mk, m1, h2, hM2, hrt, t2⟩
  have HSL := Lib.hid (slide_any S c L (S.mem rv) m1 mk m1 w2 (HF.out mk) HND.out hM2.head h2 hM2.rd0)
  have HT2 := Lib.hid t2
  have HCL := Lib.hid (And.intro hM2.closed (And.intro hM2.sub hrt))
  clear h2 hM2 hrt t2 HMK
  go_wp2_with fail
  refine HSL.out.mono ?_; rintro e w3 ⟨rfl, m2, tied, res, h3, t3, r2⟩
  obtain ⟨hl3, hr3⟩ := over_laid (HF.out mk) HLA.out HWS.out HCL.out.1 r2
  have htl : M.tof S mk L S.top ≤ S.n := by
    have h1 := tof_le (mk := mk) (a := S.top) (HF.out mk).tile (fun o ho _ => (HF.out mk).tile.in.2 o ho) (Nat.zero_le _)
    have h2 := HTN.out
    omega
  have HCS := Lib.hid (close_laid (S.at m2) (M.tof S mk L S.top) _ w3 h3.is.hp htl hl3)
  change Hid (Calls _ _ #[.pointer (some ⟨S.g, 0, none⟩), _] w3 _) at HCS
  have HL3 := Lib.hid hl3
  have HR3 := Lib.hid hr3
  have HT3 := Lib.hid t3
  have HG3 := Lib.hid h3
  have hb3 : c.g < w3.heap.size := h3.g_lt
  clear hl3 hr3 htl t3 r2 h3 HSL
  obtain ⟨T, hT⟩ : ∃ T, M.tof S mk L S.top = T := ⟨_, rfl⟩
  rw [hT] at HCS ⊢
  have HTT := Lib.hid hT
  clear hT
  go_wp2_with fail
  refine HCS.out.mono ?_; rintro e w4 ⟨rfl, hp4, t4⟩
  have c4 : w4.cell? ⟨c.g, 1, none⟩ = some (.slice (some ⟨c.gr, 0, none⟩) c.r c.r) := by
    rw [t4.cell (p := ⟨c.g, 1, none⟩) hb3 ?_]
    · exact HG3.out.is.c1
    · rintro (e | e)
      · exact HpIs.rowIs_ne HG3.out.is.blk HG3.out.is.hp.blk (by decide) e
      · exact HpIs.rowIs_ne HG3.out.is.blk HG3.out.is.hp.words (by decide) e
  have hb4 : c.g < w4.heap.size := Nat.lt_of_lt_of_le hb3 t4.size
  have hrow4 : Hid (w4.rowIs c.gr 33 c.r (fun i => .int .u64 (M.ren (M.tof S mk L) (rv i) : Nat))) := by
    refine ((HG3.out.is.roots.of_block (t4.block _ HG3.out.is.roots.lt ?_))).congr fun i hi => ?_
    · rintro (e | e)
      · exact HpIs.rowIs_ne HG3.out.is.hp.blk HG3.out.is.roots (by decide) e.symm
      · exact HG3.out.is.ne e
    · show Value.int .u64 ((m2 (S.n + i) : Nat) : Int) = _
      rw [HR3.out i hi]
  have HP4 := Lib.hid hp4
  have HT4 : Hid (Turn (fun b => b = S.g ∨ b = S.gw) w w4) := by
    have u1 : Turn (fun b => (b = S.g ∨ b = S.gw) ∨ b = c.gr) w w1 := HT1.out.mono fun k _ e => .inl e
    have u2 : Turn (fun b => (b = S.g ∨ b = S.gw) ∨ b = c.gr) w1 w2 := HT2.out.mono fun k _ e => e.elim (fun e => .inl (.inr e)) .inr
    have u3 : Turn (fun b => (b = S.g ∨ b = S.gw) ∨ b = c.gr) w2 w3 := HT3.out.mono fun k _ e => e.elim (fun e => .inl (.inr e)) .inr
    have u4 : Turn (fun b => (b = S.g ∨ b = S.gw) ∨ b = c.gr) w3 w4 := t4.mono fun k _ e => .inl e
    exact (((u1.trans u2).trans u3).trans u4).mono fun k hk e => e.elim id fun e => by omega
  clear hp4 t4 HCS
  go_wp2_with fail
  go_ret2
  refine ⟨.inr ⟨HFT.out, c.gr, mk, m2, rfl, hcgr, HCL.out.1, HCL.out.2.1, fun i hi he => ?_, ?_, ?_, hrow4.out⟩, HT4.out⟩
  · have := HCL.out.2.2 i hi
    rw [HMM.out] at this
    exact this he
  · rw [HTT.out]; exact HP4.out
  · exact HL3.out
end Go.Proofs.Ythfkgkddklnnhaa
/- The contract of what gc's look does to each object that is marked. -/
namespace Go.Proofs.Ythfkgkddklnnhaa
set_option linter.unusedVariables false
open Go.ChangeShapes Go.WideShapes Go.ChangeAt Go.RowKit
open M (W)
set_option maxRecDepth 100000 in
set_option maxHeartbeats 1000000 in
theorem look1_any (s : St) (c : Cl) (m : Nat → Nat) (bx bt : Nat) (o : RO) (to v u : Nat) (fid : FuncId) (hfid : ∀ args W, (callFunc fid args).run Try.prog W = .ok (.enter fid args) W) (caps : Array Value) (Q : World → Prop) (w : World) (h : GcIs w s c m) (hb : Boxed w bx c) (ht : Blk w bt 111 #[.func (.func fid) #[] caps]) (hbt : bt ≠ s.gw ∧ bt ≠ c.gr) (hat : o.at_ < s.n) (hv : (v : Int) = M.hdOf o true 0) (hu : (u : Int) = M.hdOf o false 0)
    (htell : ∀ W, GcIs W s c (M.upd m o.at_ u) → GcTurn s c w W → Calls Try.prog fid (#[.int .i64 o.at_] ++ caps) W fun e w' => e = .returned (.tuple #[]) ∧ Q w') :
    Calls Try.prog 92 #[.int .i64 o.at_, .int .i64 to, .int .u64 v, .pointer (some ⟨bx, 0, none⟩), .pointer (some ⟨bt, 0, none⟩)] w fun e w' => e = .returned (.tuple #[]) ∧ Q w' := by
  have hn := h.n_le
  have hMK := fun W => mark_hd o.sh o.n (if true then 1 else 0) (0 : Nat) false 0 rfl W
  change ∀ W, Calls _ _ #[.int .u64 (M.hdOf o true 0), _] W fun e w' => e = .returned (.int .u64 (M.hdOf o false 0)) ∧ _ at hMK
  have hul : u < 18446744073709551616 := by have h1 : M.hdOf o false 0 < 18446744073709551616 := M.hd_hi ..; omega
  rw [← hv, ← hu] at hMK
  have HMK := Lib.hid hMK
  have HH := Lib.hid h
  have HUL := Lib.hid hul
  have HTL := Lib.hid htell
  have HFID := Lib.hid hfid
  obtain ⟨a, ha⟩ : ∃ a, o.at_ = a := ⟨_, rfl⟩
  rw [ha] at hat HTL ⊢
  have HGD : Hid (GcIs (w.drew) s c m) := h.still (Turn.drew (Still.refl w) : Still w w.drew)
  have HBD : Hid (Boxed (w.drew) bx c) := hb.still (Turn.drew (Still.refl w) : Still w w.drew)
  have HBT : Hid (Blk w.drew bt 111 #[.func (.func fid) #[] caps]) := Still.blk (Turn.drew (Still.refl w) : Still w w.drew) ht
  have cb : (w.drew).cell? ⟨bx, 0, none⟩ = some (.pointer (some ⟨c.g, 0, none⟩)) := HBD.out.c
  have hbl : bx < (w.drew).heap.size := Blk.lt HBD.out
  have c0 : (w.drew).cell? ⟨c.g, 0, none⟩ = some (.pointer (some ⟨s.g, 0, none⟩)) := HGD.out.c0
  have hcg : c.g < (w.drew).heap.size := HGD.out.g_lt
  have HTD : Hid (GcTurn s c w w.drew) := Still.turn (Turn.drew (Still.refl w) : Still w w.drew)
  clear h hb hMK hu hul hv ha htell ht hfid
  go_enter Try.func92, Try.ntmps92
  go_wp2_with fail
  refine wp_region_still_tail 7 (by kernel_rfl) (by kernel_rfl) ?_
  simp only [List.take_succ_cons, List.take_zero, List.drop_succ_cons, List.drop_zero]
  change wpStill _ _ w.drew (fun a' => wpList _ _ _ _ a' w.drew) _ _
  repeat still_step
  still_call (HMK.out w.drew)
  refine wpStill_nil ?_
  go_wp2_with fail
  refine (HGD.out.store hat HUL.out).mono ?_; rintro e w1 ⟨rfl, h1, t1⟩
  have HG1 := Lib.hid h1
  have HT1 := Lib.hid (HTD.out.trans t1)
  have hbt1 : Blk w1 bt 111 #[.func (.func fid) #[] caps] := Blk.keep HBT.out t1 (fun e => e.elim hbt.1 hbt.2)
  have cbt : w1.cell? ⟨bt, 0, none⟩ = some (.func (.func fid) #[] caps) := Blk.cell hbt1 0
  have hlt1 : bt < w1.heap.size := Blk.lt hbt1
  have HCL := Lib.hid (HTL.out w1 HG1.out HT1.out)
  clear h1 t1 cb hbl c0 hcg hbt1
  have hfid := HFID.out
  go_wp2_with fail
  refine HCL.out.mono ?_; rintro e w2 ⟨rfl, hq⟩
  have HQ := Lib.hid hq
  clear hq hfid
  go_wp2_with fail
  first | go_end0 | refine bodyPost_ret (results_none rfl _ _ _) rfl ?_
  exact ⟨rfl, HQ.out⟩
end Go.Proofs.Ythfkgkddklnnhaa
