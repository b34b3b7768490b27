/- Lemmas, put together: RefAlloc RefAlloc2 Sim SimOps. -/
import Derived.Test.YthfkgkddklnnhaaK06
import Derived.Test.YthfkgkddklnnhaaK04
/- The document's own Alloc of layer 2. -/
namespace Go.Proofs.Ythfkgkddklnnhaa
set_option linter.unusedVariables false
open Go.ChangeShapes Go.WideShapes Go.ChangeAt Go.RowKit
open M (W)

theorem infoB : (Try.prog.info? 5).map (fun i => (i.zero, i.size, i.bytes)) = some (some (.int .u8 0), 1, 1) := by kernel_rfl
theorem infoO : (Try.prog.info? 73).map (fun i => (i.zero, i.size, i.bytes)) = some (some (.agg #[.int .i64 0, .int .i64 0, .int .i64 0, .slice none 0 0, .slice none 0 0]), 5, 72) := by kernel_rfl
theorem Rf.E_any {B : Nat} (x : Rf) (sh n : Int) (w : World) (h : RfIs B w x) (hv : ∀ j, j < x.len → x.K j = 1 ∨ x.K j = 2 ∨ x.K j = 3) (W : World) (t : Still w W) :
    Calls Try.prog 33 #[x.ptr, .int .i64 sh, .int .i64 n] W fun e w' => e = .returned (.tuple #[.int .i64 (M.need (M.kd x.len x.K sh) (M.kd x.len x.N sh) n), .int .i64 (M.needE (M.kd x.len x.K sh) (M.kd x.len x.N sh) n)]) ∧ w' = W :=
  refNeed_any x.gx x.a x.len x.cap x.K x.N W sh n (by rw [t.cell (p := ⟨x.gx, 1, none⟩) h.blk.lt]; exact h.c1) (h.lays.still t) hv
theorem refAlloc_err {B : Nat} (x : Rf) (sh n : Int) (w : World) (h : RfIs B w x) (hv : ∀ j, j < x.len → x.K j = 1 ∨ x.K j = 2 ∨ x.K j = 3) (he : M.needE (M.kd x.len x.K sh) (M.kd x.len x.N sh) n ≠ 0) :
    Calls Try.prog 55 #[x.ptr, .int .i64 sh, .int .i64 n] w fun e w' => e = .returned (.tuple #[.int .i64 0, .int .i64 (M.needE (M.kd x.len x.K sh) (M.kd x.len x.N sh) n)]) ∧ Still w w' := by
  have HN := Rf.E_any x sh n w h hv w (Still.refl w)
  have hz : ((M.needE (M.kd x.len x.K sh) (M.kd x.len x.N sh) n : Int) != 0) = true := by simpa using he
  clear h he
  generalize M.needE (M.kd x.len x.K sh) (M.kd x.len x.N sh) n = E at *
  generalize M.need (M.kd x.len x.K sh) (M.kd x.len x.N sh) n = D at *
  go_enter Try.func55, Try.ntmps55
  go_wp2_with fail
  refine HN.mono ?_; rintro e w ⟨rfl, rfl⟩
  go_wp2_with fail
  go_ret2
  exact ⟨rfl, Still.refl _⟩
theorem refAlloc_full {B : Nat} (x : Rf) (sh n : Int) (w : World) (h : RfIs B w x) (hv : ∀ j, j < x.len → x.K j = 1 ∨ x.K j = 2 ∨ x.K j = 3) (he : M.needE (M.kd x.len x.K sh) (M.kd x.len x.N sh) n = 0) (hx : x.n ≤ 65536)
    (hf : (x.n : Int) - x.sum x.L < M.need (M.kd x.len x.K sh) (M.kd x.len x.N sh) n) :
    Calls Try.prog 55 #[x.ptr, .int .i64 sh, .int .i64 n] w fun e w' => e = .returned (.tuple #[.int .i64 0, .int .i64 3]) ∧ Still w w' := by
  have HN := Rf.E_any x sh n w h hv w (Still.refl w)
  have HT := refTop_any x w h hv
  obtain ⟨sb0, sb1⟩ := x.sum_bd x.L
  have hfew := h.few
  have hb1 : x.sum x.L ≤ 65537000 := by omega
  obtain ⟨nb0, nb1⟩ := M.need_bd (M.kd x.len x.K sh) (M.kd x.len x.N sh) n
  have HH := Lib.hid h
  have hg := h.blk.lt
  rw [he] at HN
  clear h he sb1 hfew
  generalize M.need (M.kd x.len x.K sh) (M.kd x.len x.N sh) n = D at *
  generalize x.sum x.L = T at *
  go_enter Try.func55, Try.ntmps55
  go_wp2_with fail
  refine HN.mono ?_; rintro e w ⟨rfl, rfl⟩
  go_wp2_with fail
  refine HT.mono ?_; rintro e w1 ⟨rfl, t1⟩
  have c0 : w1.cell? ⟨x.gx, 0, none⟩ = some (.int .i64 x.n) := (HH.out.still t1).c0
  have HT1 := Lib.hid t1; clear t1
  go_wp2_with fail
  go_ret2
  exact ⟨rfl, HT1.out⟩

theorem own_blk {w : World} {base : Nat} {e t : TypeId} {size g n : Nat} {v : Value} {xs : List Value} {cs : Array Value} (h : w.ownsRow base e size v n xs) (hr : Blk w g t cs) (hne : e ≠ t) : v.ownBlock ≠ some g := by
  rcases h.2 with ⟨rfl, _⟩ | ⟨g', cap, cur, rfl, _, hg, _⟩
  · simp [Value.ownBlock]
  · intro he
    have : g' = g := by simpa [Value.ownBlock] using he
    subst this
    unfold Blk at hr
    rw [hr] at hg; injection hg with hg; injection hg with _ e'; exact hne e'.symm
theorem Still.own {w W W' : World} (h : Still w W) (t : Turn (fun k => w.heap.size ≤ k) W W') : Still w W' :=
  ((Still.turn h).trans t).mono fun k hk e => absurd e (Nat.not_le.2 hk)
/-- What turns is a row of the call's own: nothing that was there. -/
theorem Turn.below_only {w wr W W' : World} {e : TypeId} {size n : Nat} {v : Value} {xs : List Value} (t : Turn (fun k => v.ownBlock = some k) W W') (hown : wr.ownsRow w.heap.size e size v n xs) (hle : w.heap.size ≤ wr.heap.size) : Turn (fun k => w.heap.size ≤ k) W W' :=
  t.mono fun k _ hk => (hown.lt k hk).1
theorem RfIs.lv_slice {B : Nat} {w : World} {x : Rf} (h : RfIs B w x) : ∃ a c, x.lv = .slice a x.L.length c := by
  rcases h.lv_form with ⟨h1, h2⟩ | ⟨g, cap, h1, _⟩
  · exact ⟨none, 0, by rw [h1, h2]; rfl⟩
  · exact ⟨some ⟨g, 0, none⟩, cap, h1⟩
theorem own_base {w : World} {B B' : Nat} {e : TypeId} {size n : Nat} {v : Value} {xs : List Value} (h : w.ownsRow B' e size v n xs) (hB : B ≤ B') : w.ownsRow B e size v n xs := by
  obtain ⟨h1, h2⟩ := h
  refine ⟨h1, ?_⟩
  rcases h2 with h0 | ⟨g, cap, cur, rfl, hb, r⟩
  · exact .inl h0
  · exact .inr ⟨g, cap, cur, rfl, Nat.le_trans hB hb, r⟩
theorem Rf.more_cells (L : List RO) (o : RO) : (L ++ [o]).flatMap RO.cells = L.flatMap RO.cells ++ o.cells := by simp
def Rf.more (x : Rf) (lv : Value) (o : RO) : Rf := { x with lv := lv, L := x.L ++ [o] }
theorem RfIs.more {B : Nat} {w W W4 : World} {x : Rf} {o : RO} {g cap : Nat} (h : RfIs B w x) (hW : Still w W) (ho : o.row W w.heap.size)
    (hrow : W4.ownsRow B 73 5 (.slice (some ⟨g, 0, none⟩) (x.L.length + 1) cap) (x.L.length + 1) (x.L.flatMap RO.cells ++ o.cells)) (t4 : Turn (fun k => x.lv.ownBlock = some k) W W4) (hl : x.L.length < 1000) :
    RfIs B (W4.setCell ⟨x.gx, 2, none⟩ (.slice (some ⟨g, 0, none⟩) (x.L.length + 1) cap)) (x.more (.slice (some ⟨g, 0, none⟩) (x.L.length + 1) cap) o) ∧
      Turn (fun k => k = x.gx ∨ x.lv.ownBlock = some k) w (W4.setCell ⟨x.gx, 2, none⟩ (.slice (some ⟨g, 0, none⟩) (x.L.length + 1) cap)) := by
  have hgx := h.blk.lt
  have nlx : x.lv.ownBlock ≠ some x.gx := own_type h.row h.blk (by decide)
  have hblk4 : W4.rowIs x.gx 39 3 x.cell := (h.still hW).blk.of_block (t4.block _ (h.still hW).blk.lt nlx)
  have T : Turn (fun k => k = x.gx ∨ x.lv.ownBlock = some k) w (W4.setCell ⟨x.gx, 2, none⟩ (.slice (some ⟨g, 0, none⟩) (x.L.length + 1) cap)) :=
    ((Still.turn hW).trans (t4.mono fun k _ e => .inr e)).setCell (fun _ => .inl rfl) _
  have T4 : Turn (fun k => k = x.gx) W4 (W4.setCell ⟨x.gx, 2, none⟩ (.slice (some ⟨g, 0, none⟩) (x.L.length + 1) cap)) := (Turn.refl (fun k => k = x.gx) W4).setCell (fun _ => rfl) _
  have hBl : ∀ k, x.lv.ownBlock = some k → B ≤ k := fun k hk => (h.row.lt k hk).1
  refine ⟨⟨h.base, Nat.le_trans h.le T.size, (hblk4.set 2 _).congr fun i hi => ?_, ?_, h.old, ?_, ?_, ?_, ?_⟩, T⟩
  · unfold Rf.cell Rf.more
    by_cases e : i = 2
    · subst e; simp
    · rw [if_neg e]
      have : i = 0 ∨ i = 1 := by omega
      rcases this with rfl | rfl <;> simp
  · exact ⟨fun hl => by
      obtain ⟨b, off, e, hb, hc⟩ := h.lays.at_ hl
      have hbB := h.old b off e hl
      refine ⟨b, off, e, Nat.lt_of_lt_of_le hb T.size, fun j hj => ?_⟩
      have hn : ¬ (b = x.gx ∨ x.lv.ownBlock = some b) := by
        rintro (e | e)
        · have := h.base; omega
        · have := hBl b e; omega
      exact ⟨by rw [T.cell (p := ⟨b, _, none⟩) hb hn]; exact (hc j hj).1, by rw [T.cell (p := ⟨b, _, none⟩) hb hn]; exact (hc j hj).2⟩⟩
  · unfold Rf.more
    simp only [List.length_append, List.length_cons, List.length_nil, Nat.zero_add]
    rw [Rf.more_cells]
    exact own_keep hrow T4 fun k hk e => own_type hrow hblk4 (by decide) (by rw [hk, e])
  · intro p hp
    have key : ∀ p : RO, p.row W B → p.row (W4.setCell ⟨x.gx, 2, none⟩ (.slice (some ⟨g, 0, none⟩) (x.L.length + 1) cap)) B := by
      intro p hp
      have r1 : W4.ownsRow B _ 1 p.fv _ _ := own_keep hp.1 t4 fun k hk e => by
        rcases own_types hp.1 (h.still hW).row (by decide) with e1 | e1
        · rw [hk] at e1; simp at e1
        · exact e1 (hk.trans e.symm)
      have r2 : W4.ownsRow B _ 1 p.bv _ _ := own_keep hp.2 t4 fun k hk e => by
        rcases own_types hp.2 (h.still hW).row (by decide) with e1 | e1
        · rw [hk] at e1; simp at e1
        · exact e1 (hk.trans e.symm)
      exact ⟨own_keep r1 T4 fun k hk e => own_type r1 hblk4 (by decide) (by rw [hk, e]), own_keep r2 T4 fun k hk e => own_type r2 hblk4 (by decide) (by rw [hk, e])⟩
    unfold Rf.more at hp
    rcases List.mem_append.1 hp with hp | hp
    · exact key p ((h.still hW).rows p hp)
    · obtain rfl : p = o := by simpa using hp
      exact key p ⟨own_base ho.1 h.le, own_base ho.2 h.le⟩
  · unfold Rf.more
    simp only [List.map_append, List.map_cons, List.map_nil]
    rw [List.pairwise_append]
    refine ⟨h.apart, List.pairwise_singleton _ _, fun p hp q hq => ?_⟩
    obtain ⟨p', hp', rfl⟩ := List.mem_map.1 hp
    obtain rfl : q = o.blocks := by simpa using hq
    have hr := h.rows p' hp'
    constructor
    · cases hb : p'.fv.ownBlock with
      | none => left; simp [RO.blocks, hb]
      | some k =>
        right
        simp only [RO.blocks]
        intro e
        rw [hb] at e
        have := (hr.1.lt k hb).2
        have := (ho.1.lt k e.symm).1
        omega
    · cases hb : p'.bv.ownBlock with
      | none => left; simp [RO.blocks, hb]
      | some k =>
        right
        simp only [RO.blocks]
        intro e
        rw [hb] at e
        have := (hr.2.lt k hb).2
        have := (ho.2.lt k e.symm).1
        omega
  · unfold Rf.more; simp; omega
theorem new5 {W : World} {t : TypeId} (o : RO) : ∀ (j : Nat) u, o.cells[j]? = some u → (W.alloc (.cells #[.int .i64 o.at_, .int .i64 o.sh, .int .i64 o.n, o.fv, o.bv] t)).drew.cell? ((⟨W.heap.size, 0, none⟩ : Addr).add j) = some u := by
  intro j u hj
  rw [Addr.add_lit, Nat.zero_add]
  show (W.alloc (.cells #[.int .i64 o.at_, .int .i64 o.sh, .int .i64 o.n, o.fv, o.bv] t)).cell? _ = _
  rw [(Blk.new W t #[.int .i64 o.at_, .int .i64 o.sh, .int .i64 o.n, o.fv, o.bv]).cell j]
  simpa [RO.cells] using hj
theorem cells_one (o : RO) : ∀ u ∈ o.cells, u.oneCell' = true := by
  intro u hu
  simp [RO.cells] at hu
  rcases hu with rfl | rfl | rfl | rfl | rfl <;> rfl

/-- What Alloc makes: an object more, with these fields and bytes. -/
def RMade (B : Nat) (x : Rf) (k n : Nat) (fs bs : List Nat) (w w' : World) : Prop :=
  ∃ lv o, RfIs B w' (x.more lv o) ∧ (o.at_ : Int) = x.sum x.L ∧ o.sh = k ∧ o.n = n ∧ o.fs = fs ∧ o.bs = bs ∧ Turn (fun b => b = x.gx ∨ x.lv.ownBlock = some b) w w' ∧ (∀ b, o.fv.ownBlock = some b ∨ o.bv.ownBlock = some b → w.heap.size ≤ b)

set_option maxRecDepth 100000 in
set_option maxHeartbeats 4000000 in
theorem refAlloc_b {B : Nat} (x : Rf) (k n D : Nat) (w : World) (h : RfIs B w x) (hv : ∀ j, j < x.len → x.K j = 1 ∨ x.K j = 2 ∨ x.K j = 3) (hk : k < x.len) (hkind : x.K k = 3) (hn : n ≤ 65536)
    (he : M.needE (M.kd x.len x.K k) (M.kd x.len x.N k) n = 0) (hD : M.need (M.kd x.len x.K k) (M.kd x.len x.N k) n = D) (hx : x.n ≤ 65536) (hf : (D : Int) ≤ x.n - x.sum x.L) (hfew : x.L.length < 1000) :
    Calls Try.prog 55 #[x.ptr, .int .i64 k, .int .i64 n] w fun e w' => e = .returned (.tuple #[.int .i64 (x.sum x.L), .int .i64 0]) ∧
      RMade B x k n [] (List.replicate n 0) w w' := by
  have HN := Rf.E_any x k n w h hv w (Still.refl w)
  have HT := refTop_any x w h hv
  obtain ⟨sb0, sb1⟩ := x.sum_bd x.L
  have hb1 : x.sum x.L ≤ 65537000 := by omega
  obtain ⟨nb0, nb1⟩ := M.need_bd (M.kd x.len x.K k) (M.kd x.len x.N k) n
  rw [hD] at HN nb0 nb1
  rw [he] at HN
  obtain ⟨la, lc, hlv⟩ := h.lv_slice
  have HLV := Lib.hid hlv
  have HH := Lib.hid h
  have HFEW := Lib.hid hfew
  have HKIND := Lib.hid hkind
  have hg := h.blk.lt
  clear h he sb1 hfew hD hlv hkind
  obtain ⟨T, hT⟩ := Int.eq_ofNat_of_zero_le sb0
  rw [hT] at HT hb1 hf sb0 ⊢
  have HTT := Lib.hid hT
  clear hT
  go_enter Try.func55, Try.ntmps55
  go_wp2_with fail
  refine HN.mono ?_; rintro e w ⟨rfl, rfl⟩
  go_wp2_with fail
  refine HT.mono ?_; rintro e w1 ⟨rfl, t1⟩
  have c0 : w1.cell? ⟨x.gx, 0, none⟩ = some (.int .i64 x.n) := (HH.out.still t1).c0
  have HT1 := Lib.hid t1; clear t1
  go_wp2_with fail
  go_loopw [12] (fun v wr => ∃ (i : Nat) (ba : Option Addr) (bc : Nat), v = .int .i64 i ∧ i ≤ n ∧ Still w wr ∧ Blk wr w1.heap.size 73 #[.int .i64 T, .int .i64 k, .int .i64 n, .slice none 0 0, .slice ba i bc] ∧ wr.ownsRow w.heap.size 5 1 (.slice ba i bc) i (List.replicate i (.int .u8 0))) (fun v _ => n - (intOf v).toNat)
  case atStart => exact ⟨0, none, 0, rfl, by omega, HT1.out.alloc _, Blk.new _ _ _, World.ownsRow_nil _ _ _ _⟩
  case round =>
    obtain ⟨i, ba, bc, rfl, hi, ht, hblk, hown⟩ := hrel
    have hwl : w.heap.size ≤ wr.heap.size := ht.size
    have hbl := hblk.lt
    have c2 : wr.cell? ⟨x.gx, 2, none⟩ = some (.slice la x.L.length lc) := by rw [(HH.out.still ht).c2, HLV.out]
    have c1 : wr.cell? ⟨x.gx, 1, none⟩ = some (.slice x.a x.len x.cap) := (HH.out.still ht).c1
    have hgw : x.gx < wr.heap.size := (HH.out.still ht).blk.lt
    have hgf : wr.frozen? ⟨x.gx, 2, none⟩ = false := (HH.out.still ht).blk.frozen 2
    have d0 : wr.cell? ⟨w1.heap.size, 0, none⟩ = some (.int .i64 T) := hblk.cell 0
    have d1 : wr.cell? ⟨w1.heap.size, 1, none⟩ = some (.int .i64 k) := hblk.cell 1
    have d2 : wr.cell? ⟨w1.heap.size, 2, none⟩ = some (.int .i64 n) := hblk.cell 2
    have d3 : wr.cell? ⟨w1.heap.size, 3, none⟩ = some (.slice none 0 0) := hblk.cell 3
    have d4 : wr.cell? ⟨w1.heap.size, 4, none⟩ = some (.slice ba i bc) := hblk.cell 4
    have HO := Lib.hid hown
    have HB := Lib.hid hblk
    have HW := Lib.hid ht
    by_cases hlt : i < n
    · obtain ⟨lb, off, hla, hlb, hlc⟩ := (HH.out.still ht).lays.at_ (by omega)
      obtain ⟨k0, _⟩ := hlc k hk
      rw [HKIND.out] at k0
      rw [hla] at c1
      clear hlc hown hblk ht hla c2 d0 d1 d2 d3
      go_wp2_with (first
        | (at_builtin; refine wpList_append_form rfl (.tmp 52) (.tmp 53) 71 rfl w.heap.size 5 1 1 (.int .u8 0) Try.underlying71 infoB rfl (by decide) ba i bc _ rfl (HO.out.alloc _) ⟨wr.heap.size, 0, none⟩ 1 1 [.int .u8 0] rfl rfl (cell_one_new _ _ _) (by simp [Value.oneCell']) (by decide) (by unfold maxLen; omega) (by omega) (by simp; omega) ?_; intro g' c' w2 hown2 ht2 hnew2; have hb2 := (HB.out.alloc (.cells #[.int .u8 0] 5)).keep ht2.out (own_blk HO.out HB.out (by decide)); have f4 := hb2.cell 4; have f4f := hb2.frozen 4; simp only [List.getElem?_toArray, List.getElem?_cons_succ, List.getElem?_cons_zero] at f4; have HB2 := Lib.hid hb2; clear hb2))
      go_roundw
      case rel =>
        have hsz : w.heap.size ≤ w2.heap.size := Nat.le_trans hwl (Nat.le_trans (by simp) ht2.out.size)
        refine ⟨i + 1, some ⟨g', 0, none⟩, c', by go_num, by omega, ?_, ?_, ?_⟩
        · refine Turn.setCell (Still.own (HW.out.alloc _) (ht2.out.below_only HO.out hwl)) (fun e => ?_) _
          have := HT1.out.size
          exact absurd e (by simp; omega)
        · have := HB2.out.set 4 (.slice (some ⟨g', 0, none⟩) (i + 1) c')
          simpa using this
        · rw [List.replicate_succ']
          exact own_keep (S := fun k => k = w1.heap.size) hown2.out ((Turn.refl (fun k => k = w1.heap.size) w2).setCell (fun _ => rfl) _) (fun k hk e => own_blk hown2.out HB2.out (by decide) (by rw [hk, e]))
      case measure => simp [intOf]; omega
    · obtain rfl : i = n := by omega
      have HROW := Lib.hid (show wr.ownsRow B 73 5 (.slice la x.L.length lc) x.L.length (x.L.flatMap RO.cells) by rw [← HLV.out]; exact (HH.out.still ht).row)
      obtain ⟨o, ho⟩ : ∃ o : RO, o = ⟨T, k, i, [], List.replicate i 0, none, 0, ba, bc⟩ := ⟨_, rfl⟩
      have hbv : o.bv = .slice ba i bc := by rw [ho]; simp [RO.bv]
      have hcells : o.cells = [.int .i64 T, .int .i64 k, .int .i64 i, .slice none 0 0, .slice ba i bc] := by rw [ho]; simp [RO.cells, RO.bv, RO.fv]
      have hrow : o.row wr w.heap.size := by
        refine ⟨?_, ?_⟩
        · rw [ho]; exact World.ownsRow_nil _ _ _ _
        · rw [hbv]
          have e1 : o.bs.length = i := by rw [ho]; simp
          have e2 : (o.bs.map fun v : Nat => Value.int .u8 (v : Int)) = List.replicate i (.int .u8 0) := by rw [ho]; simp
          rw [e1, e2]; exact hown
      have HC := Lib.hid hcells
      have HR := Lib.hid hrow
      have HO2 := Lib.hid ho
      have hsrc : Hid (∀ (j : Nat) u, o.cells[j]? = some u → (wr.alloc (.cells #[.int .i64 T, .int .i64 k, .int .i64 i, .slice none 0 0, .slice ba i bc] 73)).drew.cell? ((⟨wr.heap.size, 0, none⟩ : Addr).add j) = some u) := by
        have := new5 (W := wr) (t := 73) o
        rw [show o.at_ = T by rw [ho], show o.sh = k by rw [ho], show o.n = i by rw [ho], show o.fv = .slice none 0 0 by rw [ho]; rfl, hbv] at this
        exact this
      have hone : Hid (∀ u ∈ o.cells, u.oneCell' = true) := cells_one o
      have hlen : Hid (o.cells.length = 1 * 5) := by simp [Hid, RO.cells]
      have NLX := Lib.hid (own_type HROW.out (HH.out.still ht).blk (by decide))
      have HC2 := Lib.hid c2
      clear hcells hrow ho hbv hown hblk ht
      go_wp2_with fail
      go_region_law (refine step_append_form rfl (.tmp 65) (.tmp 67) 37 rfl B 73 5 72 _ Try.underlying37 infoO rfl (by decide) la x.L.length lc _ (by simp [Act.eval]) (HROW.out.alloc _).drew ⟨wr.heap.size, 0, none⟩ 1 1 o.cells (by simp [Act.eval]) hlen.out hsrc.out hone.out (by decide) (by have := HFEW.out; unfold maxLen; omega) (by have := HFEW.out; omega) (by have := HH.out.le; simp; omega) ?_; intro g' c' w4 hr4 ht4 hn4; have q2 : w4.cell? ⟨x.gx, 2, none⟩ = some (.slice la x.L.length lc) := (ht4.out.cell (p := ⟨x.gx, 2, none⟩) (by simp; omega) NLX.out).trans ((World.cell?_alloc_lt wr _ ⟨x.gx, 2, none⟩ hgw).trans HC2.out); have q2f : w4.frozen? ⟨x.gx, 2, none⟩ = false := (ht4.out.frozen (p := ⟨x.gx, 2, none⟩) (by simp; omega) NLX.out).trans ((HH.out.still (HW.out.alloc _)).blk.frozen 2))
      all_goals
        go_wp2_with fail
        go_ret2
        have ht5 : Turn (fun k => x.lv.ownBlock = some k) wr w4 := by rw [HLV.out]; exact ((Still.turn ((Still.refl wr).alloc _)).drew).trans ht4.out
        obtain ⟨r1, r2⟩ := HH.out.more HW.out HR.out hr4.out ht5 HFEW.out
        refine ⟨rfl, _, o, r1, ?_, ?_, ?_, ?_, ?_, r2, ?_⟩
        · rw [HO2.out, HTT.out]
        · rw [HO2.out]
        · rw [HO2.out]
        · rw [HO2.out]
        · rw [HO2.out]
        · intro b hb
          rcases hb with hb | hb
          · exact (HR.out.1.lt b hb).1
          · exact (HR.out.2.lt b hb).1
end Go.Proofs.Ythfkgkddklnnhaa
/- The document's own Alloc of layer 2, of fields and elements. -/
namespace Go.Proofs.Ythfkgkddklnnhaa
set_option linter.unusedVariables false
open Go.ChangeShapes Go.WideShapes Go.ChangeAt Go.RowKit
open M (W)

set_option maxRecDepth 100000 in
set_option maxHeartbeats 4000000 in
theorem refAlloc_f {B : Nat} (x : Rf) (k n D : Nat) (w : World) (h : RfIs B w x) (hv : ∀ j, j < x.len → x.K j = 1 ∨ x.K j = 2 ∨ x.K j = 3) (hk : k < x.len) (hkind : x.K k ≠ 3) (hn : n ≤ 65536)
    (he : M.needE (M.kd x.len x.K k) (M.kd x.len x.N k) n = 0) (hD : M.need (M.kd x.len x.K k) (M.kd x.len x.N k) n = D) (hx : x.n ≤ 65536) (hf : (D : Int) ≤ x.n - x.sum x.L) (hfew : x.L.length < 1000) :
    Calls Try.prog 55 #[x.ptr, .int .i64 k, .int .i64 n] w fun e w' => e = .returned (.tuple #[.int .i64 (x.sum x.L), .int .i64 0]) ∧
      RMade B x k n (List.replicate n 1) [] w w' := by
  have HN := Rf.E_any x k n w h hv w (Still.refl w)
  have HT := refTop_any x w h hv
  obtain ⟨sb0, sb1⟩ := x.sum_bd x.L
  have hb1 : x.sum x.L ≤ 65537000 := by omega
  obtain ⟨nb0, nb1⟩ := M.need_bd (M.kd x.len x.K k) (M.kd x.len x.N k) n
  rw [hD] at HN nb0 nb1
  rw [he] at HN
  obtain ⟨la, lc, hlv⟩ := h.lv_slice
  have HLV := Lib.hid hlv
  have HH := Lib.hid h
  have HFEW := Lib.hid hfew
  obtain ⟨KK, hKK⟩ : ∃ KK, KK = x.K k := ⟨_, rfl⟩
  have hz : ((KK : Int) == 3) = false := by rw [hKK]; simpa using hkind
  have HKIND := Lib.hid hKK.symm
  have hg := h.blk.lt
  clear h he sb1 hfew hD hlv hkind hKK
  obtain ⟨T, hT⟩ := Int.eq_ofNat_of_zero_le sb0
  rw [hT] at HT hb1 hf sb0 ⊢
  have HTT := Lib.hid hT
  clear hT
  go_enter Try.func55, Try.ntmps55
  go_wp2_with fail
  refine HN.mono ?_; rintro e w ⟨rfl, rfl⟩
  go_wp2_with fail
  refine HT.mono ?_; rintro e w1 ⟨rfl, t1⟩
  have c0 : w1.cell? ⟨x.gx, 0, none⟩ = some (.int .i64 x.n) := (HH.out.still t1).c0
  have HT1 := Lib.hid t1; clear t1
  go_wp2_with fail
  go_loopw [12] (fun v wr => ∃ (i : Nat) (ba : Option Addr) (bc : Nat), v = .int .i64 i ∧ i ≤ n ∧ Still w wr ∧ Blk wr w1.heap.size 73 #[.int .i64 T, .int .i64 k, .int .i64 n, .slice ba i bc, .slice none 0 0] ∧ wr.ownsRow w.heap.size 33 1 (.slice ba i bc) i (List.replicate i (.int .u64 1))) (fun v _ => n - (intOf v).toNat)
  case atStart => exact ⟨0, none, 0, rfl, by omega, HT1.out.alloc _, Blk.new _ _ _, World.ownsRow_nil _ _ _ _⟩
  case round =>
    obtain ⟨i, ba, bc, rfl, hi, ht, hblk, hown⟩ := hrel
    have hwl : w.heap.size ≤ wr.heap.size := ht.size
    have hbl := hblk.lt
    have c2 : wr.cell? ⟨x.gx, 2, none⟩ = some (.slice la x.L.length lc) := by rw [(HH.out.still ht).c2, HLV.out]
    have c1 : wr.cell? ⟨x.gx, 1, none⟩ = some (.slice x.a x.len x.cap) := (HH.out.still ht).c1
    have hgw : x.gx < wr.heap.size := (HH.out.still ht).blk.lt
    have hgf : wr.frozen? ⟨x.gx, 2, none⟩ = false := (HH.out.still ht).blk.frozen 2
    have d0 : wr.cell? ⟨w1.heap.size, 0, none⟩ = some (.int .i64 T) := hblk.cell 0
    have d1 : wr.cell? ⟨w1.heap.size, 1, none⟩ = some (.int .i64 k) := hblk.cell 1
    have d2 : wr.cell? ⟨w1.heap.size, 2, none⟩ = some (.int .i64 n) := hblk.cell 2
    have d3 : wr.cell? ⟨w1.heap.size, 3, none⟩ = some (.slice ba i bc) := hblk.cell 3
    have d4 : wr.cell? ⟨w1.heap.size, 4, none⟩ = some (.slice none 0 0) := hblk.cell 4
    have HO := Lib.hid hown
    have HB := Lib.hid hblk
    have HW := Lib.hid ht
    by_cases hlt : i < n
    · obtain ⟨lb, off, hla, hlb, hlc⟩ := (HH.out.still ht).lays.at_ (by omega)
      obtain ⟨k0, _⟩ := hlc k hk
      rw [HKIND.out] at k0
      rw [hla] at c1
      clear hlc hown hblk ht hla c2 d0 d1 d2 d4
      go_wp2_with (first
        | (at_builtin; refine wpList_append_form rfl (.tmp 57) (.tmp 58) 24 rfl w.heap.size 33 1 8 (.int .u64 0) Try.underlying24 infoW rfl (by decide) ba i bc _ rfl (HO.out.alloc _) ⟨wr.heap.size, 0, none⟩ 1 1 [.int .u64 1] rfl rfl (cell_one_new _ _ _) (by simp [Value.oneCell']) (by decide) (by unfold maxLen; omega) (by omega) (by simp; omega) ?_; intro g' c' w2 hown2 ht2 hnew2; have hb2 := (HB.out.alloc (.cells #[.int .u64 1] 33)).keep ht2.out (own_blk HO.out HB.out (by decide)); have f4 := hb2.cell 3; have f4f := hb2.frozen 3; simp only [List.getElem?_toArray, List.getElem?_cons_succ, List.getElem?_cons_zero] at f4; have HB2 := Lib.hid hb2; clear hb2))
      go_roundw
      case rel =>
        have hsz : w.heap.size ≤ w2.heap.size := Nat.le_trans hwl (Nat.le_trans (by simp) ht2.out.size)
        refine ⟨i + 1, some ⟨g', 0, none⟩, c', by go_num, by omega, ?_, ?_, ?_⟩
        · refine Turn.setCell (Still.own (HW.out.alloc _) (ht2.out.below_only HO.out hwl)) (fun e => ?_) _
          have := HT1.out.size
          exact absurd e (by simp; omega)
        · have := HB2.out.set 3 (.slice (some ⟨g', 0, none⟩) (i + 1) c')
          simpa using this
        · rw [List.replicate_succ']
          exact own_keep (S := fun k => k = w1.heap.size) hown2.out ((Turn.refl (fun k => k = w1.heap.size) w2).setCell (fun _ => rfl) _) (fun k hk e => own_blk hown2.out HB2.out (by decide) (by rw [hk, e]))
      case measure => simp [intOf]; omega
    · obtain rfl : i = n := by omega
      have HROW := Lib.hid (show wr.ownsRow B 73 5 (.slice la x.L.length lc) x.L.length (x.L.flatMap RO.cells) by rw [← HLV.out]; exact (HH.out.still ht).row)
      obtain ⟨o, ho⟩ : ∃ o : RO, o = ⟨T, k, i, List.replicate i 1, [], ba, bc, none, 0⟩ := ⟨_, rfl⟩
      have hbv : o.fv = .slice ba i bc := by rw [ho]; simp [RO.fv]
      have hcells : o.cells = [.int .i64 T, .int .i64 k, .int .i64 i, .slice ba i bc, .slice none 0 0] := by rw [ho]; simp [RO.cells, RO.bv, RO.fv]
      have hrow : o.row wr w.heap.size := by
        refine ⟨?_, ?_⟩
        · rw [hbv]
          have e1 : o.fs.length = i := by rw [ho]; simp
          have e2 : (o.fs.map fun v : Nat => Value.int .u64 (v : Int)) = List.replicate i (.int .u64 1) := by rw [ho]; simp
          rw [e1, e2]; exact hown
        · rw [ho]; exact World.ownsRow_nil _ _ _ _
      have HC := Lib.hid hcells
      have HR := Lib.hid hrow
      have HO2 := Lib.hid ho
      have hsrc : Hid (∀ (j : Nat) u, o.cells[j]? = some u → (wr.alloc (.cells #[.int .i64 T, .int .i64 k, .int .i64 i, .slice ba i bc, .slice none 0 0] 73)).drew.cell? ((⟨wr.heap.size, 0, none⟩ : Addr).add j) = some u) := by
        have := new5 (W := wr) (t := 73) o
        rw [show o.at_ = T by rw [ho], show o.sh = k by rw [ho], show o.n = i by rw [ho], hbv, show o.bv = .slice none 0 0 by rw [ho]; rfl] at this
        exact this
      have hone : Hid (∀ u ∈ o.cells, u.oneCell' = true) := cells_one o
      have hlen : Hid (o.cells.length = 1 * 5) := by simp [Hid, RO.cells]
      have NLX := Lib.hid (own_type HROW.out (HH.out.still ht).blk (by decide))
      have HC2 := Lib.hid c2
      clear hcells hrow ho hbv hown hblk ht
      go_wp2_with fail
      go_region_law (refine step_append_form rfl (.tmp 65) (.tmp 67) 37 rfl B 73 5 72 _ Try.underlying37 infoO rfl (by decide) la x.L.length lc _ (by simp [Act.eval]) (HROW.out.alloc _).drew ⟨wr.heap.size, 0, none⟩ 1 1 o.cells (by simp [Act.eval]) hlen.out hsrc.out hone.out (by decide) (by have := HFEW.out; unfold maxLen; omega) (by have := HFEW.out; omega) (by have := HH.out.le; simp; omega) ?_; intro g' c' w4 hr4 ht4 hn4; have q2 : w4.cell? ⟨x.gx, 2, none⟩ = some (.slice la x.L.length lc) := (ht4.out.cell (p := ⟨x.gx, 2, none⟩) (by simp; omega) NLX.out).trans ((World.cell?_alloc_lt wr _ ⟨x.gx, 2, none⟩ hgw).trans HC2.out); have q2f : w4.frozen? ⟨x.gx, 2, none⟩ = false := (ht4.out.frozen (p := ⟨x.gx, 2, none⟩) (by simp; omega) NLX.out).trans ((HH.out.still (HW.out.alloc _)).blk.frozen 2))
      all_goals
        go_wp2_with fail
        go_ret2
        have ht5 : Turn (fun k => x.lv.ownBlock = some k) wr w4 := by rw [HLV.out]; exact ((Still.turn ((Still.refl wr).alloc _)).drew).trans ht4.out
        obtain ⟨r1, r2⟩ := HH.out.more HW.out HR.out hr4.out ht5 HFEW.out
        refine ⟨rfl, _, o, r1, ?_, ?_, ?_, ?_, ?_, r2, ?_⟩
        · rw [HO2.out, HTT.out]
        · rw [HO2.out]
        · rw [HO2.out]
        · rw [HO2.out]
        · rw [HO2.out]
        · intro b hb
          rcases hb with hb | hb
          · exact (HR.out.1.lt b hb).1
          · exact (HR.out.2.lt b hb).1
end Go.Proofs.Ythfkgkddklnnhaa
/- The heap's words and the document's list of objects: what they say of one another. Plain facts. -/
namespace Go.Proofs.Ythfkgkddklnnhaa
set_option linter.unusedVariables false
open Go.ChangeShapes Go.WideShapes Go.ChangeAt Go.RowKit
open M (W)

/-- How many words an object takes. -/
def St.sz (s : St) (o : RO) : Nat := (s.need o.sh o.n).toNat
def Tile (s : St) : Nat → List RO → Prop
  | p, [] => p = s.top
  | p, o :: L => o.at_ = p ∧ Tile s (p + s.sz o) L
/-- The word number j of bytes. -/
def M.wordOf (bs : List Nat) (j : Nat) : Nat :=
  bs.getD (j * 8) 0 + 256 * (bs.getD (j * 8 + 1) 0 + 256 * (bs.getD (j * 8 + 2) 0 + 256 * (bs.getD (j * 8 + 3) 0 + 256 * (bs.getD (j * 8 + 4) 0 + 256 * (bs.getD (j * 8 + 5) 0 + 256 * (bs.getD (j * 8 + 6) 0 + 256 * bs.getD (j * 8 + 7) 0))))))
structure Good (s : St) (o : RO) : Prop where
  e : s.needE o.sh o.n = 0
  hd : s.ws o.at_ = (M.hd o.sh o.n 0 0).toNat
  f : s.kind o.sh ≠ 3 → o.bs = [] ∧ o.fs.length = o.n ∧ ∀ i, i < o.n → s.ws (o.at_ + 1 + i) = o.fs.getD i 0
  b : s.kind o.sh = 3 → o.fs = [] ∧ o.bs.length = o.n ∧ ∀ j, j < (o.n + 7) / 8 → s.ws (o.at_ + 1 + j) = M.wordOf o.bs j
  fl : ∀ v ∈ o.fs, v < 18446744073709551616
  bl : ∀ v ∈ o.bs, v < 256
structure Sim (s : St) (L : List RO) : Prop where
  tile : Tile s 0 L
  good : ∀ o ∈ L, Good s o
  heads : ∀ k : Int, s.is k = L.any fun p => decide ((p.at_ : Int) = k)
  zero : ∀ i, s.top ≤ i → s.ws i = 0

theorem Good.kd {s : St} {o : RO} (h : Good s o) : s.kind o.sh ≠ 0 ∧ o.n ≤ 65536 ∧ (o.sh : Int) < s.m ∧ s.need o.sh o.n = (if s.kind o.sh = 3 then 1 + ((o.n : Int) + 7) / 8 else 1 + o.n) := by
  have he := h.e
  have hk : s.kind o.sh ≠ 0 := by
    intro h0
    unfold St.needE M.needE at he
    rw [if_pos (.inl h0)] at he; omega
  have hm : (o.sh : Int) < s.m := by
    unfold St.kind at hk
    by_cases hc : 0 ≤ (o.sh : Int) ∧ (o.sh : Int) < s.m
    · exact hc.2
    · rw [if_neg hc] at hk; exact absurd rfl hk
  unfold St.needE at he
  unfold St.need
  generalize s.kind o.sh = K at *
  generalize s.len o.sh = N at *
  unfold M.needE at he
  unfold M.need
  by_cases c1 : K = 0 ∨ (o.n : Int) < 0 ∨ (K = 1 ∧ (o.n : Int) ≠ N)
  · rw [if_pos c1] at he; omega
  · rw [if_neg c1] at he ⊢
    by_cases c2 : 65536 < (o.n : Int)
    · rw [if_pos c2] at he; omega
    · rw [if_neg c2]
      exact ⟨hk, by omega, hm, rfl⟩
theorem Good.sz {s : St} {o : RO} (h : Good s o) : s.sz o = (if s.kind o.sh = 3 then 1 + (o.n + 7) / 8 else 1 + o.n) ∧ (s.need o.sh o.n) = (s.sz o : Int) ∧ 1 ≤ s.sz o := by
  have h4 := h.kd.2.2.2
  unfold St.sz
  rw [h4]
  split <;> omega
theorem Tile.get {s : St} : ∀ {L : List RO} {p k : Nat} {o : RO}, Tile s p L → L[k]? = some o → p ≤ o.at_ ∧ o.at_ + s.sz o ≤ s.top
  | [], _, _, _, _, h => by simp at h
  | a :: L, p, 0, o, h, hk => by
    obtain ⟨h1, h2⟩ := h
    simp at hk; subst hk
    have : ∀ (L : List RO) q, Tile s q L → q ≤ s.top := by
      intro L
      induction L with
      | nil => intro q h; exact Nat.le_of_eq h
      | cons b L ih => intro q h; have := ih _ h.2; omega
    have := this L _ h2
    omega
  | a :: L, p, k + 1, o, h, hk => by
    obtain ⟨h1, h2⟩ := h
    have := Tile.get h2 (k := k) (by simpa using hk)
    omega
theorem Tile.order {s : St} : ∀ {L : List RO} {p j k : Nat} {o q : RO}, Tile s p L → j < k → L[j]? = some o → L[k]? = some q → o.at_ + s.sz o ≤ q.at_
  | [], _, _, _, _, _, _, _, h, _ => by simp at h
  | a :: L, p, 0, k + 1, o, q, h, hjk, hj, hk => by
    obtain ⟨h1, h2⟩ := h
    simp at hj; subst hj
    have := Tile.get h2 (k := k) (by simpa using hk)
    omega
  | a :: L, p, j + 1, k + 1, o, q, h, hjk, hj, hk => Tile.order h.2 (by omega : j < k) (by simpa using hj) (by simpa using hk)
  | a :: L, p, _, 0, o, q, h, hjk, hj, hk => by omega
theorem Sim.apart {s : St} {L : List RO} (h : Sim s L) {j k : Nat} {p o : RO} (hj : L[j]? = some p) (hk : L[k]? = some o) (hjk : j ≠ k) : p.at_ + s.sz p ≤ o.at_ ∨ o.at_ + s.sz o ≤ p.at_ := by
  rcases Nat.lt_or_gt_of_ne hjk with h1 | h1
  · exact .inl (h.tile.order h1 hj hk)
  · exact .inr (h.tile.order h1 hk hj)
theorem Sim.uniq {s : St} {L : List RO} (h : Sim s L) {k : Nat} {o : RO} (hk : L[k]? = some o) : ∀ (j : Nat) p, j < k → L[j]? = some p → (p.at_ : Int) ≠ o.at_ := by
  intro j p hj hp e
  have h1 := h.tile.order hj hp hk
  have h2 := (h.good p (List.mem_of_getElem? hp)).sz.2.2
  omega
/-- An object of the list stands in the heap. -/
theorem Sim.obAt {s : St} {L : List RO} {w : World} (h : Sim s L) (hp : HpIs w s) {o : RO} (ho : o ∈ L) : ObAt s o.at_ ⟨o.sh, s.kind o.sh, o.n, s.need o.sh o.n⟩ := by
  obtain ⟨k, hk⟩ := List.mem_iff_getElem?.1 ho
  have hg := h.good o ho
  have ht := (h.tile.get hk).2
  obtain ⟨k0, k1, k2, k3⟩ := hg.kd
  obtain ⟨z1, z2, z3⟩ := hg.sz
  have hm := hp.m_le
  have htl := hp.top_le
  have hx : ((s.ws o.at_ : Nat) : Int) = M.hd o.sh o.n 0 0 := by rw [hg.hd]; exact Int.toNat_of_nonneg (M.hd_lo ..)
  have e1 : M.sh (s.ws o.at_ : Int) = o.sh := by unfold M.sh; rw [hx, M.hd_shape]; omega
  have e2 : M.ln (s.ws o.at_ : Int) = o.n := by unfold M.ln; rw [hx, M.hd_len]; omega
  have hob : s.ob (s.ws o.at_) = ⟨o.sh, s.kind o.sh, o.n, s.need o.sh o.n⟩ := by unfold St.ob; rw [e1, e2]
  refine ⟨?_, by omega, ?_, hob⟩
  · rw [h.heads, List.any_eq_true]
    exact ⟨o, ho, by simp⟩
  · unfold St.reads St.obE
    rw [hob, e1, e2, hg.e]
    simp only [decide_true, Bool.true_and, decide_eq_true_eq]
    rw [z2]; omega
theorem Sim.has {s : St} {x : Rf} (h : Sim s x.L) (k : Int) : x.has k = s.is k := by rw [h.heads]; rfl
theorem Tile.sum {s : St} {x : Rf} (hE : ∀ o ∈ x.L, x.need o = s.sz o) : ∀ (L : List RO) (p : Nat), (∀ o ∈ L, o ∈ x.L) → Tile s p L → (p : Int) + x.sum L = s.top
  | [], p, _, h => by rw [x.sum_nil, show p = s.top from h]; omega
  | o :: L, p, hL, h => by
    obtain ⟨h1, h2⟩ := h
    have := Tile.sum hE L _ (fun q hq => hL q (List.mem_cons_of_mem _ hq)) h2
    rw [x.sum_cons, hE o (hL o (List.mem_cons_self))]
    omega
end Go.Proofs.Ythfkgkddklnnhaa
/- What a set field, a set byte, a new object do to the two views of a heap. Plain facts. -/
namespace Go.Proofs.Ythfkgkddklnnhaa
set_option linter.unusedVariables false
open Go.ChangeShapes Go.WideShapes Go.ChangeAt Go.RowKit
open M (W)

theorem Tile.same {s s' : St} (ht : s'.top = s.top) (hz : ∀ o, s'.sz o = s.sz o) : ∀ {L : List RO} {p : Nat}, Tile s p L → Tile s' p L
  | [], p, h => (show p = s.top from h).trans ht.symm
  | o :: L, p, h => ⟨h.1, by rw [hz]; exact Tile.same ht hz h.2⟩
theorem Tile.set {s : St} {o o' : RO} (ha : o'.at_ = o.at_) (hz : s.sz o' = s.sz o) : ∀ {L : List RO} {p k : Nat}, Tile s p L → L[k]? = some o → Tile s p (L.set k o')
  | [], p, k, h, hk => by simp at hk
  | a :: L, p, 0, h, hk => by
    simp at hk; subst hk
    exact ⟨ha.trans h.1, by rw [hz]; exact h.2⟩
  | a :: L, p, k + 1, h, hk => ⟨h.1, Tile.set ha hz h.2 (by simpa using hk)⟩
theorem any_set {f : RO → Bool} {o o' : RO} (he : f o' = f o) : ∀ {L : List RO} {k : Nat}, L[k]? = some o → (L.set k o').any f = L.any f
  | [], k, h => by simp at h
  | a :: L, 0, h => by simp at h; subst h; simp [he]
  | a :: L, k + 1, h => by simp only [List.set_cons_succ, List.any_cons]; rw [any_set he (by simpa using h)]
theorem Good.keep {s s' : St} {o : RO} (h : Good s o) (hm : s'.m = s.m) (hk : s'.lk = s.lk) (hn : s'.ln = s.ln) (hw : ∀ i, o.at_ ≤ i → i < o.at_ + s.sz o → s'.ws i = s.ws i) : Good s' o := by
  have z := h.sz
  have ek : ∀ i, s'.kind i = s.kind i := fun i => by unfold St.kind; rw [hm, hk]
  have el : ∀ i, s'.len i = s.len i := fun i => by unfold St.len; rw [hm, hn]
  refine ⟨?_, ?_, fun hk3 => ?_, fun hk3 => ?_, h.fl, h.bl⟩
  · unfold St.needE; rw [ek, el]; exact h.e
  · rw [hw _ (Nat.le_refl _) (by omega)]; exact h.hd
  · rw [ek] at hk3
    obtain ⟨h1, h2, h3⟩ := h.f hk3
    rw [if_neg hk3] at z
    exact ⟨h1, h2, fun i hi => by rw [hw _ (by omega) (by omega)]; exact h3 i hi⟩
  · rw [ek] at hk3
    obtain ⟨h1, h2, h3⟩ := h.b hk3
    rw [if_pos hk3] at z
    exact ⟨h1, h2, fun i hi => by rw [hw _ (by omega) (by omega)]; exact h3 i hi⟩
theorem Sim.put {s : St} {L : List RO} (h : Sim s L) {k p v : Nat} {o o' : RO} (hk : L[k]? = some o) (h1 : o.at_ < p) (h2 : p < o.at_ + s.sz o) (ha : o'.at_ = o.at_) (hs : o'.sh = o.sh) (hn : o'.n = o.n) (hg : Good (s.put p v) o') : Sim (s.put p v) (L.set k o') := by
  have hz : s.sz o' = s.sz o := by unfold St.sz; rw [hs, hn]
  refine ⟨Tile.same (s := s) (s' := s.put p v) rfl (fun _ => rfl) (h.tile.set ha hz hk), ?_, ?_, ?_⟩
  · intro q hq
    rcases mem_set hq with rfl | ⟨j, hjk, hj⟩
    · exact hg
    · have hgq := h.good q (List.mem_of_getElem? hj)
      refine hgq.keep rfl rfl rfl fun i i1 i2 => ?_
      have := h.apart hj hk hjk
      show (if i = p then v else s.ws i) = s.ws i
      rw [if_neg (by omega)]
  · intro i
    rw [any_set (f := fun p => decide ((p.at_ : Int) = i)) (by simp [ha]) hk]
    exact h.heads i
  · intro i hi
    have := (h.tile.get hk).2
    show (if i = p then v else s.ws i) = 0
    rw [if_neg (by have : s.top ≤ i := hi; omega)]
    exact h.zero i hi
theorem getD_set (l : List Nat) (i j v : Nat) (hi : i < l.length) : (l.set i v).getD j 0 = if j = i then v else l.getD j 0 := by
  simp only [List.getD_eq_getElem?_getD, List.getElem?_set]
  by_cases e : i = j
  · subst e; simp [hi]
  · rw [if_neg e, if_neg (fun h => e h.symm)]
theorem Sim.setF {s : St} {L : List RO} (h : Sim s L) {k i v : Nat} {o : RO} (hk : L[k]? = some o) (hi : i < o.fs.length) (hv : v < 18446744073709551616) : Sim (s.put (o.at_ + 1 + i) v) (L.set k { o with fs := o.fs.set i v }) := by
  have hg := h.good o (List.mem_of_getElem? hk)
  have hk3 : s.kind o.sh ≠ 3 := fun e => by have := (hg.b e).1; rw [this] at hi; simp at hi
  obtain ⟨f1, f2, f3⟩ := hg.f hk3
  have z := hg.sz
  rw [if_neg hk3] at z
  refine h.put hk (by omega) (by omega) rfl rfl rfl ⟨hg.e, ?_, fun _ => ⟨f1, by simpa using f2, fun j hj => ?_⟩, fun e => absurd e hk3, ?_, hg.bl⟩
  · show (if o.at_ = o.at_ + 1 + i then v else s.ws o.at_) = _
    rw [if_neg (by omega)]; exact hg.hd
  · show (if o.at_ + 1 + j = o.at_ + 1 + i then v else s.ws (o.at_ + 1 + j)) = (o.fs.set i v).getD j 0
    rw [getD_set _ _ _ _ hi]
    by_cases e : j = i
    · rw [if_pos (by omega), if_pos e]
    · rw [if_neg (by omega), if_neg e]; exact f3 j hj
  · intro u hu
    rcases List.mem_or_eq_of_mem_set hu with h1 | h1
    · exact hg.fl u h1
    · rw [h1]; exact hv
theorem setByte_word (b0 b1 b2 b3 b4 b5 b6 b7 : Nat) (h0 : b0 < 256) (h1 : b1 < 256) (h2 : b2 < 256) (h3 : b3 < 256) (h4 : b4 < 256) (h5 : b5 < 256) (h6 : b6 < 256) (h7 : b7 < 256) (c : Nat) (hc : c < 256) (t : Nat) (ht : t < 8) :
    M.setByteOf (b0 + 256 * (b1 + 256 * (b2 + 256 * (b3 + 256 * (b4 + 256 * (b5 + 256 * (b6 + 256 * b7))))))) t c =
      (if t = 0 then c else b0) + 256 * ((if t = 1 then c else b1) + 256 * ((if t = 2 then c else b2) + 256 * ((if t = 3 then c else b3) + 256 * ((if t = 4 then c else b4) + 256 * ((if t = 5 then c else b5) + 256 * ((if t = 6 then c else b6) + 256 * (if t = 7 then c else b7))))))) := by
  unfold M.setByteOf
  obtain rfl | rfl | rfl | rfl | rfl | rfl | rfl | rfl : t = 0 ∨ t = 1 ∨ t = 2 ∨ t = 3 ∨ t = 4 ∨ t = 5 ∨ t = 6 ∨ t = 7 := by omega
  all_goals simp only [Nat.reduceMul, Nat.reducePow, Nat.zero_mul, Nat.pow_zero, Nat.reduceEqDiff, if_true, if_false]; omega
theorem byte_word (b0 b1 b2 b3 b4 b5 b6 b7 : Nat) (h0 : b0 < 256) (h1 : b1 < 256) (h2 : b2 < 256) (h3 : b3 < 256) (h4 : b4 < 256) (h5 : b5 < 256) (h6 : b6 < 256) (h7 : b7 < 256) (t : Nat) (ht : t < 8) :
    M.byteOf (b0 + 256 * (b1 + 256 * (b2 + 256 * (b3 + 256 * (b4 + 256 * (b5 + 256 * (b6 + 256 * b7))))))) t =
      if t = 0 then b0 else if t = 1 then b1 else if t = 2 then b2 else if t = 3 then b3 else if t = 4 then b4 else if t = 5 then b5 else if t = 6 then b6 else b7 := by
  unfold M.byteOf
  obtain rfl | rfl | rfl | rfl | rfl | rfl | rfl | rfl : t = 0 ∨ t = 1 ∨ t = 2 ∨ t = 3 ∨ t = 4 ∨ t = 5 ∨ t = 6 ∨ t = 7 := by omega
  all_goals simp only [Nat.reduceMul, Nat.reducePow, Nat.zero_mul, Nat.pow_zero, Nat.reduceEqDiff, if_true, if_false]; omega
theorem getD_lt {bs : List Nat} (h : ∀ v ∈ bs, v < 256) (i : Nat) : bs.getD i 0 < 256 := by
  rw [List.getD_eq_getElem?_getD]
  cases hb : bs[i]? with
  | none => simp
  | some v => exact h v (List.mem_of_getElem? hb)
theorem wordOf_set (bs : List Nat) (hb : ∀ v ∈ bs, v < 256) (i c j : Nat) (hi : i < bs.length) (hc : c < 256) : M.wordOf (bs.set i c) j = if j = i / 8 then M.setByteOf (M.wordOf bs j) (i % 8) c else M.wordOf bs j := by
  have hl := fun t => getD_lt hb t
  unfold M.wordOf
  by_cases e : j = i / 8
  · rw [if_pos e, setByte_word _ _ _ _ _ _ _ _ (hl _) (hl _) (hl _) (hl _) (hl _) (hl _) (hl _) (hl _) c hc (i % 8) (by omega)]
    simp only [getD_set _ _ _ _ hi]
    have q : ∀ t, t < 8 → ((j * 8 + t = i) ↔ (i % 8 = t)) := fun t ht => by omega
    have q0 : (j * 8 = i) ↔ (i % 8 = 0) := by omega
    simp only [q 1 (by decide), q 2 (by decide), q 3 (by decide), q 4 (by decide), q 5 (by decide), q 6 (by decide), q 7 (by decide), q0]
  · rw [if_neg e]
    simp only [getD_set _ _ _ _ hi]
    rw [if_neg (by omega), if_neg (by omega), if_neg (by omega), if_neg (by omega), if_neg (by omega), if_neg (by omega), if_neg (by omega), if_neg (by omega)]
theorem Sim.setB {s : St} {L : List RO} (h : Sim s L) {k i c : Nat} {o : RO} (hk : L[k]? = some o) (hi : i < o.bs.length) (hc : c < 256) : Sim (s.put (o.at_ + 1 + i / 8) (M.setByteOf (s.ws (o.at_ + 1 + i / 8)) (i % 8) c)) (L.set k { o with bs := o.bs.set i c }) := by
  have hg := h.good o (List.mem_of_getElem? hk)
  have hk3 : s.kind o.sh = 3 := by
    rcases Decidable.em (s.kind o.sh = 3) with e | e
    · exact e
    · have := (hg.f e).1; rw [this] at hi; simp at hi
  obtain ⟨f1, f2, f3⟩ := hg.b hk3
  have z := hg.sz
  rw [if_pos hk3] at z
  refine h.put hk (by omega) (by omega) rfl rfl rfl ⟨hg.e, ?_, fun e => absurd hk3 e, fun _ => ⟨f1, by simpa using f2, fun j hj => ?_⟩, hg.fl, ?_⟩
  · show (if o.at_ = o.at_ + 1 + i / 8 then _ else s.ws o.at_) = _
    rw [if_neg (by omega)]; exact hg.hd
  · have hj' : j < (o.n + 7) / 8 := hj
    show (if o.at_ + 1 + j = o.at_ + 1 + i / 8 then _ else s.ws (o.at_ + 1 + j)) = M.wordOf (o.bs.set i c) j
    rw [wordOf_set _ hg.bl _ _ _ hi hc]
    by_cases e : j = i / 8
    · rw [if_pos (by omega), if_pos e, ← e, f3 j hj']
    · rw [if_neg (by omega), if_neg e]; exact f3 j hj'
  · intro u hu
    rcases List.mem_or_eq_of_mem_set hu with h1 | h1
    · exact hg.bl u h1
    · rw [h1]; exact hc
theorem Tile.snoc {s s' : St} {o : RO} (hz : ∀ o, s'.sz o = s.sz o) (ht : s'.top = s.top + s.sz o) (ha : o.at_ = s.top) : ∀ {L : List RO} {p : Nat}, Tile s p L → Tile s' p (L ++ [o])
  | [], p, h => ⟨ha.trans (show p = s.top from h).symm, by show p + s'.sz o = s'.top; rw [hz, ht, show p = s.top from h]⟩
  | a :: L, p, h => ⟨h.1, by rw [hz]; exact Tile.snoc hz ht ha h.2⟩
theorem Sim.more {s : St} {L : List RO} (h : Sim s L) {D x z : Nat} {o : RO} (ha : o.at_ = s.top) (hD : D = s.sz o) (hg : Good (s.more D x z) o) (ht : s.top < 65536) : Sim (s.more D x z) (L ++ [o]) := by
  subst hD
  refine ⟨Tile.snoc (s := s) (s' := s.more (s.sz o) x z) (fun _ => rfl) rfl ha h.tile, ?_, ?_, ?_⟩
  · intro q hq
    rcases List.mem_append.1 hq with hq | hq
    · obtain ⟨k, hk⟩ := List.mem_iff_getElem?.1 hq
      have := (h.tile.get hk).2
      refine (h.good q hq).keep rfl rfl rfl fun i i1 i2 => ?_
      show (if i = s.top then x else if s.top < i ∧ i < s.top + s.sz o then z else s.ws i) = s.ws i
      rw [if_neg (by omega), if_neg (by omega)]
    · obtain rfl : q = o := by simpa using hq
      exact hg
  · intro k
    rw [List.any_append]
    show M.inSet (M.putIn s.hx s.top) k = _
    rw [M.putIn_in _ _ ht, ← h.heads k]
    simp only [List.any_cons, List.any_nil, Bool.or_false]
    rw [Bool.or_comm, ha]
    have : decide (k = (s.top : Int)) = decide ((s.top : Int) = k) := by rw [decide_eq_decide]; exact eq_comm
    rw [this]; rfl
  · intro i hi
    have hi' : s.top + s.sz o ≤ i := hi
    show (if i = s.top then x else if s.top < i ∧ i < s.top + s.sz o then z else s.ws i) = 0
    have z1 := hg.sz.2.2
    have z2 : (s.more (s.sz o) x z).sz o = s.sz o := rfl
    rw [z2] at z1
    rw [if_neg (by omega), if_neg (by omega)]
    exact h.zero i (by omega)
end Go.Proofs.Ythfkgkddklnnhaa
