/- The document's own Alloc of layer 2. -/
import Derived.Test.YteanlncnhncpbaaRefOps2
import Derived.Test.YteanlncnhncpbaaAppend
namespace Go.Proofs.Yteanlncnhncpbaa
set_option linter.unusedVariables false
open Go.ChangeShapes Go.WideShapes Go.ChangeAt Go.RowKit
open M (W)

theorem infoB : (Try.prog.info? 5).map (fun i => (i.zero, i.size, i.bytes)) = some (some (.int .u8 0), 1, 1) := by kernel_rfl
theorem infoO : (Try.prog.info? 54).map (fun i => (i.zero, i.size, i.bytes)) = some (some (.agg #[.int .i64 0, .int .i64 0, .int .i64 0, .slice none 0 0, .slice none 0 0]), 5, 72) := by kernel_rfl
theorem Rf.E_any {B : Nat} (x : Rf) (sh n : Int) (w : World) (h : RfIs B w x) (hv : ∀ j, j < x.len → x.K j = 1 ∨ x.K j = 2 ∨ x.K j = 3) (W : World) (t : Still w W) :
    Calls Try.prog 38 #[x.ptr, .int .i64 sh, .int .i64 n] W fun e w' => e = .returned (.tuple #[.int .i64 (M.need (M.kd x.len x.K sh) (M.kd x.len x.N sh) n), .int .i64 (M.needE (M.kd x.len x.K sh) (M.kd x.len x.N sh) n)]) ∧ w' = W :=
  refNeed_any x.gx x.a x.len x.cap x.K x.N W sh n (by rw [t.cell (p := ⟨x.gx, 1, none⟩) h.blk.lt]; exact h.c1) (h.lays.still t) hv
theorem refAlloc_err {B : Nat} (x : Rf) (sh n : Int) (w : World) (h : RfIs B w x) (hv : ∀ j, j < x.len → x.K j = 1 ∨ x.K j = 2 ∨ x.K j = 3) (he : M.needE (M.kd x.len x.K sh) (M.kd x.len x.N sh) n ≠ 0) :
    Calls Try.prog 52 #[x.ptr, .int .i64 sh, .int .i64 n] w fun e w' => e = .returned (.tuple #[.int .i64 0, .int .i64 (M.needE (M.kd x.len x.K sh) (M.kd x.len x.N sh) n)]) ∧ Still w w' := by
  have HN := Rf.E_any x sh n w h hv w (Still.refl w)
  have hz : ((M.needE (M.kd x.len x.K sh) (M.kd x.len x.N sh) n : Int) != 0) = true := by simpa using he
  clear h he
  generalize M.needE (M.kd x.len x.K sh) (M.kd x.len x.N sh) n = E at *
  generalize M.need (M.kd x.len x.K sh) (M.kd x.len x.N sh) n = D at *
  go_enter Try.func52, Try.ntmps52
  go_wp2_with fail
  refine HN.mono ?_; rintro e w ⟨rfl, rfl⟩
  go_wp2_with fail
  go_ret2
  exact ⟨rfl, Still.refl _⟩
theorem refAlloc_full {B : Nat} (x : Rf) (sh n : Int) (w : World) (h : RfIs B w x) (hv : ∀ j, j < x.len → x.K j = 1 ∨ x.K j = 2 ∨ x.K j = 3) (he : M.needE (M.kd x.len x.K sh) (M.kd x.len x.N sh) n = 0) (hx : x.n ≤ 65536)
    (hf : (x.n : Int) - x.sum x.L < M.need (M.kd x.len x.K sh) (M.kd x.len x.N sh) n) :
    Calls Try.prog 52 #[x.ptr, .int .i64 sh, .int .i64 n] w fun e w' => e = .returned (.tuple #[.int .i64 0, .int .i64 3]) ∧ Still w w' := by
  have HN := Rf.E_any x sh n w h hv w (Still.refl w)
  have HT := refTop_any x w h hv
  obtain ⟨sb0, sb1⟩ := x.sum_bd x.L
  have hfew := h.few
  have hb1 : x.sum x.L ≤ 65537000 := by omega
  obtain ⟨nb0, nb1⟩ := M.need_bd (M.kd x.len x.K sh) (M.kd x.len x.N sh) n
  have HH := Lib.hid h
  have hg := h.blk.lt
  rw [he] at HN
  clear h he sb1 hfew
  generalize M.need (M.kd x.len x.K sh) (M.kd x.len x.N sh) n = D at *
  generalize x.sum x.L = T at *
  go_enter Try.func52, Try.ntmps52
  go_wp2_with fail
  refine HN.mono ?_; rintro e w ⟨rfl, rfl⟩
  go_wp2_with fail
  refine HT.mono ?_; rintro e w1 ⟨rfl, t1⟩
  have c0 : w1.cell? ⟨x.gx, 0, none⟩ = some (.int .i64 x.n) := (HH.out.still t1).c0
  have HT1 := Lib.hid t1; clear t1
  go_wp2_with fail
  go_ret2
  exact ⟨rfl, HT1.out⟩

theorem own_blk {w : World} {base : Nat} {e t : TypeId} {size g n : Nat} {v : Value} {xs : List Value} {cs : Array Value} (h : w.ownsRow base e size v n xs) (hr : Blk w g t cs) (hne : e ≠ t) : v.ownBlock ≠ some g := by
  rcases h.2 with ⟨rfl, _⟩ | ⟨g', cap, cur, rfl, _, hg, _⟩
  · simp [Value.ownBlock]
  · intro he
    have : g' = g := by simpa [Value.ownBlock] using he
    subst this
    unfold Blk at hr
    rw [hr] at hg; injection hg with hg; injection hg with _ e'; exact hne e'.symm
theorem Still.own {w W W' : World} (h : Still w W) (t : Turn (fun k => w.heap.size ≤ k) W W') : Still w W' :=
  ((Still.turn h).trans t).mono fun k hk e => absurd e (Nat.not_le.2 hk)
/-- What turns is a row of the call's own: nothing that was there. -/
theorem Turn.below_only {w wr W W' : World} {e : TypeId} {size n : Nat} {v : Value} {xs : List Value} (t : Turn (fun k => v.ownBlock = some k) W W') (hown : wr.ownsRow w.heap.size e size v n xs) (hle : w.heap.size ≤ wr.heap.size) : Turn (fun k => w.heap.size ≤ k) W W' :=
  t.mono fun k _ hk => (hown.lt k hk).1
theorem RfIs.lv_slice {B : Nat} {w : World} {x : Rf} (h : RfIs B w x) : ∃ a c, x.lv = .slice a x.L.length c := by
  rcases h.lv_form with ⟨h1, h2⟩ | ⟨g, cap, h1, _⟩
  · exact ⟨none, 0, by rw [h1, h2]; rfl⟩
  · exact ⟨some ⟨g, 0, none⟩, cap, h1⟩
theorem own_base {w : World} {B B' : Nat} {e : TypeId} {size n : Nat} {v : Value} {xs : List Value} (h : w.ownsRow B' e size v n xs) (hB : B ≤ B') : w.ownsRow B e size v n xs := by
  obtain ⟨h1, h2⟩ := h
  refine ⟨h1, ?_⟩
  rcases h2 with h0 | ⟨g, cap, cur, rfl, hb, r⟩
  · exact .inl h0
  · exact .inr ⟨g, cap, cur, rfl, Nat.le_trans hB hb, r⟩
theorem Rf.more_cells (L : List RO) (o : RO) : (L ++ [o]).flatMap RO.cells = L.flatMap RO.cells ++ o.cells := by simp
def Rf.more (x : Rf) (lv : Value) (o : RO) : Rf := { x with lv := lv, L := x.L ++ [o] }
theorem RfIs.more {B : Nat} {w W W4 : World} {x : Rf} {o : RO} {g cap : Nat} (h : RfIs B w x) (hW : Still w W) (ho : o.row W w.heap.size)
    (hrow : W4.ownsRow B 54 5 (.slice (some ⟨g, 0, none⟩) (x.L.length + 1) cap) (x.L.length + 1) (x.L.flatMap RO.cells ++ o.cells)) (t4 : Turn (fun k => x.lv.ownBlock = some k) W W4) (hl : x.L.length < 1000) :
    RfIs B (W4.setCell ⟨x.gx, 2, none⟩ (.slice (some ⟨g, 0, none⟩) (x.L.length + 1) cap)) (x.more (.slice (some ⟨g, 0, none⟩) (x.L.length + 1) cap) o) ∧
      Turn (fun k => k = x.gx ∨ x.lv.ownBlock = some k) w (W4.setCell ⟨x.gx, 2, none⟩ (.slice (some ⟨g, 0, none⟩) (x.L.length + 1) cap)) := by
  have hgx := h.blk.lt
  have nlx : x.lv.ownBlock ≠ some x.gx := own_type h.row h.blk (by decide)
  have hblk4 : W4.rowIs x.gx 46 3 x.cell := (h.still hW).blk.of_block (t4.block _ (h.still hW).blk.lt nlx)
  have T : Turn (fun k => k = x.gx ∨ x.lv.ownBlock = some k) w (W4.setCell ⟨x.gx, 2, none⟩ (.slice (some ⟨g, 0, none⟩) (x.L.length + 1) cap)) :=
    ((Still.turn hW).trans (t4.mono fun k _ e => .inr e)).setCell (fun _ => .inl rfl) _
  have T4 : Turn (fun k => k = x.gx) W4 (W4.setCell ⟨x.gx, 2, none⟩ (.slice (some ⟨g, 0, none⟩) (x.L.length + 1) cap)) := (Turn.refl (fun k => k = x.gx) W4).setCell (fun _ => rfl) _
  have hBl : ∀ k, x.lv.ownBlock = some k → B ≤ k := fun k hk => (h.row.lt k hk).1
  refine ⟨⟨h.base, Nat.le_trans h.le T.size, (hblk4.set 2 _).congr fun i hi => ?_, ?_, h.old, ?_, ?_, ?_, ?_⟩, T⟩
  · unfold Rf.cell Rf.more
    by_cases e : i = 2
    · subst e; simp
    · rw [if_neg e]
      have : i = 0 ∨ i = 1 := by omega
      rcases this with rfl | rfl <;> simp
  · exact ⟨fun hl => by
      obtain ⟨b, off, e, hb, hc⟩ := h.lays.at_ hl
      have hbB := h.old b off e hl
      refine ⟨b, off, e, Nat.lt_of_lt_of_le hb T.size, fun j hj => ?_⟩
      have hn : ¬ (b = x.gx ∨ x.lv.ownBlock = some b) := by
        rintro (e | e)
        · have := h.base; omega
        · have := hBl b e; omega
      exact ⟨by rw [T.cell (p := ⟨b, _, none⟩) hb hn]; exact (hc j hj).1, by rw [T.cell (p := ⟨b, _, none⟩) hb hn]; exact (hc j hj).2⟩⟩
  · unfold Rf.more
    simp only [List.length_append, List.length_cons, List.length_nil, Nat.zero_add]
    rw [Rf.more_cells]
    exact own_keep hrow T4 fun k hk e => own_type hrow hblk4 (by decide) (by rw [hk, e])
  · intro p hp
    have key : ∀ p : RO, p.row W B → p.row (W4.setCell ⟨x.gx, 2, none⟩ (.slice (some ⟨g, 0, none⟩) (x.L.length + 1) cap)) B := by
      intro p hp
      have r1 : W4.ownsRow B _ 1 p.fv _ _ := own_keep hp.1 t4 fun k hk e => by
        rcases own_types hp.1 (h.still hW).row (by decide) with e1 | e1
        · rw [hk] at e1; simp at e1
        · exact e1 (hk.trans e.symm)
      have r2 : W4.ownsRow B _ 1 p.bv _ _ := own_keep hp.2 t4 fun k hk e => by
        rcases own_types hp.2 (h.still hW).row (by decide) with e1 | e1
        · rw [hk] at e1; simp at e1
        · exact e1 (hk.trans e.symm)
      exact ⟨own_keep r1 T4 fun k hk e => own_type r1 hblk4 (by decide) (by rw [hk, e]), own_keep r2 T4 fun k hk e => own_type r2 hblk4 (by decide) (by rw [hk, e])⟩
    unfold Rf.more at hp
    rcases List.mem_append.1 hp with hp | hp
    · exact key p ((h.still hW).rows p hp)
    · obtain rfl : p = o := by simpa using hp
      exact key p ⟨own_base ho.1 h.le, own_base ho.2 h.le⟩
  · unfold Rf.more
    simp only [List.map_append, List.map_cons, List.map_nil]
    rw [List.pairwise_append]
    refine ⟨h.apart, List.pairwise_singleton _ _, fun p hp q hq => ?_⟩
    obtain ⟨p', hp', rfl⟩ := List.mem_map.1 hp
    obtain rfl : q = o.blocks := by simpa using hq
    have hr := h.rows p' hp'
    constructor
    · cases hb : p'.fv.ownBlock with
      | none => left; simp [RO.blocks, hb]
      | some k =>
        right
        simp only [RO.blocks]
        intro e
        rw [hb] at e
        have := (hr.1.lt k hb).2
        have := (ho.1.lt k e.symm).1
        omega
    · cases hb : p'.bv.ownBlock with
      | none => left; simp [RO.blocks, hb]
      | some k =>
        right
        simp only [RO.blocks]
        intro e
        rw [hb] at e
        have := (hr.2.lt k hb).2
        have := (ho.2.lt k e.symm).1
        omega
  · unfold Rf.more; simp; omega
theorem new5 {W : World} {t : TypeId} (o : RO) : ∀ (j : Nat) u, o.cells[j]? = some u → (W.alloc (.cells #[.int .i64 o.at_, .int .i64 o.sh, .int .i64 o.n, o.fv, o.bv] t)).drew.cell? ((⟨W.heap.size, 0, none⟩ : Addr).add j) = some u := by
  intro j u hj
  rw [Addr.add_lit, Nat.zero_add]
  show (W.alloc (.cells #[.int .i64 o.at_, .int .i64 o.sh, .int .i64 o.n, o.fv, o.bv] t)).cell? _ = _
  rw [(Blk.new W t #[.int .i64 o.at_, .int .i64 o.sh, .int .i64 o.n, o.fv, o.bv]).cell j]
  simpa [RO.cells] using hj
theorem cells_one (o : RO) : ∀ u ∈ o.cells, u.oneCell' = true := by
  intro u hu
  simp [RO.cells] at hu
  rcases hu with rfl | rfl | rfl | rfl | rfl <;> rfl

/-- What Alloc makes: an object more, with these fields and bytes. -/
def RMade (B : Nat) (x : Rf) (k n : Nat) (fs bs : List Nat) (w w' : World) : Prop :=
  ∃ lv o, RfIs B w' (x.more lv o) ∧ (o.at_ : Int) = x.sum x.L ∧ o.sh = k ∧ o.n = n ∧ o.fs = fs ∧ o.bs = bs ∧ Turn (fun b => b = x.gx ∨ x.lv.ownBlock = some b) w w' ∧ (∀ b, o.fv.ownBlock = some b ∨ o.bv.ownBlock = some b → w.heap.size ≤ b)

set_option maxRecDepth 100000 in
set_option maxHeartbeats 4000000 in
theorem refAlloc_b {B : Nat} (x : Rf) (k n D : Nat) (w : World) (h : RfIs B w x) (hv : ∀ j, j < x.len → x.K j = 1 ∨ x.K j = 2 ∨ x.K j = 3) (hk : k < x.len) (hkind : x.K k = 3) (hn : n ≤ 65536)
    (he : M.needE (M.kd x.len x.K k) (M.kd x.len x.N k) n = 0) (hD : M.need (M.kd x.len x.K k) (M.kd x.len x.N k) n = D) (hx : x.n ≤ 65536) (hf : (D : Int) ≤ x.n - x.sum x.L) (hfew : x.L.length < 1000) :
    Calls Try.prog 52 #[x.ptr, .int .i64 k, .int .i64 n] w fun e w' => e = .returned (.tuple #[.int .i64 (x.sum x.L), .int .i64 0]) ∧
      RMade B x k n [] (List.replicate n 0) w w' := by
  have HN := Rf.E_any x k n w h hv w (Still.refl w)
  have HT := refTop_any x w h hv
  obtain ⟨sb0, sb1⟩ := x.sum_bd x.L
  have hb1 : x.sum x.L ≤ 65537000 := by omega
  obtain ⟨nb0, nb1⟩ := M.need_bd (M.kd x.len x.K k) (M.kd x.len x.N k) n
  rw [hD] at HN nb0 nb1
  rw [he] at HN
  obtain ⟨la, lc, hlv⟩ := h.lv_slice
  have HLV := Lib.hid hlv
  have HH := Lib.hid h
  have HFEW := Lib.hid hfew
  have HKIND := Lib.hid hkind
  have hg := h.blk.lt
  clear h he sb1 hfew hD hlv hkind
  obtain ⟨T, hT⟩ := Int.eq_ofNat_of_zero_le sb0
  rw [hT] at HT hb1 hf sb0 ⊢
  have HTT := Lib.hid hT
  clear hT
  go_enter Try.func52, Try.ntmps52
  go_wp2_with fail
  refine HN.mono ?_; rintro e w ⟨rfl, rfl⟩
  go_wp2_with fail
  refine HT.mono ?_; rintro e w1 ⟨rfl, t1⟩
  have c0 : w1.cell? ⟨x.gx, 0, none⟩ = some (.int .i64 x.n) := (HH.out.still t1).c0
  have HT1 := Lib.hid t1; clear t1
  go_wp2_with fail
  go_loopw [12] (fun v wr => ∃ (i : Nat) (ba : Option Addr) (bc : Nat), v = .int .i64 i ∧ i ≤ n ∧ Still w wr ∧ Blk wr w1.heap.size 54 #[.int .i64 T, .int .i64 k, .int .i64 n, .slice none 0 0, .slice ba i bc] ∧ wr.ownsRow w.heap.size 5 1 (.slice ba i bc) i (List.replicate i (.int .u8 0))) (fun v _ => n - (intOf v).toNat)
  case atStart => exact ⟨0, none, 0, rfl, by omega, HT1.out.alloc _, Blk.new _ _ _, World.ownsRow_nil _ _ _ _⟩
  case round =>
    obtain ⟨i, ba, bc, rfl, hi, ht, hblk, hown⟩ := hrel
    have hwl : w.heap.size ≤ wr.heap.size := ht.size
    have hbl := hblk.lt
    have c2 : wr.cell? ⟨x.gx, 2, none⟩ = some (.slice la x.L.length lc) := by rw [(HH.out.still ht).c2, HLV.out]
    have c1 : wr.cell? ⟨x.gx, 1, none⟩ = some (.slice x.a x.len x.cap) := (HH.out.still ht).c1
    have hgw : x.gx < wr.heap.size := (HH.out.still ht).blk.lt
    have hgf : wr.frozen? ⟨x.gx, 2, none⟩ = false := (HH.out.still ht).blk.frozen 2
    have d0 : wr.cell? ⟨w1.heap.size, 0, none⟩ = some (.int .i64 T) := hblk.cell 0
    have d1 : wr.cell? ⟨w1.heap.size, 1, none⟩ = some (.int .i64 k) := hblk.cell 1
    have d2 : wr.cell? ⟨w1.heap.size, 2, none⟩ = some (.int .i64 n) := hblk.cell 2
    have d3 : wr.cell? ⟨w1.heap.size, 3, none⟩ = some (.slice none 0 0) := hblk.cell 3
    have d4 : wr.cell? ⟨w1.heap.size, 4, none⟩ = some (.slice ba i bc) := hblk.cell 4
    have HO := Lib.hid hown
    have HB := Lib.hid hblk
    have HW := Lib.hid ht
    by_cases hlt : i < n
    · obtain ⟨lb, off, hla, hlb, hlc⟩ := (HH.out.still ht).lays.at_ (by omega)
      obtain ⟨k0, _⟩ := hlc k hk
      rw [HKIND.out] at k0
      rw [hla] at c1
      clear hlc hown hblk ht hla c2 d0 d1 d2 d3
      go_wp2_with (first
        | (at_builtin; refine wpList_append_form rfl (.tmp 52) (.tmp 53) 52 rfl w.heap.size 5 1 1 (.int .u8 0) Try.underlying52 infoB rfl (by decide) ba i bc _ rfl (HO.out.alloc _) ⟨wr.heap.size, 0, none⟩ 1 1 [.int .u8 0] rfl rfl (cell_one_new _ _ _) (by simp [Value.oneCell']) (by decide) (by unfold maxLen; omega) (by omega) (by simp; omega) ?_; intro g' c' w2 hown2 ht2 hnew2; have hb2 := (HB.out.alloc (.cells #[.int .u8 0] 5)).keep ht2.out (own_blk HO.out HB.out (by decide)); have f4 := hb2.cell 4; have f4f := hb2.frozen 4; simp only [List.getElem?_toArray, List.getElem?_cons_succ, List.getElem?_cons_zero] at f4; have HB2 := Lib.hid hb2; clear hb2))
      go_roundw
      case rel =>
        have hsz : w.heap.size ≤ w2.heap.size := Nat.le_trans hwl (Nat.le_trans (by simp) ht2.out.size)
        refine ⟨i + 1, some ⟨g', 0, none⟩, c', by go_num, by omega, ?_, ?_, ?_⟩
        · refine Turn.setCell (Still.own (HW.out.alloc _) (ht2.out.below_only HO.out hwl)) (fun e => ?_) _
          have := HT1.out.size
          exact absurd e (by simp; omega)
        · have := HB2.out.set 4 (.slice (some ⟨g', 0, none⟩) (i + 1) c')
          simpa using this
        · rw [List.replicate_succ']
          exact own_keep (S := fun k => k = w1.heap.size) hown2.out ((Turn.refl (fun k => k = w1.heap.size) w2).setCell (fun _ => rfl) _) (fun k hk e => own_blk hown2.out HB2.out (by decide) (by rw [hk, e]))
      case measure => simp [intOf]; omega
    · obtain rfl : i = n := by omega
      have HROW := Lib.hid (show wr.ownsRow B 54 5 (.slice la x.L.length lc) x.L.length (x.L.flatMap RO.cells) by rw [← HLV.out]; exact (HH.out.still ht).row)
      obtain ⟨o, ho⟩ : ∃ o : RO, o = ⟨T, k, i, [], List.replicate i 0, none, 0, ba, bc⟩ := ⟨_, rfl⟩
      have hbv : o.bv = .slice ba i bc := by rw [ho]; simp [RO.bv]
      have hcells : o.cells = [.int .i64 T, .int .i64 k, .int .i64 i, .slice none 0 0, .slice ba i bc] := by rw [ho]; simp [RO.cells, RO.bv, RO.fv]
      have hrow : o.row wr w.heap.size := by
        refine ⟨?_, ?_⟩
        · rw [ho]; exact World.ownsRow_nil _ _ _ _
        · rw [hbv]
          have e1 : o.bs.length = i := by rw [ho]; simp
          have e2 : (o.bs.map fun v : Nat => Value.int .u8 (v : Int)) = List.replicate i (.int .u8 0) := by rw [ho]; simp
          rw [e1, e2]; exact hown
      have HC := Lib.hid hcells
      have HR := Lib.hid hrow
      have HO2 := Lib.hid ho
      have hsrc : Hid (∀ (j : Nat) u, o.cells[j]? = some u → (wr.alloc (.cells #[.int .i64 T, .int .i64 k, .int .i64 i, .slice none 0 0, .slice ba i bc] 54)).drew.cell? ((⟨wr.heap.size, 0, none⟩ : Addr).add j) = some u) := by
        have := new5 (W := wr) (t := 54) o
        rw [show o.at_ = T by rw [ho], show o.sh = k by rw [ho], show o.n = i by rw [ho], show o.fv = .slice none 0 0 by rw [ho]; rfl, hbv] at this
        exact this
      have hone : Hid (∀ u ∈ o.cells, u.oneCell' = true) := cells_one o
      have hlen : Hid (o.cells.length = 1 * 5) := by simp [Hid, RO.cells]
      have NLX := Lib.hid (own_type HROW.out (HH.out.still ht).blk (by decide))
      have HC2 := Lib.hid c2
      clear hcells hrow ho hbv hown hblk ht
      go_wp2_with fail
      go_region_law (refine step_append_form rfl (.tmp 65) (.tmp 67) 44 rfl B 54 5 72 _ Try.underlying44 infoO rfl (by decide) la x.L.length lc _ (by simp [Act.eval]) (HROW.out.alloc _).drew ⟨wr.heap.size, 0, none⟩ 1 1 o.cells (by simp [Act.eval]) hlen.out hsrc.out hone.out (by decide) (by have := HFEW.out; unfold maxLen; omega) (by have := HFEW.out; omega) (by have := HH.out.le; simp; omega) ?_; intro g' c' w4 hr4 ht4 hn4; have q2 : w4.cell? ⟨x.gx, 2, none⟩ = some (.slice la x.L.length lc) := (ht4.out.cell (p := ⟨x.gx, 2, none⟩) (by simp; omega) NLX.out).trans ((World.cell?_alloc_lt wr _ ⟨x.gx, 2, none⟩ hgw).trans HC2.out); have q2f : w4.frozen? ⟨x.gx, 2, none⟩ = false := (ht4.out.frozen (p := ⟨x.gx, 2, none⟩) (by simp; omega) NLX.out).trans ((HH.out.still (HW.out.alloc _)).blk.frozen 2))
      all_goals
        go_wp2_with fail
        go_ret2
        have ht5 : Turn (fun k => x.lv.ownBlock = some k) wr w4 := by rw [HLV.out]; exact ((Still.turn ((Still.refl wr).alloc _)).drew).trans ht4.out
        obtain ⟨r1, r2⟩ := HH.out.more HW.out HR.out hr4.out ht5 HFEW.out
        refine ⟨rfl, _, o, r1, ?_, ?_, ?_, ?_, ?_, r2, ?_⟩
        · rw [HO2.out, HTT.out]
        · rw [HO2.out]
        · rw [HO2.out]
        · rw [HO2.out]
        · rw [HO2.out]
        · intro b hb
          rcases hb with hb | hb
          · exact (HR.out.1.lt b hb).1
          · exact (HR.out.2.lt b hb).1
end Go.Proofs.Yteanlncnhncpbaa
