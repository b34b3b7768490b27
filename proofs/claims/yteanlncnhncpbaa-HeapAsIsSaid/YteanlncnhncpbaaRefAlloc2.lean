/- The document's own Alloc of layer 2, of fields and elements. -/
import Derived.Test.YteanlncnhncpbaaRefAlloc
namespace Go.Proofs.Yteanlncnhncpbaa
set_option linter.unusedVariables false
open Go.ChangeShapes Go.WideShapes Go.ChangeAt Go.RowKit
open M (W)

set_option maxRecDepth 100000 in
set_option maxHeartbeats 4000000 in
theorem refAlloc_f {B : Nat} (x : Rf) (k n D : Nat) (w : World) (h : RfIs B w x) (hv : ∀ j, j < x.len → x.K j = 1 ∨ x.K j = 2 ∨ x.K j = 3) (hk : k < x.len) (hkind : x.K k ≠ 3) (hn : n ≤ 65536)
    (he : M.needE (M.kd x.len x.K k) (M.kd x.len x.N k) n = 0) (hD : M.need (M.kd x.len x.K k) (M.kd x.len x.N k) n = D) (hx : x.n ≤ 65536) (hf : (D : Int) ≤ x.n - x.sum x.L) (hfew : x.L.length < 1000) :
    Calls Try.prog 52 #[x.ptr, .int .i64 k, .int .i64 n] w fun e w' => e = .returned (.tuple #[.int .i64 (x.sum x.L), .int .i64 0]) ∧
      RMade B x k n (List.replicate n 1) [] w w' := by
  have HN := Rf.E_any x k n w h hv w (Still.refl w)
  have HT := refTop_any x w h hv
  obtain ⟨sb0, sb1⟩ := x.sum_bd x.L
  have hb1 : x.sum x.L ≤ 65537000 := by omega
  obtain ⟨nb0, nb1⟩ := M.need_bd (M.kd x.len x.K k) (M.kd x.len x.N k) n
  rw [hD] at HN nb0 nb1
  rw [he] at HN
  obtain ⟨la, lc, hlv⟩ := h.lv_slice
  have HLV := Lib.hid hlv
  have HH := Lib.hid h
  have HFEW := Lib.hid hfew
  obtain ⟨KK, hKK⟩ : ∃ KK, KK = x.K k := ⟨_, rfl⟩
  have hz : ((KK : Int) == 3) = false := by rw [hKK]; simpa using hkind
  have HKIND := Lib.hid hKK.symm
  have hg := h.blk.lt
  clear h he sb1 hfew hD hlv hkind hKK
  obtain ⟨T, hT⟩ := Int.eq_ofNat_of_zero_le sb0
  rw [hT] at HT hb1 hf sb0 ⊢
  have HTT := Lib.hid hT
  clear hT
  go_enter Try.func52, Try.ntmps52
  go_wp2_with fail
  refine HN.mono ?_; rintro e w ⟨rfl, rfl⟩
  go_wp2_with fail
  refine HT.mono ?_; rintro e w1 ⟨rfl, t1⟩
  have c0 : w1.cell? ⟨x.gx, 0, none⟩ = some (.int .i64 x.n) := (HH.out.still t1).c0
  have HT1 := Lib.hid t1; clear t1
  go_wp2_with fail
  go_loopw [12] (fun v wr => ∃ (i : Nat) (ba : Option Addr) (bc : Nat), v = .int .i64 i ∧ i ≤ n ∧ Still w wr ∧ Blk wr w1.heap.size 54 #[.int .i64 T, .int .i64 k, .int .i64 n, .slice ba i bc, .slice none 0 0] ∧ wr.ownsRow w.heap.size 30 1 (.slice ba i bc) i (List.replicate i (.int .u64 1))) (fun v _ => n - (intOf v).toNat)
  case atStart => exact ⟨0, none, 0, rfl, by omega, HT1.out.alloc _, Blk.new _ _ _, World.ownsRow_nil _ _ _ _⟩
  case round =>
    obtain ⟨i, ba, bc, rfl, hi, ht, hblk, hown⟩ := hrel
    have hwl : w.heap.size ≤ wr.heap.size := ht.size
    have hbl := hblk.lt
    have c2 : wr.cell? ⟨x.gx, 2, none⟩ = some (.slice la x.L.length lc) := by rw [(HH.out.still ht).c2, HLV.out]
    have c1 : wr.cell? ⟨x.gx, 1, none⟩ = some (.slice x.a x.len x.cap) := (HH.out.still ht).c1
    have hgw : x.gx < wr.heap.size := (HH.out.still ht).blk.lt
    have hgf : wr.frozen? ⟨x.gx, 2, none⟩ = false := (HH.out.still ht).blk.frozen 2
    have d0 : wr.cell? ⟨w1.heap.size, 0, none⟩ = some (.int .i64 T) := hblk.cell 0
    have d1 : wr.cell? ⟨w1.heap.size, 1, none⟩ = some (.int .i64 k) := hblk.cell 1
    have d2 : wr.cell? ⟨w1.heap.size, 2, none⟩ = some (.int .i64 n) := hblk.cell 2
    have d3 : wr.cell? ⟨w1.heap.size, 3, none⟩ = some (.slice ba i bc) := hblk.cell 3
    have d4 : wr.cell? ⟨w1.heap.size, 4, none⟩ = some (.slice none 0 0) := hblk.cell 4
    have HO := Lib.hid hown
    have HB := Lib.hid hblk
    have HW := Lib.hid ht
    by_cases hlt : i < n
    · obtain ⟨lb, off, hla, hlb, hlc⟩ := (HH.out.still ht).lays.at_ (by omega)
      obtain ⟨k0, _⟩ := hlc k hk
      rw [HKIND.out] at k0
      rw [hla] at c1
      clear hlc hown hblk ht hla c2 d0 d1 d2 d4
      go_wp2_with (first
        | (at_builtin; refine wpList_append_form rfl (.tmp 57) (.tmp 58) 37 rfl w.heap.size 30 1 8 (.int .u64 0) Try.underlying37 infoW rfl (by decide) ba i bc _ rfl (HO.out.alloc _) ⟨wr.heap.size, 0, none⟩ 1 1 [.int .u64 1] rfl rfl (cell_one_new _ _ _) (by simp [Value.oneCell']) (by decide) (by unfold maxLen; omega) (by omega) (by simp; omega) ?_; intro g' c' w2 hown2 ht2 hnew2; have hb2 := (HB.out.alloc (.cells #[.int .u64 1] 30)).keep ht2.out (own_blk HO.out HB.out (by decide)); have f4 := hb2.cell 3; have f4f := hb2.frozen 3; simp only [List.getElem?_toArray, List.getElem?_cons_succ, List.getElem?_cons_zero] at f4; have HB2 := Lib.hid hb2; clear hb2))
      go_roundw
      case rel =>
        have hsz : w.heap.size ≤ w2.heap.size := Nat.le_trans hwl (Nat.le_trans (by simp) ht2.out.size)
        refine ⟨i + 1, some ⟨g', 0, none⟩, c', by go_num, by omega, ?_, ?_, ?_⟩
        · refine Turn.setCell (Still.own (HW.out.alloc _) (ht2.out.below_only HO.out hwl)) (fun e => ?_) _
          have := HT1.out.size
          exact absurd e (by simp; omega)
        · have := HB2.out.set 3 (.slice (some ⟨g', 0, none⟩) (i + 1) c')
          simpa using this
        · rw [List.replicate_succ']
          exact own_keep (S := fun k => k = w1.heap.size) hown2.out ((Turn.refl (fun k => k = w1.heap.size) w2).setCell (fun _ => rfl) _) (fun k hk e => own_blk hown2.out HB2.out (by decide) (by rw [hk, e]))
      case measure => simp [intOf]; omega
    · obtain rfl : i = n := by omega
      have HROW := Lib.hid (show wr.ownsRow B 54 5 (.slice la x.L.length lc) x.L.length (x.L.flatMap RO.cells) by rw [← HLV.out]; exact (HH.out.still ht).row)
      obtain ⟨o, ho⟩ : ∃ o : RO, o = ⟨T, k, i, List.replicate i 1, [], ba, bc, none, 0⟩ := ⟨_, rfl⟩
      have hbv : o.fv = .slice ba i bc := by rw [ho]; simp [RO.fv]
      have hcells : o.cells = [.int .i64 T, .int .i64 k, .int .i64 i, .slice ba i bc, .slice none 0 0] := by rw [ho]; simp [RO.cells, RO.bv, RO.fv]
      have hrow : o.row wr w.heap.size := by
        refine ⟨?_, ?_⟩
        · rw [hbv]
          have e1 : o.fs.length = i := by rw [ho]; simp
          have e2 : (o.fs.map fun v : Nat => Value.int .u64 (v : Int)) = List.replicate i (.int .u64 1) := by rw [ho]; simp
          rw [e1, e2]; exact hown
        · rw [ho]; exact World.ownsRow_nil _ _ _ _
      have HC := Lib.hid hcells
      have HR := Lib.hid hrow
      have HO2 := Lib.hid ho
      have hsrc : Hid (∀ (j : Nat) u, o.cells[j]? = some u → (wr.alloc (.cells #[.int .i64 T, .int .i64 k, .int .i64 i, .slice ba i bc, .slice none 0 0] 54)).drew.cell? ((⟨wr.heap.size, 0, none⟩ : Addr).add j) = some u) := by
        have := new5 (W := wr) (t := 54) o
        rw [show o.at_ = T by rw [ho], show o.sh = k by rw [ho], show o.n = i by rw [ho], hbv, show o.bv = .slice none 0 0 by rw [ho]; rfl] at this
        exact this
      have hone : Hid (∀ u ∈ o.cells, u.oneCell' = true) := cells_one o
      have hlen : Hid (o.cells.length = 1 * 5) := by simp [Hid, RO.cells]
      have NLX := Lib.hid (own_type HROW.out (HH.out.still ht).blk (by decide))
      have HC2 := Lib.hid c2
      clear hcells hrow ho hbv hown hblk ht
      go_wp2_with fail
      go_region_law (refine step_append_form rfl (.tmp 65) (.tmp 67) 44 rfl B 54 5 72 _ Try.underlying44 infoO rfl (by decide) la x.L.length lc _ (by simp [Act.eval]) (HROW.out.alloc _).drew ⟨wr.heap.size, 0, none⟩ 1 1 o.cells (by simp [Act.eval]) hlen.out hsrc.out hone.out (by decide) (by have := HFEW.out; unfold maxLen; omega) (by have := HFEW.out; omega) (by have := HH.out.le; simp; omega) ?_; intro g' c' w4 hr4 ht4 hn4; have q2 : w4.cell? ⟨x.gx, 2, none⟩ = some (.slice la x.L.length lc) := (ht4.out.cell (p := ⟨x.gx, 2, none⟩) (by simp; omega) NLX.out).trans ((World.cell?_alloc_lt wr _ ⟨x.gx, 2, none⟩ hgw).trans HC2.out); have q2f : w4.frozen? ⟨x.gx, 2, none⟩ = false := (ht4.out.frozen (p := ⟨x.gx, 2, none⟩) (by simp; omega) NLX.out).trans ((HH.out.still (HW.out.alloc _)).blk.frozen 2))
      all_goals
        go_wp2_with fail
        go_ret2
        have ht5 : Turn (fun k => x.lv.ownBlock = some k) wr w4 := by rw [HLV.out]; exact ((Still.turn ((Still.refl wr).alloc _)).drew).trans ht4.out
        obtain ⟨r1, r2⟩ := HH.out.more HW.out HR.out hr4.out ht5 HFEW.out
        refine ⟨rfl, _, o, r1, ?_, ?_, ?_, ?_, ?_, r2, ?_⟩
        · rw [HO2.out, HTT.out]
        · rw [HO2.out]
        · rw [HO2.out]
        · rw [HO2.out]
        · rw [HO2.out]
        · intro b hb
          rcases hb with hb | hb
          · exact (HR.out.1.lt b hb).1
          · exact (HR.out.2.lt b hb).1
end Go.Proofs.Yteanlncnhncpbaa
