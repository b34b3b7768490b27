/- HeapBack's walk. -/
import Derived.Test.YtmfhjfkghljoeaaBack
import Derived.Test.YtmfhjfkghljoeaaMakes
namespace Go.Proofs.Ytmfhjfkghljoeaa
set_option linter.unusedVariables false
open Go.ChangeShapes Go.WideShapes Go.ChangeAt Go.RowKit
open M (W)

theorem back_nil (k a b : Int) (v : Nat) (near : Bool) (a0 : Option Addr) (len0 cap0 : Nat) (a1 : Option Addr) (len1 cap1 : Nat) (w : World)
    (HM : Calls Try.prog 21 #[.int .i64 1000, .slice a0 len0 cap0, .slice a1 len1 cap1] (w.alloc (.cells #[.int .i64 k, .int .i64 a, .int .i64 b, .int .u64 v, .bool near] 49)) (MadeNil (w.alloc (.cells #[.int .i64 k, .int .i64 a, .int .i64 b, .int .u64 v, .bool near] 49)))) :
    Calls Try.prog 8 #[.slice a0 len0 cap0, .slice a1 len1 cap1, .agg #[.int .i64 k, .int .i64 a, .int .i64 b, .int .u64 v, .bool near]] w fun e w' => e = .returned (.bool true) ∧ Below w.heap.size w w' := by
  go_enter Try.func8, Try.ntmps8
  go_wp2_with fail
  refine HM.mono ?_; rintro e w1 hm; obtain ⟨rfl, t1⟩ := hm
  have HT := Lib.hid t1; clear t1
  go_wp2_with (go_at_call 17; (with_reducible refine (lives_any _).mono ?_); rintro e w9 ⟨rfl, hb⟩)
  go_ret
  have hh := Still.below (((Still.refl w).alloc _).trans HT.out)
  exact ⟨rfl, hh.trans (hb.mono hh.size)⟩

theorem lt_ne {a b : Nat} (h : a < b) : ¬ a = b := Nat.ne_of_lt h
set_option maxRecDepth 100000 in
set_option maxHeartbeats 8000000 in
theorem back_ok (k a b : Int) (v : Nat) (near : Bool) (ha : -9223372036854775808 ≤ a) (hv : v < 18446744073709551616) (a0 : Option Addr) (len0 cap0 : Nat) (a1 : Option Addr) (len1 cap1 : Nat) (w : World)
    (HM : Calls Try.prog 21 #[.int .i64 1000, .slice a0 len0 cap0, .slice a1 len1 cap1] (w.alloc (.cells #[.int .i64 k, .int .i64 a, .int .i64 b, .int .u64 v, .bool near] 49)) (MadeOk (w.alloc (.cells #[.int .i64 k, .int .i64 a, .int .i64 b, .int .u64 v, .bool near] 49)) 1000)) :
    Calls Try.prog 8 #[.slice a0 len0 cap0, .slice a1 len1 cap1, .agg #[.int .i64 k, .int .i64 a, .int .i64 b, .int .u64 v, .bool near]] w fun e w' => e = .returned (.bool true) ∧ Below w.heap.size w w' := by
  have hmk : ∀ W, (Instr.makeSlice 63 (.int .i64 1000) (.int .i64 1000)).run Try.prog W = .ok (.slice (some ⟨W.heap.size, 0, none⟩) 1000 1000) (W.alloc (.cells (madeCells #[.int .u64 0] 1000) 47)) := makeW 1000 (by decide)
  obtain ⟨cc, hcc⟩ : ∃ cc : Nat, cc = v % 256 := ⟨_, rfl⟩
  have hc1 : IntKind.u8.wrap (v : Int) = (cc : Int) := by rw [IntKind.wrap_u8]; omega
  have hc2 : ((v : Int) % 256) = (cc : Int) := by omega
  have HCC := Lib.hid (show cc < 256 by omega)
  clear hcc
  go_enter Try.func8, Try.ntmps8
  go_wp2_with fail
  refine HM.mono ?_; rintro e w1 hm; obtain ⟨s, x, rfl, hb, hsn, hxl⟩ := hm
  obtain ⟨r, hpl⟩ := place_any x a w1 hb.rf ha
  obtain ⟨la, lc, hlv⟩ := hb.rf.lv_slice
  have hgx := hb.rf.blk.lt
  have c2 : w1.cell? ⟨x.gx, 2, none⟩ = some (.slice la x.L.length lc) := by rw [hb.rf.c2, hlv]
  rw [hlv] at hpl
  have HPL := Lib.hid hpl
  have HB := Lib.hid hb
  have hbox : Blk w1 w.heap.size 49 #[.int .i64 k, .int .i64 a, .int .i64 b, .int .u64 v, .bool near] := (hb.below.block w.heap.size (by simp)).trans (Blk.new w _ _)
  have hbw := hbox.lt
  have f1 := hbox.cell 1
  have f2 := hbox.cell 2
  have f3 := hbox.cell 3
  simp only [List.getElem?_toArray, List.getElem?_cons_succ, List.getElem?_cons_zero] at f1 f2 f3
  have HBOX := Lib.hid hbox
  have HSN := Lib.hid hsn
  have hgl : s.g < w1.heap.size := hb.hp.blk.lt
  have hgwl : s.gw < w1.heap.size := hb.hp.words.lt
  have hgll : s.gl < w1.heap.size := hb.hp.lays.lt
  have hws : w.heap.size ≠ s.gw := by have := hb.bgw; simp at this; omega
  have HWS := Lib.hid hws
  have HBL := Lib.hid hb.below
  clear hpl hb hlv hbox hsn HM hxl hws
  go_wp2_with fail
  go_quiet ((go_at_call 26; first | exact Calls.quiet_of_same (HPL.out _ ((Still.refl _).drewN _)) | exact quiet_add_same (HPL.out _ ((Still.refl _).drewN _))))
  go_wp2_with fail
  clear hmk c2 f1 f2 f3
  go_loopw [39] (fun i wr => ∃ j : Nat, i = .int .i64 j ∧ j ≤ 1000 ∧ HpIs wr s ∧ wr.rowIs w1.heap.size 47 1000 (fun i => .int .u64 (if i < j then s.ws i else 0 : Nat)) ∧ Turn (fun b => b = w1.heap.size) w1 wr) (fun i _ => 1000 - (intOf i).toNat)
  case atStart =>
    refine ⟨0, rfl, by omega, ((HB.out.hp.drewN _).alloc _), ?_, ?_⟩
    · exact (World.rowIs_made (w1.drewN _) (.int .u64 0) 1000 47).congr fun i _ => by simp
    · exact (((Turn.refl (fun b => b = w1.heap.size) w1).drewN _).alloc _)
  case round =>
    obtain ⟨j, rfl, hj, hp, hrow, ht⟩ := hrel
    by_cases hlt : j < 1000
    · have HLD := load_in s j wr hp (by rw [HSN.out]; exact hlt)
      have cj := hrow.cell hlt
      have cf := hrow.frozen j
      have HP := Lib.hid hp
      have HROW := Lib.hid hrow
      have HT := Lib.hid ht
      have n1 : s.g ≠ w1.heap.size := by omega
      have n2 : s.gw ≠ w1.heap.size := by omega
      have n3 : s.gl ≠ w1.heap.size := by omega
      have HNN := Lib.hid (And.intro n1 (And.intro n2 n3))
      simp only [Nat.lt_irrefl, if_false] at cj
      clear hp hrow ht n1 n2 n3
      go_wp2_with fail
      refine HLD.mono ?_; rintro e wr ⟨rfl, rfl⟩
      go_wp2_with fail
      go_roundw
      case rel =>
        refine ⟨j + 1, by go_num, by omega, ?_, ?_, HT.out.setCell (fun _ => rfl) _⟩
        · exact HP.out.keep (S := fun b => b = w1.heap.size) ((Turn.refl (fun b => b = w1.heap.size) wr).setCell (fun _ => rfl) _) HNN.out.1 HNN.out.2.1 HNN.out.2.2
        · refine (HROW.out.set j _).congr fun i _ => ?_
          by_cases e : i = j
          · subst e; simp
          · rw [if_neg e]
            by_cases e2 : i < j
            · rw [if_pos e2, if_pos (by omega)]
            · rw [if_neg e2, if_neg (by omega)]
      case measure => simp [intOf]; omega
    · obtain rfl : j = 1000 := by omega
      have hrow' : wr.rowIs w1.heap.size 47 1000 (fun i => .int .u64 (s.ws i)) := hrow.congr fun i hi => by rw [if_pos hi]
      have HROW := Lib.hid hrow'
      have HP := Lib.hid hp
      have HT := Lib.hid ht
      have hbx : Blk wr w.heap.size 49 #[.int .i64 k, .int .i64 a, .int .i64 b, .int .u64 v, .bool near] := HBOX.out.keep ht (lt_ne hbw)
      have f2 := hbx.cell 2
      have f3 := hbx.cell 3
      simp only [List.getElem?_toArray, List.getElem?_cons_succ, List.getElem?_cons_zero] at f2 f3
      have HBX := Lib.hid hbx
      have hsz1 : w1.heap.size < wr.heap.size := hrow'.lt
      have n2 : w1.heap.size ≠ s.gw := by omega
      have HN2 := Lib.hid n2
      clear hrow hrow' hp ht hbx n2
      rcases back_ways HB.out.hp HB.out.sim r b v cc hv HCC.out with ⟨s1, p, hA⟩ | ⟨s1, p, xx, ff, hA⟩ | ⟨xx, ff, yy, hh, hA⟩
      · have HA := Lib.hid hA
        have HGW : Hid (s1.gw = s.gw) := hA.gw
        clear hA
        have HOTH := Lib.hid HA.out.other
        have HG := Lib.hid HA.out.g
        have HN : Hid (s1.n = 1000) := HA.out.n.trans HSN.out
        go_wp2_with fail
        refine (HA.out.set _ HP.out).mono ?_; rintro e w3 ⟨rfl, hw3, tw3⟩
        have HPw3 := Lib.hid hw3
        have hbxw3 := HBX.out.keep tw3 (by have := HGW.out; have := HWS.out; omega)
        have hrww3 := HROW.out.of_block (tw3.block _ HROW.out.lt (by have := HGW.out; have := HN2.out; omega))
        have f2w3 := hbxw3.cell 2
        have f3w3 := hbxw3.cell 3
        simp only [List.getElem?_toArray, List.getElem?_cons_succ, List.getElem?_cons_zero] at f2w3 f3w3
        have HBXw3 := Lib.hid hbxw3
        have HRWw3 := Lib.hid hrww3
        have HTTw3 := Lib.hid ((HT.out.mono (T := fun b => b = w1.heap.size ∨ b = s.gw) fun k _ e => Or.inl e).trans (tw3.mono (T := fun b => b = w1.heap.size ∨ b = s.gw) fun k _ e => Or.inr (by have := HGW.out; omega)))
        clear hw3 tw3 hbxw3 hrww3
        go_wp2_with fail
        refine (HA.out.get _ HPw3.out).mono ?_; rintro e w4 ⟨rfl, hw4, tw4⟩
        have HPw4 := Lib.hid hw4
        have hbxw4 := HBXw3.out.keep tw4 (by have := HGW.out; have := HWS.out; omega)
        have hrww4 := HRWw3.out.of_block (tw4.block _ HRWw3.out.lt (by have := HGW.out; have := HN2.out; omega))
        have f2w4 := hbxw4.cell 2
        have f3w4 := hbxw4.cell 3
        simp only [List.getElem?_toArray, List.getElem?_cons_succ, List.getElem?_cons_zero] at f2w4 f3w4
        have HBXw4 := Lib.hid hbxw4
        have HRWw4 := Lib.hid hrww4
        have HTTw4 := Lib.hid (HTTw3.out.trans (tw4.mono (T := fun b => b = w1.heap.size ∨ b = s.gw) fun k _ e => Or.inr (by have := HGW.out; omega)))
        clear hw4 tw4 hbxw4 hrww4
        go_wp2_with fail
        refine (HA.out.setB _ HCC.out _ HPw4.out).mono ?_; rintro e w5 ⟨rfl, hw5, tw5⟩
        have HPw5 := Lib.hid hw5
        have hbxw5 := HBXw4.out.keep tw5 (by have := HGW.out; have := HWS.out; omega)
        have hrww5 := HRWw4.out.of_block (tw5.block _ HRWw4.out.lt (by have := HGW.out; have := HN2.out; omega))
        have f2w5 := hbxw5.cell 2
        have f3w5 := hbxw5.cell 3
        simp only [List.getElem?_toArray, List.getElem?_cons_succ, List.getElem?_cons_zero] at f2w5 f3w5
        have HBXw5 := Lib.hid hbxw5
        have HRWw5 := Lib.hid hrww5
        have HTTw5 := Lib.hid (HTTw4.out.trans (tw5.mono (T := fun b => b = w1.heap.size ∨ b = s.gw) fun k _ e => Or.inr (by have := HGW.out; omega)))
        clear hw5 tw5 hbxw5 hrww5
        go_wp2_with fail
        refine (HA.out.byte _ HPw5.out).mono ?_; rintro e w6 ⟨rfl, hw6, tw6⟩
        have HPw6 := Lib.hid hw6
        have hbxw6 := HBXw5.out.keep tw6 (by have := HGW.out; have := HWS.out; omega)
        have hrww6 := HRWw5.out.of_block (tw6.block _ HRWw5.out.lt (by have := HGW.out; have := HN2.out; omega))
        have f2w6 := hbxw6.cell 2
        have f3w6 := hbxw6.cell 3
        simp only [List.getElem?_toArray, List.getElem?_cons_succ, List.getElem?_cons_zero] at f2w6 f3w6
        have HBXw6 := Lib.hid hbxw6
        have HRWw6 := Lib.hid hrww6
        have HTTw6 := Lib.hid (HTTw5.out.trans (tw6.mono (T := fun b => b = w1.heap.size ∨ b = s.gw) fun k _ e => Or.inr (by have := HGW.out; omega)))
        clear hw6 tw6 hbxw6 hrww6
        have x1 : ((v : Int) != v) = false := by simp
        go_wp2_with fail
        go_loopw [18, 111] (fun o i wq => ∃ (j c n : Nat), i = .int .i64 j ∧ o = .int .i64 c ∧ j ≤ 1000 ∧ c ≤ 1 ∧ (j ≤ p → c = 0) ∧ wq = w6.drewN n) (fun _ i _ => 1000 - (intOf i).toNat)
        case atStart => exact ⟨0, 0, 0, rfl, rfl, by omega, by omega, fun _ => rfl, rfl⟩
        case round =>
          obtain ⟨j, c, n, rfl, rfl, hj, hc, hcp, rfl⟩ := hrel
          by_cases hlt : j < 1000
          · have HLD := fun m => load_in s1 j (w6.drewN m) (HPw6.out.drewN m) (by rw [HN.out]; exact hlt)
            unfold St.ptr at HLD
            rw [HG.out] at HLD
            have cj : w6.cell? ⟨w1.heap.size, j, none⟩ = some (.int .u64 (s.ws j)) := HRWw6.out.cell hlt
            have hlt0 : 0 ≤ (j : Int) := by omega
            have hlt1 : (j : Int) < 1000 := by omega
            have HCP := Lib.hid hcp
            clear hcp
            by_cases hd : s1.ws j = s.ws j
            · rw [hd] at HLD
              have hd2 : ((s.ws j : Int) != s.ws j) = false := by simp
              have HLL := Lib.hid HLD
              clear HLD hd
              go_wp2_with fail
              go_quiet ((go_at_call 40; first | exact Calls.quiet_of_same (HLL.out _) | exact quiet_add_same (HLL.out _)))
              go_wp2_with fail
              go_roundw
              case rel => exact ⟨j + 1, c, _, by go_num, rfl, by omega, hc, fun h => HCP.out (by omega), rfl⟩
              case measure => simp [intOf]; omega
            · have hjp : j = p := by
                rcases Decidable.em (j = p) with e | e
                · exact e
                · exact absurd (HOTH.out j e) hd
              have hc0 : c = 0 := HCP.out (by omega)
              subst hc0
              have hd2 : ((s1.ws j : Int) != s.ws j) = true := by simp only [bne_iff_ne, ne_eq]; omega
              have HJP := Lib.hid hjp
              have HLL := Lib.hid HLD
              clear HLD hd hjp
              go_wp2_with fail
              go_quiet ((go_at_call 40; first | exact Calls.quiet_of_same (HLL.out _) | exact quiet_add_same (HLL.out _)))
              go_wp2_with fail
              go_roundw
              case rel => exact ⟨j + 1, 1, _, by go_num, rfl, by omega, by omega, fun h => by have := HJP.out; omega, rfl⟩
              case measure => simp [intOf]; omega
          · obtain rfl : j = 1000 := by omega
            have hbel := HTTw6.out.below (B := w.heap.size) (by omega) (by
              rintro b (rfl | rfl)
              · omega
              · have := HB.out.bgw; simp at this; omega)
            have HBE := Lib.hid hbel
            clear hbel
            rcases (show c = 0 ∨ c = 1 by omega) with rfl | rfl
            all_goals
              go_wp2_with (go_at_call 17; (with_reducible refine (lives_any _).mono ?_); rintro e w9 ⟨rfl, hb⟩)
              go_ret
              have hbl : Below w.heap.size w w1 := ((Below.refl _ w).alloc (Nat.le_refl _) _).trans (HBL.out.mono (by simp))
              have hbl2 := below_drewN (hbl.trans HBE.out) n
              exact ⟨rfl, hbl2.trans (hb.mono hbl2.size)⟩
      · have HA := Lib.hid hA
        have HGW : Hid (s1.gw = s.gw) := hA.gw
        clear hA
        have HOTH := Lib.hid HA.out.other
        have HG := Lib.hid HA.out.g
        have HN : Hid (s1.n = 1000) := HA.out.n.trans HSN.out
        go_wp2_with fail
        refine (HA.out.set _ HP.out).mono ?_; rintro e w3 ⟨rfl, hw3, tw3⟩
        have HPw3 := Lib.hid hw3
        have hbxw3 := HBX.out.keep tw3 (by have := HGW.out; have := HWS.out; omega)
        have hrww3 := HROW.out.of_block (tw3.block _ HROW.out.lt (by have := HGW.out; have := HN2.out; omega))
        have f2w3 := hbxw3.cell 2
        have f3w3 := hbxw3.cell 3
        simp only [List.getElem?_toArray, List.getElem?_cons_succ, List.getElem?_cons_zero] at f2w3 f3w3
        have HBXw3 := Lib.hid hbxw3
        have HRWw3 := Lib.hid hrww3
        have HTTw3 := Lib.hid ((HT.out.mono (T := fun b => b = w1.heap.size ∨ b = s.gw) fun k _ e => Or.inl e).trans (tw3.mono (T := fun b => b = w1.heap.size ∨ b = s.gw) fun k _ e => Or.inr (by have := HGW.out; omega)))
        clear hw3 tw3 hbxw3 hrww3
        go_wp2_with fail
        refine (HA.out.get _ HPw3.out).mono ?_; rintro e w4 ⟨rfl, hw4, tw4⟩
        have HPw4 := Lib.hid hw4
        have hbxw4 := HBXw3.out.keep tw4 (by have := HGW.out; have := HWS.out; omega)
        have hrww4 := HRWw3.out.of_block (tw4.block _ HRWw3.out.lt (by have := HGW.out; have := HN2.out; omega))
        have f2w4 := hbxw4.cell 2
        have f3w4 := hbxw4.cell 3
        simp only [List.getElem?_toArray, List.getElem?_cons_succ, List.getElem?_cons_zero] at f2w4 f3w4
        have HBXw4 := Lib.hid hbxw4
        have HRWw4 := Lib.hid hrww4
        have HTTw4 := Lib.hid (HTTw3.out.trans (tw4.mono (T := fun b => b = w1.heap.size ∨ b = s.gw) fun k _ e => Or.inr (by have := HGW.out; omega)))
        clear hw4 tw4 hbxw4 hrww4
        go_wp2_with fail
        refine (HA.out.setB _ HPw4.out).mono ?_; rintro e w5 ⟨rfl, hw5, tw5⟩
        have HPw5 := Lib.hid hw5
        have hbxw5 := HBXw4.out.keep tw5 (by have := HGW.out; have := HWS.out; omega)
        have hrww5 := HRWw4.out.of_block (tw5.block _ HRWw4.out.lt (by have := HGW.out; have := HN2.out; omega))
        have f2w5 := hbxw5.cell 2
        have f3w5 := hbxw5.cell 3
        simp only [List.getElem?_toArray, List.getElem?_cons_succ, List.getElem?_cons_zero] at f2w5 f3w5
        have HBXw5 := Lib.hid hbxw5
        have HRWw5 := Lib.hid hrww5
        have HTTw5 := Lib.hid (HTTw4.out.trans (tw5.mono (T := fun b => b = w1.heap.size ∨ b = s.gw) fun k _ e => Or.inr (by have := HGW.out; omega)))
        clear hw5 tw5 hbxw5 hrww5
        go_wp2_with fail
        refine (HA.out.byte _ HPw5.out).mono ?_; rintro e w6 ⟨rfl, hw6, tw6⟩
        have HPw6 := Lib.hid hw6
        have hbxw6 := HBXw5.out.keep tw6 (by have := HGW.out; have := HWS.out; omega)
        have hrww6 := HRWw5.out.of_block (tw6.block _ HRWw5.out.lt (by have := HGW.out; have := HN2.out; omega))
        have f2w6 := hbxw6.cell 2
        have f3w6 := hbxw6.cell 3
        simp only [List.getElem?_toArray, List.getElem?_cons_succ, List.getElem?_cons_zero] at f2w6 f3w6
        have HBXw6 := Lib.hid hbxw6
        have HRWw6 := Lib.hid hrww6
        have HTTw6 := Lib.hid (HTTw5.out.trans (tw6.mono (T := fun b => b = w1.heap.size ∨ b = s.gw) fun k _ e => Or.inr (by have := HGW.out; omega)))
        clear hw6 tw6 hbxw6 hrww6
        have x1 : ((cc : Int) != cc) = false := by simp
        go_wp2_with fail
        go_loopw [18, 111] (fun o i wq => ∃ (j c n : Nat), i = .int .i64 j ∧ o = .int .i64 c ∧ j ≤ 1000 ∧ c ≤ 1 ∧ (j ≤ p → c = 0) ∧ wq = w6.drewN n) (fun _ i _ => 1000 - (intOf i).toNat)
        case atStart => exact ⟨0, 0, 0, rfl, rfl, by omega, by omega, fun _ => rfl, rfl⟩
        case round =>
          obtain ⟨j, c, n, rfl, rfl, hj, hc, hcp, rfl⟩ := hrel
          by_cases hlt : j < 1000
          · have HLD := fun m => load_in s1 j (w6.drewN m) (HPw6.out.drewN m) (by rw [HN.out]; exact hlt)
            unfold St.ptr at HLD
            rw [HG.out] at HLD
            have cj : w6.cell? ⟨w1.heap.size, j, none⟩ = some (.int .u64 (s.ws j)) := HRWw6.out.cell hlt
            have hlt0 : 0 ≤ (j : Int) := by omega
            have hlt1 : (j : Int) < 1000 := by omega
            have HCP := Lib.hid hcp
            clear hcp
            by_cases hd : s1.ws j = s.ws j
            · rw [hd] at HLD
              have hd2 : ((s.ws j : Int) != s.ws j) = false := by simp
              have HLL := Lib.hid HLD
              clear HLD hd
              go_wp2_with fail
              go_quiet ((go_at_call 40; first | exact Calls.quiet_of_same (HLL.out _) | exact quiet_add_same (HLL.out _)))
              go_wp2_with fail
              go_roundw
              case rel => exact ⟨j + 1, c, _, by go_num, rfl, by omega, hc, fun h => HCP.out (by omega), rfl⟩
              case measure => simp [intOf]; omega
            · have hjp : j = p := by
                rcases Decidable.em (j = p) with e | e
                · exact e
                · exact absurd (HOTH.out j e) hd
              have hc0 : c = 0 := HCP.out (by omega)
              subst hc0
              have hd2 : ((s1.ws j : Int) != s.ws j) = true := by simp only [bne_iff_ne, ne_eq]; omega
              have HJP := Lib.hid hjp
              have HLL := Lib.hid HLD
              clear HLD hd hjp
              go_wp2_with fail
              go_quiet ((go_at_call 40; first | exact Calls.quiet_of_same (HLL.out _) | exact quiet_add_same (HLL.out _)))
              go_wp2_with fail
              go_roundw
              case rel => exact ⟨j + 1, 1, _, by go_num, rfl, by omega, by omega, fun h => by have := HJP.out; omega, rfl⟩
              case measure => simp [intOf]; omega
          · obtain rfl : j = 1000 := by omega
            have hbel := HTTw6.out.below (B := w.heap.size) (by omega) (by
              rintro b (rfl | rfl)
              · omega
              · have := HB.out.bgw; simp at this; omega)
            have HBE := Lib.hid hbel
            clear hbel
            rcases (show c = 0 ∨ c = 1 by omega) with rfl | rfl
            all_goals
              go_wp2_with (go_at_call 17; (with_reducible refine (lives_any _).mono ?_); rintro e w9 ⟨rfl, hb⟩)
              go_ret
              have hbl : Below w.heap.size w w1 := ((Below.refl _ w).alloc (Nat.le_refl _) _).trans (HBL.out.mono (by simp))
              have hbl2 := below_drewN (hbl.trans HBE.out) n
              exact ⟨rfl, hbl2.trans (hb.mono hbl2.size)⟩
      · have HA := Lib.hid hA
        have HGW : Hid (s.gw = s.gw) := rfl
        clear hA
        have HOTH : Hid (∀ k : Nat, k ≠ 2000 → s.ws k = s.ws k) := fun _ _ => rfl
        have HG : Hid (s.g = s.g) := rfl
        have HN : Hid (s.n = 1000) := HSN.out
        go_wp2_with fail
        refine (HA.out.set _ HP.out).mono ?_; rintro e w3 ⟨rfl, hw3, tw3⟩
        have HPw3 := Lib.hid hw3
        have hbxw3 := HBX.out.keep tw3 (by have := HGW.out; have := HWS.out; omega)
        have hrww3 := HROW.out.of_block (tw3.block _ HROW.out.lt (by have := HGW.out; have := HN2.out; omega))
        have f2w3 := hbxw3.cell 2
        have f3w3 := hbxw3.cell 3
        simp only [List.getElem?_toArray, List.getElem?_cons_succ, List.getElem?_cons_zero] at f2w3 f3w3
        have HBXw3 := Lib.hid hbxw3
        have HRWw3 := Lib.hid hrww3
        have HTTw3 := Lib.hid ((HT.out.mono (T := fun b => b = w1.heap.size ∨ b = s.gw) fun k _ e => Or.inl e).trans (tw3.mono (T := fun b => b = w1.heap.size ∨ b = s.gw) fun k _ e => Or.inr (by have := HGW.out; omega)))
        clear hw3 tw3 hbxw3 hrww3
        go_wp2_with fail
        refine (HA.out.get _ HPw3.out).mono ?_; rintro e w4 ⟨rfl, hw4, tw4⟩
        have HPw4 := Lib.hid hw4
        have hbxw4 := HBXw3.out.keep tw4 (by have := HGW.out; have := HWS.out; omega)
        have hrww4 := HRWw3.out.of_block (tw4.block _ HRWw3.out.lt (by have := HGW.out; have := HN2.out; omega))
        have f2w4 := hbxw4.cell 2
        have f3w4 := hbxw4.cell 3
        simp only [List.getElem?_toArray, List.getElem?_cons_succ, List.getElem?_cons_zero] at f2w4 f3w4
        have HBXw4 := Lib.hid hbxw4
        have HRWw4 := Lib.hid hrww4
        have HTTw4 := Lib.hid (HTTw3.out.trans (tw4.mono (T := fun b => b = w1.heap.size ∨ b = s.gw) fun k _ e => Or.inr (by have := HGW.out; omega)))
        clear hw4 tw4 hbxw4 hrww4
        go_wp2_with fail
        refine (HA.out.setB _ HPw4.out).mono ?_; rintro e w5 ⟨rfl, hw5, tw5⟩
        have HPw5 := Lib.hid hw5
        have hbxw5 := HBXw4.out.keep tw5 (by have := HGW.out; have := HWS.out; omega)
        have hrww5 := HRWw4.out.of_block (tw5.block _ HRWw4.out.lt (by have := HGW.out; have := HN2.out; omega))
        have f2w5 := hbxw5.cell 2
        have f3w5 := hbxw5.cell 3
        simp only [List.getElem?_toArray, List.getElem?_cons_succ, List.getElem?_cons_zero] at f2w5 f3w5
        have HBXw5 := Lib.hid hbxw5
        have HRWw5 := Lib.hid hrww5
        have HTTw5 := Lib.hid (HTTw4.out.trans (tw5.mono (T := fun b => b = w1.heap.size ∨ b = s.gw) fun k _ e => Or.inr (by have := HGW.out; omega)))
        clear hw5 tw5 hbxw5 hrww5
        go_wp2_with fail
        refine (HA.out.byte _ HPw5.out).mono ?_; rintro e w6 ⟨rfl, hw6, tw6⟩
        have HPw6 := Lib.hid hw6
        have hbxw6 := HBXw5.out.keep tw6 (by have := HGW.out; have := HWS.out; omega)
        have hrww6 := HRWw5.out.of_block (tw6.block _ HRWw5.out.lt (by have := HGW.out; have := HN2.out; omega))
        have f2w6 := hbxw6.cell 2
        have f3w6 := hbxw6.cell 3
        simp only [List.getElem?_toArray, List.getElem?_cons_succ, List.getElem?_cons_zero] at f2w6 f3w6
        have HBXw6 := Lib.hid hbxw6
        have HRWw6 := Lib.hid hrww6
        have HTTw6 := Lib.hid (HTTw5.out.trans (tw6.mono (T := fun b => b = w1.heap.size ∨ b = s.gw) fun k _ e => Or.inr (by have := HGW.out; omega)))
        clear hw6 tw6 hbxw6 hrww6
        go_wp2_with fail
        go_loopw [18, 111] (fun o i wq => ∃ (j c n : Nat), i = .int .i64 j ∧ o = .int .i64 c ∧ j ≤ 1000 ∧ c ≤ 1 ∧ (j ≤ 2000 → c = 0) ∧ wq = w6.drewN n) (fun _ i _ => 1000 - (intOf i).toNat)
        case atStart => exact ⟨0, 0, 0, rfl, rfl, by omega, by omega, fun _ => rfl, rfl⟩
        case round =>
          obtain ⟨j, c, n, rfl, rfl, hj, hc, hcp, rfl⟩ := hrel
          by_cases hlt : j < 1000
          · have HLD := fun m => load_in s j (w6.drewN m) (HPw6.out.drewN m) (by rw [HN.out]; exact hlt)
            have cj : w6.cell? ⟨w1.heap.size, j, none⟩ = some (.int .u64 (s.ws j)) := HRWw6.out.cell hlt
            have hlt0 : 0 ≤ (j : Int) := by omega
            have hlt1 : (j : Int) < 1000 := by omega
            have HCP := Lib.hid hcp
            clear hcp
            by_cases hd : s.ws j = s.ws j
            · rw [hd] at HLD
              have hd2 : ((s.ws j : Int) != s.ws j) = false := by simp
              have HLL := Lib.hid HLD
              clear HLD hd
              go_wp2_with fail
              go_quiet ((go_at_call 40; first | exact Calls.quiet_of_same (HLL.out _) | exact quiet_add_same (HLL.out _)))
              go_wp2_with fail
              go_roundw
              case rel => exact ⟨j + 1, c, _, by go_num, rfl, by omega, hc, fun h => HCP.out (by omega), rfl⟩
              case measure => simp [intOf]; omega
            · exact absurd rfl hd
          · obtain rfl : j = 1000 := by omega
            have hbel := HTTw6.out.below (B := w.heap.size) (by omega) (by
              rintro b (rfl | rfl)
              · omega
              · have := HB.out.bgw; simp at this; omega)
            have HBE := Lib.hid hbel
            clear hbel
            have hc0 : c = 0 := hcp (by omega)
            subst hc0
            go_wp2_with (go_at_call 17; (with_reducible refine (lives_any _).mono ?_); rintro e w9 ⟨rfl, hb⟩)
            go_ret
            have hbl : Below w.heap.size w w1 := ((Below.refl _ w).alloc (Nat.le_refl _) _).trans (HBL.out.mono (by simp))
            have hbl2 := below_drewN (hbl.trans HBE.out) n
            exact ⟨rfl, hbl2.trans (hb.mono hbl2.size)⟩
end Go.Proofs.Ytmfhjfkghljoeaa
