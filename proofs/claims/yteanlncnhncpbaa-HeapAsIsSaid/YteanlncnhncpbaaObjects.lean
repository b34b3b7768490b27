/- The contract of layer 2's Objects. -/
import Derived.Test.YteanlncnhncpbaaTells
namespace Go.Proofs.Yteanlncnhncpbaa
set_option linter.unusedVariables false
open Go.ChangeShapes Go.WideShapes Go.ChangeAt Go.RowKit
open M (W)

theorem infoI : (Try.prog.info? 3).map (fun i => (i.zero, i.size, i.bytes)) = some (some (.int .i64 0), 1, 8) := by kernel_rfl
/-- The places of objects below j, in order. -/
def St.hl (s : St) (j : Nat) : List Nat := (List.range j).filter fun k : Nat => s.is k
theorem St.hl_succ (s : St) (j : Nat) : s.hl (j + 1) = s.hl j ++ (if s.is j then [j] else []) := by
  unfold St.hl
  rw [List.range_succ, List.filter_append, List.filter_cons, List.filter_nil]
theorem St.hl_len (s : St) (j : Nat) : (s.hl j).length ≤ j := by
  unfold St.hl
  exact Nat.le_trans (List.length_filter_le _ _) (by simp)
def M.ints (l : List Nat) : List Value := l.map fun v : Nat => Value.int .i64 (v : Int)
def St.owns (s : St) (w : World) (B : Nat) (v : Value) (j : Nat) : Prop := w.ownsRow B 3 1 v (s.hl j).length (M.ints (s.hl j))
set_option maxRecDepth 100000 in
set_option maxHeartbeats 2000000 in
theorem objects_any (s : St) (w : World) (h : HpIs w s) (ht : s.top ≤ 65536) :
    Calls Try.prog 42 #[s.ptr] w fun e w' => (∃ a c, e = .returned (.slice a (s.hl s.top).length c) ∧ s.owns w' w.heap.size (.slice a (s.hl s.top).length c) s.top) ∧ Still w w' := by
  have HT := top_any s w h
  have hg := h.blk.lt
  have HH := Lib.hid h
  clear h
  go_enter Try.func42, Try.ntmps42
  go_wp2_with fail
  refine HT.mono ?_; rintro e w ⟨rfl, rfl⟩
  go_wp2_with fail
  go_loopw [3, 7] (fun l i wr => ∃ (j : Nat) (a : Option Addr) (n c : Nat), i = .int .i64 j ∧ l = .slice a n c ∧ j ≤ s.top ∧ n = (s.hl j).length ∧ Still w wr ∧ s.owns wr w.heap.size (.slice a n c) j) (fun _ i _ => s.top - (intOf i).toNat)
  case atStart => exact ⟨0, none, 0, 0, rfl, rfl, by omega, rfl, Still.refl _, World.ownsRow_nil _ _ _ _⟩
  case round =>
    obtain ⟨j, a, n, c, rfl, rfl, hj, hn, ht2, hown⟩ := hrel
    have hnj : n ≤ j := by have := s.hl_len j; omega
    have HN := Lib.hid hn
    have hgr : s.g < wr.heap.size := (HH.out.still ht2).blk.lt
    have hwl : w.heap.size ≤ wr.heap.size := ht2.size
    have HA := has_any s.g 2 s.hx j wr (HH.out.still ht2).set
    have HW := Lib.hid ht2
    have HO : Hid (wr.ownsRow w.heap.size 3 1 (.slice a n c) n (M.ints (s.hl j))) := by
      have := hown; unfold St.owns at this; rw [← hn] at this; exact this
    clear hown ht2 hn
    by_cases hlt : j < s.top
    · cases hi : M.inSet s.hx j with
      | false =>
        have HS := Lib.hid (show s.is j = false from hi)
        rw [hi] at HA
        clear hi
        go_wp2_with fail
        refine HA.mono ?_; rintro e wr ⟨rfl, rfl⟩
        go_wp2_with fail
        go_roundw
        case rel =>
          have e1 : s.hl (j + 1) = s.hl j := by rw [St.hl_succ, HS.out]; simp
          refine ⟨j + 1, a, n, c, by go_num, rfl, by omega, by rw [e1]; exact HN.out, HW.out, ?_⟩
          unfold St.owns; rw [e1, ← HN.out]; exact HO.out
        case measure => simp [intOf]; omega
      | true =>
        have HS := Lib.hid (show s.is j = true from hi)
        rw [hi] at HA
        clear hi
        go_wp2_with fail
        refine HA.mono ?_; rintro e wr ⟨rfl, rfl⟩
        go_wp2_with (first
          | (at_builtin; refine wpList_append_form rfl (.tmp 15) (.tmp 17) 70 rfl w.heap.size 3 1 8 (.int .i64 0) Try.underlying70 infoI rfl (by decide) a n c _ rfl (HO.out.alloc _) ⟨wr.heap.size, 0, none⟩ 1 1 [.int .i64 j] rfl rfl (cell_one_new _ _ _) (by simp [Value.oneCell']) (by decide) (by unfold maxLen; omega) (by omega) (by simp; omega) ?_; intro g' c' w2 hown2 ht2 hnew2))
        go_roundw
        case rel =>
          have e1 : s.hl (j + 1) = s.hl j ++ [j] := by rw [St.hl_succ, HS.out]; simp
          refine ⟨j + 1, some ⟨g', 0, none⟩, n + 1, c', by go_num, rfl, by omega, by rw [e1]; have := HN.out; simp; omega, ?_, ?_⟩
          · exact Still.own (HW.out.alloc _) (ht2.out.below_only HO.out hwl)
          · have := hown2.out
            unfold St.owns; rw [e1]
            have e2 : (s.hl j ++ [j]).length = n + 1 := by have := HN.out; simp; omega
            rw [e2]
            simpa [M.ints] using this
        case measure => simp [intOf]; omega
    · obtain rfl : j = s.top := by omega
      clear HA
      go_wp2_with fail
      go_ret
      refine ⟨⟨a, c, by rw [← HN.out]; rfl, ?_⟩, HW.out⟩
      unfold St.owns; rw [← HN.out]; exact HO.out
end Go.Proofs.Yteanlncnhncpbaa
