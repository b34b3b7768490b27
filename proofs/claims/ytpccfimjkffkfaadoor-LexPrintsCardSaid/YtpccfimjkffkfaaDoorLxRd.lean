/- The reader of lex in memory: where it stands, what it sees. -/
import Derived.Test.YtpccfimjkffkfaaDoorLxCh
namespace Go.Proofs.YtpccfimjkffkfaaDoor
set_option linter.unusedVariables false
set_option linter.unusedSimpArgs false
open Go.ChangeShapes Go.WideShapes Go.ChangeAt Go.RowKit
/-- The reader at g stands at place k of the text s; its words lie at mb. -/
structure Rdr (w : World) (g : Nat) (s : ByteArray) (k mb : Nat) : Prop where
  blk : Blk w g 45 #[.string s, .int .i64 (k : Int), .map (some mb)]
  le : k ≤ s.size
  few : s.size ≤ 16384
theorem Rdr.still {w w' : World} {g : Nat} {s : ByteArray} {k mb : Nat} (h : Rdr w g s k mb) (t : Still w w') : Rdr w' g s k mb := ⟨t.blk h.blk, h.le, h.few⟩
theorem Rdr.later {w w' : World} {g : Nat} {s : ByteArray} {k mb : Nat} (h : Rdr w g s k mb) (t : Below w.heap.size w w') : Rdr w' g s k mb := ⟨(t.block g h.blk.lt).trans h.blk, h.le, h.few⟩
theorem Rdr.set {w : World} {g : Nat} {s : ByteArray} {k mb : Nat} (h : Rdr w g s k mb) {k' : Nat} (hk : k' ≤ s.size) : Rdr (w.setCell ⟨g, 1, none⟩ (.int .i64 (k' : Int))) g s k' mb := ⟨h.blk.set 1 _, hk, h.few⟩
theorem Rdr.box {w : World} {g : Nat} {s : ByteArray} {k mb : Nat} (h : Rdr w g s k mb) : g < w.heap.size ∧ w.cell? ⟨g, 0, none⟩ = some (.string s) ∧ w.cell? ⟨g, 1, none⟩ = some (.int .i64 (k : Int)) ∧ w.cell? ⟨g, 2, none⟩ = some (.map (some mb)) ∧ w.frozen? ⟨g, 1, none⟩ = false :=
  ⟨h.blk.lt, h.blk.cell 0, h.blk.cell 1, h.blk.cell 2, h.blk.frozen 1⟩
theorem drewN_still {w : World} (n : Nat) : Still w (w.drewN n) := (Still.refl w).drewN n
theorem drew_still (w : World) : Still w w.drew := (Still.refl w).drewN 1
theorem atEnd_any {w : World} {g : Nat} {s : ByteArray} {k mb : Nat} (h : Rdr w g s k mb) :
    Calls Tryd.prog 23 #[.pointer (some ⟨g, 0, none⟩)] w fun e w' => e = .returned (.bool (decide (k = s.size))) ∧ ∃ n, w' = w.drewN n := by
  obtain ⟨b0, b1, b2, b3, b4⟩ := h.box
  have he : ((k : Int) == (s.size : Int)) = decide (k = s.size) := by rw [Bool.eq_iff_iff, beq_iff_eq, decide_eq_true_iff]; omega
  have hl := h.le
  have hf := h.few
  clear h
  generalize decide (k = s.size) = d at *
  go_enter Tryd.func23, Tryd.ntmps23
  go_wp2_with fail
  go_quiet (fail)
  go_wp2_with fail
  go_ret
  exact ⟨rfl, _, rfl⟩
theorem hasPrefix_s (s p : ByteArray) (w : World) : Calls Tryd.prog 70 #[.string s, .string p] w fun e w' => e = .returned (.bool ((Lx.bs p).isPrefixOf (Lx.bs s))) ∧ w' = w := by
  by_cases h : p.size ≤ s.size
  · have h1 : ((s.extract 0 p.size).toList == p.toList) = (Lx.bs p).isPrefixOf (Lx.bs s) := by
      rw [Lx.toList_beq, Lx.bs_extract, List.drop_zero, Nat.sub_zero, Bool.eq_iff_iff, decide_eq_true_iff, List.isPrefixOf_iff_prefix, List.prefix_iff_eq_take, Lx.bs_len]
      exact eq_comm
    generalize (Lx.bs p).isPrefixOf (Lx.bs s) = d at *
    go_enter Tryd.func70, Tryd.ntmps70
    go_wp2_with fail
    go_ret
    exact ⟨rfl, rfl⟩
  · have h1 : (Lx.bs p).isPrefixOf (Lx.bs s) = false := by
      rw [Bool.eq_false_iff]
      intro e
      have := (List.isPrefixOf_iff_prefix.1 e).length_le
      rw [Lx.bs_len, Lx.bs_len] at this
      exact h this
    rw [h1]
    have h2 : ¬ (p.size : Int) ≤ (s.size : Int) := by omega
    go_enter Tryd.func70, Tryd.ntmps70
    go_wp2_with fail
    go_ret
    exact ⟨rfl, rfl⟩
theorem hasPrefix_any (s p : ByteArray) (w : World) : Calls Tryd.prog 57 #[.string s, .string p] w fun e w' => e = .returned (.bool ((Lx.bs p).isPrefixOf (Lx.bs s))) ∧ w' = w := by
  go_enter Tryd.func57, Tryd.ntmps57
  go_wp2_with fail
  refine (hasPrefix_s s p _).mono ?_; rintro e w1 ⟨rfl, rfl⟩
  go_wp2_with fail
  go_ret
  exact ⟨rfl, rfl⟩
theorem sees_any {w : World} {g : Nat} {s : ByteArray} {k mb : Nat} (h : Rdr w g s k mb) (p : ByteArray) :
    Calls Tryd.prog 44 #[.pointer (some ⟨g, 0, none⟩), .string p] w fun e w' => e = .returned (.bool ((Lx.bs p).isPrefixOf ((Lx.bs s).drop k))) ∧ ∃ n, w' = w.drewN n := by
  obtain ⟨b0, b1, b2, b3, b4⟩ := h.box
  have hl := h.le
  have hf := h.few
  have HH := Lib.hid (fun W => hasPrefix_any (s.extract k s.size) p W)
  have he : Lx.bs (s.extract k s.size) = (Lx.bs s).drop k := by
    rw [Lx.bs_extract]
    exact List.take_of_length_le (by rw [List.length_drop, Lx.bs_len]; omega)
  rw [he] at HH
  clear h he
  generalize (Lx.bs p).isPrefixOf ((Lx.bs s).drop k) = d at *
  go_enter Tryd.func44, Tryd.ntmps44
  go_wp2_with fail
  go_quiet ((go_at_call 57; exact Calls.quiet_of_same (HH.out _)))
  go_wp2_with fail
  go_ret
  exact ⟨rfl, _, rfl⟩
set_option maxHeartbeats 4000000 in
theorem next_any {w : World} {g : Nat} {s : ByteArray} {k mb : Nat} (h : Rdr w g s k mb) (p : Nat → Bool) (fid : FuncId) (hfid : ∀ args W, (callFunc fid args).run Tryd.prog W = .ok (.enter fid args) W)
    (hp : ∀ (c : Nat) (W : World), Calls Tryd.prog fid #[.int .u8 c] W fun e w' => e = .returned (.bool (p c)) ∧ w' = W) :
    Calls Tryd.prog 58 #[.pointer (some ⟨g, 0, none⟩), .func (.func fid) #[] #[]] w fun e w' => e = .returned (.bool (((Lx.bs s).drop k).head?.any p)) ∧ ∃ n, w' = w.drewN n := by
  have HA := Lib.hid (fun W (t : Still w W) => atEnd_any (h.still t))
  obtain ⟨b0, b1, b2, b3, b4⟩ := h.box
  have hl := h.le
  have hf := h.few
  by_cases hk : k < s.size
  · rw [decide_eq_false (by omega)] at HA
    rw [Lx.drop_lt hk]
    have HP := Lib.hid (hp s[k].toNat)
    have eq1 : s[k]! = s[k] := getElem!_pos s k hk
    have hr : ((s[k].toNat :: (Lx.bs s).drop (k + 1)).head?.any p) = p s[k].toNat := rfl
    rw [hr]
    clear h hp hr
    generalize p s[k].toNat = d at *
    go_enter Tryd.func58, Tryd.ntmps58
    go_wp2_with fail
    go_quiet (first | (go_at_call 23; exact Calls.quiet_of (HA.out _ ((Still.refl _).drewN _))) | (exact Calls.quiet_of_same (HP.out _)))
    go_wp2_with fail
    go_ret
    exact ⟨rfl, _, rfl⟩
  · rw [decide_eq_true (by omega)] at HA
    rw [Lx.drop_ge (by omega)]
    clear h hp
    go_enter Tryd.func58, Tryd.ntmps58
    go_wp2_with fail
    refine wp_region_any (by kernel_rfl) ?_
    change wpAny _ _ _ _ _ _ _ (World.drew _)
    refine wpAny_take (i := 0) (v := ?_) rfl (by kernel_rfl) (by kernel_rfl) (by kernel_rfl) (fun _ _ _ h => h) (Or.inl ⟨by rfl, ?_⟩) ?_
    rotate_left
    · intro w; go_simp; try with_reducible rfl
    go_simp
    refine wpAny_ready (rs := [1]) (by kernel_rfl) (by simp) ?_
    refine AllReady.cons rfl (fun K hK => ?_) AllReady.nil
    go_simp
    refine (HA.out w.drew (drew_still w)).mono ?_; rintro e w8 ⟨rfl, n8, rfl⟩
    refine hK _ _ ?_; clear hK K
    refine wpAny_take (i := 2) (v := ?_) rfl (by kernel_rfl) (by kernel_rfl) (by kernel_rfl) (fun _ _ _ h => h) (Or.inl ⟨by rfl, ?_⟩) ?_
    rotate_left
    · intro w; go_simp; try with_reducible rfl
    go_simp
    refine wpAny_take (i := 3) (v := ?_) rfl (by kernel_rfl) (by kernel_rfl) (by kernel_rfl) (fun _ _ _ h => h) (Or.inl ⟨by rfl, ?_⟩) ?_
    rotate_left
    · intro w; go_simp; try with_reducible rfl
    go_simp
    refine wpAny_take (i := 4) (v := undef) rfl (by kernel_rfl) (by kernel_rfl) (by kernel_rfl) (fun _ _ _ h => h) (Or.inr ⟨by rfl, rfl⟩) ?_
    go_simp
    refine wpAny_take (i := 5) (v := undef) rfl (by kernel_rfl) (by kernel_rfl) (by kernel_rfl) (fun _ _ _ h => h) (Or.inr ⟨by rfl, rfl⟩) ?_
    go_simp
    refine wpAny_take (i := 6) (v := undef) rfl (by kernel_rfl) (by kernel_rfl) (by kernel_rfl) (fun _ _ _ h => h) (Or.inr ⟨by rfl, rfl⟩) ?_
    go_simp
    refine wpAny_take (i := 7) (v := undef) rfl (by kernel_rfl) (by kernel_rfl) (by kernel_rfl) (fun _ _ _ h => h) (Or.inr ⟨by rfl, rfl⟩) ?_
    go_simp
    refine wpAny_take (i := 8) (v := undef) rfl (by kernel_rfl) (by kernel_rfl) (by kernel_rfl) (fun _ _ _ h => h) (Or.inr ⟨by rfl, rfl⟩) ?_
    go_simp
    refine wpAny_take (i := 9) (v := undef) rfl (by kernel_rfl) (by kernel_rfl) (by kernel_rfl) (fun _ _ _ h => h) (Or.inr ⟨by rfl, rfl⟩) ?_
    go_simp
    refine wpAny_take (i := 10) (v := undef) rfl (by kernel_rfl) (by kernel_rfl) (by kernel_rfl) (fun _ _ _ h => h) (Or.inr ⟨by rfl, rfl⟩) ?_
    go_simp
    refine wpAny_take (i := 11) (v := undef) rfl (by kernel_rfl) (by kernel_rfl) (by kernel_rfl) (fun _ _ _ h => h) (Or.inr ⟨by rfl, rfl⟩) ?_
    go_simp
    refine wpAny_take (i := 12) (v := undef) rfl (by kernel_rfl) (by kernel_rfl) (by kernel_rfl) (fun _ _ _ h => h) (Or.inr ⟨by rfl, rfl⟩) ?_
    go_simp
    refine wpAny_take (i := 13) (v := undef) rfl (by kernel_rfl) (by kernel_rfl) (by kernel_rfl) (fun _ _ _ h => h) (Or.inr ⟨by rfl, rfl⟩) ?_
    go_simp
    refine wpAny_take (i := 14) (v := undef) rfl (by kernel_rfl) (by kernel_rfl) (by kernel_rfl) (fun _ _ _ h => h) (Or.inr ⟨by rfl, rfl⟩) ?_
    go_simp
    refine wpAny_take (i := 15) (v := ?_) rfl (by kernel_rfl) (by kernel_rfl) (by kernel_rfl) (fun _ _ _ h => h) (Or.inl ⟨by rfl, ?_⟩) ?_
    rotate_left
    · intro w; go_simp; try with_reducible rfl
    go_simp
    refine wpAny_take (i := 16) (v := ?_) rfl (by kernel_rfl) (by kernel_rfl) (by kernel_rfl) (fun _ _ _ h => h) (Or.inl ⟨by rfl, ?_⟩) ?_
    rotate_left
    · intro w; go_simp; try with_reducible rfl
    go_simp
    refine wpAny_done (by kernel_rfl) ?_ _
    go_wp2_with fail
    go_ret
    exact ⟨rfl, _, rfl⟩
end Go.Proofs.YtpccfimjkffkfaaDoor
