/- Contracts of layer 2's fields: field, Get, Set, where an object stands. -/
import Derived.Test.YteanlncnhncpbaaHeapAlloc
namespace Go.Proofs.Yteanlncnhncpbaa
set_option linter.unusedVariables false
open Go.ChangeShapes Go.WideShapes Go.ChangeAt Go.RowKit
open M (W)

/-- At the place k stands an object, and what it says is o. -/
structure ObAt (s : St) (k : Nat) (o : Ob) : Prop where
  is : s.is k = true
  lt : k < s.n
  reads : s.reads k s.n = true
  ob : s.ob (s.ws k) = o
theorem object_at {s : St} {k : Nat} {o : Ob} {w : World} (h : HpIs w s) (ho : ObAt s k o) : Calls Try.prog 74 #[s.ptr, .int .i64 k] w fun e w' => e = .returned (.tuple #[o.val, .bool true]) ∧ Still w w' := by
  obtain ⟨h1, h2, h3, rfl⟩ := ho
  exact object_ok s k w h h1 h2 h3
theorem ObAt.need_le {s : St} {k : Nat} {o : Ob} (ho : ObAt s k o) : o.need ≤ s.n - k := by
  obtain ⟨h1, h2, h3, rfl⟩ := ho
  unfold St.reads at h3
  simp only [Bool.and_eq_true, decide_eq_true_eq] at h3
  exact h3.2
theorem ObAt.n_lo {s : St} {k : Nat} {o : Ob} (ho : ObAt s k o) : 0 ≤ o.n := by
  obtain ⟨h1, h2, h3, rfl⟩ := ho
  exact M.ln_lo _
theorem ObAt.need_eq {s : St} {k : Nat} {o : Ob} (ho : ObAt s k o) : o.n ≤ 65536 ∧ o.kind ≠ 0 ∧ o.need = if o.kind = 3 then 1 + (o.n + 7) / 8 else 1 + o.n := by
  obtain ⟨h1, h2, h3, rfl⟩ := ho
  unfold St.reads at h3
  simp only [Bool.and_eq_true, decide_eq_true_eq] at h3
  obtain ⟨h4, h5⟩ := h3
  unfold St.obE St.needE at h4
  unfold St.ob St.need at *
  simp only
  generalize s.kind (M.sh (s.ws k)) = K at *
  generalize s.len (M.sh (s.ws k)) = L at *
  have l0 := M.ln_lo (s.ws k)
  generalize M.ln (s.ws k) = N at *
  unfold M.needE at h4
  unfold M.need at *
  by_cases c1 : K = 0 ∨ N < 0 ∨ (K = 1 ∧ N ≠ L)
  · rw [if_pos c1] at h4; omega
  · rw [if_neg c1] at h4 ⊢
    by_cases c2 : 65536 < N
    · rw [if_pos c2] at h4; omega
    · rw [if_neg c2]
      exact ⟨by omega, by omega, rfl⟩

set_option maxHeartbeats 1000000 in
theorem field_ok (s : St) (k : Nat) (o : Ob) (i : Nat) (w : World) (h : HpIs w s) (ho : ObAt s k o) (hk : o.kind ≠ 3) (hi : (i : Int) < o.n) :
    Calls Try.prog 81 #[s.ptr, .int .i64 k, .int .i64 i] w fun e w' => e = .returned (.pointer (some ⟨s.gw, k + 1 + i, none⟩)) ∧ Still w w' := by
  have HO := object_at h ho
  have hne := ho.need_eq
  have hnl := ho.need_le
  obtain ⟨ha, hb, hc⟩ := hne
  rw [if_neg hk] at hc
  have c0 := h.c0
  have hg := h.blk.lt
  have hnn := h.n_le
  unfold Ob.val at HO
  obtain ⟨p, hp⟩ : ∃ p, k + 1 + i = p := ⟨_, rfl⟩
  have b1 : p < s.n := by omega
  have e1 : (k : Int) + 1 + i = (p : Int) := by omega
  rw [hp]
  clear hp
  obtain ⟨osh, okind, on, oneed⟩ := o
  simp only at *
  have hz : ((okind : Int) == 3) = false := by simpa using hk
  have HH := Lib.hid h
  clear h ho hk hb hc hnl
  go_enter Try.func81, Try.ntmps81
  go_wp2_with fail
  refine HO.mono ?_; rintro e w1 ⟨rfl, ht⟩
  have c0' : w1.cell? ⟨s.g, 0, none⟩ = some (.slice (some ⟨s.gw, 0, none⟩) s.n s.n) := (HH.out.still ht).c0
  have hg' : s.g < w1.heap.size := (HH.out.still ht).blk.lt
  have HT := Lib.hid ht; clear ht c0
  go_wp2_with fail
  go_ret
  exact ⟨rfl, HT.out.alloc _⟩
theorem field_none (s : St) (k : Nat) (o : Ob) (i : Int) (w : World) (h : HpIs w s) (ho : ObAt s k o) (hi : o.kind = 3 ∨ i < 0 ∨ o.n ≤ i) : NoField s.ptr k i w := by
  have HO := object_at h ho
  unfold Ob.val at HO
  unfold NoField
  obtain ⟨osh, okind, on, oneed⟩ := o
  simp only at *
  clear h ho
  by_cases hk : okind = 3
  · subst hk
    clear hi
    go_enter Try.func81, Try.ntmps81
    go_wp2_with fail
    refine HO.mono ?_; rintro e w1 ⟨rfl, ht⟩
    have HT := Lib.hid ht; clear ht
    go_wp2_with fail
    go_ret
    exact ⟨rfl, HT.out.alloc _⟩
  · have hz : ((okind : Int) == 3) = false := by simpa using hk
    by_cases hi0 : i < 0
    · clear hi hk
      go_enter Try.func81, Try.ntmps81
      go_wp2_with fail
      refine HO.mono ?_; rintro e w1 ⟨rfl, ht⟩
      have HT := Lib.hid ht; clear ht
      go_wp2_with fail
      go_ret
      exact ⟨rfl, HT.out.alloc _⟩
    · have hi1 : on ≤ i := by omega
      clear hi hk
      go_enter Try.func81, Try.ntmps81
      go_wp2_with fail
      refine HO.mono ?_; rintro e w1 ⟨rfl, ht⟩
      have HT := Lib.hid ht; clear ht
      go_wp2_with fail
      go_ret
      exact ⟨rfl, HT.out.alloc _⟩
theorem ObAt.in_n {s : St} {k : Nat} {o : Ob} (ho : ObAt s k o) (hk : o.kind ≠ 3) {i : Nat} (hi : (i : Int) < o.n) (hn : s.n ≤ 65536) : k + 1 + i < s.n := by
  have h1 := ho.need_le
  have h2 := ho.need_eq.2.2
  rw [if_neg hk] at h2
  omega
theorem get_ok (s : St) (k : Nat) (o : Ob) (i : Nat) (w : World) (h : HpIs w s) (ho : ObAt s k o) (hk : o.kind ≠ 3) (hi : (i : Int) < o.n) :
    Calls Try.prog 48 #[s.ptr, .int .i64 k, .int .i64 i] w fun e w' => e = .returned (.tuple #[.int .u64 (s.ws (k + 1 + i)), .int .i64 0]) ∧ Still w w' := by
  have HF := field_ok s k o i w h ho hk hi
  have hp := ho.in_n hk hi h.n_le
  have cw := h.cw _ hp
  have hgw := h.words.lt
  have HH := Lib.hid h
  clear ho hk hi h
  generalize k + 1 + i = p at *
  go_enter Try.func48, Try.ntmps48
  go_wp2_with fail
  refine HF.mono ?_; rintro e w1 ⟨rfl, ht⟩
  have cw' : w1.cell? ⟨s.gw, p, none⟩ = some (.int .u64 (s.ws p)) := (HH.out.still ht).cw p hp
  have HT := Lib.hid ht; clear ht cw
  go_wp2_with fail
  go_ret2
  exact ⟨rfl, HT.out⟩
theorem set_unfit (s : St) (k : Nat) (o : Ob) (i : Nat) (x : Int) (w : World) (h : HpIs w s) (ho : ObAt s k o) (hk : o.kind ≠ 3) (hi : (i : Int) < o.n) (x0 : 0 ≤ x) (x1 : x < 18446744073709551616) (hx : s.fits x = false) :
    Calls Try.prog 47 #[s.ptr, .int .i64 k, .int .i64 i, .int .u64 x] w fun e w' => e = .returned (.int .i64 1) ∧ Still w w' := by
  have HF := field_ok s k o i w h ho hk hi
  have HFF := fun W (hW : HpIs W s) => fits_any s x W hW x0 x1
  rw [hx] at HFF
  have HH := Lib.hid h
  clear ho hk hi h hx
  generalize k + 1 + i = p at *
  go_enter Try.func47, Try.ntmps47
  go_wp2_with fail
  refine HF.mono ?_; rintro e w1 ⟨rfl, ht⟩
  have HT := Lib.hid ht; clear ht
  go_wp2_with fail
  refine (HFF _ (HH.out.still HT.out)).mono ?_; rintro e w2 ⟨rfl, rfl⟩
  go_wp2_with fail
  go_ret
  exact ⟨rfl, HT.out⟩
/-- A heap with another word at p. -/
def St.put (s : St) (p x : Nat) : St := { s with ws := fun i => if i = p then x else s.ws i }
theorem set_ok (s : St) (k : Nat) (o : Ob) (i : Nat) (x : Int) (w : World) (h : HpIs w s) (ho : ObAt s k o) (hk : o.kind ≠ 3) (hi : (i : Int) < o.n) (x0 : 0 ≤ x) (x1 : x < 18446744073709551616) (hx : s.fits x = true) :
    Calls Try.prog 47 #[s.ptr, .int .i64 k, .int .i64 i, .int .u64 x] w fun e w' => e = .returned (.int .i64 0) ∧ HpIs w' (s.put (k + 1 + i) x.toNat) ∧ Turn (fun k => k = s.gw) w w' := by
  have HF := field_ok s k o i w h ho hk hi
  have HFF := fun W (hW : HpIs W s) => fits_any s x W hW x0 x1
  rw [hx] at HFF
  have hp := ho.in_n hk hi h.n_le
  have HH := Lib.hid h
  clear ho hk hi h hx
  generalize k + 1 + i = p at *
  go_enter Try.func47, Try.ntmps47
  go_wp2_with fail
  refine HF.mono ?_; rintro e w1 ⟨rfl, ht⟩
  have cw' : w1.cell? ⟨s.gw, p, none⟩ = some (.int .u64 (s.ws p)) := (HH.out.still ht).cw p hp
  have cf' : w1.frozen? ⟨s.gw, p, none⟩ = false := (HH.out.still ht).words.frozen p
  have HT := Lib.hid ht; clear ht
  go_wp2_with fail
  refine (HFF _ (HH.out.still HT.out)).mono ?_; rintro e w2 ⟨rfl, rfl⟩
  go_wp2_with fail
  go_ret
  exact ⟨rfl, (HH.out.still HT.out).setWord p x x.toNat (by omega) (by omega), (Still.turn (S := fun k => k = s.gw) HT.out).setCell (fun _ => rfl) _⟩
end Go.Proofs.Yteanlncnhncpbaa
