/- Contracts of layer 2's bytes: octet, Byte, SetByte, where an object stands; Shape and Len. -/
import Derived.Test.YteanlncnhncpbaaHeapLives
namespace Go.Proofs.Yteanlncnhncpbaa
set_option linter.unusedVariables false
open Go.ChangeShapes Go.WideShapes Go.ChangeAt Go.RowKit
open M (W)

theorem ObAt.in_b {s : St} {k : Nat} {o : Ob} (ho : ObAt s k o) (hk : o.kind = 3) {i : Nat} (hi : (i : Int) < o.n) (hn : s.n ≤ 65536) : k + 1 + i / 8 < s.n := by
  have h1 := ho.need_le
  have h2 := ho.need_eq.2.2
  rw [if_pos hk] at h2
  omega
theorem shape_ok (s : St) (k : Nat) (o : Ob) (w : World) (h : HpIs w s) (ho : ObAt s k o) : Calls Try.prog 41 #[s.ptr, .int .i64 k] w fun e w' => e = .returned (.tuple #[.int .i64 o.sh, .int .i64 0]) ∧ Still w w' := by
  have HO := object_at h ho
  unfold Ob.val at HO
  clear h ho
  go_enter Try.func41, Try.ntmps41
  go_wp2_with fail
  refine HO.mono ?_; rintro e w1 ⟨rfl, ht⟩
  have HT := Lib.hid ht; clear ht
  go_wp2_with fail
  go_ret2
  exact ⟨rfl, HT.out.alloc _⟩
theorem len_ok (s : St) (k : Nat) (o : Ob) (w : World) (h : HpIs w s) (ho : ObAt s k o) : Calls Try.prog 56 #[s.ptr, .int .i64 k] w fun e w' => e = .returned (.tuple #[.int .i64 o.n, .int .i64 0]) ∧ Still w w' := by
  have HO := object_at h ho
  unfold Ob.val at HO
  clear h ho
  go_enter Try.func56, Try.ntmps56
  go_wp2_with fail
  refine HO.mono ?_; rintro e w1 ⟨rfl, ht⟩
  have HT := Lib.hid ht; clear ht
  go_wp2_with fail
  go_ret2
  exact ⟨rfl, HT.out.alloc _⟩
set_option maxHeartbeats 1000000 in
theorem octet_ok (s : St) (k : Nat) (o : Ob) (i : Int) (w : World) (h : HpIs w s) (ho : ObAt s k o) (hk : o.kind = 3) (hi0 : 0 ≤ i) (hi : i < o.n) :
    Calls Try.prog 83 #[s.ptr, .int .i64 k, .int .i64 i] w fun e w' => e = .returned (.tuple #[.pointer (some ⟨s.gw, k + 1 + i.toNat / 8, none⟩), .int .i64 (i % 8 * 8)]) ∧ Still w w' := by
  have HO := object_at h ho
  obtain ⟨ha, hb, hc⟩ := ho.need_eq
  have hp := ho.in_b hk (i := i.toNat) (by omega) h.n_le
  have c0 := h.c0
  have hg := h.blk.lt
  have hnn := h.n_le
  unfold Ob.val at HO
  obtain ⟨p, hpe⟩ : ∃ p, k + 1 + i.toNat / 8 = p := ⟨_, rfl⟩
  have e1 : (k : Int) + 1 + i / 8 = (p : Int) := by omega
  rw [hpe] at hp ⊢
  have b0 : 0 ≤ i / 8 := by omega
  have b1 : i / 8 ≤ 8192 := by omega
  have m0 : 0 ≤ i % 8 := by omega
  have m1 : i % 8 ≤ 7 := by omega
  obtain ⟨osh, okind, on, oneed⟩ := o
  simp only at *
  subst hk
  have HH := Lib.hid h
  clear h ho hb hc hpe
  go_enter Try.func83, Try.ntmps83
  go_wp2_with fail
  refine HO.mono ?_; rintro e w1 ⟨rfl, ht⟩
  have c0' : w1.cell? ⟨s.g, 0, none⟩ = some (.slice (some ⟨s.gw, 0, none⟩) s.n s.n) := (HH.out.still ht).c0
  have hg' : s.g < w1.heap.size := (HH.out.still ht).blk.lt
  have HT := Lib.hid ht; clear ht c0
  go_wp2_with fail
  go_ret2
  exact ⟨rfl, HT.out.alloc _⟩
theorem octet_none (s : St) (k : Nat) (o : Ob) (i : Int) (w : World) (h : HpIs w s) (ho : ObAt s k o) (hi : o.kind ≠ 3 ∨ i < 0 ∨ o.n ≤ i) : NoOctet s.ptr k i w := by
  have HO := object_at h ho
  unfold Ob.val at HO
  unfold NoOctet
  obtain ⟨osh, okind, on, oneed⟩ := o
  simp only at *
  clear h ho
  by_cases hk : okind = 3
  · subst hk
    by_cases hi0 : i < 0
    · clear hi
      go_enter Try.func83, Try.ntmps83
      go_wp2_with fail
      refine HO.mono ?_; rintro e w1 ⟨rfl, ht⟩
      have HT := Lib.hid ht; clear ht
      go_wp2_with fail
      go_ret2
      exact ⟨rfl, HT.out.alloc _⟩
    · have hi1 : on ≤ i := by omega
      clear hi
      go_enter Try.func83, Try.ntmps83
      go_wp2_with fail
      refine HO.mono ?_; rintro e w1 ⟨rfl, ht⟩
      have HT := Lib.hid ht; clear ht
      go_wp2_with fail
      go_ret2
      exact ⟨rfl, HT.out.alloc _⟩
  · have hz : ((okind : Int) != 3) = true := by simpa using hk
    clear hi hk
    go_enter Try.func83, Try.ntmps83
    go_wp2_with fail
    refine HO.mono ?_; rintro e w1 ⟨rfl, ht⟩
    have HT := Lib.hid ht; clear ht
    go_wp2_with fail
    go_ret2
    exact ⟨rfl, HT.out.alloc _⟩

/-- A byte of a word; a word with another byte. -/
def M.byteOf (x j : Nat) : Nat := x / 2 ^ (j * 8) % 256
def M.setByteOf (x j c : Nat) : Nat := x - 2 ^ (j * 8) * (x / 2 ^ (j * 8) % 256) + 2 ^ (j * 8) * c
theorem byte_fin (x q j : Nat) (h : q = j * 8) : ((x : Int) / 2 ^ q % 256) = ((M.byteOf x j : Nat) : Int) := by
  subst h
  unfold M.byteOf
  have h2 : ((2 : Int) ^ (j * 8)) = ((2 ^ (j * 8) : Nat) : Int) := by simp
  rw [h2]; simp
theorem setByte_fin (x q j c : Nat) (h : q = j * 8) (hj : j < 8) (hx : x < 18446744073709551616) (hc : c < 256) : bits .or .u64 (bits .andNot .u64 (x : Int) (IntKind.u64.wrap (255 * 2 ^ q))) (IntKind.u64.wrap ((c : Int) * 2 ^ q)) = ((M.setByteOf x j c : Nat) : Int) := by
  have hp : 2 ^ q ≤ 2 ^ 56 := Nat.pow_le_pow_right (by decide) (by omega)
  have h2 : ((2 : Int) ^ q) = ((2 ^ q : Nat) : Int) := by simp
  have hw := M.with_int (x : Int) (c : Int) q 8 (by omega) (by omega) (by omega)
  have e1 : IntKind.u64.wrap (255 * 2 ^ q) = (((2 ^ 8 - 1) * 2 ^ q : Nat) : Int) := by
    rw [h2]; generalize 2 ^ q = Q at *; rw [IntKind.wrap_u64]; omega
  have e2 : IntKind.u64.wrap ((c : Int) * 2 ^ q) = ((2 ^ q : Nat) : Int) * ((c : Int) % ((2 ^ 8 : Nat) : Int)) := by
    rw [h2]
    have hm : (c : Int) % ((2 ^ 8 : Nat) : Int) = c := by omega
    rw [hm, Int.mul_comm, IntKind.wrap_u64]
    have : 2 ^ q * c < 18446744073709551616 := Nat.lt_of_lt_of_le (Nat.mul_lt_mul_of_le_of_lt hp hc (by decide)) (by decide)
    have h3 : ((2 ^ q : Nat) : Int) * (c : Int) = ((2 ^ q * c : Nat) : Int) := by simp
    rw [h3]
    generalize 2 ^ q * c = R at *
    omega
  rw [e1, e2, hw]
  subst h
  unfold M.put M.setByteOf
  have hle : 2 ^ (j * 8) * (x / 2 ^ (j * 8) % 256) ≤ x := Nat.le_trans (Nat.mul_le_mul_left _ (Nat.mod_le _ _)) (Nat.mul_div_le _ _)
  have hm : (c : Int) % ((2 ^ 8 : Nat) : Int) = c := by omega
  rw [hm, Int.natCast_add, Int.natCast_sub hle]
  simp
theorem setByteOf_lt (x j c : Nat) (hj : j < 8) (hx : x < 18446744073709551616) (hc : c < 256) : M.setByteOf x j c < 18446744073709551616 := by
  unfold M.setByteOf
  have e4 := M.split3 x (j * 8) 8
  have hlow : x % 2 ^ (j * 8) < 2 ^ (j * 8) := Nat.mod_lt _ (Nat.two_pow_pos _)
  have key : x - 2 ^ (j * 8) * (x / 2 ^ (j * 8) % 256) + 2 ^ (j * 8) * c = 2 ^ (j * 8 + 8) * (x / 2 ^ (j * 8 + 8)) + (2 ^ (j * 8) * c + x % 2 ^ (j * 8)) := by
    have : (2:Nat) ^ 8 = 256 := by decide
    rw [this] at e4
    omega
  rw [key]
  have hlt := M.lo_lt c (x % 2 ^ (j * 8)) (j * 8) 8 hc hlow
  have h64 : (2:Nat) ^ 64 = 18446744073709551616 := by decide
  have hq : x / 2 ^ (j * 8 + 8) < 2 ^ (64 - (j * 8 + 8)) := by
    rw [Nat.div_lt_iff_lt_mul (Nat.two_pow_pos _), ← Nat.pow_add]
    have : 64 - (j * 8 + 8) + (j * 8 + 8) = 64 := by omega
    rw [this, h64]; exact hx
  have hfin := M.lo_lt (x / 2 ^ (j * 8 + 8)) (2 ^ (j * 8) * c + x % 2 ^ (j * 8)) (j * 8 + 8) (64 - (j * 8 + 8)) hq hlt
  have : j * 8 + 8 + (64 - (j * 8 + 8)) = 64 := by omega
  rw [this, h64] at hfin
  exact hfin
set_option maxHeartbeats 1000000 in
theorem setByte_ok (s : St) (k : Nat) (o : Ob) (i c : Nat) (w : World) (h : HpIs w s) (ho : ObAt s k o) (hk : o.kind = 3) (hi : (i : Int) < o.n) (hc : c < 256) :
    Calls Try.prog 54 #[s.ptr, .int .i64 k, .int .i64 i, .int .u8 c] w fun e w' => e = .returned (.int .i64 0) ∧ HpIs w' (s.put (k + 1 + i / 8) (M.setByteOf (s.ws (k + 1 + i / 8)) (i % 8) c)) ∧ Turn (fun k => k = s.gw) w w' := by
  have HF := octet_ok s k o i w h ho hk (by omega) hi
  rw [Int.toNat_natCast] at HF
  have hp := ho.in_b hk hi h.n_le
  have hgw := h.words.lt
  have HH := Lib.hid h
  have hx := h.ws_lt (k + 1 + i / 8)
  clear ho hk hi h
  generalize k + 1 + i / 8 = p at *
  obtain ⟨j, hj⟩ : ∃ j, j = i % 8 := ⟨_, rfl⟩
  have hj8 : j < 8 := by omega
  obtain ⟨q, hq⟩ : ∃ q : Nat, (i : Int) % 8 * 8 = q := ⟨j * 8, by omega⟩
  have hqj : q = j * 8 := by omega
  rw [hq] at HF
  rw [← hj]
  have q0 : q < 64 := by omega
  have HV := Lib.hid (setByte_fin (s.ws p) q j c hqj hj8 hx hc)
  have HVL := Lib.hid (setByteOf_lt (s.ws p) j c hj8 hx hc)
  clear hq hj hqj
  go_enter Try.func54, Try.ntmps54
  go_wp2_with fail
  refine HF.mono ?_; rintro e w1 ⟨rfl, ht⟩
  have cw' : w1.cell? ⟨s.gw, p, none⟩ = some (.int .u64 (s.ws p)) := (HH.out.still ht).cw p hp
  have cf' : w1.frozen? ⟨s.gw, p, none⟩ = false := (HH.out.still ht).words.frozen p
  have HT := Lib.hid ht; clear ht
  go_wp2_with fail
  go_region
  all_goals
    go_wp2_with fail
    go_ret
    refine ⟨rfl, ?_, ?_⟩
    · rw [HV.out]
      exact (((HH.out.still HT.out).setWord p _ _ rfl HVL.out).drewN 1)
    · exact ((Still.turn (S := fun k => k = s.gw) HT.out).setCell (fun _ => rfl) _).drew
end Go.Proofs.Yteanlncnhncpbaa
