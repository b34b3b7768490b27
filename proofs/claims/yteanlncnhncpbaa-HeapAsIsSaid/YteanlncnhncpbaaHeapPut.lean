/- Contracts of layer 2's writing helpers: put, fill, empty. -/
import Derived.Test.YteanlncnhncpbaaHeapNo
import Derived.RegionTactic
import Derived.ChangeAlike
import Derived.Laws.CopyRow
import Derived.Lib.SliceRun
import Derived.Deep.RegionLaw
namespace Go.Proofs.Yteanlncnhncpbaa
set_option linter.unusedVariables false
open Go.ChangeShapes Go.WideShapes Go.ChangeAt Go.RowKit
open M (W)

theorem put_in0 (g o : Nat) (i x : Int) (w : World) (h0 : 0 ≤ i) (h1 : i < 65536) (hc : w.cell? ⟨g, o + (i / 64).toNat, none⟩ = some (.int .u64 x)) (hf : w.frozen? ⟨g, o + (i / 64).toNat, none⟩ = false) :
    Calls Try.prog 77 #[.pointer (some ⟨g, o, none⟩), .int .i64 i] w fun e w' => e = .returned (.tuple #[]) ∧ w' = (w.setCell ⟨g, o + (i / 64).toNat, none⟩ (.int .u64 (bits .or .u64 x (IntKind.u64.wrap (2 ^ (i % 64).toNat))))).drew := by
  have q0 : 0 ≤ i / 64 := by omega
  have q1 : i / 64 < 1024 := by omega
  have r0 : 0 ≤ i % 64 := by omega
  have r1 : i % 64 < 64 := by omega
  go_enter Try.func77, Try.ntmps77
  go_region
  all_goals (go_end0; exact ⟨rfl, rfl⟩)

theorem or_bit (x j : Nat) (hx : x < 18446744073709551616) (hj : j < 64) : bits .or .u64 (x : Int) (IntKind.u64.wrap (2 ^ j)) = ((x ||| 2 ^ j : Nat) : Int) := by
  have hp : 2 ^ j < 18446744073709551616 := Nat.pow_lt_pow_right (m := j) (n := 64) (by decide) hj
  have h2 : ((2 : Int) ^ j) = ((2 ^ j : Nat) : Int) := by simp
  have e : IntKind.u64.wrap (2 ^ j) = ((2 ^ j : Nat) : Int) := by
    rw [h2]
    generalize 2 ^ j = q at *
    rw [IntKind.wrap_u64]; omega
  rw [e, u64_or_nat x _ hx hp]
theorem or_bit_lt (x j : Nat) (hx : x < 18446744073709551616) (hj : j < 64) : x ||| 2 ^ j < 18446744073709551616 := by
  have hp : 2 ^ j < 2 ^ 64 := Nat.pow_lt_pow_right (m := j) (n := 64) (by decide) hj
  exact Nat.or_lt_two_pow (n := 64) hx hp
/-- A set with one place more. -/
def M.putIn (x : Nat → Nat) (k : Nat) : Nat → Nat := fun i => if i = k / 64 then x i ||| 2 ^ (k % 64) else x i
theorem M.putIn_in (x : Nat → Nat) (k : Nat) (hk : k < 65536) (i : Int) : M.inSet (M.putIn x k) i = (decide (i = k) || M.inSet x i) := by
  unfold M.inSet M.putIn
  by_cases h : (decide (0 ≤ i) && decide (i < 65536)) = true
  · rw [h]
    simp only [Bool.and_eq_true, decide_eq_true_eq] at h
    obtain ⟨m, rfl⟩ := Int.eq_ofNat_of_zero_le h.1
    simp only [Int.toNat_natCast, Bool.true_and]
    by_cases e : m / 64 = k / 64
    · rw [if_pos e, Nat.testBit_or, Nat.testBit_two_pow]
      by_cases e2 : m = k
      · subst e2; simp
      · have : ¬ k % 64 = m % 64 := by omega
        have e3 : ((m : Int) = k) = False := by simp; omega
        simp [this, e3]
    · rw [if_neg e]
      have e3 : ((m : Int) = k) = False := by simp; omega
      simp [e3]
  · simp only [Bool.not_eq_true] at h
    rw [h]
    simp at h
    have : ¬ i = k := by omega
    simp [this]
theorem put_any (g o k x : Nat) (w : World) (hk : k < 65536) (hx : x < 18446744073709551616) (hc : w.cell? ⟨g, o + k / 64, none⟩ = some (.int .u64 x)) (hf : w.frozen? ⟨g, o + k / 64, none⟩ = false) :
    Calls Try.prog 77 #[.pointer (some ⟨g, o, none⟩), .int .i64 k] w fun e w' => e = .returned (.tuple #[]) ∧ w' = (w.setCell ⟨g, o + k / 64, none⟩ (.int .u64 ((x ||| 2 ^ (k % 64) : Nat) : Int))).drew := by
  have e1 : ((k : Int) / 64).toNat = k / 64 := by omega
  have e2 : ((k : Int) % 64).toNat = k % 64 := by omega
  refine (put_in0 g o k x w (by omega) (by omega) (by rw [e1]; exact hc) (by rw [e1]; exact hf)).mono fun _ _ ⟨he, hw⟩ => ⟨he, ?_⟩
  rw [e1, e2, or_bit x _ hx (by omega)] at hw
  exact hw

/-- copy within one block, as one step of a region that draws. -/
theorem step_copy_in {P : Program} {ops : Array Oper} {o : Oper} {a : Act} {w : World} {K : Act → World → Prop} {Q : Exit → Act → World → Prop} {E : Prop} (hgd : o.guard = none) (d s : Operand) (dT sT : TypeId)
    (ho : o.op = .call { callee := .builtin .copy, args := #[d, s], argTypes := #[dT, sT] }) (elem : TypeId) (hu : P.underlying dT = some (.slice elem)) (hsz : (P.info? elem).map (·.size) = some 1)
    (g off so dLen dCap sLen sCap m : Nat) (hd : a.eval d = .slice (some ⟨g, off, none⟩) dLen dCap) (hs : a.eval s = .slice (some ⟨g, so, none⟩) sLen sCap) (hm : m = Nat.min sLen dLen)
    (t : TypeId) (N : Nat) (f : Nat → Value) (hr : w.rowIs g t N f) (hfit : off + m ≤ N) (hfs : so + m ≤ N) (h1 : ∀ i, (f i).oneCell' = true)
    (h : ∀ w', Hid (w'.rowIs g t N (fun i => if off ≤ i ∧ i < off + m then f (so + (i - off)) else f i)) → Hid (Turn (· = g) w w') → K (a.put o.dst (goInt m)) w') :
    if Region.wanted o (yielded ops a.tmps) = true then Oper.wp P o a w K Q else E := by
  have hw : Region.wanted o (yielded ops a.tmps) = true := by simp [Region.wanted, hgd]
  rw [if_pos hw]
  obtain ⟨c, hb, hn, hc⟩ := hr
  have hlen : ((List.range m).map (fun j => f (so + j))).length = m := by simp
  have hrun := run_copy_row (P := P) w dT sT o.type elem g off dLen dCap ⟨g, so, none⟩ sLen sCap c t ((List.range m).map (fun j => f (so + j))) hu hsz hb (by rw [hlen]; exact hm)
    (by
      intro j v hj
      simp only [List.getElem?_map, Option.map_eq_some_iff] at hj
      obtain ⟨j', hj', rfl⟩ := hj
      obtain ⟨hlt, rfl⟩ := List.getElem?_eq_some_iff.1 hj'
      simp at hlt
      simp only [List.getElem_range]
      rw [Addr.add_lit, cell_of_row _ _ _ _ _ _ hb]
      exact hc (so + j) (by omega)) (by rw [hlen]; omega) (by
      intro v hv
      obtain ⟨j, _, rfl⟩ := List.mem_map.1 hv
      exact h1 _)
  unfold Oper.wp
  simp [execOp, ho, resolve, invoke, builtin, hd, hs, hrun, Result.andThen]
  refine h _ ?_ ?_
  · refine ⟨_, setRow_heap w g c _ t (0, 0) hb, ?_, fun i hi => ?_⟩
    · simp [hn]; omega
    · simp only [List.getElem?_toArray]
      by_cases h0 : i < off
      · rw [List.getElem?_append_left (by simp [hn]; omega), List.getElem?_take_of_lt h0, if_neg (by omega), ← hc i hi]
        simp
      · by_cases h2 : i < off + m
        · rw [List.getElem?_append_right (by simp; omega), List.getElem?_append_left (by simp [hn]; omega), if_pos (by omega)]
          simp only [List.getElem?_map, List.length_take, Array.length_toList, hn, Nat.min_eq_left (show off ≤ N by omega)]
          rw [List.getElem?_range (by omega)]; rfl
        · rw [List.getElem?_append_right (by simp; omega), List.getElem?_append_right (by simp [hn]; omega), if_neg (by omega)]
          simp only [List.getElem?_drop, List.length_take, Array.length_toList, hn, hlen, Nat.min_eq_left (show off ≤ N by omega)]
          rw [show off + m + (i - off - m) = i by omega, ← hc i hi]; simp
  · exact (Turn.refl (fun k => k = g) w).setRow (fun _ => rfl) _

theorem infoU64 : (Try.prog.info? 30).map (·.size) = some 1 := by kernel_rfl
set_option maxHeartbeats 1000000 in
theorem fill_any (g o n c N : Nat) (f : Nat → Value) (v : Int) (w : World) (hr : w.rowIs g 30 N f) (h1 : ∀ i, (f i).oneCell' = true) (hN : o + n ≤ N) (hc : n ≤ c) (hNN : N ≤ 65536) :
    Calls Try.prog 103 #[.slice (some ⟨g, o, none⟩) n c, .int .u64 v] w fun e w' => e = .returned (.tuple #[]) ∧ w'.rowIs g 30 N (fun i => if o ≤ i ∧ i < o + n then .int .u64 v else f i) ∧ Turn (· = g) w w' := by
  by_cases hn : n = 0
  · subst hn
    go_enter Try.func103, Try.ntmps103
    go_wp2
    first | go_end0 | refine bodyPost_ret (results_none rfl _ _ _) rfl ?_
    exact ⟨rfl, hr.congr fun i _ => by show f i = (if _ then _ else _); rw [if_neg (by omega)], Turn.refl _ _⟩
  · have hn1 : 0 < n := by omega
    have hz : ((n : Int) == 0) = false := by simp; omega
    have hc0 := hr.cell (i := o) (by omega)
    have hf0 := hr.frozen o
    clear hn
    have HR := Lib.hid hr
    have H1 := Lib.hid h1
    clear hr h1
    go_enter Try.func103, Try.ntmps103
    go_wp2_with fail
    go_loopw [4] (fun d wr => ∃ k : Nat, d = .int .i64 k ∧ 1 ≤ k ∧ k ≤ 131072 ∧ wr.rowIs g 30 N (fun i => if o ≤ i ∧ i < o + k ∧ i < o + n then .int .u64 v else f i) ∧ Turn (· = g) w wr) (fun d _ => n - (intOf d).toNat)
    case atStart =>
      refine ⟨1, rfl, by omega, by omega, ?_, (Turn.refl (fun k => k = g) w).setCell (fun _ => rfl) _⟩
      exact (HR.out.set o _).congr fun i _ => by
        by_cases e : i = o
        · rw [if_pos e, if_pos (by omega)]
        · rw [if_neg e, if_neg (by omega)]
    case round =>
      obtain ⟨k, rfl, hk1, hk2, hrow, hturn⟩ := hrel
      have HW := Lib.hid hrow
      have HT := Lib.hid hturn
      clear hrow hturn hc0 hf0 HR
      by_cases hlt : k < n
      · have hcap : k ≤ c := by omega
        have hone : Hid (∀ i, (if o ≤ i ∧ i < o + k ∧ i < o + n then Value.int .u64 v else f i).oneCell' = true) := by
          intro i; split
          · rfl
          · exact H1.out i
        have hkc : k < c := by omega
        have hkN : o + k + min k (n - k) ≤ N := by omega
        have hkN2 : o + min k (n - k) ≤ N := by omega
        have hkn : k ≤ n := by omega
        have hck : ¬ c = k := by omega
        go_wp2_with fail
        go_region_law (refine step_copy_in rfl (.tmp 19) (.tmp 22) 37 37 rfl 30 Try.underlying37 infoU64 g (o + k) o (n - k) (c - k) k c (min k (n - k)) (by simp [Act.eval, Act.put]) (by simp [Act.eval, Act.put]) rfl _ N _ HW.out.drew hkN hkN2 hone.out ?_; intro w4 hr4 ht4)
        go_wp2_with fail
        go_roundw
        case rel =>
          refine ⟨k * 2, by go_num, by omega, by omega, ?_, HT.out.trans (((Turn.refl _ wr).drew).trans ht4.out)⟩
          refine hr4.out.congr fun i _ => ?_
          by_cases e1 : o + k ≤ i ∧ i < o + k + min k (n - k)
          · rw [if_pos e1, if_pos (by omega), if_pos (by omega)]
          · rw [if_neg e1]
            by_cases e2 : o ≤ i ∧ i < o + k ∧ i < o + n
            · rw [if_pos e2, if_pos (by omega)]
            · rw [if_neg e2, if_neg (by omega)]
        case measure => simp [intOf]; omega
      · go_wp2_with fail
        first | go_end0 | refine bodyPost_ret (results_none rfl _ _ _) rfl ?_
        exact ⟨rfl, HW.out.congr fun i _ => by
          by_cases e : o ≤ i ∧ i < o + n
          · rw [if_pos e, if_pos (by omega)]
          · rw [if_neg e, if_neg (by omega)], HT.out⟩
end Go.Proofs.Yteanlncnhncpbaa
