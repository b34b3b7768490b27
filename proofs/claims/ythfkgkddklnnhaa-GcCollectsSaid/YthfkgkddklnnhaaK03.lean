/- Lemmas, put together: HeapPut HeapAlloc HeapSet. -/
import Derived.Test.YthfkgkddklnnhaaK02
import Derived.RegionTactic
import Derived.ChangeAlike
import Derived.Laws.CopyRow
import Derived.Lib.SliceRun
import Derived.Deep.RegionLaw
import Derived.Deep.WholeRow
import Derived.StillTailTactics
/- Contracts of layer 2's writing helpers: put, fill, empty. -/
namespace Go.Proofs.Ythfkgkddklnnhaa
set_option linter.unusedVariables false
open Go.ChangeShapes Go.WideShapes Go.ChangeAt Go.RowKit
open M (W)

theorem put_in0 (g o : Nat) (i x : Int) (w : World) (h0 : 0 ≤ i) (h1 : i < 65536) (hc : w.cell? ⟨g, o + (i / 64).toNat, none⟩ = some (.int .u64 x)) (hf : w.frozen? ⟨g, o + (i / 64).toNat, none⟩ = false) :
    Calls Try.prog 60 #[.pointer (some ⟨g, o, none⟩), .int .i64 i] w fun e w' => e = .returned (.tuple #[]) ∧ w' = (w.setCell ⟨g, o + (i / 64).toNat, none⟩ (.int .u64 (bits .or .u64 x (IntKind.u64.wrap (2 ^ (i % 64).toNat))))).drew := by
  have q0 : 0 ≤ i / 64 := by omega
  have q1 : i / 64 < 1024 := by omega
  have r0 : 0 ≤ i % 64 := by omega
  have r1 : i % 64 < 64 := by omega
  go_enter Try.func60, Try.ntmps60
  go_region
  all_goals (go_end0; exact ⟨rfl, rfl⟩)

theorem or_bit (x j : Nat) (hx : x < 18446744073709551616) (hj : j < 64) : bits .or .u64 (x : Int) (IntKind.u64.wrap (2 ^ j)) = ((x ||| 2 ^ j : Nat) : Int) := by
  have hp : 2 ^ j < 18446744073709551616 := Nat.pow_lt_pow_right (m := j) (n := 64) (by decide) hj
  have h2 : ((2 : Int) ^ j) = ((2 ^ j : Nat) : Int) := by simp
  have e : IntKind.u64.wrap (2 ^ j) = ((2 ^ j : Nat) : Int) := by
    rw [h2]
    generalize 2 ^ j = q at *
    rw [IntKind.wrap_u64]; omega
  rw [e, u64_or_nat x _ hx hp]
theorem or_bit_lt (x j : Nat) (hx : x < 18446744073709551616) (hj : j < 64) : x ||| 2 ^ j < 18446744073709551616 := by
  have hp : 2 ^ j < 2 ^ 64 := Nat.pow_lt_pow_right (m := j) (n := 64) (by decide) hj
  exact Nat.or_lt_two_pow (n := 64) hx hp
/-- A set with one place more. -/
def M.putIn (x : Nat → Nat) (k : Nat) : Nat → Nat := fun i => if i = k / 64 then x i ||| 2 ^ (k % 64) else x i
theorem M.putIn_in (x : Nat → Nat) (k : Nat) (hk : k < 65536) (i : Int) : M.inSet (M.putIn x k) i = (decide (i = k) || M.inSet x i) := by
  unfold M.inSet M.putIn
  by_cases h : (decide (0 ≤ i) && decide (i < 65536)) = true
  · rw [h]
    simp only [Bool.and_eq_true, decide_eq_true_eq] at h
    obtain ⟨m, rfl⟩ := Int.eq_ofNat_of_zero_le h.1
    simp only [Int.toNat_natCast, Bool.true_and]
    by_cases e : m / 64 = k / 64
    · rw [if_pos e, Nat.testBit_or, Nat.testBit_two_pow]
      by_cases e2 : m = k
      · subst e2; simp
      · have : ¬ k % 64 = m % 64 := by omega
        have e3 : ((m : Int) = k) = False := by simp; omega
        simp [this, e3]
    · rw [if_neg e]
      have e3 : ((m : Int) = k) = False := by simp; omega
      simp [e3]
  · simp only [Bool.not_eq_true] at h
    rw [h]
    simp at h
    have : ¬ i = k := by omega
    simp [this]
theorem put_any (g o k x : Nat) (w : World) (hk : k < 65536) (hx : x < 18446744073709551616) (hc : w.cell? ⟨g, o + k / 64, none⟩ = some (.int .u64 x)) (hf : w.frozen? ⟨g, o + k / 64, none⟩ = false) :
    Calls Try.prog 60 #[.pointer (some ⟨g, o, none⟩), .int .i64 k] w fun e w' => e = .returned (.tuple #[]) ∧ w' = (w.setCell ⟨g, o + k / 64, none⟩ (.int .u64 ((x ||| 2 ^ (k % 64) : Nat) : Int))).drew := by
  have e1 : ((k : Int) / 64).toNat = k / 64 := by omega
  have e2 : ((k : Int) % 64).toNat = k % 64 := by omega
  refine (put_in0 g o k x w (by omega) (by omega) (by rw [e1]; exact hc) (by rw [e1]; exact hf)).mono fun _ _ ⟨he, hw⟩ => ⟨he, ?_⟩
  rw [e1, e2, or_bit x _ hx (by omega)] at hw
  exact hw

/-- copy within one block, as one step of a region that draws. -/
theorem step_copy_in {P : Program} {ops : Array Oper} {o : Oper} {a : Act} {w : World} {K : Act → World → Prop} {Q : Exit → Act → World → Prop} {E : Prop} (hgd : o.guard = none) (d s : Operand) (dT sT : TypeId)
    (ho : o.op = .call { callee := .builtin .copy, args := #[d, s], argTypes := #[dT, sT] }) (elem : TypeId) (hu : P.underlying dT = some (.slice elem)) (hsz : (P.info? elem).map (·.size) = some 1)
    (g off so dLen dCap sLen sCap m : Nat) (hd : a.eval d = .slice (some ⟨g, off, none⟩) dLen dCap) (hs : a.eval s = .slice (some ⟨g, so, none⟩) sLen sCap) (hm : m = Nat.min sLen dLen)
    (t : TypeId) (N : Nat) (f : Nat → Value) (hr : w.rowIs g t N f) (hfit : off + m ≤ N) (hfs : so + m ≤ N) (h1 : ∀ i, (f i).oneCell' = true)
    (h : ∀ w', Hid (w'.rowIs g t N (fun i => if off ≤ i ∧ i < off + m then f (so + (i - off)) else f i)) → Hid (Turn (· = g) w w') → K (a.put o.dst (goInt m)) w') :
    if Region.wanted o (yielded ops a.tmps) = true then Oper.wp P o a w K Q else E := by
  have hw : Region.wanted o (yielded ops a.tmps) = true := by simp [Region.wanted, hgd]
  rw [if_pos hw]
  obtain ⟨c, hb, hn, hc⟩ := hr
  have hlen : ((List.range m).map (fun j => f (so + j))).length = m := by simp
  have hrun := run_copy_row (P := P) w dT sT o.type elem g off dLen dCap ⟨g, so, none⟩ sLen sCap c t ((List.range m).map (fun j => f (so + j))) hu hsz hb (by rw [hlen]; exact hm)
    (by
      intro j v hj
      simp only [List.getElem?_map, Option.map_eq_some_iff] at hj
      obtain ⟨j', hj', rfl⟩ := hj
      obtain ⟨hlt, rfl⟩ := List.getElem?_eq_some_iff.1 hj'
      simp at hlt
      simp only [List.getElem_range]
      rw [Addr.add_lit, cell_of_row _ _ _ _ _ _ hb]
      exact hc (so + j) (by omega)) (by rw [hlen]; omega) (by
      intro v hv
      obtain ⟨j, _, rfl⟩ := List.mem_map.1 hv
      exact h1 _)
  unfold Oper.wp
  simp [execOp, ho, resolve, invoke, builtin, hd, hs, hrun, Result.andThen]
  refine h _ ?_ ?_
  · refine ⟨_, setRow_heap w g c _ t (0, 0) hb, ?_, fun i hi => ?_⟩
    · simp [hn]; omega
    · simp only [List.getElem?_toArray]
      by_cases h0 : i < off
      · rw [List.getElem?_append_left (by simp [hn]; omega), List.getElem?_take_of_lt h0, if_neg (by omega), ← hc i hi]
        simp
      · by_cases h2 : i < off + m
        · rw [List.getElem?_append_right (by simp; omega), List.getElem?_append_left (by simp [hn]; omega), if_pos (by omega)]
          simp only [List.getElem?_map, List.length_take, Array.length_toList, hn, Nat.min_eq_left (show off ≤ N by omega)]
          rw [List.getElem?_range (by omega)]; rfl
        · rw [List.getElem?_append_right (by simp; omega), List.getElem?_append_right (by simp [hn]; omega), if_neg (by omega)]
          simp only [List.getElem?_drop, List.length_take, Array.length_toList, hn, hlen, Nat.min_eq_left (show off ≤ N by omega)]
          rw [show off + m + (i - off - m) = i by omega, ← hc i hi]; simp
  · exact (Turn.refl (fun k => k = g) w).setRow (fun _ => rfl) _

theorem infoU64 : (Try.prog.info? 33).map (·.size) = some 1 := by kernel_rfl
set_option maxHeartbeats 1000000 in
theorem fill_any (g o n c N : Nat) (f : Nat → Value) (v : Int) (w : World) (hr : w.rowIs g 33 N f) (h1 : ∀ i, (f i).oneCell' = true) (hN : o + n ≤ N) (hc : n ≤ c) (hNN : N ≤ 65536) :
    Calls Try.prog 88 #[.slice (some ⟨g, o, none⟩) n c, .int .u64 v] w fun e w' => e = .returned (.tuple #[]) ∧ w'.rowIs g 33 N (fun i => if o ≤ i ∧ i < o + n then .int .u64 v else f i) ∧ Turn (· = g) w w' := by
  by_cases hn : n = 0
  · subst hn
    go_enter Try.func88, Try.ntmps88
    go_wp2
    first | go_end0 | refine bodyPost_ret (results_none rfl _ _ _) rfl ?_
    exact ⟨rfl, hr.congr fun i _ => by show f i = (if _ then _ else _); rw [if_neg (by omega)], Turn.refl _ _⟩
  · have hn1 : 0 < n := by omega
    have hz : ((n : Int) == 0) = false := by simp; omega
    have hc0 := hr.cell (i := o) (by omega)
    have hf0 := hr.frozen o
    clear hn
    have HR := Lib.hid hr
    have H1 := Lib.hid h1
    clear hr h1
    go_enter Try.func88, Try.ntmps88
    go_wp2_with fail
    go_loopw [4] (fun d wr => ∃ k : Nat, d = .int .i64 k ∧ 1 ≤ k ∧ k ≤ 131072 ∧ wr.rowIs g 33 N (fun i => if o ≤ i ∧ i < o + k ∧ i < o + n then .int .u64 v else f i) ∧ Turn (· = g) w wr) (fun d _ => n - (intOf d).toNat)
    case atStart =>
      refine ⟨1, rfl, by omega, by omega, ?_, (Turn.refl (fun k => k = g) w).setCell (fun _ => rfl) _⟩
      exact (HR.out.set o _).congr fun i _ => by
        by_cases e : i = o
        · rw [if_pos e, if_pos (by omega)]
        · rw [if_neg e, if_neg (by omega)]
    case round =>
      obtain ⟨k, rfl, hk1, hk2, hrow, hturn⟩ := hrel
      have HW := Lib.hid hrow
      have HT := Lib.hid hturn
      clear hrow hturn hc0 hf0 HR
      by_cases hlt : k < n
      · have hcap : k ≤ c := by omega
        have hone : Hid (∀ i, (if o ≤ i ∧ i < o + k ∧ i < o + n then Value.int .u64 v else f i).oneCell' = true) := by
          intro i; split
          · rfl
          · exact H1.out i
        have hkc : k < c := by omega
        have hkN : o + k + min k (n - k) ≤ N := by omega
        have hkN2 : o + min k (n - k) ≤ N := by omega
        have hkn : k ≤ n := by omega
        have hck : ¬ c = k := by omega
        go_wp2_with fail
        go_region_law (refine step_copy_in rfl (.tmp 19) (.tmp 22) 24 24 rfl 33 Try.underlying24 infoU64 g (o + k) o (n - k) (c - k) k c (min k (n - k)) (by simp [Act.eval, Act.put]) (by simp [Act.eval, Act.put]) rfl _ N _ HW.out.drew hkN hkN2 hone.out ?_; intro w4 hr4 ht4)
        go_wp2_with fail
        go_roundw
        case rel =>
          refine ⟨k * 2, by go_num, by omega, by omega, ?_, HT.out.trans (((Turn.refl _ wr).drew).trans ht4.out)⟩
          refine hr4.out.congr fun i _ => ?_
          by_cases e1 : o + k ≤ i ∧ i < o + k + min k (n - k)
          · rw [if_pos e1, if_pos (by omega), if_pos (by omega)]
          · rw [if_neg e1]
            by_cases e2 : o ≤ i ∧ i < o + k ∧ i < o + n
            · rw [if_pos e2, if_pos (by omega)]
            · rw [if_neg e2, if_neg (by omega)]
        case measure => simp [intOf]; omega
      · go_wp2_with fail
        first | go_end0 | refine bodyPost_ret (results_none rfl _ _ _) rfl ?_
        exact ⟨rfl, HW.out.congr fun i _ => by
          by_cases e : o ≤ i ∧ i < o + n
          · rw [if_pos e, if_pos (by omega)]
          · rw [if_neg e, if_neg (by omega)], HT.out⟩
end Go.Proofs.Ythfkgkddklnnhaa
/- Contracts of layer 2's Alloc, and of 'empty'. -/
namespace Go.Proofs.Ythfkgkddklnnhaa
set_option linter.unusedVariables false
open Go.ChangeShapes Go.WideShapes Go.ChangeAt Go.RowKit
open M (W)

theorem rowIs_setCells {g : Nat} {t : TypeId} {N : Nat} {z : Value} : ∀ (n o : Nat) {w : World} {f : Nat → Value}, w.rowIs g t N f → (w.setCells g o (List.replicate n z)).rowIs g t N (fun i => if o ≤ i ∧ i < o + n then z else f i)
  | 0, o, w, f, h => h.congr fun i _ => by rw [if_neg (by omega)]
  | n + 1, o, w, f, h => by
    rw [List.replicate_succ, World.setCells]
    exact (rowIs_setCells n (o + 1) (h.set o z)).congr fun i _ => by
      by_cases e : i = o
      · subst e; rw [if_neg (by omega), if_pos rfl, if_pos (by omega)]
      · by_cases e2 : o + 1 ≤ i ∧ i < o + 1 + n
        · rw [if_pos e2, if_pos (by omega)]
        · rw [if_neg e2, if_neg e, if_neg (by omega)]
theorem turn_setCells {g : Nat} {S : Nat → Prop} {w0 : World} (hg : S g) : ∀ (vs : List Value) (o : Nat) {w : World}, Turn S w0 w → Turn S w0 (w.setCells g o vs)
  | [], _, _, h => h
  | v :: vs, o, w, h => by rw [World.setCells]; exact turn_setCells hg vs (o + 1) (h.setCell (fun _ => hg) v)

theorem run_clear_row {P : Program} (w : World) (t e ty : TypeId) (z : Value) (ht : P.underlying t = some (.slice e)) (hv : ∀ w, (zeroValue e).run P w = .ok z w) (hz : z.cells = #[z]) (h1 : z.oneCell' = true) (g o n c : Nat)
    (t' : TypeId) (N : Nat) (f : Nat → Value) (hr : w.rowIs g t' N f) (hfit : o + n ≤ N) :
    (Builtin.clear_ #[t] ty #[.slice (some ⟨g, o, none⟩) n c]).run P w = .ok (.tuple #[]) (w.setCells g o (List.replicate n z)) := by
  rcases Nat.eq_zero_or_pos n with rfl | hn
  · simp [Builtin.clear_, run_underlying ht, World.setCells]
  · exact Lib.run_clear_slice w t e ty z ht hv hz h1 g o n c hn (fun j hj => by rw [hr.cell (by omega)]; rfl) (fun j _ => hr.frozen _)

theorem wpList_clear_row {P : Program} {w : World} {ops : Array Oper} {rest : List Oper} {o : Oper} {a : Act} {Q : Exit → Act → World → Prop} (hgd : o.guard = none) (x : Operand) (t : TypeId)
    (ho : o.op = .call { callee := .builtin .clear, args := #[x], argTypes := #[t] }) (e : TypeId) (z : Value) (ht : P.underlying t = some (.slice e)) (hv : ∀ w, (zeroValue e).run P w = .ok z w) (hz : z.cells = #[z]) (h1 : z.oneCell' = true)
    (g off n c : Nat) (hx : a.eval x = .slice (some ⟨g, off, none⟩) n c) (t' : TypeId) (N : Nat) (f : Nat → Value) (hr : w.rowIs g t' N f) (hfit : off + n ≤ N)
    (h : ∀ w', Hid (w'.rowIs g t' N (fun i => if off ≤ i ∧ i < off + n then z else f i)) → Hid (Turn (fun k => k = g) w w') → wpList P ops Q rest (a.put o.dst (.tuple #[])) w') : wpList P ops Q (o :: rest) a w := by
  refine wpList_plain hgd fun K hK => ?_
  have hrun := run_clear_row (P := P) w t e o.type z ht hv hz h1 g off n c t' N f hr hfit
  unfold Oper.wp
  simp [execOp, ho, resolve, invoke, builtin, hx, hrun, Result.andThen]
  exact hK _ _ (h _ (rowIs_setCells n off hr) (turn_setCells (S := fun k => k = g) rfl _ _ (Turn.refl _ w)))

theorem zeroU64 : ∀ w, (zeroValue 33).run Try.prog w = .ok (.int .u64 0) w := fun _ => by kernel_rfl

/-- What a new object's words are. -/
def St.zero (s : St) (sh : Int) : Nat := if s.kind sh = 3 then 0 else 1
set_option maxHeartbeats 1000000 in
theorem empty_any (s : St) (sh : Int) (o n c : Nat) (w : World) (h : HpIs w s) (hn : o + n ≤ s.n) (hc : n ≤ c) :
    Calls Try.prog 62 #[s.ptr, .slice (some ⟨s.gw, o, none⟩) n c, .int .i64 sh] w fun e w' => e = .returned (.tuple #[]) ∧ w'.rowIs s.gw 33 s.n (fun i => if o ≤ i ∧ i < o + n then .int .u64 (s.zero sh) else .int .u64 (s.ws i)) ∧ Turn (fun k => k = s.gw) w w' := by
  unfold St.zero
  have HK := kind_any s sh w h
  have hr := h.words
  have hnn := h.n_le
  have HR := Lib.hid hr
  clear hr h
  generalize s.kind sh = K at *
  by_cases hk : K = 3
  · subst hk
    go_enter Try.func62, Try.ntmps62
    go_wp2_with (first
      | (go_at_call 75; (with_reducible refine HK.mono ?_); rintro e w ⟨rfl, rfl⟩)
      | (refine wpList_clear_row rfl (.tmp 10) 24 rfl 33 (.int .u64 0) Try.underlying24 zeroU64 rfl rfl s.gw o n c rfl _ s.n _ HR.out hn ?_; intro w4 hr4 ht4))
    first | go_end0 | refine bodyPost_ret (results_none rfl _ _ _) rfl ?_
    exact ⟨rfl, hr4.out, ht4.out⟩
  · have hz : ((K : Int) == 3) = false := by simpa using hk
    rw [if_neg hk]
    clear hk
    have HI := imm_any 0
    have HF := fun w2 (h2 : w2.rowIs s.gw 33 s.n (fun i => .int .u64 (s.ws i))) => fill_any s.gw o n c s.n _ 1 w2 h2 (fun _ => rfl) hn hc hnn
    go_enter Try.func62, Try.ntmps62
    go_wp2_with fail
    refine HK.mono ?_; rintro e w ⟨rfl, rfl⟩
    go_wp2_with fail
    refine (HI _).mono ?_; rintro e w1 ⟨rfl, rfl⟩
    go_wp2_with fail
    refine (HF _ HR.out).mono ?_; rintro e w1 ⟨rfl, hr4, ht4⟩
    have HR4 := Lib.hid hr4; have HT4 := Lib.hid ht4; clear hr4 ht4
    go_wp2_with fail
    first | go_end0 | refine bodyPost_ret (results_none rfl _ _ _) rfl ?_
    exact ⟨rfl, HR4.out, HT4.out⟩

/-- A heap with one object more: its head x, D words. -/
def St.more (s : St) (D : Nat) (x : Nat) (z : Nat) : St :=
  { s with top := s.top + D, hx := M.putIn s.hx s.top, ws := fun i => if i = s.top then x else if s.top < i ∧ i < s.top + D then z else s.ws i }

theorem alloc_err (s : St) (sh n : Int) (w : World) (h : HpIs w s) (he : s.needE sh n ≠ 0) : Calls Try.prog 27 #[s.ptr, .int .i64 sh, .int .i64 n] w fun e w' => e = .returned (.tuple #[.int .i64 0, .int .i64 (s.needE sh n)]) ∧ Still w w' := by
  have HN := need_any s sh n w h
  have hz : ((s.needE sh n : Int) != 0) = true := by simpa using he
  clear he h
  generalize s.needE sh n = E at *
  generalize s.need sh n = D at *
  go_enter Try.func27, Try.ntmps27
  go_wp2_with (go_at_call 59; (with_reducible refine HN.mono ?_); rintro e w ⟨rfl, rfl⟩)
  go_ret2
  exact ⟨rfl, Still.refl _⟩
theorem alloc_full (s : St) (sh n : Int) (w : World) (h : HpIs w s) (he : s.needE sh n = 0) (hf : (s.n : Int) - s.top < s.need sh n) : Calls Try.prog 27 #[s.ptr, .int .i64 sh, .int .i64 n] w fun e w' => e = .returned (.tuple #[.int .i64 0, .int .i64 3]) ∧ Still w w' := by
  have HN := need_any s sh n w h
  rw [he] at HN
  have c0 := h.c0
  have c1 := h.c1
  have hn := h.n_le
  have ht := h.top_le
  clear he h
  generalize s.need sh n = D at *
  have b0 : IntKind.i64.wrap ((s.n : Int) - s.top) = (s.n : Int) - s.top := by rw [IntKind.wrap_i64]; omega
  go_enter Try.func27, Try.ntmps27
  go_wp2_with (go_at_call 59; (with_reducible refine HN.mono ?_); rintro e w ⟨rfl, rfl⟩)
  go_quiet (fail)
  go_wp2_with fail
  go_ret2
  exact ⟨rfl, (Still.refl _).drewN _⟩

theorem HpIs.setTop {w : World} {s : St} (h : HpIs w s) (t : Nat) (v : Int) (hv : v = t) (ht : t ≤ s.n) : HpIs (w.setCell ⟨s.g, 1, none⟩ (.int .i64 v)) { s with top := t } := by
  subst hv
  refine ⟨(h.blk.set 1 _).congr fun i hi => ?_, h.words.setOther (a := ⟨s.g, 1, none⟩) (fun e => h.ne_gw e.symm) _, h.lays.setOther (a := ⟨s.g, 1, none⟩) (fun e => h.ne_gl e.symm) _, h.n_le, h.m_le, ht, h.ws_lt, h.hx_lt, h.kinds, h.lens⟩
  unfold St.cell
  by_cases e : i = 1
  · subst e; simp
  · rw [if_neg e]; simp [e]
theorem M.putIn_lt (x : Nat → Nat) (k : Nat) (hx : ∀ i, x i < 18446744073709551616) (i : Nat) : M.putIn x k i < 18446744073709551616 := by
  unfold M.putIn
  split
  · exact or_bit_lt _ _ (hx i) (by omega)
  · exact hx i
theorem HpIs.setHx {w : World} {s : St} (h : HpIs w s) (k : Nat) (hk : k < 65536) : HpIs (w.setCell ⟨s.g, 2 + k / 64, none⟩ (.int .u64 ((s.hx (k / 64) ||| 2 ^ (k % 64) : Nat) : Int))) { s with hx := M.putIn s.hx k } := by
  refine ⟨(h.blk.set _ _).congr fun i hi => ?_, h.words.setOther (a := ⟨s.g, _, none⟩) (fun e => h.ne_gw e.symm) _, h.lays.setOther (a := ⟨s.g, _, none⟩) (fun e => h.ne_gl e.symm) _, h.n_le, h.m_le, h.top_le, h.ws_lt, M.putIn_lt _ _ h.hx_lt, h.kinds, h.lens⟩
  unfold St.cell M.putIn
  by_cases e : i = 2 + k / 64
  · subst e
    rw [if_pos rfl, if_neg (by omega), if_neg (by omega), if_neg (by omega)]
    simp
  · rw [if_neg e]
    simp only
    by_cases e0 : i = 0
    · simp [e0]
    · by_cases e1 : i = 1
      · simp [e1]
      · by_cases e2 : i = 1026
        · simp [e2]
        · rw [if_neg e0, if_neg e1, if_neg e2, if_neg e0, if_neg e1, if_neg e2, if_neg (by omega)]
theorem hput (s : St) (k : Nat) (w : World) (h : HpIs w s) (hk : k < 65536) : Calls Try.prog 60 #[.pointer (some ⟨s.g, 2, none⟩), .int .i64 k] w fun e w' => e = .returned (.tuple #[]) ∧ HpIs w' { s with hx := M.putIn s.hx k } ∧ Turn (fun k => k = s.g) w w' := by
  refine (put_any s.g 2 k _ w hk (h.hx_lt _) (h.cx _ (by omega)) (h.blk.frozen _)).mono fun _ _ ⟨he, hw⟩ => ⟨he, ?_, ?_⟩
  · subst hw; have := (h.setHx k hk).drewN 1; exact this
  · subst hw; exact ((Turn.refl (fun k => k = s.g) w).setCell (fun _ => rfl) _).drew
theorem HpIs.setWord {w : World} {s : St} (h : HpIs w s) (k : Nat) (v : Int) (x : Nat) (hv : v = x) (hx : x < 18446744073709551616) : HpIs (w.setCell ⟨s.gw, k, none⟩ (.int .u64 v)) { s with ws := fun i => if i = k then x else s.ws i } := by
  subst hv
  refine ⟨h.blk.setOther (a := ⟨s.gw, k, none⟩) h.ne_gw _, (h.words.set k _).congr fun i hi => ?_, h.lays.setOther (a := ⟨s.gw, k, none⟩) (fun e => h.ne_wl e.symm) _, h.n_le, h.m_le, h.top_le, fun i => ?_, h.hx_lt, h.kinds, h.lens⟩
  · simp only
    split <;> rfl
  · simp only
    split
    · exact hx
    · exact h.ws_lt i
theorem HpIs.reWords {w w' : World} {s : St} (h : HpIs w s) (t : Turn (fun k => k = s.gw) w w') (ws : Nat → Nat) (hr : w'.rowIs s.gw 33 s.n (fun i => .int .u64 (ws i))) (hx : ∀ i, ws i < 18446744073709551616) : HpIs w' { s with ws := ws } :=
  ⟨h.blk.of_block (t.block _ h.blk.lt h.ne_gw), hr, h.lays.of_block (t.block _ h.lays.lt (fun e => h.ne_wl e.symm)), h.n_le, h.m_le, h.top_le, hx, h.hx_lt, h.kinds, h.lens⟩

/-- The heap behind the head's store. -/
def St.mid (s : St) (D x : Nat) : St := { s with top := s.top + D, hx := M.putIn s.hx s.top, ws := fun i => if i = s.top then x else s.ws i }
theorem St.zero_lt (s : St) (sh : Int) : s.zero sh < 18446744073709551616 := by unfold St.zero; split <;> decide
theorem more_end {s : St} {sh : Int} {D p q x o m : Nat} {w4 w6 : World} (h3 : HpIs w4 (s.mid D x)) (hx : x < 18446744073709551616) (hp : p = s.top + 1) (hq : q = s.top + D) (hD : 1 ≤ D) (ho : (o = p ∧ m = q - p) ∨ (m = 0 ∧ q = p))
    (r6 : w6.rowIs s.gw 33 s.n (fun i => if o ≤ i ∧ i < o + m then .int .u64 ((s.mid D x).zero sh) else .int .u64 ((s.mid D x).ws i))) (t6 : Turn (fun k => k = s.gw) w4.drew w6) : HpIs w6 (s.more D x (s.zero sh)) := by
  have h := (h3.drewN 1).reWords t6 (fun i => if i = s.top then x else if s.top < i ∧ i < s.top + D then s.zero sh else s.ws i) (r6.congr fun i hi => ?_) (fun i => ?_)
  · exact h
  · show (if _ then Value.int .u64 ((s.zero sh : Nat) : Int) else .int .u64 (((if i = s.top then x else s.ws i) : Nat) : Int)) = .int .u64 (((if i = s.top then x else if s.top < i ∧ i < s.top + D then s.zero sh else s.ws i) : Nat) : Int)
    by_cases e : i = s.top
    · subst e; rw [if_neg (by omega), if_pos rfl, if_pos rfl]
    · rw [if_neg e, if_neg e]
      by_cases e2 : s.top < i ∧ i < s.top + D
      · rw [if_pos (by omega), if_pos e2]
      · rw [if_neg (by omega), if_neg e2]
  · show (if i = s.top then x else if s.top < i ∧ i < s.top + D then s.zero sh else s.ws i) < 18446744073709551616
    split
    · exact hx
    · split
      · exact s.zero_lt sh
      · exact h3.ws_lt i |> fun hh => by
          have h4 := h3.ws_lt i
          unfold St.mid at h4
          simp only at h4
          split at h4
          · omega
          · exact h4

set_option maxRecDepth 100000 in
set_option maxHeartbeats 2000000 in
theorem alloc_ok (s : St) (sh n : Int) (D : Nat) (w : World) (h : HpIs w s) (he : s.needE sh n = 0) (hD : s.need sh n = D) (hf : (D : Int) ≤ s.n - s.top) (hD1 : 1 ≤ D) :
    Calls Try.prog 27 #[s.ptr, .int .i64 sh, .int .i64 n] w fun e w' => e = .returned (.tuple #[.int .i64 s.top, .int .i64 0]) ∧
      HpIs w' (s.more D (M.hd sh n 0 0).toNat (s.zero sh)) ∧ Turn (fun k => k = s.g ∨ k = s.gw) w w' := by
  have HN := need_any s sh n w h
  rw [he, hD] at HN
  have c0 := h.c0
  have c1 := h.c1
  have hn := h.n_le
  have ht := h.top_le
  have hfz := h.blk.frozen
  have b0 : IntKind.i64.wrap ((s.n : Int) - s.top) = (s.n : Int) - s.top := by rw [IntKind.wrap_i64]; omega
  have HH := head_hd sh n
  have hh0 := M.hd_lo sh n 0 0
  have hh1 := M.hd_hi sh n 0 0
  generalize M.hd sh n 0 0 = X at *
  clear he hD
  go_enter Try.func27, Try.ntmps27
  go_wp2_with (go_at_call 59; (with_reducible refine HN.mono ?_); rintro e w ⟨rfl, rfl⟩)
  go_quiet (fail)
  go_wp2_with fail
  refine (hput { s with top := s.top + D } s.top _ (HpIs.setTop (h.drewN _) (s.top + D) _ (by simp) (by omega)) (by omega)).mono ?_
  rintro e w2 ⟨rfl, h2, t2⟩
  have T2 : Turn (fun k => k = s.g ∨ k = s.gw) w w2 := (((Turn.refl _ w).drewN _).setCell (fun _ => .inl rfl) _).trans (t2.mono fun k _ e => .inl e)
  have H := Lib.hid h
  clear h t2 HN c0 c1 hfz
  have c0 : w2.cell? ⟨s.g, 0, none⟩ = some (.slice (some ⟨s.gw, 0, none⟩) s.n s.n) := h2.c0
  have c1 : w2.cell? ⟨s.g, 1, none⟩ = some (.int .i64 (s.top + D)) := by rw [h2.c1]; simp
  have cw : w2.cell? ⟨s.gw, s.top, none⟩ = some (.int .u64 (s.ws s.top)) := h2.cw s.top (by show s.top < s.n; omega)
  have cwf := h2.words.frozen s.top
  simp only at cwf
  have hlt : s.top < s.n := by omega
  have hlt2 : (s.top : Int) < s.n := by omega
  have HH2 := Lib.hid h2
  have HT2 := Lib.hid T2
  clear h2 T2
  go_wp2_with fail
  go_region_with (go_at_call 61; refine (HH _).mono ?_; rintro e w3 ⟨rfl, n3, rfl⟩)
  all_goals
    obtain ⟨T3, h3⟩ : Turn (fun k => k = s.g ∨ k = s.gw) w ((w2.drewN (1 + n3)).setCell ⟨s.gw, s.top, none⟩ (.int .u64 X)) ∧ HpIs ((w2.drewN (1 + n3)).setCell ⟨s.gw, s.top, none⟩ (.int .u64 X)) (s.mid D X.toNat) :=
      ⟨(HT2.out.drewN _).setCell (fun _ => .inr rfl) _, (HH2.out.drewN _).setWord s.top X X.toNat (by omega) (by omega)⟩
    generalize (w2.drewN (1 + n3)).setCell ⟨s.gw, s.top, none⟩ (.int .u64 X) = w4 at *
    have c0' : w4.cell? ⟨s.g, 0, none⟩ = some (.slice (some ⟨s.gw, 0, none⟩) s.n s.n) := h3.c0
    obtain ⟨q, hq⟩ : ∃ q, q = s.top + D := ⟨_, rfl⟩
    have c1' : w4.cell? ⟨s.g, 1, none⟩ = some (.int .i64 q) := by rw [hq]; exact h3.c1
    have HE := fun o n c W (hW : HpIs W (s.mid D X.toNat)) hn hc => empty_any (s.mid D X.toNat) sh o n c W hW hn hc
    have H3 := Lib.hid h3
    have HT3 := Lib.hid T3
    have HEE := Lib.hid HE
    obtain ⟨p, hp⟩ : ∃ p, p = s.top + 1 := ⟨_, rfl⟩
    have g1 : IntKind.i64.wrap (p : Int) = (p : Int) := by rw [IntKind.wrap_i64]; omega
    have g2 : (s.top : Int) + 1 = (p : Int) := by omega
    have g4 : p ≤ q := by omega
    have g5 : q ≤ s.n := by omega
    have g6 : s.n = p → q ≤ p := by omega
    have HQ := Lib.hid hq
    have HP := Lib.hid hp
    clear hq hp hf hlt hlt2 ht b0
    by_cases he : s.n = p
    · have g7 : q ≤ p := g6 he
      clear g5 g6
      clear c0 c1 cw cwf h3 T3 HE
      go_wp2_with fail
      refine wp_region_still_tail 13 (by kernel_rfl) (by kernel_rfl) ?_
      simp only [List.take_succ_cons, List.take_zero, List.drop_succ_cons, List.drop_zero]
      change wpStill _ _ w4.drew (fun a' => wpList _ _ _ _ a' w4.drew) _ _
      repeat still_step
      refine wpStill_nil ?_
      go_wp2_with fail
      refine (HEE.out _ _ _ _ (H3.out.drewN 1) ?_ ?_).mono ?_
      rotate_left 2
      · rintro e w6 ⟨rfl, r6, t6⟩
        have HR6 := Lib.hid r6; have HT6 := Lib.hid t6; clear r6 t6
        go_wp2_with fail
        go_ret2
        exact ⟨rfl, more_end H3.out (by omega) HP.out HQ.out hD1 (.inr ⟨by omega, by omega⟩) HR6.out HT6.out, HT3.out.trans ((Turn.refl _ w4).drew.trans (HT6.out.mono fun k _ e => .inr e))⟩
      · omega
      · omega
    · clear g6
      clear c0 c1 cw cwf h3 T3 HE
      go_wp2_with fail
      refine wp_region_still_tail 13 (by kernel_rfl) (by kernel_rfl) ?_
      simp only [List.take_succ_cons, List.take_zero, List.drop_succ_cons, List.drop_zero]
      change wpStill _ _ w4.drew (fun a' => wpList _ _ _ _ a' w4.drew) _ _
      repeat still_step
      refine wpStill_nil ?_
      go_wp2_with fail
      refine (HEE.out _ _ _ _ (H3.out.drewN 1) ?_ ?_).mono ?_
      rotate_left 2
      · rintro e w6 ⟨rfl, r6, t6⟩
        have HR6 := Lib.hid r6; have HT6 := Lib.hid t6; clear r6 t6
        go_wp2_with fail
        go_ret2
        exact ⟨rfl, more_end H3.out (by omega) HP.out HQ.out hD1 (.inl ⟨rfl, rfl⟩) HR6.out HT6.out, HT3.out.trans ((Turn.refl _ w4).drew.trans (HT6.out.mono fun k _ e => .inr e))⟩
      · show p + (q - p) ≤ s.n; omega
      · omega
end Go.Proofs.Ythfkgkddklnnhaa
/- Contracts of layer 2's fields: field, Get, Set, where an object stands. -/
namespace Go.Proofs.Ythfkgkddklnnhaa
set_option linter.unusedVariables false
open Go.ChangeShapes Go.WideShapes Go.ChangeAt Go.RowKit
open M (W)

/-- At the place k stands an object, and what it says is o. -/
structure ObAt (s : St) (k : Nat) (o : Ob) : Prop where
  is : s.is k = true
  lt : k < s.n
  reads : s.reads k s.n = true
  ob : s.ob (s.ws k) = o
theorem object_at {s : St} {k : Nat} {o : Ob} {w : World} (h : HpIs w s) (ho : ObAt s k o) : Calls Try.prog 72 #[s.ptr, .int .i64 k] w fun e w' => e = .returned (.tuple #[o.val, .bool true]) ∧ Still w w' := by
  obtain ⟨h1, h2, h3, rfl⟩ := ho
  exact object_ok s k w h h1 h2 h3
theorem ObAt.need_le {s : St} {k : Nat} {o : Ob} (ho : ObAt s k o) : o.need ≤ s.n - k := by
  obtain ⟨h1, h2, h3, rfl⟩ := ho
  unfold St.reads at h3
  simp only [Bool.and_eq_true, decide_eq_true_eq] at h3
  exact h3.2
theorem ObAt.n_lo {s : St} {k : Nat} {o : Ob} (ho : ObAt s k o) : 0 ≤ o.n := by
  obtain ⟨h1, h2, h3, rfl⟩ := ho
  exact M.ln_lo _
theorem ObAt.need_eq {s : St} {k : Nat} {o : Ob} (ho : ObAt s k o) : o.n ≤ 65536 ∧ o.kind ≠ 0 ∧ o.need = if o.kind = 3 then 1 + (o.n + 7) / 8 else 1 + o.n := by
  obtain ⟨h1, h2, h3, rfl⟩ := ho
  unfold St.reads at h3
  simp only [Bool.and_eq_true, decide_eq_true_eq] at h3
  obtain ⟨h4, h5⟩ := h3
  unfold St.obE St.needE at h4
  unfold St.ob St.need at *
  simp only
  generalize s.kind (M.sh (s.ws k)) = K at *
  generalize s.len (M.sh (s.ws k)) = L at *
  have l0 := M.ln_lo (s.ws k)
  generalize M.ln (s.ws k) = N at *
  unfold M.needE at h4
  unfold M.need at *
  by_cases c1 : K = 0 ∨ N < 0 ∨ (K = 1 ∧ N ≠ L)
  · rw [if_pos c1] at h4; omega
  · rw [if_neg c1] at h4 ⊢
    by_cases c2 : 65536 < N
    · rw [if_pos c2] at h4; omega
    · rw [if_neg c2]
      exact ⟨by omega, by omega, rfl⟩

set_option maxHeartbeats 1000000 in
theorem field_ok (s : St) (k : Nat) (o : Ob) (i : Nat) (w : World) (h : HpIs w s) (ho : ObAt s k o) (hk : o.kind ≠ 3) (hi : (i : Int) < o.n) :
    Calls Try.prog 63 #[s.ptr, .int .i64 k, .int .i64 i] w fun e w' => e = .returned (.pointer (some ⟨s.gw, k + 1 + i, none⟩)) ∧ Still w w' := by
  have HO := object_at h ho
  have hne := ho.need_eq
  have hnl := ho.need_le
  obtain ⟨ha, hb, hc⟩ := hne
  rw [if_neg hk] at hc
  have c0 := h.c0
  have hg := h.blk.lt
  have hnn := h.n_le
  unfold Ob.val at HO
  obtain ⟨p, hp⟩ : ∃ p, k + 1 + i = p := ⟨_, rfl⟩
  have b1 : p < s.n := by omega
  have e1 : (k : Int) + 1 + i = (p : Int) := by omega
  rw [hp]
  clear hp
  obtain ⟨osh, okind, on, oneed⟩ := o
  simp only at *
  have hz : ((okind : Int) == 3) = false := by simpa using hk
  have HH := Lib.hid h
  clear h ho hk hb hc hnl
  go_enter Try.func63, Try.ntmps63
  go_wp2_with fail
  refine HO.mono ?_; rintro e w1 ⟨rfl, ht⟩
  have c0' : w1.cell? ⟨s.g, 0, none⟩ = some (.slice (some ⟨s.gw, 0, none⟩) s.n s.n) := (HH.out.still ht).c0
  have hg' : s.g < w1.heap.size := (HH.out.still ht).blk.lt
  have HT := Lib.hid ht; clear ht c0
  go_wp2_with fail
  go_ret
  exact ⟨rfl, HT.out.alloc _⟩
theorem field_none (s : St) (k : Nat) (o : Ob) (i : Int) (w : World) (h : HpIs w s) (ho : ObAt s k o) (hi : o.kind = 3 ∨ i < 0 ∨ o.n ≤ i) : NoField s.ptr k i w := by
  have HO := object_at h ho
  unfold Ob.val at HO
  unfold NoField
  obtain ⟨osh, okind, on, oneed⟩ := o
  simp only at *
  clear h ho
  by_cases hk : okind = 3
  · subst hk
    clear hi
    go_enter Try.func63, Try.ntmps63
    go_wp2_with fail
    refine HO.mono ?_; rintro e w1 ⟨rfl, ht⟩
    have HT := Lib.hid ht; clear ht
    go_wp2_with fail
    go_ret
    exact ⟨rfl, HT.out.alloc _⟩
  · have hz : ((okind : Int) == 3) = false := by simpa using hk
    by_cases hi0 : i < 0
    · clear hi hk
      go_enter Try.func63, Try.ntmps63
      go_wp2_with fail
      refine HO.mono ?_; rintro e w1 ⟨rfl, ht⟩
      have HT := Lib.hid ht; clear ht
      go_wp2_with fail
      go_ret
      exact ⟨rfl, HT.out.alloc _⟩
    · have hi1 : on ≤ i := by omega
      clear hi hk
      go_enter Try.func63, Try.ntmps63
      go_wp2_with fail
      refine HO.mono ?_; rintro e w1 ⟨rfl, ht⟩
      have HT := Lib.hid ht; clear ht
      go_wp2_with fail
      go_ret
      exact ⟨rfl, HT.out.alloc _⟩
theorem ObAt.in_n {s : St} {k : Nat} {o : Ob} (ho : ObAt s k o) (hk : o.kind ≠ 3) {i : Nat} (hi : (i : Int) < o.n) (hn : s.n ≤ 65536) : k + 1 + i < s.n := by
  have h1 := ho.need_le
  have h2 := ho.need_eq.2.2
  rw [if_neg hk] at h2
  omega
theorem get_ok (s : St) (k : Nat) (o : Ob) (i : Nat) (w : World) (h : HpIs w s) (ho : ObAt s k o) (hk : o.kind ≠ 3) (hi : (i : Int) < o.n) :
    Calls Try.prog 43 #[s.ptr, .int .i64 k, .int .i64 i] w fun e w' => e = .returned (.tuple #[.int .u64 (s.ws (k + 1 + i)), .int .i64 0]) ∧ Still w w' := by
  have HF := field_ok s k o i w h ho hk hi
  have hp := ho.in_n hk hi h.n_le
  have cw := h.cw _ hp
  have hgw := h.words.lt
  have HH := Lib.hid h
  clear ho hk hi h
  generalize k + 1 + i = p at *
  go_enter Try.func43, Try.ntmps43
  go_wp2_with fail
  refine HF.mono ?_; rintro e w1 ⟨rfl, ht⟩
  have cw' : w1.cell? ⟨s.gw, p, none⟩ = some (.int .u64 (s.ws p)) := (HH.out.still ht).cw p hp
  have HT := Lib.hid ht; clear ht cw
  go_wp2_with fail
  go_ret2
  exact ⟨rfl, HT.out⟩
theorem set_unfit (s : St) (k : Nat) (o : Ob) (i : Nat) (x : Int) (w : World) (h : HpIs w s) (ho : ObAt s k o) (hk : o.kind ≠ 3) (hi : (i : Int) < o.n) (x0 : 0 ≤ x) (x1 : x < 18446744073709551616) (hx : s.fits x = false) :
    Calls Try.prog 28 #[s.ptr, .int .i64 k, .int .i64 i, .int .u64 x] w fun e w' => e = .returned (.int .i64 1) ∧ Still w w' := by
  have HF := field_ok s k o i w h ho hk hi
  have HFF := fun W (hW : HpIs W s) => fits_any s x W hW x0 x1
  rw [hx] at HFF
  have HH := Lib.hid h
  clear ho hk hi h hx
  generalize k + 1 + i = p at *
  go_enter Try.func28, Try.ntmps28
  go_wp2_with fail
  refine HF.mono ?_; rintro e w1 ⟨rfl, ht⟩
  have HT := Lib.hid ht; clear ht
  go_wp2_with fail
  refine (HFF _ (HH.out.still HT.out)).mono ?_; rintro e w2 ⟨rfl, rfl⟩
  go_wp2_with fail
  go_ret
  exact ⟨rfl, HT.out⟩
/-- A heap with another word at p. -/
def St.put (s : St) (p x : Nat) : St := { s with ws := fun i => if i = p then x else s.ws i }
theorem set_ok (s : St) (k : Nat) (o : Ob) (i : Nat) (x : Int) (w : World) (h : HpIs w s) (ho : ObAt s k o) (hk : o.kind ≠ 3) (hi : (i : Int) < o.n) (x0 : 0 ≤ x) (x1 : x < 18446744073709551616) (hx : s.fits x = true) :
    Calls Try.prog 28 #[s.ptr, .int .i64 k, .int .i64 i, .int .u64 x] w fun e w' => e = .returned (.int .i64 0) ∧ HpIs w' (s.put (k + 1 + i) x.toNat) ∧ Turn (fun k => k = s.gw) w w' := by
  have HF := field_ok s k o i w h ho hk hi
  have HFF := fun W (hW : HpIs W s) => fits_any s x W hW x0 x1
  rw [hx] at HFF
  have hp := ho.in_n hk hi h.n_le
  have HH := Lib.hid h
  clear ho hk hi h hx
  generalize k + 1 + i = p at *
  go_enter Try.func28, Try.ntmps28
  go_wp2_with fail
  refine HF.mono ?_; rintro e w1 ⟨rfl, ht⟩
  have cw' : w1.cell? ⟨s.gw, p, none⟩ = some (.int .u64 (s.ws p)) := (HH.out.still ht).cw p hp
  have cf' : w1.frozen? ⟨s.gw, p, none⟩ = false := (HH.out.still ht).words.frozen p
  have HT := Lib.hid ht; clear ht
  go_wp2_with fail
  refine (HFF _ (HH.out.still HT.out)).mono ?_; rintro e w2 ⟨rfl, rfl⟩
  go_wp2_with fail
  go_ret
  exact ⟨rfl, (HH.out.still HT.out).setWord p x x.toNat (by omega) (by omega), (Still.turn (S := fun k => k = s.gw) HT.out).setCell (fun _ => rfl) _⟩
end Go.Proofs.Ythfkgkddklnnhaa
