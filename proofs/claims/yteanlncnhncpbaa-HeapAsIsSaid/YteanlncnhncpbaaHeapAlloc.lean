/- Contracts of layer 2's Alloc, and of 'empty'. -/
import Derived.Test.YteanlncnhncpbaaHeapPut
import Derived.Deep.WholeRow
import Derived.StillTailTactics
namespace Go.Proofs.Yteanlncnhncpbaa
set_option linter.unusedVariables false
open Go.ChangeShapes Go.WideShapes Go.ChangeAt Go.RowKit
open M (W)

theorem rowIs_setCells {g : Nat} {t : TypeId} {N : Nat} {z : Value} : ∀ (n o : Nat) {w : World} {f : Nat → Value}, w.rowIs g t N f → (w.setCells g o (List.replicate n z)).rowIs g t N (fun i => if o ≤ i ∧ i < o + n then z else f i)
  | 0, o, w, f, h => h.congr fun i _ => by rw [if_neg (by omega)]
  | n + 1, o, w, f, h => by
    rw [List.replicate_succ, World.setCells]
    exact (rowIs_setCells n (o + 1) (h.set o z)).congr fun i _ => by
      by_cases e : i = o
      · subst e; rw [if_neg (by omega), if_pos rfl, if_pos (by omega)]
      · by_cases e2 : o + 1 ≤ i ∧ i < o + 1 + n
        · rw [if_pos e2, if_pos (by omega)]
        · rw [if_neg e2, if_neg e, if_neg (by omega)]
theorem turn_setCells {g : Nat} {S : Nat → Prop} {w0 : World} (hg : S g) : ∀ (vs : List Value) (o : Nat) {w : World}, Turn S w0 w → Turn S w0 (w.setCells g o vs)
  | [], _, _, h => h
  | v :: vs, o, w, h => by rw [World.setCells]; exact turn_setCells hg vs (o + 1) (h.setCell (fun _ => hg) v)

theorem run_clear_row {P : Program} (w : World) (t e ty : TypeId) (z : Value) (ht : P.underlying t = some (.slice e)) (hv : ∀ w, (zeroValue e).run P w = .ok z w) (hz : z.cells = #[z]) (h1 : z.oneCell' = true) (g o n c : Nat)
    (t' : TypeId) (N : Nat) (f : Nat → Value) (hr : w.rowIs g t' N f) (hfit : o + n ≤ N) :
    (Builtin.clear_ #[t] ty #[.slice (some ⟨g, o, none⟩) n c]).run P w = .ok (.tuple #[]) (w.setCells g o (List.replicate n z)) := by
  rcases Nat.eq_zero_or_pos n with rfl | hn
  · simp [Builtin.clear_, run_underlying ht, World.setCells]
  · exact Lib.run_clear_slice w t e ty z ht hv hz h1 g o n c hn (fun j hj => by rw [hr.cell (by omega)]; rfl) (fun j _ => hr.frozen _)

theorem wpList_clear_row {P : Program} {w : World} {ops : Array Oper} {rest : List Oper} {o : Oper} {a : Act} {Q : Exit → Act → World → Prop} (hgd : o.guard = none) (x : Operand) (t : TypeId)
    (ho : o.op = .call { callee := .builtin .clear, args := #[x], argTypes := #[t] }) (e : TypeId) (z : Value) (ht : P.underlying t = some (.slice e)) (hv : ∀ w, (zeroValue e).run P w = .ok z w) (hz : z.cells = #[z]) (h1 : z.oneCell' = true)
    (g off n c : Nat) (hx : a.eval x = .slice (some ⟨g, off, none⟩) n c) (t' : TypeId) (N : Nat) (f : Nat → Value) (hr : w.rowIs g t' N f) (hfit : off + n ≤ N)
    (h : ∀ w', Hid (w'.rowIs g t' N (fun i => if off ≤ i ∧ i < off + n then z else f i)) → Hid (Turn (fun k => k = g) w w') → wpList P ops Q rest (a.put o.dst (.tuple #[])) w') : wpList P ops Q (o :: rest) a w := by
  refine wpList_plain hgd fun K hK => ?_
  have hrun := run_clear_row (P := P) w t e o.type z ht hv hz h1 g off n c t' N f hr hfit
  unfold Oper.wp
  simp [execOp, ho, resolve, invoke, builtin, hx, hrun, Result.andThen]
  exact hK _ _ (h _ (rowIs_setCells n off hr) (turn_setCells (S := fun k => k = g) rfl _ _ (Turn.refl _ w)))

theorem zeroU64 : ∀ w, (zeroValue 30).run Try.prog w = .ok (.int .u64 0) w := fun _ => by kernel_rfl

/-- What a new object's words are. -/
def St.zero (s : St) (sh : Int) : Nat := if s.kind sh = 3 then 0 else 1
set_option maxHeartbeats 1000000 in
theorem empty_any (s : St) (sh : Int) (o n c : Nat) (w : World) (h : HpIs w s) (hn : o + n ≤ s.n) (hc : n ≤ c) :
    Calls Try.prog 79 #[s.ptr, .slice (some ⟨s.gw, o, none⟩) n c, .int .i64 sh] w fun e w' => e = .returned (.tuple #[]) ∧ w'.rowIs s.gw 30 s.n (fun i => if o ≤ i ∧ i < o + n then .int .u64 (s.zero sh) else .int .u64 (s.ws i)) ∧ Turn (fun k => k = s.gw) w w' := by
  unfold St.zero
  have HK := kind_any s sh w h
  have hr := h.words
  have hnn := h.n_le
  have HR := Lib.hid hr
  clear hr h
  generalize s.kind sh = K at *
  by_cases hk : K = 3
  · subst hk
    go_enter Try.func79, Try.ntmps79
    go_wp2_with (first
      | (go_at_call 90; (with_reducible refine HK.mono ?_); rintro e w ⟨rfl, rfl⟩)
      | (refine wpList_clear_row rfl (.tmp 10) 37 rfl 30 (.int .u64 0) Try.underlying37 zeroU64 rfl rfl s.gw o n c rfl _ s.n _ HR.out hn ?_; intro w4 hr4 ht4))
    first | go_end0 | refine bodyPost_ret (results_none rfl _ _ _) rfl ?_
    exact ⟨rfl, hr4.out, ht4.out⟩
  · have hz : ((K : Int) == 3) = false := by simpa using hk
    rw [if_neg hk]
    clear hk
    have HI := imm_any 0
    have HF := fun w2 (h2 : w2.rowIs s.gw 30 s.n (fun i => .int .u64 (s.ws i))) => fill_any s.gw o n c s.n _ 1 w2 h2 (fun _ => rfl) hn hc hnn
    go_enter Try.func79, Try.ntmps79
    go_wp2_with fail
    refine HK.mono ?_; rintro e w ⟨rfl, rfl⟩
    go_wp2_with fail
    refine (HI _).mono ?_; rintro e w1 ⟨rfl, rfl⟩
    go_wp2_with fail
    refine (HF _ HR.out).mono ?_; rintro e w1 ⟨rfl, hr4, ht4⟩
    have HR4 := Lib.hid hr4; have HT4 := Lib.hid ht4; clear hr4 ht4
    go_wp2_with fail
    first | go_end0 | refine bodyPost_ret (results_none rfl _ _ _) rfl ?_
    exact ⟨rfl, HR4.out, HT4.out⟩

/-- A heap with one object more: its head x, D words. -/
def St.more (s : St) (D : Nat) (x : Nat) (z : Nat) : St :=
  { s with top := s.top + D, hx := M.putIn s.hx s.top, ws := fun i => if i = s.top then x else if s.top < i ∧ i < s.top + D then z else s.ws i }

theorem alloc_err (s : St) (sh n : Int) (w : World) (h : HpIs w s) (he : s.needE sh n ≠ 0) : Calls Try.prog 45 #[s.ptr, .int .i64 sh, .int .i64 n] w fun e w' => e = .returned (.tuple #[.int .i64 0, .int .i64 (s.needE sh n)]) ∧ Still w w' := by
  have HN := need_any s sh n w h
  have hz : ((s.needE sh n : Int) != 0) = true := by simpa using he
  clear he h
  generalize s.needE sh n = E at *
  generalize s.need sh n = D at *
  go_enter Try.func45, Try.ntmps45
  go_wp2_with (go_at_call 76; (with_reducible refine HN.mono ?_); rintro e w ⟨rfl, rfl⟩)
  go_ret2
  exact ⟨rfl, Still.refl _⟩
theorem alloc_full (s : St) (sh n : Int) (w : World) (h : HpIs w s) (he : s.needE sh n = 0) (hf : (s.n : Int) - s.top < s.need sh n) : Calls Try.prog 45 #[s.ptr, .int .i64 sh, .int .i64 n] w fun e w' => e = .returned (.tuple #[.int .i64 0, .int .i64 3]) ∧ Still w w' := by
  have HN := need_any s sh n w h
  rw [he] at HN
  have c0 := h.c0
  have c1 := h.c1
  have hn := h.n_le
  have ht := h.top_le
  clear he h
  generalize s.need sh n = D at *
  have b0 : IntKind.i64.wrap ((s.n : Int) - s.top) = (s.n : Int) - s.top := by rw [IntKind.wrap_i64]; omega
  go_enter Try.func45, Try.ntmps45
  go_wp2_with (go_at_call 76; (with_reducible refine HN.mono ?_); rintro e w ⟨rfl, rfl⟩)
  go_quiet (fail)
  go_wp2_with fail
  go_ret2
  exact ⟨rfl, (Still.refl _).drewN _⟩

theorem HpIs.setTop {w : World} {s : St} (h : HpIs w s) (t : Nat) (v : Int) (hv : v = t) (ht : t ≤ s.n) : HpIs (w.setCell ⟨s.g, 1, none⟩ (.int .i64 v)) { s with top := t } := by
  subst hv
  refine ⟨(h.blk.set 1 _).congr fun i hi => ?_, h.words.setOther (a := ⟨s.g, 1, none⟩) (fun e => h.ne_gw e.symm) _, h.lays.setOther (a := ⟨s.g, 1, none⟩) (fun e => h.ne_gl e.symm) _, h.n_le, h.m_le, ht, h.ws_lt, h.hx_lt, h.kinds, h.lens⟩
  unfold St.cell
  by_cases e : i = 1
  · subst e; simp
  · rw [if_neg e]; simp [e]
theorem M.putIn_lt (x : Nat → Nat) (k : Nat) (hx : ∀ i, x i < 18446744073709551616) (i : Nat) : M.putIn x k i < 18446744073709551616 := by
  unfold M.putIn
  split
  · exact or_bit_lt _ _ (hx i) (by omega)
  · exact hx i
theorem HpIs.setHx {w : World} {s : St} (h : HpIs w s) (k : Nat) (hk : k < 65536) : HpIs (w.setCell ⟨s.g, 2 + k / 64, none⟩ (.int .u64 ((s.hx (k / 64) ||| 2 ^ (k % 64) : Nat) : Int))) { s with hx := M.putIn s.hx k } := by
  refine ⟨(h.blk.set _ _).congr fun i hi => ?_, h.words.setOther (a := ⟨s.g, _, none⟩) (fun e => h.ne_gw e.symm) _, h.lays.setOther (a := ⟨s.g, _, none⟩) (fun e => h.ne_gl e.symm) _, h.n_le, h.m_le, h.top_le, h.ws_lt, M.putIn_lt _ _ h.hx_lt, h.kinds, h.lens⟩
  unfold St.cell M.putIn
  by_cases e : i = 2 + k / 64
  · subst e
    rw [if_pos rfl, if_neg (by omega), if_neg (by omega), if_neg (by omega)]
    simp
  · rw [if_neg e]
    simp only
    by_cases e0 : i = 0
    · simp [e0]
    · by_cases e1 : i = 1
      · simp [e1]
      · by_cases e2 : i = 1026
        · simp [e2]
        · rw [if_neg e0, if_neg e1, if_neg e2, if_neg e0, if_neg e1, if_neg e2, if_neg (by omega)]
theorem hput (s : St) (k : Nat) (w : World) (h : HpIs w s) (hk : k < 65536) : Calls Try.prog 77 #[.pointer (some ⟨s.g, 2, none⟩), .int .i64 k] w fun e w' => e = .returned (.tuple #[]) ∧ HpIs w' { s with hx := M.putIn s.hx k } ∧ Turn (fun k => k = s.g) w w' := by
  refine (put_any s.g 2 k _ w hk (h.hx_lt _) (h.cx _ (by omega)) (h.blk.frozen _)).mono fun _ _ ⟨he, hw⟩ => ⟨he, ?_, ?_⟩
  · subst hw; have := (h.setHx k hk).drewN 1; exact this
  · subst hw; exact ((Turn.refl (fun k => k = s.g) w).setCell (fun _ => rfl) _).drew
theorem HpIs.setWord {w : World} {s : St} (h : HpIs w s) (k : Nat) (v : Int) (x : Nat) (hv : v = x) (hx : x < 18446744073709551616) : HpIs (w.setCell ⟨s.gw, k, none⟩ (.int .u64 v)) { s with ws := fun i => if i = k then x else s.ws i } := by
  subst hv
  refine ⟨h.blk.setOther (a := ⟨s.gw, k, none⟩) h.ne_gw _, (h.words.set k _).congr fun i hi => ?_, h.lays.setOther (a := ⟨s.gw, k, none⟩) (fun e => h.ne_wl e.symm) _, h.n_le, h.m_le, h.top_le, fun i => ?_, h.hx_lt, h.kinds, h.lens⟩
  · simp only
    split <;> rfl
  · simp only
    split
    · exact hx
    · exact h.ws_lt i
theorem HpIs.reWords {w w' : World} {s : St} (h : HpIs w s) (t : Turn (fun k => k = s.gw) w w') (ws : Nat → Nat) (hr : w'.rowIs s.gw 30 s.n (fun i => .int .u64 (ws i))) (hx : ∀ i, ws i < 18446744073709551616) : HpIs w' { s with ws := ws } :=
  ⟨h.blk.of_block (t.block _ h.blk.lt h.ne_gw), hr, h.lays.of_block (t.block _ h.lays.lt (fun e => h.ne_wl e.symm)), h.n_le, h.m_le, h.top_le, hx, h.hx_lt, h.kinds, h.lens⟩

/-- The heap behind the head's store. -/
def St.mid (s : St) (D x : Nat) : St := { s with top := s.top + D, hx := M.putIn s.hx s.top, ws := fun i => if i = s.top then x else s.ws i }
theorem St.zero_lt (s : St) (sh : Int) : s.zero sh < 18446744073709551616 := by unfold St.zero; split <;> decide
theorem more_end {s : St} {sh : Int} {D p q x o m : Nat} {w4 w6 : World} (h3 : HpIs w4 (s.mid D x)) (hx : x < 18446744073709551616) (hp : p = s.top + 1) (hq : q = s.top + D) (hD : 1 ≤ D) (ho : (o = p ∧ m = q - p) ∨ (m = 0 ∧ q = p))
    (r6 : w6.rowIs s.gw 30 s.n (fun i => if o ≤ i ∧ i < o + m then .int .u64 ((s.mid D x).zero sh) else .int .u64 ((s.mid D x).ws i))) (t6 : Turn (fun k => k = s.gw) w4.drew w6) : HpIs w6 (s.more D x (s.zero sh)) := by
  have h := (h3.drewN 1).reWords t6 (fun i => if i = s.top then x else if s.top < i ∧ i < s.top + D then s.zero sh else s.ws i) (r6.congr fun i hi => ?_) (fun i => ?_)
  · exact h
  · show (if _ then Value.int .u64 ((s.zero sh : Nat) : Int) else .int .u64 (((if i = s.top then x else s.ws i) : Nat) : Int)) = .int .u64 (((if i = s.top then x else if s.top < i ∧ i < s.top + D then s.zero sh else s.ws i) : Nat) : Int)
    by_cases e : i = s.top
    · subst e; rw [if_neg (by omega), if_pos rfl, if_pos rfl]
    · rw [if_neg e, if_neg e]
      by_cases e2 : s.top < i ∧ i < s.top + D
      · rw [if_pos (by omega), if_pos e2]
      · rw [if_neg (by omega), if_neg e2]
  · show (if i = s.top then x else if s.top < i ∧ i < s.top + D then s.zero sh else s.ws i) < 18446744073709551616
    split
    · exact hx
    · split
      · exact s.zero_lt sh
      · exact h3.ws_lt i |> fun hh => by
          have h4 := h3.ws_lt i
          unfold St.mid at h4
          simp only at h4
          split at h4
          · omega
          · exact h4

set_option maxRecDepth 100000 in
set_option maxHeartbeats 2000000 in
theorem alloc_ok (s : St) (sh n : Int) (D : Nat) (w : World) (h : HpIs w s) (he : s.needE sh n = 0) (hD : s.need sh n = D) (hf : (D : Int) ≤ s.n - s.top) (hD1 : 1 ≤ D) :
    Calls Try.prog 45 #[s.ptr, .int .i64 sh, .int .i64 n] w fun e w' => e = .returned (.tuple #[.int .i64 s.top, .int .i64 0]) ∧
      HpIs w' (s.more D (M.hd sh n 0 0).toNat (s.zero sh)) ∧ Turn (fun k => k = s.g ∨ k = s.gw) w w' := by
  have HN := need_any s sh n w h
  rw [he, hD] at HN
  have c0 := h.c0
  have c1 := h.c1
  have hn := h.n_le
  have ht := h.top_le
  have hfz := h.blk.frozen
  have b0 : IntKind.i64.wrap ((s.n : Int) - s.top) = (s.n : Int) - s.top := by rw [IntKind.wrap_i64]; omega
  have HH := head_hd sh n
  have hh0 := M.hd_lo sh n 0 0
  have hh1 := M.hd_hi sh n 0 0
  generalize M.hd sh n 0 0 = X at *
  clear he hD
  go_enter Try.func45, Try.ntmps45
  go_wp2_with (go_at_call 76; (with_reducible refine HN.mono ?_); rintro e w ⟨rfl, rfl⟩)
  go_quiet (fail)
  go_wp2_with fail
  refine (hput { s with top := s.top + D } s.top _ (HpIs.setTop (h.drewN _) (s.top + D) _ (by simp) (by omega)) (by omega)).mono ?_
  rintro e w2 ⟨rfl, h2, t2⟩
  have T2 : Turn (fun k => k = s.g ∨ k = s.gw) w w2 := (((Turn.refl _ w).drewN _).setCell (fun _ => .inl rfl) _).trans (t2.mono fun k _ e => .inl e)
  have H := Lib.hid h
  clear h t2 HN c0 c1 hfz
  have c0 : w2.cell? ⟨s.g, 0, none⟩ = some (.slice (some ⟨s.gw, 0, none⟩) s.n s.n) := h2.c0
  have c1 : w2.cell? ⟨s.g, 1, none⟩ = some (.int .i64 (s.top + D)) := by rw [h2.c1]; simp
  have cw : w2.cell? ⟨s.gw, s.top, none⟩ = some (.int .u64 (s.ws s.top)) := h2.cw s.top (by show s.top < s.n; omega)
  have cwf := h2.words.frozen s.top
  simp only at cwf
  have hlt : s.top < s.n := by omega
  have hlt2 : (s.top : Int) < s.n := by omega
  have HH2 := Lib.hid h2
  have HT2 := Lib.hid T2
  clear h2 T2
  go_wp2_with fail
  go_region_with (go_at_call 78; refine (HH _).mono ?_; rintro e w3 ⟨rfl, n3, rfl⟩)
  all_goals
    obtain ⟨T3, h3⟩ : Turn (fun k => k = s.g ∨ k = s.gw) w ((w2.drewN (1 + n3)).setCell ⟨s.gw, s.top, none⟩ (.int .u64 X)) ∧ HpIs ((w2.drewN (1 + n3)).setCell ⟨s.gw, s.top, none⟩ (.int .u64 X)) (s.mid D X.toNat) :=
      ⟨(HT2.out.drewN _).setCell (fun _ => .inr rfl) _, (HH2.out.drewN _).setWord s.top X X.toNat (by omega) (by omega)⟩
    generalize (w2.drewN (1 + n3)).setCell ⟨s.gw, s.top, none⟩ (.int .u64 X) = w4 at *
    have c0' : w4.cell? ⟨s.g, 0, none⟩ = some (.slice (some ⟨s.gw, 0, none⟩) s.n s.n) := h3.c0
    obtain ⟨q, hq⟩ : ∃ q, q = s.top + D := ⟨_, rfl⟩
    have c1' : w4.cell? ⟨s.g, 1, none⟩ = some (.int .i64 q) := by rw [hq]; exact h3.c1
    have HE := fun o n c W (hW : HpIs W (s.mid D X.toNat)) hn hc => empty_any (s.mid D X.toNat) sh o n c W hW hn hc
    have H3 := Lib.hid h3
    have HT3 := Lib.hid T3
    have HEE := Lib.hid HE
    obtain ⟨p, hp⟩ : ∃ p, p = s.top + 1 := ⟨_, rfl⟩
    have g1 : IntKind.i64.wrap (p : Int) = (p : Int) := by rw [IntKind.wrap_i64]; omega
    have g2 : (s.top : Int) + 1 = (p : Int) := by omega
    have g4 : p ≤ q := by omega
    have g5 : q ≤ s.n := by omega
    have g6 : s.n = p → q ≤ p := by omega
    have HQ := Lib.hid hq
    have HP := Lib.hid hp
    clear hq hp hf hlt hlt2 ht b0
    by_cases he : s.n = p
    · have g7 : q ≤ p := g6 he
      clear g5 g6
      clear c0 c1 cw cwf h3 T3 HE
      go_wp2_with fail
      refine wp_region_still_tail 13 (by kernel_rfl) (by kernel_rfl) ?_
      simp only [List.take_succ_cons, List.take_zero, List.drop_succ_cons, List.drop_zero]
      change wpStill _ _ w4.drew (fun a' => wpList _ _ _ _ a' w4.drew) _ _
      repeat still_step
      refine wpStill_nil ?_
      go_wp2_with fail
      refine (HEE.out _ _ _ _ (H3.out.drewN 1) ?_ ?_).mono ?_
      rotate_left 2
      · rintro e w6 ⟨rfl, r6, t6⟩
        have HR6 := Lib.hid r6; have HT6 := Lib.hid t6; clear r6 t6
        go_wp2_with fail
        go_ret2
        exact ⟨rfl, more_end H3.out (by omega) HP.out HQ.out hD1 (.inr ⟨by omega, by omega⟩) HR6.out HT6.out, HT3.out.trans ((Turn.refl _ w4).drew.trans (HT6.out.mono fun k _ e => .inr e))⟩
      · omega
      · omega
    · clear g6
      clear c0 c1 cw cwf h3 T3 HE
      go_wp2_with fail
      refine wp_region_still_tail 13 (by kernel_rfl) (by kernel_rfl) ?_
      simp only [List.take_succ_cons, List.take_zero, List.drop_succ_cons, List.drop_zero]
      change wpStill _ _ w4.drew (fun a' => wpList _ _ _ _ a' w4.drew) _ _
      repeat still_step
      refine wpStill_nil ?_
      go_wp2_with fail
      refine (HEE.out _ _ _ _ (H3.out.drewN 1) ?_ ?_).mono ?_
      rotate_left 2
      · rintro e w6 ⟨rfl, r6, t6⟩
        have HR6 := Lib.hid r6; have HT6 := Lib.hid t6; clear r6 t6
        go_wp2_with fail
        go_ret2
        exact ⟨rfl, more_end H3.out (by omega) HP.out HQ.out hD1 (.inl ⟨rfl, rfl⟩) HR6.out HT6.out, HT3.out.trans ((Turn.refl _ w4).drew.trans (HT6.out.mono fun k _ e => .inr e))⟩
      · show p + (q - p) ≤ s.n; omega
      · omega
end Go.Proofs.Yteanlncnhncpbaa
