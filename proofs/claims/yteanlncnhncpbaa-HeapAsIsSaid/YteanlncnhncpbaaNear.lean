/- A heap in which words are stored, beside the document's; Close of what is right. -/
import Derived.Test.YteanlncnhncpbaaReads
namespace Go.Proofs.Yteanlncnhncpbaa
set_option linter.unusedVariables false
open Go.ChangeShapes Go.WideShapes Go.ChangeAt Go.RowKit
open M (W)

theorem store_in (s : St) (k v : Nat) (w : World) (h : HpIs w s) (hk : k < s.n) (hv : v < 18446744073709551616) : Calls Try.prog 23 #[s.ptr, .int .i64 k, .int .u64 v] w fun e w' => e = .returned (.tuple #[]) ∧ HpIs w' (s.put k v) ∧ Turn (fun k => k = s.gw) w w' := by
  have HS := size_any s w h
  have c0 := h.c0
  have cw := h.cw k hk
  have cf : w.frozen? ⟨s.gw, k, none⟩ = false := h.words.frozen k
  have hn := h.n_le
  have HH := Lib.hid h
  have HV := Lib.hid hv
  have h0 : ¬ ((k : Int) < 0) := by omega
  have h1 : ¬ ((s.n : Int) ≤ (k : Int)) := by omega
  clear h hv
  go_enter Try.func23, Try.ntmps23
  go_wp2_with fail
  refine HS.mono ?_; rintro e w ⟨rfl, rfl⟩
  go_wp2_with fail
  go_end0
  exact ⟨rfl, HH.out.setWord k v v (by have := HV.out; omega) HV.out, (Turn.refl (fun k => k = s.gw) w).setCell (p := ⟨s.gw, k, none⟩) (fun _ => rfl) _⟩
theorem store_out (s : St) (k : Int) (v : Nat) (w : World) (h : HpIs w s) (hk : k < 0 ∨ (s.n : Int) ≤ k) : Calls Try.prog 23 #[s.ptr, .int .i64 k, .int .u64 v] w fun e w' => e = .returned (.tuple #[]) ∧ w' = w := by
  have HS := size_any s w h
  clear h
  by_cases h0 : k < 0
  · clear hk
    go_enter Try.func23, Try.ntmps23
    go_wp2_with fail
    first | go_end0 | refine bodyPost_ret (results_none rfl _ _ _) rfl ?_
    exact ⟨rfl, rfl⟩
  · have h1 : (s.n : Int) ≤ k := by omega
    clear hk
    go_enter Try.func23, Try.ntmps23
    go_wp2_with fail
    refine HS.mono ?_; rintro e w ⟨rfl, rfl⟩
    go_wp2_with fail
    first | go_end0 | refine bodyPost_ret (results_none rfl _ _ _) rfl ?_
    exact ⟨rfl, rfl⟩

/-- In w stand the heap s and the document's heap x, whatever they say of one another; both were made since w0. -/
structure Near (w0 w : World) (s : St) (x : Rf) : Prop where
  hp : HpIs w s
  rf : RfIs w0.heap.size w x
  bg : w0.heap.size ≤ s.g
  bgw : w0.heap.size ≤ s.gw
  sep : ∀ o ∈ x.L, o.fv.ownBlock ≠ some s.gw
  below : Below w0.heap.size w0 w
theorem Both.near {w0 w : World} {s : St} {x : Rf} (h : Both w0 w s x) : Near w0 w s x := ⟨h.hp, h.rf, h.bg, h.bgw, h.sep, h.below⟩
theorem Near.still {w0 w w' : World} {s : St} {x : Rf} (h : Near w0 w s x) (t : Still w w') : Near w0 w' s x :=
  { h with hp := h.hp.still t, rf := h.rf.still t, below := h.below.trans ((Still.below t).mono h.below.size) }
theorem Near.rf_gw {w0 w w1 : World} {s : St} {x : Rf} (h : Near w0 w s x) (t : Turn (fun k => k = s.g ∨ k = s.gw) w w1) : RfIs w0.heap.size w1 x := by
  refine h.rf.keep t ?_ ?_ ?_ ?_
  · rintro k (rfl | rfl)
    · exact h.bg
    · exact h.bgw
  · rintro (e | e)
    · exact HpIs.rowIs_ne h.rf.blk h.hp.blk (by decide) e
    · exact HpIs.rowIs_ne h.rf.blk h.hp.words (by decide) e
  · rintro k hk (e | e)
    · exact own_type h.rf.row h.hp.blk (by decide) (by rw [hk, e])
    · exact own_type h.rf.row h.hp.words (by decide) (by rw [hk, e])
  · rintro o ho k (hk | hk) (e | e)
    · exact own_type (h.rf.rows o ho).1 h.hp.blk (by decide) (by rw [hk, e])
    · exact h.sep o ho (by rw [hk, e])
    · exact own_type (h.rf.rows o ho).2 h.hp.blk (by decide) (by rw [hk, e])
    · exact own_type (h.rf.rows o ho).2 h.hp.words (by decide) (by rw [hk, e])
theorem Near.step {w0 w w1 : World} {s s1 : St} {x : Rf} (h : Near w0 w s x) (t : Turn (fun k => k = s.g ∨ k = s.gw) w w1) (h1 : HpIs w1 s1) (hg : s1.g = s.g) (hgw : s1.gw = s.gw) : Near w0 w1 s1 x :=
  ⟨h1, h.rf_gw t, by rw [hg]; exact h.bg, by rw [hgw]; exact h.bgw, by rw [hgw]; exact h.sep, t.own h.below (Nat.le_refl _) (by
    rintro k (rfl | rfl)
    · exact h.bg
    · exact h.bgw)⟩
/-- What the heap is behind a Close of what is right. -/
abbrev St.as (s : St) (L : List RO) : St := s.closed s.top (L.map RO.at_)
theorem Both.laid {w0 w : World} {s : St} {x : Rf} (h : Both w0 w s x) : LaidAs s s.top x.L := by
  refine ⟨h.sim.tile.to, h.sim.good, fun o ho v hv => ?_⟩
  have hf := h.fit o ho v hv
  unfold St.fits M.fits at hf
  rw [Bool.or_eq_true] at hf
  rcases hf with hf | hf
  · left; have := beq_iff_eq.1 hf; omega
  · right
    have h2 := h.sim.heads ((v : Int) / 2)
    unfold St.is at h2
    unfold M.inSet at hf
    rw [hf] at h2
    obtain ⟨p, hp, e⟩ := List.any_eq_true.1 h2.symm
    exact ⟨p, hp, by have := of_decide_eq_true e; omega⟩
theorem Both.into {w0 w w1 : World} {s s1 : St} {x : Rf} (h : Both w0 w s x) (hn : Near w0 w1 s1 x) (e1 : s1.n = s.n) (e2 : s1.m = s.m) (e3 : s1.lk = s.lk) (e4 : s1.ln = s.ln) (hs : Sim s1 x.L) : Both w0 w1 s1 x := by
  refine ⟨hn.hp, hn.rf, hn.bg, hn.bgw, h.n.trans e1.symm, h.len.trans e2.symm, h.K.trans e3.symm, h.N.trans e4.symm, hn.sep, hs, hn.below, fun o ho v hv => ?_⟩
  have hf := h.fit o ho v hv
  unfold St.fits M.fits at hf ⊢
  have i1 := h.sim.heads ((v : Int) / 2)
  have i2 := hs.heads ((v : Int) / 2)
  unfold St.is at i1 i2
  unfold M.inSet at hf ⊢
  rw [i2, ← i1]; exact hf
/-- What is right is closed as it is. -/
theorem close_as {w0 w : World} {s : St} {x : Rf} (h : Both w0 w s x) : Calls Try.prog 25 #[s.ptr, .int .i64 s.top] w fun e w' => e = .returned (.int .i64 0) ∧ Both w0 w' (s.as x.L) x ∧ Turn (fun k => k = s.g ∨ k = s.gw) w w' := by
  have hl := h.laid.closes h.hp.m_le (by have := h.hp.top_le; have := h.hp.n_le; omega)
  refine (close_in s s.top w h.hp h.hp.top_le).mono fun e w' hor => ?_
  rcases hor with ⟨l, hc, he, hp, ht⟩ | ⟨hno, _, _⟩
  · have hll : l = x.L.map RO.at_ := hc.1.same hl.1.1
    subst hll
    exact ⟨he, h.into (h.near.step ht hp rfl rfl) rfl rfl rfl rfl hl.2, ht⟩
  · exact absurd hl.1 (hno _)
theorem close_not {s : St} {w : World} (top : Nat) (h : HpIs w s) (htop : top ≤ s.n) (hno : ∀ l, ¬ s.closes top l) : Calls Try.prog 25 #[s.ptr, .int .i64 top] w fun e w' => e = .returned (.int .i64 1) ∧ Still w w' :=
  (close_in s top w h htop).mono fun e w' hor => by
    rcases hor with ⟨l, hc, _⟩ | ⟨_, he, ht⟩
    · exact absurd hc (hno l)
    · exact ⟨he, ht⟩
theorem TileTo.split {s : St} {top : Nat} : ∀ {L : List RO} {p k : Nat} {o : RO}, TileTo s top p L → L[k]? = some o → TileTo s o.at_ p (L.take k)
  | [], _, _, _, _, h => by simp at h
  | a :: L, p, 0, o, h, hk => by simp at hk; subst hk; exact h.1.symm
  | a :: L, p, k + 1, o, h, hk => ⟨h.1, TileTo.split h.2 (by simpa using hk)⟩
/-- A head that is none: such words are refused. -/
theorem bad_head {s : St} {L : List RO} (h : Sim s L) (hm : s.m ≤ 512) {k v : Nat} {o : RO} (hk : L[k]? = some o) (hv : (v : Int) ≠ M.hd (M.sh v) (M.ln v) 0 0) : ∀ l, ¬ (s.put o.at_ v).closes s.top l := by
  intro l hc
  have ht := (TileTo.split h.tile.to hk)
  have hgo := h.good o (List.mem_of_getElem? hk)
  have hz := hgo.sz.2.2
  have hle := (h.tile.get hk).2
  have hgood : ∀ p ∈ L.take k, Good (s.put o.at_ v) p := fun p hp => by
    obtain ⟨j, hj⟩ := List.mem_iff_getElem?.1 hp
    have hjk : j < k := by
      have := (List.getElem?_eq_some_iff.1 hj).1
      rw [List.length_take] at this; omega
    rw [List.getElem?_take, if_pos hjk] at hj
    have := h.tile.order hjk hj hk
    refine (h.good p (List.mem_of_getElem? hj)).keep rfl rfl rfl fun i i1 i2 => ?_
    show (if i = o.at_ then v else s.ws i) = s.ws i
    rw [if_neg (by omega)]
  have ht' : TileTo (s.put o.at_ v) o.at_ 0 (L.take k) := by
    have : ∀ (L : List RO) p, TileTo s o.at_ p L → TileTo (s.put o.at_ v) o.at_ p L := by
      intro L
      induction L with
      | nil => intro p h; exact h
      | cons a L ih => intro p h; exact ⟨h.1, ih _ h.2⟩
    exact this _ _ ht
  have hch := chain_of (s := s.put o.at_ v) (top := s.top) (good := (s.put o.at_ v).headB) hm ht' hgood (fun p hp => ((hgood p hp).reads hm (Nat.le_refl _)).2.2) (by omega)
  have hd := hch.det hc.1 (by omega)
  have h2 := hd.2
  unfold St.headB at h2
  rw [decide_eq_true_eq] at h2
  have e : (s.put o.at_ v).ws o.at_ = v := by show (if o.at_ = o.at_ then v else _) = v; rw [if_pos rfl]
  rw [e] at h2
  exact hv h2
/-- A nought behind the top: such a top is refused. -/
theorem bad_top {s : St} {L : List RO} (h : Sim s L) (hm : s.m ≤ 512) : ∀ l, ¬ s.closes (s.top + 1) l := by
  intro l hc
  have hch := chain_of (top := s.top + 1) (good := s.headB) hm h.tile.to h.good (fun p hp => ((h.good p hp).reads hm (Nat.le_refl _)).2.2) (by omega)
  have h2 := (hch.det hc.1 (by omega)).2
  unfold St.headB at h2
  rw [decide_eq_true_eq, h.zero s.top (Nat.le_refl _)] at h2
  unfold M.sh M.ln M.fld M.hd at h2
  omega
end Go.Proofs.Yteanlncnhncpbaa
