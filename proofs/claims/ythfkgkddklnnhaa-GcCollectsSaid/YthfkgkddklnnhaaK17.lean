/- Lemmas, put together: Swept Owned Lives3 Row. -/
import Derived.Test.YthfkgkddklnnhaaK16
import Derived.Test.YthfkgkddklnnhaaK04
import Derived.Deep.QuietTactic
import Derived.BigQuiet
import Derived.Test.YthfkgkddklnnhaaK09
/- gc's calls, told by lists: what is live, what is told, what is left. -/
namespace Go.Proofs.Ythfkgkddklnnhaa
set_option linter.unusedVariables false
open Go.ChangeShapes Go.WideShapes Go.ChangeAt Go.RowKit
open M (W)

theorem tof_same {s s' : St} (hz : ∀ o, s'.sz o = s.sz o) {mk : Nat → Bool} : ∀ (L : List RO) (a : Nat), M.tof s' mk L a = M.tof s mk L a
  | [], a => rfl
  | o :: L, a => by rw [M.tof, M.tof, hz, tof_same hz L a]
/-- A field's word lies where the object says. -/
theorem Right.word {w : World} {s : St} {L : List RO} (h : Right w s L) (rv : Nat → Nat) {o : RO} (ho : o ∈ L) {i : Nat} (hi : i < s.nf o) : i < o.fs.length ∧ (s.as L).mem rv (o.at_ + 1 + i) = o.fs.getD i 0 := by
  have hg := h.sim.good o ho
  have hz := hg.sz.1
  have hin := (h.laid.tile.in.2 o ho)
  have ht := h.hp.top_le
  unfold St.nf St.fieldsOf at hi
  by_cases hk : s.kind o.sh = 3
  · rw [if_pos hk] at hi; omega
  · rw [if_neg hk] at hi hz
    obtain ⟨f1, f2, f3⟩ := hg.f hk
    refine ⟨by omega, ?_⟩
    rw [← f3 i hi]
    show (if o.at_ + 1 + i < s.n then (if o.at_ + 1 + i < s.top then s.ws (o.at_ + 1 + i) else 0) else _) = _
    rw [if_pos (by omega), if_pos (by omega)]
theorem Right.nf {w : World} {s : St} {L : List RO} (h : Right w s L) {o : RO} (ho : o ∈ L) : s.nf o = o.fs.length := by
  have hg := h.sim.good o ho
  unfold St.nf St.fieldsOf
  by_cases hk : s.kind o.sh = 3
  · rw [if_pos hk, (hg.b hk).1]; rfl
  · rw [if_neg hk, (hg.f hk).2.1]
/-- A set of places that is closed under fields. -/
theorem Right.rclosed {w : World} {s : St} {L : List RO} (h : Right w s L) (rv : Nat → Nat) {R : Nat → Prop} (hR : ∀ o ∈ L, R o.at_ → ∀ v ∈ o.fs, v % 2 = 0 → R (v / 2)) : RClosed (s.as L) L ((s.as L).mem rv) R := fun o ho hr i hi he => by
  have hi' : i < s.nf o := hi
  obtain ⟨h1, h2⟩ := h.word rv ho hi'
  rw [h2] at he ⊢
  refine hR o ho hr _ ?_ he
  rw [List.getD_eq_getElem?_getD, List.getElem?_eq_getElem h1]
  exact List.getElem_mem _
/-- What is marked is just what is reached. -/
theorem Right.reached {w : World} {s : St} {L : List RO} (h : Right w s L) {rv : Nat → Nat} {rl : List Nat} {mk : Nat → Bool} (hcl : Closed (s.as L) L ((s.as L).mem rv) mk) (hsub : ∀ b, mk b = true → M.Rch L rl b) (hroot : ∀ v ∈ rl, v % 2 = 0 → mk (v / 2) = true) (b : Nat) : mk b = true ↔ M.Rch L rl b := by
  refine ⟨hsub b, fun hr => ?_⟩
  induction hr with
  | root hv he => exact hroot _ hv he
  | @field o v ho _ hv he ih =>
    obtain ⟨i, hi⟩ := List.mem_iff_getElem?.1 hv
    have hil := (List.getElem?_eq_some_iff.1 hi).1
    have hn : i < s.nf o := by rw [h.nf ho]; exact hil
    have h2 := (h.word rv ho hn).2
    rw [List.getD_eq_getElem?_getD, hi] at h2
    simp only [Option.getD_some] at h2
    rcases hcl o ho ih i hn with h3 | h3
    · rw [h2] at h3; omega
    · rw [h2] at h3; exact h3
theorem mk_same {L : List RO} {rl : List Nat} {mk mk' : Nat → Bool} (h : ∀ b, mk b = true ↔ M.Rch L rl b) (h' : ∀ b, mk' b = true ↔ M.Rch L rl b) : mk = mk' := by
  funext b
  have e : (mk b = true) ↔ (mk' b = true) := (h b).trans (h' b).symm
  cases h1 : mk b <;> cases h2 : mk' b <;> simp [h1, h2] at e ⊢
/-- Words as they lie are right. -/
theorem LaidAs.right {w : World} {s : St} {top : Nat} {L : List RO} (h : LaidAs s top L) (hm : s.m ≤ 512) (htop : top ≤ 65536) (hp : HpIs w (s.closed top (L.map RO.at_))) : Right w (s.closed top (L.map RO.at_)) L := by
  have hc := h.closes hm htop
  refine ⟨hp, hc.2, fun o ho v hv => ?_⟩
  unfold St.fits M.fits
  rw [Bool.or_eq_true]
  rcases h.fit o ho v hv with e | ⟨p, hp, e⟩
  · left; rw [beq_iff_eq]; omega
  · right
    have h2 := hc.2.heads ((v : Int) / 2)
    unfold St.is at h2
    unfold M.inSet
    rw [h2, List.any_eq_true]
    exact ⟨p, hp, by rw [decide_eq_true_eq]; omega⟩

/-- The roots that a caller hands on, in a row. -/
abbrev RootL (w : World) (s : St) (a : Option Addr) (rl : List Nat) : Prop := RootRow w a rl.length (fun i => rl.getD i 0) (fun b => b = s.g ∨ b = s.gw)
theorem getD_mem {rl : List Nat} {i : Nat} (hi : i < rl.length) : rl.getD i 0 ∈ rl := by
  rw [List.getD_eq_getElem?_getD, List.getElem?_eq_getElem hi]
  exact List.getElem_mem _
theorem fit_all {s : St} {rl : List Nat} : (∀ i, i < rl.length → s.fits (rl.getD i 0 : Nat) = true) ↔ ∀ v ∈ rl, s.fits (v : Nat) = true := by
  refine ⟨fun h v hv => ?_, fun h i hi => h _ (getD_mem hi)⟩
  obtain ⟨i, hi, rfl⟩ := List.mem_iff_getElem.1 hv
  have := h i hi
  rwa [List.getD_eq_getElem?_getD, List.getElem?_eq_getElem hi] at this
theorem rch_root {L : List RO} {rl : List Nat} : ∀ i, i < rl.length → rl.getD i 0 % 2 = 0 → M.Rch L rl (rl.getD i 0 / 2) := fun i hi he => .root (getD_mem hi) he
theorem rch_closed {L : List RO} {rl : List Nat} : ∀ o ∈ L, M.Rch L rl o.at_ → ∀ v ∈ o.fs, v % 2 = 0 → M.Rch L rl (v / 2) := fun o ho hr v hv he => .field ho hr hv he
theorem roots_all {rl : List Nat} {mk : Nat → Bool} (h : ∀ i, i < rl.length → rl.getD i 0 % 2 = 0 → mk (rl.getD i 0 / 2) = true) : ∀ v ∈ rl, v % 2 = 0 → mk (v / 2) = true := fun v hv he => by
  obtain ⟨i, hi, rfl⟩ := List.mem_iff_getElem.1 hv
  have := h i hi
  rw [List.getD_eq_getElem?_getD, List.getElem?_eq_getElem hi] at this
  exact this he
/-- The refusal of roots. -/
structure Unfit (w : World) (s : St) (L : List RO) (rl : List Nat) (w' : World) : Prop where
  right : Right w' (s.as L) L
  turn : Turn (fun b => b = s.g ∨ b = s.gw) w w'
  unfit : ∃ v ∈ rl, s.fits (v : Nat) = false
structure Fitted (w : World) (s : St) (L : List RO) (rl : List Nat) (mk : Nat → Bool) (w' : World) : Prop where
  right : Right w' (s.as L) L
  turn : Turn (fun b => b = s.g ∨ b = s.gw) w w'
  fit : ∀ v ∈ rl, s.fits (v : Nat) = true
  mk_iff : ∀ b, mk b = true ↔ M.Rch L rl b
theorem Refused.unfit' {w w' : World} {s : St} {L : List RO} {rl : List Nat} (h : Refused w s L rl.length (fun i => rl.getD i 0) w') : Unfit w s L rl w' := by
  obtain ⟨i, hi, hf⟩ := h.unfit
  exact ⟨h.right, h.turn, _, getD_mem hi, hf⟩
theorem Looked.fitted {w w' : World} {s : St} {L : List RO} {rl : List Nat} {mk : Nat → Bool} (hr : Right w s L) (h : Looked w s L rl.length (fun i => rl.getD i 0) (M.Rch L rl) mk w') : Fitted w s L rl mk w' :=
  ⟨h.right, h.turn, fit_all.1 h.fit, hr.reached h.closed h.sub (roots_all h.roots)⟩
theorem live_l {w : World} {s : St} {L : List RO} (h : Right w s L) (a : Option Addr) (n cap : Nat) (rl : List Nat) (hn : rl.length = n) (hrow : RootL w s a rl) (hcap : n ≤ cap) (hcm : cap ≤ maxLen) :
    Calls Try.prog 41 #[s.ptr, .slice a n cap] w fun e w' => (e = .returned (.tuple #[.int .i64 0, .int .i64 1]) ∧ Unfit w s L rl w') ∨
      ∃ mk, e = .returned (.tuple #[.int .i64 (M.tof s mk L s.top : Nat), .int .i64 0]) ∧ Fitted w s L rl mk w' := by
  subst hn
  refine (live_any h a rl.length cap (fun i => rl.getD i 0) (M.Rch L rl) hrow hcap hcm (h.rclosed _ rch_closed) rch_root).mono ?_
  rintro e w' (⟨rfl, hr⟩ | ⟨mk, rfl, hr⟩)
  · exact .inl ⟨rfl, hr.unfit'⟩
  · exact .inr ⟨mk, by rw [tof_same (s := s) (s' := s.as L) (fun _ => rfl)], hr.fitted h⟩
/-- What a collection leaves. -/
structure Swept (w : World) (s : St) (L : List RO) (rl : List Nat) (mk : Nat → Bool) (gr : Nat) (s' : St) (w' : World) : Prop where
  right : Right w' s' (M.slid mk (M.tof s mk L) L)
  turn : Turn (fun b => b = s.g ∨ b = s.gw) w w'
  fit : ∀ v ∈ rl, s.fits (v : Nat) = true
  mk_iff : ∀ b, mk b = true ↔ M.Rch L rl b
  top : s'.top = M.tof s mk L s.top
  row : w'.rowIs gr 33 rl.length (fun i => .int .u64 (M.ren (M.tof s mk L) (rl.getD i 0) : Nat))
  new : w.heap.size ≤ gr
  is : s'.g = s.g ∧ s'.gw = s.gw ∧ s'.gl = s.gl ∧ s'.n = s.n ∧ s'.m = s.m ∧ s'.lk = s.lk ∧ s'.ln = s.ln
theorem collect_l {w : World} {s : St} {L : List RO} (h : Right w s L) (a : Option Addr) (n cap : Nat) (rl : List Nat) (hn : rl.length = n) (hrow : RootL w s a rl) (hcap : n ≤ cap) (hcm : cap ≤ maxLen) :
    Calls Try.prog 18 #[s.ptr, .slice a n cap] w fun e w' => (e = .returned (.tuple #[.slice none 0 0, .int .i64 1]) ∧ Unfit w s L rl w') ∨
      ∃ mk gr s', e = .returned (.tuple #[.slice (some ⟨gr, 0, none⟩) n n, .int .i64 0]) ∧ Swept w s L rl mk gr s' w' := by
  subst hn
  have hsame : ∀ v : Int, (s.as L).fits v = s.fits v := fits_same h.sim (h.laid.closes h.hp.m_le (by have := h.hp.top_le; have := h.hp.n_le; omega)).2
  refine (collect_any h a rl.length cap (fun i => rl.getD i 0) (M.Rch L rl) hrow hcap hcm (h.rclosed _ rch_closed) rch_root).mono ?_
  rintro e w' ⟨⟨rfl, ⟨i, hi, hf⟩, hr⟩ | ⟨hfit, gr, mk, m, rfl, hgr, hcl, hsub, hrt, hp, hl, hrw⟩, ht⟩
  · exact .inl ⟨rfl, hr, ht, _, getD_mem hi, by rw [← hsame]; exact hf⟩
  · have et : M.tof (s.as L) mk L = M.tof s mk L := funext fun a => tof_same (s := s) (s' := s.as L) (fun _ => rfl) L a
    rw [et] at hp hl hrw
    have htop := hp.top_le
    have hnn := hp.n_le
    refine .inr ⟨mk, gr, ((s.as L).at m).closed (M.tof s mk L s.top) ((M.slid mk (M.tof s mk L) L).map RO.at_), rfl, ?_, ht, fun v hv => ?_, h.reached hcl hsub (roots_all hrt), rfl, hrw, hgr, ⟨rfl, rfl, rfl, rfl, rfl, rfl, rfl⟩⟩
    · exact hl.right hp.m_le (Nat.le_trans htop hnn) hp
    · rw [← hsame]; exact fit_all.1 hfit v hv
end Go.Proofs.Ythfkgkddklnnhaa
/- A law's own heap of one layout: layer 2's and gc's calls on it. -/
namespace Go.Proofs.Ythfkgkddklnnhaa
set_option linter.unusedVariables false
open Go.ChangeShapes Go.WideShapes Go.ChangeAt Go.RowKit
open M (W)

/-- In w stands a heap of n words that was made since w0, with the one layout (K, N). -/
structure Owned (w0 w : World) (g gw n : Nat) (K N : Int) (s : St) (L : List RO) : Prop where
  right : Right w s L
  eg : s.g = g
  egw : s.gw = gw
  bg : w0.heap.size ≤ g
  bgw : w0.heap.size ≤ gw
  below : Below w0.heap.size w0 w
  en : s.n = n
  em : s.m = 1
  elk : s.lk = fun _ => K
  eln : s.ln = fun _ => N
section
variable {w0 w w' : World} {g gw n : Nat} {K N : Int} {s s' : St} {L L' : List RO}
theorem Owned.kind (h : Owned w0 w g gw n K N s L) : s.kind 0 = K ∧ s.len 0 = N := by
  unfold St.kind St.len
  rw [h.em, h.elk, h.eln]
  exact ⟨rfl, rfl⟩
theorem Owned.step (h : Owned w0 w g gw n K N s L) (hr : Right w' s' L') (t : Turn (fun k => k = s.g ∨ k = s.gw) w w') (hs : s'.g = s.g ∧ s'.gw = s.gw ∧ s'.n = s.n ∧ s'.m = s.m ∧ s'.lk = s.lk ∧ s'.ln = s.ln) : Owned w0 w' g gw n K N s' L' := by
  obtain ⟨h1, h2, h3, h4, h5, h6⟩ := hs
  refine ⟨hr, h1.trans h.eg, h2.trans h.egw, h.bg, h.bgw, t.own h.below (Nat.le_refl _) ?_, h3.trans h.en, h4.trans h.em, h5.trans h.elk, h6.trans h.eln⟩
  rintro k (e | e)
  · have := h.bg; have := h.eg; omega
  · have := h.bgw; have := h.egw; omega
theorem Owned.still (h : Owned w0 w g gw n K N s L) (t : Still w w') : Owned w0 w' g gw n K N s L := h.step (h.right.still t) (Still.turn t) ⟨rfl, rfl, rfl, rfl, rfl, rfl⟩
theorem Owned.ptr (h : Owned w0 w g gw n K N s L) : s.ptr = .pointer (some ⟨g, 0, none⟩) := by rw [← h.eg]
theorem one_lay (w : World) (K N : Int) : Lays (w.alloc (.cells #[.int .i64 K, .int .i64 N] 67)) (some ⟨w.heap.size, 0, none⟩) 1 (fun _ => K) (fun _ => N) :=
  ⟨fun _ => ⟨w.heap.size, 0, rfl, by simp, fun j hj => by
    have hb := Blk.new w 67 #[.int .i64 K, .int .i64 N]
    obtain rfl : j = 0 := by omega
    exact ⟨hb.cell 0, hb.cell 1⟩⟩⟩
theorem owned_new (w : World) (n : Nat) (K N : Int) (hn : n ≤ 65536) (hm : M.mayBe K N = true) (cap : Nat) : Calls Try.prog 23 #[.int .i64 n, .slice (some ⟨w.heap.size, 0, none⟩) 1 cap] (w.alloc (.cells #[.int .i64 K, .int .i64 N] 67)) fun e w' =>
    ∃ g gw s, e = .returned (.tuple #[.pointer (some ⟨g, 0, none⟩), .int .i64 0]) ∧ Owned w w' g gw n K N s [] ∧ s.top = 0 := by
  refine (new_ok n _ 1 cap (fun _ => K) (fun _ => N) _ hn (by decide) (one_lay w K N) (fun _ _ => hm)).mono fun e w' ⟨s, h1, h2, h3, h4, h5, h6, h7, h8, h9, h10, h11, h12, h13⟩ => ?_
  simp only [World.size_alloc] at h4 h5
  refine ⟨s.g, s.gw, s, h1, ⟨right_nil h2 h8 h9 h10, rfl, rfl, by omega, by omega, ((Below.refl _ w).alloc (Nat.le_refl _) _).trans ((Still.below h3).mono (by simp)), h7, h11, h12, h13⟩, h8⟩
theorem Owned.needs (h : Owned w0 w g gw n K N s L) (k : Nat) (hK : K = 1 ∧ N = k ∨ K = 2 ∨ K = 3) (hk : k ≤ 65536) : s.needE 0 k = 0 := by
  unfold St.needE M.needE
  rw [h.kind.1, h.kind.2, if_neg (by omega), if_neg (by omega)]
theorem Owned.alloc (h : Owned w0 w g gw n K N s L) (k : Nat) (hK : K = 1 ∧ N = k ∨ K = 2) (hk : k ≤ 65536) (hf : 1 + k ≤ n - s.top) :
    Calls Try.prog 27 #[.pointer (some ⟨g, 0, none⟩), .int .i64 0, .int .i64 k] w fun e w' => e = .returned (.tuple #[.int .i64 s.top, .int .i64 0]) ∧ ∃ s', Owned w0 w' g gw n K N s' (L ++ [M.objF s.top 0 k (List.replicate k 1)]) ∧ s'.top = s.top + (1 + k) := by
  have hr := right_alloc h.right 0 k (by have := h.kind.1; rw [show ((0 : Nat) : Int) = 0 from rfl, this]; omega) (h.needs k (by omega) hk) (by rw [h.en]; exact hf)
  rw [h.ptr] at hr
  refine hr.mono ?_
  rintro e w' ⟨rfl, hr, t⟩
  exact ⟨rfl, _, h.step hr t ⟨rfl, rfl, rfl, rfl, rfl, rfl⟩, rfl⟩
theorem Owned.allocB (h : Owned w0 w g gw n 3 N s L) (k : Nat) (hk : k ≤ 65536) (hf : 1 + (k + 7) / 8 ≤ n - s.top) :
    Calls Try.prog 27 #[.pointer (some ⟨g, 0, none⟩), .int .i64 0, .int .i64 k] w fun e w' => e = .returned (.tuple #[.int .i64 s.top, .int .i64 0]) ∧ ∃ s', Owned w0 w' g gw n 3 N s' (L ++ [M.objB s.top 0 k (List.replicate k 0)]) ∧ s'.top = s.top + (1 + (k + 7) / 8) := by
  have hr := right_allocB h.right 0 k h.kind.1 (h.needs k (by omega) hk) (by rw [h.en]; exact hf)
  rw [h.ptr] at hr
  refine hr.mono ?_
  rintro e w' ⟨rfl, hr, t⟩
  exact ⟨rfl, _, h.step hr t ⟨rfl, rfl, rfl, rfl, rfl, rfl⟩, rfl⟩
theorem Right.fits_at (h : Right w s L) {o : RO} (ho : o ∈ L) {v : Int} (hv : v / 2 = o.at_) : s.fits v = true := by
  unfold St.fits M.fits
  rw [Bool.or_eq_true]
  right
  have h2 := h.sim.heads (v / 2)
  unfold St.is at h2
  unfold M.inSet
  rw [h2, List.any_eq_true]
  exact ⟨o, ho, by rw [decide_eq_true_eq, hv]⟩
theorem fits_odd (s : St) {v : Int} (hv : v % 2 = 1) : s.fits v = true := by
  unfold St.fits M.fits
  rw [Bool.or_eq_true, beq_iff_eq]
  exact .inl hv
theorem Owned.set (h : Owned w0 w g gw n K N s L) {k j v : Nat} {o : RO} (hk : L[k]? = some o) (hj : j < o.fs.length) (hv : v < 18446744073709551616) (hf : s.fits v = true) :
    Calls Try.prog 28 #[.pointer (some ⟨g, 0, none⟩), .int .i64 o.at_, .int .i64 j, .int .u64 v] w fun e w' => e = .returned (.int .i64 0) ∧ ∃ s', Owned w0 w' g gw n K N s' (L.set k { o with fs := o.fs.set j v }) ∧ s'.top = s.top := by
  have hr := right_set h.right hk hj hv hf
  rw [h.ptr] at hr
  refine hr.mono ?_
  rintro e w' ⟨rfl, hr, t⟩
  exact ⟨rfl, _, h.step hr (t.mono fun _ _ e => .inr e) ⟨rfl, rfl, rfl, rfl, rfl, rfl⟩, rfl⟩
theorem Owned.get (h : Owned w0 w g gw n K N s L) {j : Nat} {o : RO} (ho : o ∈ L) (hj : j < o.fs.length) :
    Calls Try.prog 43 #[.pointer (some ⟨g, 0, none⟩), .int .i64 o.at_, .int .i64 j] w fun e w' => e = .returned (.tuple #[.int .u64 (o.fs.getD j 0 : Nat), .int .i64 0]) ∧ Still w w' := by
  have hr := right_get h.right ho hj
  rw [h.ptr] at hr
  exact hr
theorem Owned.top (h : Owned w0 w g gw n K N s L) : Calls Try.prog 12 #[.pointer (some ⟨g, 0, none⟩)] w fun e w' => e = .returned (.int .i64 s.top) ∧ w' = w := by
  have := top_any s w h.right.hp
  rw [h.ptr] at this
  exact this
/-- Roots that are laid out by a literal. -/
theorem root_lit (h : Owned w0 w g gw n K N s L) (rl : List Nat) (hrl : ∀ v ∈ rl, v < 18446744073709551616) (hl : rl.length ≤ 65536) : RootL (w.alloc (.cells (rl.map fun v : Nat => Value.int .u64 (v : Int)).toArray 33)) s (some ⟨w.heap.size, 0, none⟩) rl := by
  refine ⟨fun h0 => ⟨w.heap.size, 0, rfl, by simp, ?_, fun i hi => ?_⟩, fun i => ?_, hl⟩
  · rintro (e | e)
    · have := h.right.hp.blk.lt; omega
    · have := h.right.hp.words.lt; omega
  · have hb := Blk.new w 33 (rl.map fun v : Nat => Value.int .u64 (v : Int)).toArray
    have hc := hb.cell i
    rw [Nat.zero_add, hc, List.getElem?_toArray, List.getElem?_map, List.getElem?_eq_getElem hi, List.getD_eq_getElem?_getD, List.getElem?_eq_getElem hi]; rfl
  · rw [List.getD_eq_getElem?_getD]
    cases hh : rl[i]? with
    | none => simp
    | some v => simpa using hrl v (List.mem_of_getElem? hh)
theorem Owned.live (h : Owned w0 w g gw n K N s L) (a : Option Addr) (m cap : Nat) (rl : List Nat) (hm : rl.length = m) (hrow : RootL w s a rl) (hcap : m ≤ cap) (hcm : cap ≤ maxLen) (hfit : ∀ v ∈ rl, s.fits (v : Nat) = true) :
    Calls Try.prog 41 #[.pointer (some ⟨g, 0, none⟩), .slice a m cap] w fun e w' => ∃ mk, (∀ b, mk b = true ↔ M.Rch L rl b) ∧ e = .returned (.tuple #[.int .i64 (M.tof s mk L s.top : Nat), .int .i64 0]) ∧ ∃ s', Owned w0 w' g gw n K N s' L ∧ s'.top = s.top := by
  have hr := live_l h.right a m cap rl hm hrow hcap hcm
  rw [h.ptr] at hr
  refine hr.mono ?_
  rintro e w' (⟨rfl, hu⟩ | ⟨mk, rfl, hf⟩)
  · obtain ⟨v, hv, hx⟩ := hu.unfit
    rw [hfit v hv] at hx; simp at hx
  · exact ⟨mk, hf.mk_iff, rfl, _, h.step hf.right hf.turn ⟨rfl, rfl, rfl, rfl, rfl, rfl⟩, rfl⟩
theorem Owned.collect (h : Owned w0 w g gw n K N s L) (a : Option Addr) (m cap : Nat) (rl : List Nat) (hm : rl.length = m) (hrow : RootL w s a rl) (hcap : m ≤ cap) (hcm : cap ≤ maxLen) (hfit : ∀ v ∈ rl, s.fits (v : Nat) = true) :
    Calls Try.prog 18 #[.pointer (some ⟨g, 0, none⟩), .slice a m cap] w fun e w' => ∃ mk gr, (∀ b, mk b = true ↔ M.Rch L rl b) ∧ e = .returned (.tuple #[.slice (some ⟨gr, 0, none⟩) m m, .int .i64 0]) ∧ w'.rowIs gr 33 m (fun i => .int .u64 (M.ren (M.tof s mk L) (rl.getD i 0) : Nat)) ∧ w.heap.size ≤ gr ∧ ∃ s', Owned w0 w' g gw n K N s' (M.slid mk (M.tof s mk L) L) ∧ s'.top = M.tof s mk L s.top := by
  have hr := collect_l h.right a m cap rl hm hrow hcap hcm
  rw [h.ptr] at hr
  refine hr.mono ?_
  rintro e w' (⟨rfl, hu⟩ | ⟨mk, gr, s', rfl, hf⟩)
  · obtain ⟨v, hv, hx⟩ := hu.unfit
    rw [hfit v hv] at hx; simp at hx
  · obtain ⟨i1, i2, i3, i4, i5, i6, i7⟩ := hf.is
    exact ⟨mk, gr, hf.mk_iff, rfl, by rw [← hm]; exact hf.row, hf.new, s', h.step hf.right hf.turn ⟨i1, i2, i4, i5, i6, i7⟩, hf.top⟩
end
end Go.Proofs.Ythfkgkddklnnhaa
/- The laws' own example of layer 3. -/
namespace Go.Proofs.Ythfkgkddklnnhaa
set_option linter.unusedVariables false
open Go.ChangeShapes Go.WideShapes Go.ChangeAt Go.RowKit
open M (W)

def M.ex3 : List RO := [M.objF 0 0 2 [1, 1], M.objF 3 0 2 [1, 1], M.objF 6 0 2 [6, 6]]
theorem ex3_mk {mk : Nat → Bool} (h : ∀ b, mk b = true ↔ M.Rch M.ex3 [12, 11] b) : mk 0 = false ∧ mk 3 = true ∧ mk 6 = true := by
  have h6 : M.Rch M.ex3 [12, 11] 6 := .root (v := 12) (by simp) (by decide)
  have h3 : M.Rch M.ex3 [12, 11] 3 := .field (o := M.objF 6 0 2 [6, 6]) (v := 6) (by unfold M.ex3; simp) h6 (by simp [M.objF]) (by decide)
  have hall : ∀ b, M.Rch M.ex3 [12, 11] b → b = 6 ∨ b = 3 := by
    intro b hb
    induction hb with
    | @root v hv he =>
      simp at hv
      rcases hv with rfl | rfl
      · exact .inl rfl
      · omega
    | @field o v ho _ hv he ih =>
      unfold M.ex3 at ho
      simp at ho
      rcases ho with rfl | rfl | rfl
      · simp [M.objF] at ih
      · simp [M.objF] at hv; omega
      · simp [M.objF] at hv; omega
  refine ⟨?_, (h 3).2 h3, (h 6).2 h6⟩
  cases h0 : mk 0 with
  | false => rfl
  | true => rcases hall 0 ((h 0).1 h0) with e | e <;> omega
theorem ex3_sz {w0 w : World} {g gw : Nat} {s : St} {L : List RO} (h : Owned w0 w g gw 9 1 2 s L) (a : Nat) (fs : List Nat) : s.sz (M.objF a 0 2 fs) = 3 := by
  unfold St.sz St.need
  show (M.need (s.kind 0) (s.len 0) 2).toNat = 3
  rw [h.kind.1, h.kind.2]; rfl
theorem ex3_tof {w0 w : World} {g gw : Nat} {s : St} {L : List RO} (h : Owned w0 w g gw 9 1 2 s L) {mk : Nat → Bool} (hm : ∀ b, mk b = true ↔ M.Rch M.ex3 [12, 11] b) : M.tof s mk M.ex3 9 = 6 ∧ M.tof s mk M.ex3 6 = 3 ∧ M.tof s mk M.ex3 3 = 0 ∧ M.slid mk (M.tof s mk M.ex3) M.ex3 = [M.objF 0 0 2 [1, 1], M.objF 3 0 2 [0, 0]] := by
  obtain ⟨m0, m3, m6⟩ := ex3_mk hm
  have key : ∀ a, M.tof s mk M.ex3 a = (if 3 < a then 3 else 0) + (if 6 < a then 3 else 0) := fun a => by
    unfold M.ex3
    simp only [M.tof, ex3_sz h]
    simp [M.objF, m0, m3, m6]
  refine ⟨by rw [key]; rfl, by rw [key]; rfl, by rw [key]; rfl, ?_⟩
  have e3 := key 3
  have e6 := key 6
  unfold M.slid
  generalize M.tof s mk M.ex3 = t at *
  have h3 : t 3 = 0 := by rw [e3]; rfl
  have h6 : t 6 = 3 := by rw [e6]; rfl
  unfold M.ex3
  simp [M.objF, m0, m3, m6, RO.goes, M.ren, h3, h6]
theorem ptr_6 (w : World) : Calls Try.prog 29 #[.int .i64 6] w fun e w' => e = .returned (.int .u64 12) ∧ w' = w := ptr_any 6 w
theorem ptr_0 (w : World) : Calls Try.prog 29 #[.int .i64 0] w fun e w' => e = .returned (.int .u64 0) ∧ w' = w := ptr_any 0 w
theorem imm_5 (w : World) : Calls Try.prog 42 #[.int .i64 5] w fun e w' => e = .returned (.int .u64 11) ∧ w' = w := imm_any 5 w
set_option maxRecDepth 100000 in
set_option maxHeartbeats 4000000 in
theorem lives3_any (w : World) : Calls Try.prog 17 #[] w fun e w' => e = .returned (.bool true) ∧ Below w.heap.size w w' := by
  go_enter Try.func17, Try.ntmps17
  go_wp2_with fail
  refine (owned_new w 9 1 2 (by decide) (by decide) _).mono ?_; rintro e w1 ⟨g, gw, s, rfl, h1, ht1⟩
  have H1 := Lib.hid h1
  have T1 := Lib.hid ht1
  clear h1 ht1
  go_wp2_with fail
  go_loopw [15] (fun i wr => ∃ (j : Nat) (s : St), i = .int .i64 j ∧ j ≤ 3 ∧ Owned w wr g gw 9 1 2 s ((List.range j).map fun i => M.objF (3 * i) 0 2 [1, 1]) ∧ s.top = 3 * j) (fun i _ => 3 - (intOf i).toNat)
  case atStart => exact ⟨0, s, rfl, by omega, H1.out, T1.out⟩
  case round =>
    obtain ⟨j, s, rfl, hj, ho, htop⟩ := hrel
    have HO := Lib.hid ho
    have HT := Lib.hid htop
    by_cases hlt : j < 3
    · have HA := Lib.hid (ho.alloc 2 (.inl ⟨rfl, rfl⟩) (by decide) (by omega))
      clear ho htop
      go_wp2_with fail
      refine HA.out.mono ?_; rintro e w2 ⟨rfl, s2, h2, t2⟩
      have HO2 := Lib.hid (And.intro h2 t2)
      clear h2 t2
      go_wp2_with fail
      go_roundw
      case rel =>
        refine ⟨j + 1, s2, by go_num, by omega, ?_, by rw [HO2.out.2, HT.out]; omega⟩
        have := HO2.out.1
        rw [HT.out] at this
        rw [List.range_succ, List.map_append]
        exact this
      case measure => simp [intOf]; omega
    · obtain rfl : j = 3 := by omega
      have h3 : Owned w wr g gw 9 1 2 s [M.objF 0 0 2 [1, 1], M.objF 3 0 2 [1, 1], M.objF 6 0 2 [1, 1]] := ho
      have HS1 := Lib.hid (h3.set (k := 2) (j := 0) (v := 6) (o := M.objF 6 0 2 [1, 1]) rfl (by decide) (by decide) (h3.right.fits_at (o := M.objF 3 0 2 [1, 1]) (by simp) (by decide)))
      clear ho htop h3
      go_wp2_with fail
      refine (ptr_3 _).mono ?_; rintro e w2 ⟨rfl, rfl⟩
      go_wp2_with fail
      refine HS1.out.mono ?_; rintro e w3 ⟨rfl, s3, h3, t3⟩
      replace h3 : Owned w w3 g gw 9 1 2 s3 [M.objF 0 0 2 [1, 1], M.objF 3 0 2 [1, 1], M.objF 6 0 2 [6, 1]] := h3
      have HS2 := Lib.hid (h3.set (k := 2) (j := 1) (v := 6) (o := M.objF 6 0 2 [6, 1]) rfl (by decide) (by decide) (h3.right.fits_at (o := M.objF 3 0 2 [1, 1]) (by simp) (by decide)))
      have HT3 : Hid (s3.top = 9) := t3.trans HT.out
      clear h3 t3
      go_wp2_with fail
      refine (ptr_3 _).mono ?_; rintro e w4 ⟨rfl, rfl⟩
      go_wp2_with fail
      refine HS2.out.mono ?_; rintro e w5 ⟨rfl, s5, h5, t5⟩
      replace h5 : Owned w w5 g gw 9 1 2 s5 M.ex3 := h5
      have HT5 : Hid (s5.top = 9) := t5.trans HT3.out
      have HO5 := Lib.hid h5
      clear h5 t5
      go_wp2_with fail
      refine (ptr_6 _).mono ?_; rintro e w6 ⟨rfl, rfl⟩
      go_wp2_with fail
      refine (imm_5 _).mono ?_; rintro e w6 ⟨rfl, rfl⟩
      have hroot := root_lit HO5.out [12, 11] (by simp) (by decide)
      have HSTL := Lib.hid (HO5.out.still ((Still.refl w6).alloc (.cells (([12, 11] : List Nat).map fun v : Nat => Value.int .u64 (v : Int)).toArray 33)))
      have hfit : ∀ v ∈ ([12, 11] : List Nat), s5.fits (v : Nat) = true := by
        intro v hv
        simp at hv
        rcases hv with rfl | rfl
        · exact HO5.out.right.fits_at (o := M.objF 6 0 2 [6, 6]) (by unfold M.ex3; simp) (by decide)
        · exact fits_odd _ (by decide)
      have HL := Lib.hid (HSTL.out.live (some ⟨w6.heap.size, 0, none⟩) 2 2 [12, 11] rfl hroot (by decide) (by decide) hfit)
      change Hid (Calls _ _ _ (w6.alloc (.cells #[.int .u64 12, .int .u64 11] 33)) _) at HL
      rw [HT5.out] at HL
      clear hroot hfit HSTL
      go_wp2_with fail
      refine HL.out.mono ?_; rintro e w7 ⟨mk, hmk, rfl, s7, h7, t7⟩
      have e7 := (ex3_tof HO5.out hmk).1
      have HT7 : Hid (s7.top = 9) := t7
      have HO7 := Lib.hid h7
      rw [e7]
      clear h7 t7 hmk e7 HL
      go_wp2_with fail
      refine (ptr_6 _).mono ?_; rintro e w8 ⟨rfl, rfl⟩
      go_wp2_with fail
      refine (imm_5 _).mono ?_; rintro e w8 ⟨rfl, rfl⟩
      have hroot := root_lit HO7.out [12, 11] (by simp) (by decide)
      have HSTL := Lib.hid (HO7.out.still ((Still.refl w8).alloc (.cells (([12, 11] : List Nat).map fun v : Nat => Value.int .u64 (v : Int)).toArray 33)))
      have hfit : ∀ v ∈ ([12, 11] : List Nat), s7.fits (v : Nat) = true := by
        intro v hv
        simp at hv
        rcases hv with rfl | rfl
        · exact HO7.out.right.fits_at (o := M.objF 6 0 2 [6, 6]) (by unfold M.ex3; simp) (by decide)
        · exact fits_odd _ (by decide)
      have HC := Lib.hid (HSTL.out.collect (some ⟨w8.heap.size, 0, none⟩) 2 2 [12, 11] rfl hroot (by decide) (by decide) hfit)
      change Hid (Calls _ _ _ (w8.alloc (.cells #[.int .u64 12, .int .u64 11] 33)) _) at HC
      rw [HT7.out] at HC
      clear hroot hfit HSTL
      go_wp2_with fail
      refine HC.out.mono ?_; rintro e w9 ⟨mk, gr, hmk, rfl, hrow, hgr, s9, h9, t9⟩
      obtain ⟨e9, e6, e3, esl⟩ := ex3_tof HO7.out hmk
      rw [esl] at h9
      rw [e9] at t9
      have c0 : w9.cell? ⟨gr, 0, none⟩ = some (.int .u64 6) := by
        rw [hrow.cell (i := 0) (by decide)]
        show some (Value.int .u64 ((2 * M.tof s7 mk M.ex3 6 : Nat) : Int)) = _
        rw [e6]; rfl
      have c1 : w9.cell? ⟨gr, 1, none⟩ = some (.int .u64 11) := by
        rw [hrow.cell (i := 1) (by decide)]; rfl
      have hgl := hrow.lt
      have HG := Lib.hid (h9.get (o := M.objF 3 0 2 [0, 0]) (j := 1) (by simp) (by decide))
      have HT9 := Lib.hid t9
      have HO9 := Lib.hid h9
      clear h9 t9 hmk e9 e6 e3 esl HC hrow
      go_wp2_with fail
      refine HG.out.mono ?_; rintro e w10 ⟨rfl, t10⟩
      have h10 := HO9.out.still t10
      have c0' : w10.cell? ⟨gr, 0, none⟩ = some (.int .u64 6) := by rw [t10.cell (p := ⟨gr, 0, none⟩) hgl]; exact c0
      have c1' : w10.cell? ⟨gr, 1, none⟩ = some (.int .u64 11) := by rw [t10.cell (p := ⟨gr, 1, none⟩) hgl]; exact c1
      have hgl' : gr < w10.heap.size := Nat.lt_of_lt_of_le hgl t10.size
      have HTOP := fun W (hW : Owned w W g gw 9 1 2 s9 [M.objF 0 0 2 [1, 1], M.objF 3 0 2 [0, 0]]) => hW.top
      rw [HT9.out] at HTOP
      have HTT := Lib.hid HTOP
      have HO10 := Lib.hid h10
      clear h10 t10 HTOP HG c0 c1 hgl
      go_wp2_with fail
      go_quiet (first
        | (go_at_call 29; first | exact Calls.quiet_of_same (ptr_3 _) | exact Calls.quiet_of_same (ptr_0 _))
        | (go_at_call 42; exact Calls.quiet_of_same (imm_5 _))
        | (go_at_call 12; exact Calls.quiet_of_same (HTT.out _ (HO10.out.still ((Still.refl _).drewN _)))))
      go_wp2_with fail
      go_ret
      exact ⟨rfl, (HO10.out.still ((Still.refl _).drewN nq)).below⟩
end Go.Proofs.Ythfkgkddklnnhaa
/- The document's Row: all words of the heap. -/
namespace Go.Proofs.Ythfkgkddklnnhaa
set_option linter.unusedVariables false
open Go.ChangeShapes Go.WideShapes Go.ChangeAt Go.RowKit
open M (W)

theorem Still.own_turn {w W W' : World} {e : TypeId} {size n : Nat} {v : Value} {xs : List Value} (h : Still w W) (t : Turn (fun k => v.ownBlock = some k) W W') (hown : W.ownsRow w.heap.size e size v n xs) : Still w W' :=
  Still.own h (t.below_only hown h.size)
def RO.arr (o : RO) : Array Value := #[.int .i64 o.at_, .int .i64 o.sh, .int .i64 o.n, o.fv, o.bv]
theorem blk5 {W : World} {g : Nat} {t : TypeId} {o : RO} (h : Blk W g t o.arr) : W.cell? ⟨g, 0, none⟩ = some (.int .i64 o.at_) ∧ W.cell? ⟨g, 1, none⟩ = some (.int .i64 o.sh) ∧ W.cell? ⟨g, 2, none⟩ = some (.int .i64 o.n) ∧ W.cell? ⟨g, 3, none⟩ = some o.fv ∧ W.cell? ⟨g, 4, none⟩ = some o.bv := ⟨h.cell 0, h.cell 1, h.cell 2, h.cell 3, h.cell 4⟩
theorem Blk.other {W W' : World} {g : Nat} {t e : TypeId} {cs : Array Value} {base size n : Nat} {v : Value} {xs : List Value} (h : Blk W g t cs) (tr : Turn (fun k => v.ownBlock = some k) W W') (hown : W.ownsRow base e size v n xs) (hne : e ≠ t) : Blk W' g t cs :=
  h.keep tr (own_blk hown h hne)

theorem one_new (W : World) (t : TypeId) (v : Value) (g : Nat) (hg : W.heap.size = g) : ∀ (j : Nat) u, [v][j]? = some u → (W.alloc (.cells #[v] t)).cell? ((⟨g, 0, none⟩ : Addr).add j) = some u := by
  subst hg
  intro j u hj
  match j, hj with
  | 0, hj =>
    obtain rfl : v = u := by simpa using hj
    exact (Blk.new W t #[v]).cell 0
  | j + 1, hj => simp at hj

def lenV : Value → Nat
  | .slice _ n _ => n
  | _ => 0
set_option maxRecDepth 100000 in
set_option maxHeartbeats 8000000 in
theorem row_any {B : Nat} (s : St) (x : Rf) (w : World) (h : Agree B w s x) :
    Calls Try.prog 8 #[x.ptr] w fun e w' => (∃ a c, e = .returned (.slice a s.n c) ∧ w'.ownsRow w.heap.size 33 1 (.slice a s.n c) s.n (M.u64s s.ws s.n)) ∧ Still w w' := by
  have c2 := h.rf.c2
  have c0 := h.rf.c0
  rw [h.n] at c0
  have hfew := h.rf.few
  have hgx := h.rf.blk.lt
  have hn := h.hp.n_le
  have htn := h.hp.top_le
  have HH := Lib.hid h
  obtain ⟨la, lc, hlv⟩ := h.rf.lv_slice
  have HLV := Lib.hid hlv
  rw [hlv] at c2
  clear h hlv
  go_enter Try.func8, Try.ntmps8
  go_wp2_with fail
  go_loopw [3, 14] (fun l i wr => ∃ (j p : Nat) (a : Option Addr) (n c : Nat), i = .int .i64 j ∧ l = .slice a n c ∧ j ≤ x.L.length ∧ n = p ∧ Tile s p (x.L.drop j) ∧ Still w wr ∧ wr.ownsRow w.heap.size 33 1 (.slice a n c) n (M.u64s s.ws p)) (fun _ i _ => x.L.length - (intOf i).toNat)
  case atStart => exact ⟨0, 0, none, 0, 0, rfl, rfl, by omega, rfl, HH.out.sim.tile, Still.refl _, World.ownsRow_nil _ _ _ _⟩
  case round =>
    obtain ⟨j, p, a, n, c, rfl, rfl, hj, rfl, htile, ht, hown⟩ := hrel
    have hptop := htile.le
    have HW := Lib.hid ht
    have HO := Lib.hid hown
    by_cases hjl : j < x.L.length
    · obtain ⟨o, ho⟩ : ∃ o, x.L[j]? = some o := ⟨_, List.getElem?_eq_getElem hjl⟩
      rcases HH.out.rf.lv_form with ⟨_, h0⟩ | ⟨g, cap, h1, hg, hb, hle, hm, hf, hc⟩
      · rw [h0] at hjl; simp at hjl
      have h2 := h1.symm.trans HLV.out
      injection h2 with h3 _ h4
      subst h3; subst h4
      unfold maxLen at hm
      have HLE := Lib.hid hle
      have HC := Lib.hid hc
      clear hc h1 hf hb hle
      obtain ⟨d0, d1, d2, d3, d4⟩ := HC.out j o ho
      have e0 : wr.cell? ⟨g, j * 5, none⟩ = some (.int .i64 o.at_) := by rw [ht.cell hg]; exact d0
      have e1 : wr.cell? ⟨g, j * 5 + 1, none⟩ = some (.int .i64 o.sh) := by rw [ht.cell hg]; exact d1
      have e2 : wr.cell? ⟨g, j * 5 + 2, none⟩ = some (.int .i64 o.n) := by rw [ht.cell hg]; exact d2
      have e3 : wr.cell? ⟨g, j * 5 + 3, none⟩ = some o.fv := by rw [ht.cell hg]; exact d3
      have e4 : wr.cell? ⟨g, j * 5 + 4, none⟩ = some o.bv := by rw [ht.cell hg]; exact d4
      have hgr : g < wr.heap.size := Nat.lt_of_lt_of_le hg ht.size
      have hom := List.mem_of_getElem? ho
      have HG := Lib.hid (HH.out.sim.good o hom)
      obtain ⟨hat, htile2⟩ := htile.drop ho
      subst hat
      have hp2 := htile2.le
      obtain ⟨z1, z2, z3, z4, z5⟩ := HG.out.flat
      have HROW := Lib.hid (HH.out.rf.rows o hom)
      have hhd : ((s.ws o.at_ : Nat) : Int) = M.hd o.sh o.n 0 0 := by rw [HG.out.hd]; exact Int.toNat_of_nonneg (M.hd_lo ..)
      have HHD : ∀ W : World, Calls Try.prog 30 #[.int .i64 o.sh, .int .i64 o.n] W fun e w' => e = .returned (.int .u64 (s.ws o.at_)) ∧ ∃ n, w' = W.drewN n := by
        intro W; rw [hhd]; exact M.hd_head o.sh o.n ▸ refHead_any o.sh o.n W
      obtain ⟨g5, hg5⟩ : ∃ g5, wr.heap.size = g5 := ⟨_, rfl⟩
      have HG5 := Lib.hid hg5
      have HT2 := Lib.hid htile2
      have HZ := Lib.hid (And.intro z1 (And.intro z2 z3))
      clear d0 d1 d2 d3 d4 ht hown htile htile2 z1 z2 z3 hhd ho c2 hom hg5
      go_wp2_with fail
      refine (HHD _).mono ?_; rintro e w1 ⟨rfl, nd, rfl⟩
      have S1 : Still wr (((wr.alloc (.cells o.arr 73)).drewN nd).alloc (.cells #[.int .u64 (s.ws o.at_)] 33)) := (((Still.refl wr).alloc _).drewN nd).alloc _
      have B1 := ((Blk.new wr 73 o.arr).drewN nd).alloc (.cells #[.int .u64 (s.ws o.at_)] 33)
      have N1 := one_new ((wr.alloc (.cells o.arr 73)).drewN nd) 33 (.int .u64 (s.ws o.at_)) (wr.heap.size + 1) (by simp)
      have HOA := Lib.hid (own_keep (HO.out) S1 (fun _ _ e => e))
      have HS1 := Lib.hid S1
      have HB1 := Lib.hid B1
      have HN1 := Lib.hid N1
      clear S1 B1 N1 e0 e1 e2 e3 e4 HHD
      go_wp2_with (first
        | (at_builtin; refine wpList_append_form rfl (.tmp 18) (.tmp 24) 24 rfl w.heap.size 33 1 8 (.int .u64 0) Try.underlying24 infoU rfl (by decide) a o.at_ c _ rfl HOA.out ⟨wr.heap.size + 1, 0, none⟩ 1 1 [.int .u64 (s.ws o.at_)] rfl rfl HN1.out (by simp [Value.oneCell']) (by decide) (by unfold maxLen; omega) (by omega) (Nat.le_trans HW.out.size HS1.out.size) ?_
           intro g1 c1 w2 hown2 ht2 hnew2
           have HW2 := Lib.hid ((HW.out.trans HS1.out).own_turn ht2.out HOA.out)
           have HB2 := Lib.hid (HB1.out.other ht2.out HOA.out (by decide))
           have HO2 : Hid (w2.ownsRow w.heap.size 33 1 (.slice (some ⟨g1, 0, none⟩) (o.at_ + 1) c1) (o.at_ + 1) (M.u64s s.ws (o.at_ + 1))) := by rw [u64s_succ]; exact hown2.out
           obtain ⟨b0, b1, b2, b3, b4⟩ := blk5 HB2.out
           have hg5l := HB2.out.lt
           clear hown2 ht2 hnew2 HOA HS1 HB1 HN1)
        | (at_builtin; refine wpList_append_row rfl (.tmp 26) (.tmp 28) 24 rfl w.heap.size 33 1 8 (.int .u64 0) Try.underlying24 infoU rfl (by decide) _ (o.at_ + 1) c1 _ rfl HO2.out B o.fa o.fs.length o.fc (o.fs.map fun v : Nat => Value.int .u64 (v : Int)) rfl (own_keep HROW.out.1 HW2.out (fun _ _ e => e)) (nats_one _) (by unfold maxLen; omega) (by omega) HW2.out.size ?_
           intro a2 c2 w3 hown3 ht3 hnew3
           have HW3 := Lib.hid (HW2.out.own_turn ht3.out HO2.out)
           have HB3 := Lib.hid (HB2.out.other ht3.out HO2.out (by decide))
           have HO3 : Hid (w3.ownsRow w.heap.size 33 1 (.slice a2 (o.at_ + 1 + o.fs.length) c2) (o.at_ + 1 + o.fs.length) (M.u64s s.ws (o.at_ + 1 + o.fs.length))) := by rw [← u64s_row _ _ _ HZ.out.2.1]; exact hown3.out
           clear hown3 ht3 hnew3 HO2 HW2 HB2 b0 b1 b2 b3 b4 hg5l))
      have hsz := HZ.out.1
      have hgxr : x.gx < wr.heap.size := Nat.lt_of_lt_of_le hgx HW.out.size
      have hwr : w.heap.size ≤ wr.heap.size := HW.out.size
      generalize wr.heap.size = g5 at *
      obtain ⟨F, hF⟩ : ∃ F, o.at_ + 1 + o.fs.length = F := ⟨_, rfl⟩
      rw [hF] at HO3 ⊢
      have HF := Lib.hid hF
      have HSZ := Lib.hid hsz
      have hbl := z5
      have hlast : F + (o.bs.length + 7) / 8 ≤ s.top := by omega
      clear hF hsz HO hptop hp2 z5 z4
      go_loopw [3, 6] (fun l i wq => ∃ (q Q n c : Nat) (a : Option Addr), i = .int .i64 Q ∧ l = .slice a n c ∧ Q = q * 8 ∧ q ≤ (o.bs.length + 7) / 8 ∧ n = F + q ∧ Still w wq ∧ Blk wq g5 73 o.arr ∧ wq.ownsRow w.heap.size 33 1 (.slice a n c) n (M.u64s s.ws n)) (fun _ i _ => 65544 - (intOf i).toNat)
      case atStart => exact ⟨0, 0, F, c2, a2, rfl, rfl, rfl, by omega, rfl, HW3.out, HB3.out, HO3.out⟩
      case round =>
        obtain ⟨q, Q, n, c, a, rfl, rfl, hQ, hq, hn2, ht, hblk, hown⟩ := hrel
        obtain ⟨b0, b1, b2, b3, b4⟩ := blk5 hblk
        have hg5l := hblk.lt
        have HT := Lib.hid ht
        have HBK := Lib.hid hblk
        have HOW := Lib.hid hown
        have HQ := Lib.hid hQ
        have HN2 := Lib.hid hn2
        clear ht hblk hown HW3 HB3 HO3 hQ hn2
        by_cases hql : Q < o.bs.length
        · obtain ⟨gb, hba, hgb, hbc1, hbc2, hbcell, _⟩ := own_form HROW.out.2 (by omega)
          have b4' : wr.cell? ⟨g5, 4, none⟩ = some (.slice (some ⟨gb, 0, none⟩) o.bs.length o.bc) := by rw [b4, ← hba]
          have hgbr : gb < wr.heap.size := Nat.lt_of_lt_of_le hgb HT.out.size
          have HBC : Hid (∀ i, i < o.bs.length → wr.cell? ⟨gb, i, none⟩ = some (.int .u8 (o.bs.getD i 0 : Nat))) := fun i hi => by
            rw [HT.out.cell (p := ⟨gb, i, none⟩) hgb]
            refine hbcell i _ ?_
            rw [List.getElem?_map, List.getElem?_eq_getElem hi, List.getD_eq_getElem?_getD, List.getElem?_eq_getElem hi]; rfl
          unfold maxLen at hbc2
          clear hbcell b4 hba
          go_wp2_with fail
          go_loopw [7, 8] (fun v k wk => ∃ (m : Nat), m ≤ 8 ∧ k = .int .i64 (7 - (m : Int)) ∧ v = .int .u64 (M.wordFrom o.bs q m : Nat) ∧ wk = wr) (fun _ k _ => (intOf k + 1).toNat)
          case atStart => exact ⟨0, by omega, rfl, rfl, rfl⟩
          case round =>
            obtain ⟨m, hm8, rfl, rfl, rfl⟩ := hrel
            by_cases hm : m < 8
            · obtain ⟨t, ht⟩ : ∃ t : Nat, 7 - (m : Int) = t := ⟨7 - m, by omega⟩
              have HT7 := Lib.hid ht
              have hv0 := wordFrom_lt o.bs HG.out.bl q m (by omega)
              have hv7 : 256 ^ m ≤ 256 ^ 7 := Nat.pow_le_pow_right (by decide) (by omega)
              have hvw : M.wordFrom o.bs q m < 72057594037927936 := Nat.lt_of_lt_of_le hv0 hv7
              have hcc := getD_lt HG.out.bl (q * 8 + (7 - m))
              obtain ⟨i, hi⟩ : ∃ i, Q + t = i := ⟨_, rfl⟩
              have hii : q * 8 + (7 - m) = i := by have := HQ.out; omega
              have hsum : (Q : Int) + (t : Int) = (i : Int) := by omega
              have hstep : M.wordFrom o.bs q (m + 1) = M.wordFrom o.bs q m * 256 + o.bs.getD i 0 := by rw [← hii]; rfl
              rw [hii] at hcc
              rw [ht]
              obtain ⟨v, hv⟩ : ∃ v, M.wordFrom o.bs q m = v := ⟨_, rfl⟩
              rw [hv] at hvw hstep ⊢
              obtain ⟨v2, hv2⟩ : ∃ v2, v * 256 = v2 := ⟨_, rfl⟩
              have hw1 : IntKind.u64.wrap ((v : Int) * 256) = (v2 : Int) := by rw [IntKind.wrap_u64]; omega
              have ht0 : t ≤ 7 := by omega
              have ht1 : (0 : Int) ≤ t := by omega
              have HST := Lib.hid hstep
              have HV2 := Lib.hid hv2
              have HII := Lib.hid hi
              clear ht hv0 hv7 hv hstep hii hi hm8
              by_cases hib : i < o.bs.length
              · have hcell := HBC.out i hib
                obtain ⟨cc, hc2⟩ : ∃ cc, o.bs.getD i 0 = cc := ⟨_, rfl⟩
                rw [hc2] at hcell hcc HST
                obtain ⟨v3, hv3⟩ : ∃ v3, v2 + cc = v3 := ⟨_, rfl⟩
                have hw2 : IntKind.u64.wrap (cc : Int) = (cc : Int) := by rw [IntKind.wrap_u64]; omega
                have hw3 : IntKind.u64.wrap ((v2 : Int) + (cc : Int)) = (v3 : Int) := by rw [IntKind.wrap_u64]; have := HV2.out; omega
                have HV3 := Lib.hid hv3
                clear hc2 hv2 hv3
                go_wp2_with fail
                refine ⟨⟨m + 1, by omega, by have := HT7.out; congr 1; omega, by rw [HST.out, HV2.out, HV3.out], trivial⟩, by simp [intOf]⟩
              · have hc0 : o.bs.getD i 0 = 0 := by rw [List.getD_eq_getElem?_getD, List.getElem?_eq_none (by omega)]; rfl
                rw [hc0, Nat.add_zero] at HST
                clear hc0 hcc
                go_wp2_with fail
                refine ⟨⟨m + 1, by omega, by have := HT7.out; congr 1; omega, by rw [HST.out, HV2.out]; rfl, trivial⟩, by simp [intOf]⟩
            · obtain rfl : m = 8 := by omega
              have hword : M.wordFrom o.bs q 8 = s.ws n := by
                have hat := HF.out; have h3 := HZ.out.2.2 q (by have := HQ.out; omega); have := HN2.out
                rw [wordFrom_8, ← h3, hat, ← this]
              have h78 : (7 : Int) - ((8 : Nat) : Int) = -1 := by decide
              rw [hword, h78]
              have hnn : n < 65536 := by have := HN2.out; have := HQ.out; omega
              have HNN := Lib.hid hnn
              clear hword h78 hm8 hm
              have HN1 := Lib.hid (one_new wr 33 (.int .u64 (s.ws n)) wr.heap.size rfl)
              go_wp2_with (first
                | (at_builtin; refine wpList_append_form rfl (.tmp 60) (.tmp 62) 24 rfl w.heap.size 33 1 8 (.int .u64 0) Try.underlying24 infoU rfl (by decide) a n c _ rfl (own_keep HOW.out ((Still.refl wr).alloc (.cells #[.int .u64 (s.ws n)] 33)) (fun _ _ e => e)) ⟨wr.heap.size, 0, none⟩ 1 1 [.int .u64 (s.ws n)] rfl rfl HN1.out (by simp [Value.oneCell']) (by decide) (by unfold maxLen; omega) (by omega) (by have := HT.out.size; simp; omega) ?_
                   intro g9 c9 w9 hown9 ht9 hnew9))
              go_roundw
              case rel =>
                have howA := own_keep HOW.out ((Still.refl wr).alloc (.cells #[.int .u64 (s.ws n)] 33)) (fun _ _ e => e)
                refine ⟨q + 1, Q + 8, n + 1, c9, some ⟨g9, 0, none⟩, by go_num, rfl, by have := HQ.out; omega, by have := HQ.out; omega, by have := HN2.out; omega, (HT.out.trans ((Still.refl wr).alloc _)).own_turn ht9.out howA, (HBK.out.alloc _).other ht9.out howA (by decide), ?_⟩
                rw [u64s_succ]; exact hown9.out
              case measure => simp [intOf]; omega
        · have hend : n = o.at_ + s.sz o := by have := HN2.out; have := HF.out; have := HSZ.out; have := HQ.out; omega
          have HEND := Lib.hid hend
          clear hend
          go_wp2_with fail
          go_roundw
          case rel => exact ⟨j + 1, o.at_ + s.sz o, a, n, c, by go_num, rfl, by omega, HEND.out, HT2.out, HT.out, by rw [← HEND.out]; exact HOW.out⟩
          case measure => simp [intOf]; omega
    · obtain rfl : j = x.L.length := by omega
      have hend : n = s.top := by have := htile; rw [List.drop_length] at this; exact this
      subst hend
      clear htile hptop ht hown c2
      go_wp2_with fail
      go_loopw [3] (fun l wq => ∃ (n c : Nat) (a : Option Addr), l = .slice a n c ∧ s.top ≤ n ∧ n ≤ s.n ∧ Still w wq ∧ wq.ownsRow w.heap.size 33 1 (.slice a n c) n (M.u64s s.ws n)) (fun l _ => s.n - lenV l)
      case atStart => exact ⟨s.top, c, a, rfl, by omega, by omega, HW.out, HO.out⟩
      case round =>
        obtain ⟨n, c, a, rfl, hn1, hn2, ht, hown⟩ := hrel
        have c0' : wr.cell? ⟨x.gx, 0, none⟩ = some (.int .i64 s.n) := by rw [ht.cell hgx]; exact c0
        have hgxr : x.gx < wr.heap.size := Nat.lt_of_lt_of_le hgx ht.size
        have HT := Lib.hid ht
        have HOW := Lib.hid hown
        clear ht hown
        by_cases hlt : n < s.n
        · have HN1 := Lib.hid (one_new wr 33 (.int .u64 0) wr.heap.size rfl)
          go_wp2_with (first
            | (at_builtin; refine wpList_append_form rfl (.tmp 72) (.tmp 73) 24 rfl w.heap.size 33 1 8 (.int .u64 0) Try.underlying24 infoU rfl (by decide) a n c _ rfl (own_keep HOW.out ((Still.refl wr).alloc (.cells #[.int .u64 0] 33)) (fun _ _ e => e)) ⟨wr.heap.size, 0, none⟩ 1 1 [.int .u64 0] rfl rfl HN1.out (by simp [Value.oneCell']) (by decide) (by unfold maxLen; omega) (by omega) (by have := HT.out.size; simp; omega) ?_
               intro g9 c9 w9 hown9 ht9 hnew9))
          go_roundw
          case rel =>
            have howA := own_keep HOW.out ((Still.refl wr).alloc (.cells #[.int .u64 0] 33)) (fun _ _ e => e)
            refine ⟨n + 1, c9, some ⟨g9, 0, none⟩, rfl, by omega, by omega, (HT.out.trans ((Still.refl wr).alloc _)).own_turn ht9.out howA, ?_⟩
            rw [u64s_succ, HH.out.sim.zero n hn1]; exact hown9.out
          case measure => simp [lenV]; omega
        · obtain rfl : n = s.n := by omega
          go_wp2_with fail
          go_ret
          exact ⟨⟨a, c, rfl, HOW.out⟩, HT.out⟩
end Go.Proofs.Ythfkgkddklnnhaa
