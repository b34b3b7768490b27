/- Lemmas, put together: Both Text Tells Objects Heads WordFrom Append2. -/
import Derived.Test.YthfkgkddklnnhaaK07
import Derived.Test.YthfkgkddklnnhaaK05
import Derived.Laws.BytesArg
import Derived.Test.YthfkgkddklnnhaaK06
/- Both views of a heap in memory, and the calls done on both. -/
namespace Go.Proofs.Ythfkgkddklnnhaa
set_option linter.unusedVariables false
open Go.ChangeShapes Go.WideShapes Go.ChangeAt Go.RowKit
open M (W)

/-- In w stand the heap s and the document's heap x, which say the same; both were made since w0. -/
structure Both (w0 w : World) (s : St) (x : Rf) : Prop where
  hp : HpIs w s
  rf : RfIs w0.heap.size w x
  bg : w0.heap.size ≤ s.g
  bgw : w0.heap.size ≤ s.gw
  n : x.n = s.n
  len : x.len = s.m
  K : x.K = s.lk
  N : x.N = s.ln
  sep : ∀ o ∈ x.L, o.fv.ownBlock ≠ some s.gw
  sim : Sim s x.L
  below : Below w0.heap.size w0 w
  fit : ∀ o ∈ x.L, ∀ v ∈ o.fs, s.fits v = true
/-- What a call leaves. -/
def After (w0 w : World) (s : St) (x : Rf) : Prop := ∃ s' x', Both w0 w s' x' ∧ s'.g = s.g ∧ x'.gx = x.gx ∧ s'.n = s.n ∧ x'.L.length ≤ x.L.length + 1 ∧ x.L.length ≤ x'.L.length ∧ s'.m = s.m ∧ s'.lk = s.lk ∧ s'.ln = s.ln
theorem Both.after {w0 w : World} {s : St} {x : Rf} (h : Both w0 w s x) : After w0 w s x := ⟨s, x, h, rfl, rfl, rfl, by omega, by omega, rfl, rfl, rfl⟩
theorem Both.still {w0 w w' : World} {s : St} {x : Rf} (h : Both w0 w s x) (t : Still w w') : Both w0 w' s x :=
  { h with hp := h.hp.still t, rf := h.rf.still t, below := h.below.trans ((Still.below t).mono h.below.size) }
theorem Both.fits {w0 w : World} {s : St} {x : Rf} (h : Both w0 w s x) (v : Int) : x.fits v = s.fits v := by
  unfold Rf.fits St.fits M.fits
  rw [h.sim.has]; rfl
theorem Both.kd {w0 w : World} {s : St} {x : Rf} (h : Both w0 w s x) (i : Int) : M.kd x.len x.K i = s.kind i ∧ M.kd x.len x.N i = s.len i := by
  rw [h.len, h.K, h.N]; exact ⟨rfl, rfl⟩
theorem Both.valid {w0 w : World} {s : St} {x : Rf} (h : Both w0 w s x) : ∀ j, j < x.len → x.K j = 1 ∨ x.K j = 2 ∨ x.K j = 3 := by
  rw [h.len, h.K]; exact h.hp.kinds
theorem Both.sum {w0 w : World} {s : St} {x : Rf} (h : Both w0 w s x) : x.sum x.L = s.top := by
  have := Tile.sum (s := s) (x := x) (fun o ho => by
    have hg := (h.sim.good o ho).sz.2.1
    unfold Rf.need
    rw [(h.kd o.sh).1, (h.kd o.sh).2]
    exact hg) x.L 0 (fun o ho => ho) h.sim.tile
  simpa using this
/-- The words' block is none of the list's. -/
theorem Both.rf_gw {w0 w w1 : World} {s : St} {x : Rf} (h : Both w0 w s x) (t : Turn (fun k => k = s.g ∨ k = s.gw) w w1) : RfIs w0.heap.size w1 x := by
  refine h.rf.keep t ?_ ?_ ?_ ?_
  · rintro k (rfl | rfl)
    · exact h.bg
    · exact h.bgw
  · rintro (e | e)
    · exact HpIs.rowIs_ne h.rf.blk h.hp.blk (by decide) e
    · exact HpIs.rowIs_ne h.rf.blk h.hp.words (by decide) e
  · rintro k hk (e | e)
    · exact own_type h.rf.row h.hp.blk (by decide) (by rw [hk, e])
    · exact own_type h.rf.row h.hp.words (by decide) (by rw [hk, e])
  · rintro o ho k (hk | hk) (e | e)
    · exact own_type (h.rf.rows o ho).1 h.hp.blk (by decide) (by rw [hk, e])
    · exact h.sep o ho (by rw [hk, e])
    · exact own_type (h.rf.rows o ho).2 h.hp.blk (by decide) (by rw [hk, e])
    · exact own_type (h.rf.rows o ho).2 h.hp.words (by decide) (by rw [hk, e])

theorem both_set {w0 w : World} {s : St} {x : Rf} (h : Both w0 w s x) (a i : Int) (v : Nat) (hv : v < 18446744073709551616) :
    ∃ r : Int, Calls Try.prog 28 #[s.ptr, .int .i64 a, .int .i64 i, .int .u64 v] w fun e w1 => e = .returned (.int .i64 r) ∧ Turn (fun k => k = s.g ∨ k = s.gw) w w1 ∧
      Calls Try.prog 56 #[x.ptr, .int .i64 a, .int .i64 i, .int .u64 v] w1 fun e w2 => e = .returned (.int .i64 r) ∧ After w0 w2 s x := by
  cases hh : x.has a with
  | false =>
    refine ⟨1, (set_no _ _ _ _ _ (field_no _ _ _ _ (.out h.hp (by rw [← h.sim.has, hh])))).mono fun e w1 ⟨he, t1⟩ => ⟨he, Still.turn t1, ?_⟩⟩
    exact (refSet_no x a i v w1 (h.rf.still t1) (find_no x a w1 (h.rf.still t1) (Rf.has_no hh))).mono fun e w2 ⟨he, t2⟩ => ⟨he, (h.still (t1.trans t2)).after⟩
  | true =>
    obtain ⟨k, o, hk, rfl, hun⟩ := Rf.has_yes hh
    have hm := List.mem_of_getElem? hk
    have hob := h.sim.obAt h.hp hm
    have hg := h.sim.good o hm
    have FA := fun W (hW : RfIs w0.heap.size W x) => find_at x k o o.at_ W hW hk rfl hun
    by_cases hk3 : s.kind o.sh = 3
    · have hfs : o.fs.length = 0 := by rw [(hg.b hk3).1]; rfl
      refine ⟨1, (set_no _ _ _ _ _ (field_none s o.at_ _ i w h.hp hob (.inl hk3))).mono fun e w1 ⟨he, t1⟩ => ⟨he, Still.turn t1, ?_⟩⟩
      exact (refSet_out x _ i v k o w1 (h.rf.still t1) hk (FA w1 (h.rf.still t1)) (by omega)).mono fun e w2 ⟨he, t2⟩ => ⟨he, (h.still (t1.trans t2)).after⟩
    · obtain ⟨f1, f2, f3⟩ := hg.f hk3
      by_cases hi : i < 0 ∨ (o.n : Int) ≤ i
      · refine ⟨1, (set_no _ _ _ _ _ (field_none s o.at_ _ i w h.hp hob (.inr hi))).mono fun e w1 ⟨he, t1⟩ => ⟨he, Still.turn t1, ?_⟩⟩
        exact (refSet_out x _ i v k o w1 (h.rf.still t1) hk (FA w1 (h.rf.still t1)) (by omega)).mono fun e w2 ⟨he, t2⟩ => ⟨he, (h.still (t1.trans t2)).after⟩
      · obtain ⟨j, rfl⟩ := Int.eq_ofNat_of_zero_le (show 0 ≤ i by omega)
        have hj : j < o.fs.length := by omega
        cases hf : s.fits v with
        | false =>
          refine ⟨1, (set_unfit s o.at_ _ j v w h.hp hob hk3 (by show (j : Int) < (o.n : Int); omega) (by omega) (by omega) hf).mono fun e w1 ⟨he, t1⟩ => ⟨he, Still.turn t1, ?_⟩⟩
          exact (refSet_unfit x _ v j k o w1 (h.rf.still t1) hk (FA w1 (h.rf.still t1)) hj (by omega) (by omega) (by rw [h.fits, hf])).mono fun e w2 ⟨he, t2⟩ => ⟨he, (h.still (t1.trans t2)).after⟩
        | true =>
          refine ⟨0, (set_ok s o.at_ _ j v w h.hp hob hk3 (by show (j : Int) < (o.n : Int); omega) (by omega) (by omega) hf).mono fun e w1 ⟨he, h1, t1⟩ => ⟨he, t1.mono fun k _ e => .inr e, ?_⟩⟩
          have hr1 := h.rf_gw (t1.mono fun k _ e => .inr e)
          refine (refSet_ok x _ v j k o w1 hr1 hk (FA w1 hr1) hj hv (by rw [h.fits, hf])).mono fun e w2 ⟨he, h2, t2⟩ => ⟨he, s.put (o.at_ + 1 + j) v, x.upd k { o with fs := o.fs.set j v }, ?_, rfl, rfl, rfl, by unfold Rf.upd; simp, by unfold Rf.upd; simp, rfl, rfl, rfl⟩
          have hro := (hr1.rows o hm).1
          refine ⟨?_, h2, h.bg, h.bgw, h.n, h.len, h.K, h.N, ?_, ?_, ?_, ?_⟩
          · have h1' : HpIs w1 (s.put (o.at_ + 1 + j) v) := by simpa using h1
            exact h1'.keep t2 (fun e => own_type hro h1'.blk (by decide) e) (fun e => h.sep o hm e) (fun e => own_type hro h1'.lays (by decide) e)
          · intro p hp
            rcases mem_set hp with rfl | ⟨j', _, hj'⟩
            · intro e
              refine h.sep o hm (Eq.trans ?_ e)
              show Value.ownBlock (.slice o.fa _ _) = Value.ownBlock (.slice o.fa _ _)
              cases o.fa <;> rfl
            · exact h.sep p (List.mem_of_getElem? hj')
          · exact h.sim.setF hk hj hv
          · refine (t1.own h.below (Nat.le_refl _) (by rintro k rfl; exact h.bgw)) |> fun b1 => t2.own b1 (Nat.le_refl _) fun b hb => (hro.lt b hb).1
          · intro p hp u hu
            rcases mem_set hp with rfl | ⟨j', _, hj'⟩
            · rcases List.mem_or_eq_of_mem_set hu with h1 | h1
              · exact h.fit o hm u h1
              · rw [h1]; exact hf
            · exact h.fit p (List.mem_of_getElem? hj') u hu
theorem both_setByte {w0 w : World} {s : St} {x : Rf} (h : Both w0 w s x) (a i : Int) (c : Nat) (hc : c < 256) :
    ∃ r : Int, Calls Try.prog 57 #[s.ptr, .int .i64 a, .int .i64 i, .int .u8 c] w fun e w1 => e = .returned (.int .i64 r) ∧ Turn (fun k => k = s.g ∨ k = s.gw) w w1 ∧
      Calls Try.prog 58 #[x.ptr, .int .i64 a, .int .i64 i, .int .u8 c] w1 fun e w2 => e = .returned (.int .i64 r) ∧ After w0 w2 s x := by
  cases hh : x.has a with
  | false =>
    refine ⟨1, (setByte_no _ _ _ _ _ (octet_no _ _ _ _ (.out h.hp (by rw [← h.sim.has, hh])))).mono fun e w1 ⟨he, t1⟩ => ⟨he, Still.turn t1, ?_⟩⟩
    exact (refSetByte_no x a i c w1 (h.rf.still t1) (find_no x a w1 (h.rf.still t1) (Rf.has_no hh))).mono fun e w2 ⟨he, t2⟩ => ⟨he, (h.still (t1.trans t2)).after⟩
  | true =>
    obtain ⟨k, o, hk, rfl, hun⟩ := Rf.has_yes hh
    have hm := List.mem_of_getElem? hk
    have hob := h.sim.obAt h.hp hm
    have hg := h.sim.good o hm
    have FA := fun W (hW : RfIs w0.heap.size W x) => find_at x k o o.at_ W hW hk rfl hun
    by_cases hk3 : s.kind o.sh = 3
    · obtain ⟨f1, f2, f3⟩ := hg.b hk3
      by_cases hi : i < 0 ∨ (o.n : Int) ≤ i
      · refine ⟨1, (setByte_no _ _ _ _ _ (octet_none s o.at_ _ i w h.hp hob (.inr hi))).mono fun e w1 ⟨he, t1⟩ => ⟨he, Still.turn t1, ?_⟩⟩
        exact (refSetByte_out x _ i c k o w1 (h.rf.still t1) hk (FA w1 (h.rf.still t1)) (by omega)).mono fun e w2 ⟨he, t2⟩ => ⟨he, (h.still (t1.trans t2)).after⟩
      · obtain ⟨j, rfl⟩ := Int.eq_ofNat_of_zero_le (show 0 ≤ i by omega)
        have hj : j < o.bs.length := by omega
        refine ⟨0, (setByte_ok s o.at_ _ j c w h.hp hob hk3 (by show (j : Int) < (o.n : Int); omega) hc).mono fun e w1 ⟨he, h1, t1⟩ => ⟨he, t1.mono fun k _ e => .inr e, ?_⟩⟩
        have hr1 := h.rf_gw (t1.mono fun k _ e => .inr e)
        refine (refSetByte_ok x _ c j k o w1 hr1 hk (FA w1 hr1) hj).mono fun e w2 ⟨he, h2, t2⟩ => ⟨he, s.put (o.at_ + 1 + j / 8) (M.setByteOf (s.ws (o.at_ + 1 + j / 8)) (j % 8) c), x.upd k { o with bs := o.bs.set j c }, ⟨?_, h2, h.bg, h.bgw, h.n, h.len, h.K, h.N, ?_, h.sim.setB hk hj hc, ?_, ?_⟩, rfl, rfl, rfl, by unfold Rf.upd; simp, by unfold Rf.upd; simp, rfl, rfl, rfl⟩
        · have hro := (hr1.rows o hm).2
          exact h1.keep t2 (fun e => own_type hro h1.blk (by decide) e) (fun e => own_type hro h1.words (by decide) e) (fun e => own_type hro h1.lays (by decide) e)
        · intro p hp
          rcases mem_set hp with rfl | ⟨j', _, hj'⟩
          · exact h.sep o hm
          · exact h.sep p (List.mem_of_getElem? hj')
        · refine (t1.own h.below (Nat.le_refl _) (by rintro k rfl; exact h.bgw)) |> fun b1 => t2.own b1 (Nat.le_refl _) fun b hb => ((hr1.rows o hm).2.lt b hb).1
        · intro p hp u hu
          rcases mem_set hp with rfl | ⟨j', _, hj'⟩
          · exact h.fit o hm u hu
          · exact h.fit p (List.mem_of_getElem? hj') u hu
    · obtain ⟨f1, f2, f3⟩ := hg.f hk3
      have hbs : o.bs.length = 0 := by rw [f1]; rfl
      refine ⟨1, (setByte_no _ _ _ _ _ (octet_none s o.at_ _ i w h.hp hob (.inl hk3))).mono fun e w1 ⟨he, t1⟩ => ⟨he, Still.turn t1, ?_⟩⟩
      exact (refSetByte_out x _ i c k o w1 (h.rf.still t1) hk (FA w1 (h.rf.still t1)) (by omega)).mono fun e w2 ⟨he, t2⟩ => ⟨he, (h.still (t1.trans t2)).after⟩

theorem wordOf_zero (n j : Nat) : M.wordOf (List.replicate n 0) j = 0 := by
  have h : ∀ i, (List.replicate n 0).getD i 0 = 0 := fun i => by
    rw [List.getD_eq_getElem?_getD, List.getElem?_replicate]; split <;> rfl
  unfold M.wordOf
  simp only [h]
theorem good_new {s : St} {o : RO} {D : Nat} (he : s.needE o.sh o.n = 0) (ha : o.at_ = s.top) (hD : D = s.sz o) (h3 : s.kind o.sh = 3 → o.fs = [] ∧ o.bs = List.replicate o.n 0) (h1 : s.kind o.sh ≠ 3 → o.bs = [] ∧ o.fs = List.replicate o.n 1) : Good (s.more D (M.hd o.sh o.n 0 0).toNat (s.zero o.sh)) o := by
  -- the sizes, by a heap in which the object stands alone
  have hsz : s.sz o = (if s.kind o.sh = 3 then 1 + (o.n + 7) / 8 else 1 + o.n) := by
    unfold St.sz St.need
    have he' := he
    unfold St.needE at he'
    generalize s.kind o.sh = K at *
    generalize s.len o.sh = N at *
    unfold M.needE at he'
    unfold M.need
    by_cases c1 : K = 0 ∨ (o.n : Int) < 0 ∨ (K = 1 ∧ (o.n : Int) ≠ N)
    · rw [if_pos c1] at he'; omega
    · rw [if_neg c1] at he' ⊢
      by_cases c2 : 65536 < (o.n : Int)
      · rw [if_pos c2] at he'; omega
      · rw [if_neg c2]; split <;> omega
  subst hD
  refine ⟨he, ?_, fun hk => ?_, fun hk => ?_, ?_, ?_⟩
  · show (if o.at_ = s.top then _ else _) = _
    rw [if_pos ha]
  · have hk' : s.kind o.sh ≠ 3 := hk
    obtain ⟨b1, b2⟩ := h1 hk'
    rw [if_neg hk'] at hsz
    refine ⟨b1, by rw [b2]; simp, fun i hi => ?_⟩
    show (if o.at_ + 1 + i = s.top then _ else if s.top < o.at_ + 1 + i ∧ o.at_ + 1 + i < s.top + s.sz o then s.zero o.sh else _) = _
    rw [if_neg (by omega), if_pos (by omega), b2, List.getD_eq_getElem?_getD, List.getElem?_replicate, if_pos hi]
    unfold St.zero
    rw [if_neg hk']; rfl
  · have hk' : s.kind o.sh = 3 := hk
    obtain ⟨b1, b2⟩ := h3 hk'
    rw [if_pos hk'] at hsz
    refine ⟨b1, by rw [b2]; simp, fun j hj => ?_⟩
    show (if o.at_ + 1 + j = s.top then _ else if s.top < o.at_ + 1 + j ∧ o.at_ + 1 + j < s.top + s.sz o then s.zero o.sh else _) = _
    rw [if_neg (by omega), if_pos (by omega), b2, wordOf_zero]
    unfold St.zero
    rw [if_pos hk']
  · intro v hv
    rcases Decidable.em (s.kind o.sh = 3) with e | e
    · rw [(h3 e).1] at hv; simp at hv
    · rw [(h1 e).2] at hv; rw [List.eq_of_mem_replicate hv]; decide
  · intro v hv
    rcases Decidable.em (s.kind o.sh = 3) with e | e
    · rw [(h3 e).2] at hv; rw [List.eq_of_mem_replicate hv]; decide
    · rw [(h1 e).1] at hv; simp at hv
theorem both_new {w0 w w1 w2 : World} {s : St} {x : Rf} (h : Both w0 w s x) (k n D : Nat) (fs bs : List Nat) (he : s.needE k n = 0) (hD : s.need k n = D) (hf : (D : Int) ≤ s.n - s.top) (h1 : HpIs w1 (s.more D (M.hd k n 0 0).toNat (s.zero k))) (t1 : Turn (fun k => k = s.g ∨ k = s.gw) w w1)
    (hm : RMade w0.heap.size x k n fs bs w1 w2) (hr1 : RfIs w0.heap.size w1 x) (h3 : s.kind k = 3 → fs = [] ∧ bs = List.replicate n 0) (h4 : s.kind k ≠ 3 → bs = [] ∧ fs = List.replicate n 1) (hD1 : 1 ≤ D) : After w0 w2 s x := by
  obtain ⟨lv, o, r, oa, rfl, rfl, rfl, rfl, t2, hnew⟩ := hm
  rw [h.sum] at oa
  have oa' : o.at_ = s.top := by omega
  have hDs : D = s.sz o := by unfold St.sz; rw [hD]; rfl
  have hn := h.hp.n_le
  refine ⟨s.more D (M.hd o.sh o.n 0 0).toNat (s.zero o.sh), x.more lv o, ⟨?_, r, h.bg, h.bgw, h.n, h.len, h.K, h.N, ?_, ?_, ?_, ?_⟩, rfl, rfl, rfl, by unfold Rf.more; simp, by unfold Rf.more; simp, rfl, rfl, rfl⟩
  · refine h1.keep t2 ?_ ?_ ?_
    · rintro (e | e)
      · exact HpIs.rowIs_ne h1.blk hr1.blk (by decide) e
      · exact own_type hr1.row h1.blk (by decide) e
    · rintro (e | e)
      · exact HpIs.rowIs_ne h1.words hr1.blk (by decide) e
      · exact own_type hr1.row h1.words (by decide) e
    · rintro (e | e)
      · exact HpIs.rowIs_ne h1.lays hr1.blk (by decide) e
      · exact own_type hr1.row h1.lays (by decide) e
  · intro p hp
    unfold Rf.more at hp
    rcases List.mem_append.1 hp with hp | hp
    · exact h.sep p hp
    · obtain rfl : p = o := by simpa using hp
      intro e
      have := hnew _ (.inl e)
      have := h1.words.lt
      have e2 : (s.more D (M.hd p.sh p.n 0 0).toNat (s.zero p.sh)).gw = s.gw := rfl
      omega
  · exact h.sim.more oa' hDs (good_new he oa' hDs h3 h4) (by omega)
  · have b1 := t1.own h.below (Nat.le_refl _) (by
      rintro k (rfl | rfl)
      · exact h.bg
      · exact h.bgw)
    refine t2.own b1 (Nat.le_refl _) ?_
    rintro b (rfl | hb)
    · exact h.rf.base
    · exact (h.rf.row.lt b hb).1
  · have grow : ∀ v : Int, s.fits v = true → (s.more D (M.hd o.sh o.n 0 0).toNat (s.zero o.sh)).fits v = true := fun v hv => by
      unfold St.fits M.fits at hv ⊢
      rw [Bool.or_eq_true] at hv ⊢
      rcases hv with hv | hv
      · exact .inl hv
      · right
        show M.inSet (M.putIn s.hx s.top) (v / 2) = true
        rw [M.putIn_in _ _ (by omega), hv, Bool.or_true]
    intro p hp u hu
    unfold Rf.more at hp
    rcases List.mem_append.1 hp with hp | hp
    · exact grow _ (h.fit p hp u hu)
    · obtain rfl : p = o := by simpa using hp
      rcases Decidable.em (s.kind p.sh = 3) with e | e
      · rw [(h3 e).1] at hu; simp at hu
      · rw [(h4 e).2] at hu
        rw [List.eq_of_mem_replicate hu]
        unfold St.fits M.fits; rfl
theorem both_alloc {w0 w : World} {s : St} {x : Rf} (h : Both w0 w s x) (sh n : Int) (hfew : x.L.length < 1000) :
    ∃ a r : Int, Calls Try.prog 27 #[s.ptr, .int .i64 sh, .int .i64 n] w fun e w1 => e = .returned (.tuple #[.int .i64 a, .int .i64 r]) ∧ Turn (fun k => k = s.g ∨ k = s.gw) w w1 ∧
      Calls Try.prog 55 #[x.ptr, .int .i64 sh, .int .i64 n] w1 fun e w2 => e = .returned (.tuple #[.int .i64 a, .int .i64 r]) ∧ After w0 w2 s x := by
  have hE : M.needE (M.kd x.len x.K sh) (M.kd x.len x.N sh) n = s.needE sh n := by rw [(h.kd sh).1, (h.kd sh).2]; rfl
  have hN : M.need (M.kd x.len x.K sh) (M.kd x.len x.N sh) n = s.need sh n := by rw [(h.kd sh).1, (h.kd sh).2]; rfl
  have hn := h.hp.n_le
  by_cases he : s.needE sh n = 0
  · by_cases hf : (s.n : Int) - s.top < s.need sh n
    · refine ⟨0, 3, (alloc_full s sh n w h.hp he hf).mono fun e w1 ⟨h1, t1⟩ => ⟨h1, Still.turn t1, ?_⟩⟩
      exact (refAlloc_full x sh n w1 (h.rf.still t1) h.valid (by rw [hE, he]) (by rw [h.n]; omega) (by rw [h.sum, hN, h.n]; exact hf)).mono fun e w2 ⟨h2, t2⟩ => ⟨h2, (h.still (t1.trans t2)).after⟩
    · -- it fits: the shape and n are numbers
      have hpos : 0 ≤ sh ∧ sh < s.m ∧ 0 ≤ n ∧ n ≤ 65536 ∧ 1 ≤ s.need sh n := by
        have he' := he
        unfold St.needE at he'
        unfold St.need
        have hsm : s.kind sh ≠ 0 → 0 ≤ sh ∧ sh < s.m := by
          intro hk
          unfold St.kind at hk
          by_cases hc : 0 ≤ sh ∧ sh < s.m
          · exact hc
          · rw [if_neg hc] at hk; exact absurd rfl hk
        generalize s.kind sh = K at *
        generalize s.len sh = N at *
        unfold M.needE at he'
        unfold M.need
        by_cases c1 : K = 0 ∨ n < 0 ∨ (K = 1 ∧ n ≠ N)
        · rw [if_pos c1] at he'; omega
        · rw [if_neg c1] at he' ⊢
          by_cases c2 : 65536 < n
          · rw [if_pos c2] at he'; omega
          · rw [if_neg c2]
            have := hsm (by omega)
            refine ⟨this.1, this.2, by omega, by omega, ?_⟩
            split <;> omega
      obtain ⟨p1, p2, p3, p4, p5⟩ := hpos
      obtain ⟨k, rfl⟩ := Int.eq_ofNat_of_zero_le p1
      obtain ⟨m, rfl⟩ := Int.eq_ofNat_of_zero_le p3
      obtain ⟨D, hD⟩ := Int.eq_ofNat_of_zero_le (show 0 ≤ s.need k m by omega)
      refine ⟨s.top, 0, (alloc_ok s k m D w h.hp he hD (by omega) (by omega)).mono fun e w1 ⟨h1, hh1, t1⟩ => ⟨h1, t1, ?_⟩⟩
      have hr1 := h.rf_gw t1
      have hkl : k < x.len := by rw [h.len]; omega
      have hkd : s.kind k = x.K k := by rw [← (h.kd k).1]; unfold M.kd; rw [if_pos (by omega)]; simp
      have e1 : M.needE (M.kd x.len x.K (k : Int)) (M.kd x.len x.N (k : Int)) (m : Int) = 0 := by rw [hE, he]
      have e2 : M.need (M.kd x.len x.K (k : Int)) (M.kd x.len x.N (k : Int)) (m : Int) = D := by rw [hN, hD]
      have e3 : (D : Int) ≤ x.n - x.sum x.L := by rw [h.n, h.sum]; omega
      by_cases hk3 : x.K k = 3
      · refine (refAlloc_b x k m D w1 hr1 h.valid hkl hk3 (by omega) e1 e2 (by rw [h.n]; omega) e3 hfew).mono fun e w2 ⟨h2, hm⟩ => ⟨by rw [h2, h.sum], ?_⟩
        exact both_new h k m D _ _ he hD (by omega) hh1 t1 hm hr1 (fun _ => ⟨rfl, rfl⟩) (fun e => absurd (hkd.trans hk3) e) (by omega)
      · refine (refAlloc_f x k m D w1 hr1 h.valid hkl hk3 (by omega) e1 e2 (by rw [h.n]; omega) e3 hfew).mono fun e w2 ⟨h2, hm⟩ => ⟨by rw [h2, h.sum], ?_⟩
        exact both_new h k m D _ _ he hD (by omega) hh1 t1 hm hr1 (fun e => absurd (hkd.symm.trans e) hk3) (fun _ => ⟨rfl, rfl⟩) (by omega)
  · refine ⟨0, s.needE sh n, (alloc_err s sh n w h.hp he).mono fun e w1 ⟨h1, t1⟩ => ⟨h1, Still.turn t1, ?_⟩⟩
    have := refAlloc_err x sh n w1 (h.rf.still t1) h.valid (by rw [hE]; exact he)
    rw [hE] at this
    exact this.mono fun e w2 ⟨h2, t2⟩ => ⟨h2, (h.still (t1.trans t2)).after⟩
end Go.Proofs.Ythfkgkddklnnhaa
/- The contract of layer 2's Text where bytes stand. -/
namespace Go.Proofs.Ythfkgkddklnnhaa
set_option linter.unusedVariables false
open Go.ChangeShapes Go.WideShapes Go.ChangeAt Go.RowKit
open M (W)

theorem makeB (n : Nat) (h : n ≤ 65536) : ∀ W, (Instr.makeSlice 71 (.int .i64 (n : Int)) (.int .i64 (n : Int))).run Try.prog W = .ok (.slice (some ⟨W.heap.size, 0, none⟩) n n) (W.alloc (.cells (madeCells #[.int .u8 0] n) 5)) :=
  fun W => run_make_row' _ _ _ 1 Try.underlying71 infoB rfl .i64 .i64 n (by omega) (by omega) W
/-- A row of bytes of the call's own, as a string. -/
theorem own_string {w : World} {base : Nat} {v : Value} {n : Nat} {xs : List Int} (h : w.ownsRow base 5 1 v n (xs.map (Value.int .u8))) :
    (convert 71 9 v).run Try.prog w = .ok (.string (strOfNums xs)) w := by
  obtain ⟨hl, h⟩ := h
  rcases h with ⟨rfl, rfl⟩ | ⟨g, cap, cur, rfl, hb, hg, h1, h2, h3, h4⟩
  · have : xs = [] := by simpa using hl
    subst this
    exact run_convert_bytes_nil w 71 5 Try.underlying71 Try.underlying5 0 0 9 Try.underlying9
  · refine run_convert_bytes_arg w 71 5 Try.underlying71 Try.underlying5 g 0 n cap xs (by simpa using hl) ?_ 9 Try.underlying9
    intro i hi
    have hn : xs.length = n := by simpa using hl
    have hx : (cur.toList.take (n * 1))[i]? = some (.int .u8 (xs.getD i 0)) := by
      rw [h4]; simp [List.getD, List.getElem?_eq_getElem (show i < xs.length by omega)]
    rw [List.getElem?_take_of_lt (by omega)] at hx
    rw [Array.getElem?_toList] at hx
    simp only [World.cell?, hg, Nat.zero_add]
    simpa using hx
/-- The bytes of an object, out of the heap's words. -/
def St.bytes (s : St) (k n : Nat) : List Nat := (List.range n).map fun i => M.byteOf (s.ws (k + 1 + i / 8)) (i % 8)
def M.str (l : List Nat) : ByteArray := strOfNums (l.map fun v : Nat => (v : Int))
theorem own_str {w : World} {B : Nat} {v : Value} {n : Nat} {l : List Nat} (h : w.ownsRow B 5 1 v n (l.map fun v : Nat => Value.int .u8 (v : Int))) : (convert 71 9 v).run Try.prog w = .ok (.string (M.str l)) w := by
  have h' : w.ownsRow B 5 1 v n ((l.map fun v : Nat => (v : Int)).map (Value.int .u8)) := by
    rw [List.map_map]; exact h
  exact own_string h'
theorem row_own {w : World} {g n B : Nat} {l : List Nat} (h : w.rowIs g 5 n (fun i => .int .u8 (l.getD i 0 : Nat))) (hl : l.length = n) (hB : B ≤ g) (hn : n ≤ maxLen) : w.ownsRow B 5 1 (.slice (some ⟨g, 0, none⟩) n n) n (l.map fun v : Nat => Value.int .u8 (v : Int)) := by
  obtain ⟨c, hb, hs, hc⟩ := h
  refine ⟨by simp [hl], .inr ⟨g, n, c, rfl, hB, hb, Nat.le_refl _, hn, by rw [hs]; omega, ?_⟩⟩
  apply List.ext_getElem?
  intro i
  rw [List.getElem?_take, List.getElem?_map]
  by_cases hi : i < n
  · rw [if_pos (by omega)]
    have := hc i hi
    rw [Array.getElem?_toList, this]
    show some (Value.int .u8 ((l.getD i 0 : Nat) : Int)) = _
    rw [List.getD_eq_getElem?_getD]
    have hil : i < l.length := by omega
    simp [List.getElem?_eq_getElem hil]
  · rw [if_neg (by omega)]
    simp [List.getElem?_eq_none (show l.length ≤ i by omega)]
set_option maxRecDepth 100000 in
set_option maxHeartbeats 4000000 in
theorem text_ok (s : St) (k : Nat) (o : Ob) (n : Nat) (w : World) (h : HpIs w s) (ho : ObAt s k o) (hk : o.kind = 3) (hn : o.n = n) :
    Calls Try.prog 52 #[s.ptr, .int .i64 k] w fun e w' => e = .returned (.tuple #[.string (M.str (s.bytes k n)), .int .i64 0]) ∧ Still w w' := by
  have HO := object_at h ho
  obtain ⟨ha, hb, hc⟩ := ho.need_eq
  have hin := fun (i : Nat) (hi : i < n) => ho.in_b hk (i := i) (by omega) h.n_le
  have hnn := h.n_le
  unfold Ob.val at HO
  obtain ⟨osh, okind, on, oneed⟩ := o
  simp only at *
  subst hk hn
  have hn2 : n ≤ 65536 := by omega
  have HH := Lib.hid h
  have HIN := Lib.hid hin
  have hmk := makeB n hn2
  clear h ho hb hc hin ha
  go_enter Try.func52, Try.ntmps52
  go_wp2_with fail
  refine HO.mono ?_; rintro e w1 ⟨rfl, ht⟩
  have HT := Lib.hid ht; clear ht
  go_wp2_with fail
  clear hmk
  go_loopw [28] (fun v wr => ∃ j : Nat, v = .int .i64 j ∧ j ≤ n ∧ HpIs wr s ∧ wr.rowIs (w1.heap.size + 1) 5 n (fun i => .int .u8 (if i < j then M.byteOf (s.ws (k + 1 + i / 8)) (i % 8) else 0 : Nat)) ∧ Still w wr) (fun v _ => n - (intOf v).toNat)
  case atStart =>
    refine ⟨0, rfl, by omega, (((HH.out.still HT.out).alloc _).alloc _), ?_, (HT.out.alloc _).alloc _⟩
    have := World.rowIs_made (w1.alloc (.cells #[.int .i64 osh, .int .i64 3, .int .i64 n, .int .i64 oneed] 119)) (.int .u8 0) n 5
    simp only [World.size_alloc] at this
    exact this.congr fun i _ => by simp
  case round =>
    obtain ⟨j, rfl, hj, hp, hrow, ht⟩ := hrel
    have hg := hp.blk.lt
    have c0 := hp.c0
    by_cases hlt : j < n
    · have hp8 := HIN.out j hlt
      obtain ⟨p, hpe⟩ : ∃ p, k + 1 + j / 8 = p := ⟨_, rfl⟩
      have e1 : (k : Int) + 1 + (j : Int) / 8 = (p : Int) := by omega
      rw [hpe] at hp8
      have cw := hp.cw p hp8
      obtain ⟨q, hq⟩ : ∃ q : Nat, (j : Int) % 8 * 8 = q := ⟨j % 8 * 8, by omega⟩
      have hqj : q = j % 8 * 8 := by omega
      have q0 : q < 64 := by omega
      have b0 : 0 ≤ (j : Int) / 8 := by omega
      have b1 : (j : Int) / 8 ≤ 8192 := by omega
      have m0 : 0 ≤ (j : Int) % 8 := by omega
      have m1 : (j : Int) % 8 ≤ 7 := by omega
      have cj := hrow.cell hlt
      have cf := hrow.frozen j
      simp only [Nat.lt_irrefl, if_false] at cj
      have HV := Lib.hid (byte_fin (s.ws p) q (j % 8) hqj)
      have HPE := Lib.hid hpe
      have HP := Lib.hid hp
      have HROW := Lib.hid hrow
      have HTT := Lib.hid ht
      have HW1 := Lib.hid HT.out.size
      clear hp hrow ht hpe hqj
      go_wp2_with fail
      go_roundw
      case rel =>
        have hne : ¬ (s.g = w1.heap.size + 1) ∧ ¬ (s.gw = w1.heap.size + 1) ∧ ¬ (s.gl = w1.heap.size + 1) := by
          have h1 := HP.out.blk
          exact ⟨HpIs.rowIs_ne h1 HROW.out (by decide), HpIs.rowIs_ne HP.out.words HROW.out (by decide), HpIs.rowIs_ne HP.out.lays HROW.out (by decide)⟩
        refine ⟨j + 1, by go_num, by omega, ?_, ?_, Turn.setCell (S := fun _ => False) HTT.out (fun e => by have := HW1.out; simp at e; omega) _⟩
        · exact HP.out.keep (S := fun b => b = w1.heap.size + 1) ((Turn.refl (fun b => b = w1.heap.size + 1) wr).setCell (fun _ => rfl) _) hne.1 hne.2.1 hne.2.2
        · refine (HROW.out.set j _).congr fun i _ => ?_
          by_cases e : i = j
          · subst e
            rw [if_pos rfl, if_pos (by omega), HPE.out, HV.out]
          · rw [if_neg e]
            by_cases e2 : i < j
            · rw [if_pos e2, if_pos (by omega)]
            · rw [if_neg e2, if_neg (by omega)]
      case measure => simp [intOf]; omega
    · obtain rfl : j = n := by omega
      have hl : (s.bytes k j).length = j := by simp [St.bytes]
      have hrow2 : wr.rowIs (w1.heap.size + 1) 5 j (fun i => .int .u8 ((s.bytes k j).getD i 0 : Nat)) := hrow.congr fun i hi => by
        rw [if_pos hi, List.getD_eq_getElem?_getD]
        unfold St.bytes
        rw [List.getElem?_map, List.getElem?_range hi]; rfl
      have hconv := own_str (row_own hrow2 hl (Nat.zero_le _) (by unfold maxLen; omega))
      have HTT := Lib.hid ht
      clear hp hrow ht hrow2 hl hg c0
      go_wp2_with fail
      go_ret2
      exact ⟨rfl, HTT.out⟩
end Go.Proofs.Ythfkgkddklnnhaa
/- What the calls of HeapTells answer: layer 2's heap and the document's own, side by side. -/
namespace Go.Proofs.Ythfkgkddklnnhaa
set_option linter.unusedVariables false
open Go.ChangeShapes Go.WideShapes Go.ChangeAt Go.RowKit
open M (W)

theorem text_unfit (s : St) (k : Nat) (o : Ob) (w : World) (h : HpIs w s) (ho : ObAt s k o) (hk : o.kind ≠ 3) :
    Calls Try.prog 52 #[s.ptr, .int .i64 k] w fun e w' => e = .returned (.tuple #[.string ByteArray.empty, .int .i64 1]) ∧ Still w w' := by
  have HO := object_at h ho
  unfold Ob.val at HO
  have hk2 : (o.kind != 3) = true := by simpa using hk
  clear h ho hk
  go_enter Try.func52, Try.ntmps52
  go_wp2_with fail
  refine HO.mono ?_; rintro e w1 ⟨rfl, ht⟩
  have HT := Lib.hid ht; clear ht
  go_wp2_with fail
  go_ret2
  exact ⟨rfl, HT.out.alloc _⟩
theorem Sim.byte {s : St} {L : List RO} (h : Sim s L) {o : RO} (ho : o ∈ L) (hk : s.kind o.sh = 3) (i : Nat) (hi : i < o.n) : M.byteOf (s.ws (o.at_ + 1 + i / 8)) (i % 8) = o.bs.getD i 0 := by
  obtain ⟨_, hl, hw⟩ := (h.good o ho).b hk
  have hb := (h.good o ho).bl
  rw [hw (i / 8) (by omega)]
  unfold M.wordOf
  rw [byte_word _ _ _ _ _ _ _ _ (getD_lt hb _) (getD_lt hb _) (getD_lt hb _) (getD_lt hb _) (getD_lt hb _) (getD_lt hb _) (getD_lt hb _) (getD_lt hb _) (i % 8) (by omega)]
  obtain ⟨t, ht, e⟩ : ∃ t, t < 8 ∧ i = i / 8 * 8 + t := ⟨i % 8, by omega, by omega⟩
  have hm : i % 8 = t := by omega
  rw [hm]
  generalize i / 8 * 8 = q at *
  subst e
  obtain rfl | rfl | rfl | rfl | rfl | rfl | rfl | rfl : t = 0 ∨ t = 1 ∨ t = 2 ∨ t = 3 ∨ t = 4 ∨ t = 5 ∨ t = 6 ∨ t = 7 := by omega
  all_goals simp
theorem Sim.bytes {s : St} {L : List RO} (h : Sim s L) {o : RO} (ho : o ∈ L) (hk : s.kind o.sh = 3) : s.bytes o.at_ o.n = o.bs := by
  have hl := ((h.good o ho).b hk).2.1
  apply List.ext_getElem?
  intro i
  unfold St.bytes
  rw [List.getElem?_map]
  by_cases hi : i < o.n
  · rw [List.getElem?_range hi]
    show some (M.byteOf (s.ws (o.at_ + 1 + i / 8)) (i % 8)) = _
    rw [h.byte ho hk i hi, List.getD_eq_getElem?_getD, List.getElem?_eq_getElem (show i < o.bs.length by omega)]; rfl
  · rw [List.getElem?_eq_none (show o.bs.length ≤ i by omega), List.getElem?_eq_none (by simpa using hi)]; rfl
def Ans (B : Nat) (s : St) (x : Rf) (f : FuncId) (args : Array Value) (v : Value) : Prop := ∀ W, HpIs W s → RfIs B W x → Calls Try.prog f args W fun e w' => e = .returned v ∧ Still W w'
end Go.Proofs.Ythfkgkddklnnhaa
/- The contract of layer 2's Objects. -/
namespace Go.Proofs.Ythfkgkddklnnhaa
set_option linter.unusedVariables false
open Go.ChangeShapes Go.WideShapes Go.ChangeAt Go.RowKit
open M (W)

theorem infoI : (Try.prog.info? 3).map (fun i => (i.zero, i.size, i.bytes)) = some (some (.int .i64 0), 1, 8) := by kernel_rfl
/-- The places of objects below j, in order. -/
def St.hl (s : St) (j : Nat) : List Nat := (List.range j).filter fun k : Nat => s.is k
theorem St.hl_succ (s : St) (j : Nat) : s.hl (j + 1) = s.hl j ++ (if s.is j then [j] else []) := by
  unfold St.hl
  rw [List.range_succ, List.filter_append, List.filter_cons, List.filter_nil]
theorem St.hl_len (s : St) (j : Nat) : (s.hl j).length ≤ j := by
  unfold St.hl
  exact Nat.le_trans (List.length_filter_le _ _) (by simp)
def M.ints (l : List Nat) : List Value := l.map fun v : Nat => Value.int .i64 (v : Int)
def St.owns (s : St) (w : World) (B : Nat) (v : Value) (j : Nat) : Prop := w.ownsRow B 3 1 v (s.hl j).length (M.ints (s.hl j))
set_option maxRecDepth 100000 in
set_option maxHeartbeats 2000000 in
theorem objects_any (s : St) (w : World) (h : HpIs w s) (ht : s.top ≤ 65536) :
    Calls Try.prog 38 #[s.ptr] w fun e w' => (∃ a c, e = .returned (.slice a (s.hl s.top).length c) ∧ s.owns w' w.heap.size (.slice a (s.hl s.top).length c) s.top) ∧ Still w w' := by
  have HT := top_any s w h
  have hg := h.blk.lt
  have HH := Lib.hid h
  clear h
  go_enter Try.func38, Try.ntmps38
  go_wp2_with fail
  refine HT.mono ?_; rintro e w ⟨rfl, rfl⟩
  go_wp2_with fail
  go_loopw [3, 7] (fun l i wr => ∃ (j : Nat) (a : Option Addr) (n c : Nat), i = .int .i64 j ∧ l = .slice a n c ∧ j ≤ s.top ∧ n = (s.hl j).length ∧ Still w wr ∧ s.owns wr w.heap.size (.slice a n c) j) (fun _ i _ => s.top - (intOf i).toNat)
  case atStart => exact ⟨0, none, 0, 0, rfl, rfl, by omega, rfl, Still.refl _, World.ownsRow_nil _ _ _ _⟩
  case round =>
    obtain ⟨j, a, n, c, rfl, rfl, hj, hn, ht2, hown⟩ := hrel
    have hnj : n ≤ j := by have := s.hl_len j; omega
    have HN := Lib.hid hn
    have hgr : s.g < wr.heap.size := (HH.out.still ht2).blk.lt
    have hwl : w.heap.size ≤ wr.heap.size := ht2.size
    have HA := has_any s.g 2 s.hx j wr (HH.out.still ht2).set
    have HW := Lib.hid ht2
    have HO : Hid (wr.ownsRow w.heap.size 3 1 (.slice a n c) n (M.ints (s.hl j))) := by
      have := hown; unfold St.owns at this; rw [← hn] at this; exact this
    clear hown ht2 hn
    by_cases hlt : j < s.top
    · cases hi : M.inSet s.hx j with
      | false =>
        have HS := Lib.hid (show s.is j = false from hi)
        rw [hi] at HA
        clear hi
        go_wp2_with fail
        refine HA.mono ?_; rintro e wr ⟨rfl, rfl⟩
        go_wp2_with fail
        go_roundw
        case rel =>
          have e1 : s.hl (j + 1) = s.hl j := by rw [St.hl_succ, HS.out]; simp
          refine ⟨j + 1, a, n, c, by go_num, rfl, by omega, by rw [e1]; exact HN.out, HW.out, ?_⟩
          unfold St.owns; rw [e1, ← HN.out]; exact HO.out
        case measure => simp [intOf]; omega
      | true =>
        have HS := Lib.hid (show s.is j = true from hi)
        rw [hi] at HA
        clear hi
        go_wp2_with fail
        refine HA.mono ?_; rintro e wr ⟨rfl, rfl⟩
        go_wp2_with (first
          | (at_builtin; refine wpList_append_form rfl (.tmp 15) (.tmp 17) 86 rfl w.heap.size 3 1 8 (.int .i64 0) Try.underlying86 infoI rfl (by decide) a n c _ rfl (HO.out.alloc _) ⟨wr.heap.size, 0, none⟩ 1 1 [.int .i64 j] rfl rfl (cell_one_new _ _ _) (by simp [Value.oneCell']) (by decide) (by unfold maxLen; omega) (by omega) (by simp; omega) ?_; intro g' c' w2 hown2 ht2 hnew2))
        go_roundw
        case rel =>
          have e1 : s.hl (j + 1) = s.hl j ++ [j] := by rw [St.hl_succ, HS.out]; simp
          refine ⟨j + 1, some ⟨g', 0, none⟩, n + 1, c', by go_num, rfl, by omega, by rw [e1]; have := HN.out; simp; omega, ?_, ?_⟩
          · exact Still.own (HW.out.alloc _) (ht2.out.below_only HO.out hwl)
          · have := hown2.out
            unfold St.owns; rw [e1]
            have e2 : (s.hl j ++ [j]).length = n + 1 := by have := HN.out; simp; omega
            rw [e2]
            simpa [M.ints] using this
        case measure => simp [intOf]; omega
    · obtain rfl : j = s.top := by omega
      clear HA
      go_wp2_with fail
      go_ret
      refine ⟨⟨a, c, by rw [← HN.out]; rfl, ?_⟩, HW.out⟩
      unfold St.owns; rw [← HN.out]; exact HO.out
end Go.Proofs.Ythfkgkddklnnhaa
/- The places that Objects tells are those of the document's list, in its order. -/
namespace Go.Proofs.Ythfkgkddklnnhaa
set_option linter.unusedVariables false

theorem sorted_eq : ∀ (l m : List Nat), l.Pairwise (· < ·) → m.Pairwise (· < ·) → (∀ a, a ∈ l ↔ a ∈ m) → l = m
  | [], m, _, _, h => by
    cases m with
    | nil => rfl
    | cons b m => exact absurd ((h b).2 (by simp)) (by simp)
  | a :: l, [], _, _, h => absurd ((h a).1 (by simp)) (by simp)
  | a :: l, b :: m, hl, hm, h => by
    rw [List.pairwise_cons] at hl hm
    have e : a = b := by
      have h1 := (h a).1 (by simp)
      have h2 := (h b).2 (by simp)
      rw [List.mem_cons] at h1 h2
      rcases h1 with h1 | h1
      · exact h1
      · rcases h2 with h2 | h2
        · exact h2.symm
        · have := hm.1 a h1
          have := hl.1 b h2
          omega
    subst e
    congr 1
    refine sorted_eq l m hl.2 hm.2 fun x => ?_
    have hx := h x
    rw [List.mem_cons, List.mem_cons] at hx
    constructor
    · intro hxl
      rcases hx.1 (.inr hxl) with e | e
      · have := hl.1 x hxl; omega
      · exact e
    · intro hxm
      rcases hx.2 (.inr hxm) with e | e
      · have := hm.1 x hxm; omega
      · exact e
theorem Sim.places {s : St} {L : List RO} (h : Sim s L) : s.hl s.top = L.map RO.at_ := by
  refine sorted_eq _ _ ?_ ?_ fun a => ?_
  · unfold St.hl
    exact List.Pairwise.filter _ List.pairwise_lt_range
  · rw [List.pairwise_map, List.pairwise_iff_getElem]
    intro i j hi hj hij
    have h1 := h.tile.order hij (List.getElem?_eq_getElem hi) (List.getElem?_eq_getElem hj)
    have h2 := (h.good _ (List.getElem_mem hi)).sz.2.2
    omega
  · unfold St.hl
    rw [List.mem_filter, List.mem_range, List.mem_map]
    constructor
    · rintro ⟨_, h2⟩
      rw [h.heads, List.any_eq_true] at h2
      obtain ⟨o, ho, he⟩ := h2
      have := of_decide_eq_true he
      exact ⟨o, ho, by omega⟩
    · rintro ⟨o, ho, rfl⟩
      obtain ⟨k, hk⟩ := List.mem_iff_getElem?.1 ho
      have h1 := h.tile.get hk
      have h2 := (h.good o ho).sz.2.2
      refine ⟨by omega, ?_⟩
      rw [h.heads, List.any_eq_true]
      exact ⟨o, ho, by simp⟩
end Go.Proofs.Ythfkgkddklnnhaa
/- A word of bytes, byte after byte from the highest down (as the document's Row adds it up). -/
namespace Go.Proofs.Ythfkgkddklnnhaa
set_option linter.unusedVariables false

/-- What stands when m bytes of the word number q have been taken. -/
def M.wordFrom (bs : List Nat) (q : Nat) : Nat → Nat
  | 0 => 0
  | m + 1 => M.wordFrom bs q m * 256 + bs.getD (q * 8 + (7 - m)) 0
theorem wordFrom_8 (bs : List Nat) (q : Nat) : M.wordFrom bs q 8 = M.wordOf bs q := by
  simp only [M.wordFrom, M.wordOf, Nat.reduceSub, Nat.add_zero, Nat.sub_zero]
  generalize bs.getD (q * 8) 0 = b0
  generalize bs.getD (q * 8 + 1) 0 = b1
  generalize bs.getD (q * 8 + 2) 0 = b2
  generalize bs.getD (q * 8 + 3) 0 = b3
  generalize bs.getD (q * 8 + 4) 0 = b4
  generalize bs.getD (q * 8 + 5) 0 = b5
  generalize bs.getD (q * 8 + 6) 0 = b6
  generalize bs.getD (q * 8 + 7) 0 = b7
  omega
theorem wordFrom_lt (bs : List Nat) (hb : ∀ v ∈ bs, v < 256) (q : Nat) : ∀ m, m ≤ 8 → M.wordFrom bs q m < 256 ^ m
  | 0, _ => by simp [M.wordFrom]
  | m + 1, hm => by
    have h1 := wordFrom_lt bs hb q m (by omega)
    have h2 := getD_lt hb (q * 8 + (7 - m))
    simp only [M.wordFrom]
    rw [Nat.pow_succ]
    omega
theorem wordFrom_64 (bs : List Nat) (hb : ∀ v ∈ bs, v < 256) (q m : Nat) (hm : m ≤ 8) : M.wordFrom bs q m < 18446744073709551616 :=
  Nat.lt_of_lt_of_le (wordFrom_lt bs hb q m hm) (Nat.le_trans (Nat.pow_le_pow_right (by decide) hm) (by decide))
end Go.Proofs.Ythfkgkddklnnhaa
/- append of one row of the call's own, or of an older one, onto another; also of none. No program in sight. -/
namespace Go.Proofs.Ythfkgkddklnnhaa
set_option linter.unusedVariables false
open Go.RowKit
variable {P : Program}

theorem run_append_zero (w : World) (t ty e : TypeId) (i : TypeInfo) (ht : P.underlying t = some (.slice e)) (hi : P.info? e = some i) (a : Option Addr) (n c : Nat) (h : n ≤ c) (x : Option Addr) (c' : Nat) :
    (Builtin.append_ #[t, t] ty #[.slice a n c, .slice x 0 c']).run P w = .ok (.slice a n c) w := by
  cases a <;> cases x <;> simp [Builtin.append_, run_underlying ht, sizeOf, typeInfo, hi, Builtin.lenOf, Builtin.firstCells, loadCells, loadCellsFrom, h, storeCells]
theorem own_le {w : World} {base : Nat} {e : TypeId} {size : Nat} {a : Option Addr} {n c m : Nat} {xs : List Value} (h : w.ownsRow base e size (.slice a n c) m xs) : n ≤ c ∧ c ≤ maxLen ∧ n = m := by
  rcases h.2 with ⟨h1, rfl⟩ | ⟨g, cap, cur, h1, _, _, h2, h3, _, _⟩
  · injection h1 with _ h1 h2; subst h1; subst h2; exact ⟨Nat.le_refl _, by unfold maxLen; omega, rfl⟩
  · injection h1 with _ h1 h4; subst h4; exact ⟨by omega, h3, h1⟩
theorem run_append_row (w : World) (base : Nat) (t ty e : TypeId) (size bytes : Nat) (z : Value) (ht : P.underlying t = some (.slice e)) (hi : (P.info? e).map (fun i => (i.zero, i.size, i.bytes)) = some (some z, size, bytes))
    (hzs : z.cells.size = size) (hsz : 0 < size) (a : Option Addr) (n c : Nat) (xs : List Value) (hown : w.ownsRow base e size (.slice a n c) n xs)
    (base' : Nat) (ad : Option Addr) (m c' : Nat) (news : List Value) (hsrc : w.ownsRow base' e size (.slice ad m c') m news) (h1 : ∀ u ∈ news, u.oneCell' = true)
    (h63 : n + m ≤ maxLen) (hbytes : (n + m) * bytes ≤ 140737488355328) (hbase : base ≤ w.heap.size) :
    ∃ a' cap w', (Builtin.append_ #[t, t] ty #[.slice a n c, .slice ad m c']).run P w = .ok (.slice a' (n + m) cap) w' ∧ w'.ownsRow base e size (.slice a' (n + m) cap) (n + m) (xs ++ news) ∧
      Turn (fun k => (Value.slice a n c).ownBlock = some k) w w' ∧ ((Value.slice a' (n + m) cap).ownBlock = (Value.slice a n c).ownBlock ∨ ∃ g, a' = some ⟨g, 0, none⟩ ∧ w.heap.size ≤ g) := by
  rcases Nat.eq_zero_or_pos m with rfl | hm
  · obtain ⟨i, hi', hzz⟩ := Option.map_eq_some_iff.1 hi
    have hn : news = [] := List.eq_nil_of_length_eq_zero (by simpa using hsrc.1)
    subst hn
    refine ⟨a, c, w, run_append_zero w t ty e i ht hi' a n c (own_le hown).1 ad c', by simpa using hown, Turn.refl _ _, .inl rfl⟩
  · have hcells := hsrc
    rcases hsrc.2 with ⟨_, h0⟩ | ⟨g, cap, cur, h, _⟩
    · omega
    · injection h with h2 _ h3
      subst h2; subst h3
      obtain ⟨g', cap', w', r1, r2, r3, r4⟩ := run_append_form (P := P) w base t ty e size bytes z ht hi hzs hsz a n c xs hown ⟨g, 0, none⟩ m c' news hsrc.1 (hcells.cells (g := g) rfl) h1 hm h63 hbytes hbase
      refine ⟨_, cap', w', r1, r2, r3, ?_⟩
      rcases r4 with r4 | r4
      · exact .inl (by rw [r4]; simp [Value.ownBlock])
      · exact .inr ⟨g', rfl, r4⟩
theorem wpList_append_row {w : World} {ops : Array Oper} {rest : List Oper} {o : Oper} {act : Act} {Q : Exit → Act → World → Prop} (hgd : o.guard = none) (s x : Operand) (t : TypeId)
    (ho : o.op = .call { callee := .builtin .append, args := #[s, x], argTypes := #[t, t] })
    (base : Nat) (e : TypeId) (size bytes : Nat) (z : Value) (ht : P.underlying t = some (.slice e)) (hi : (P.info? e).map (fun i => (i.zero, i.size, i.bytes)) = some (some z, size, bytes))
    (hzs : z.cells.size = size) (hsz : 0 < size) (a : Option Addr) (n c : Nat) (xs : List Value) (hs : act.eval s = .slice a n c) (hown : w.ownsRow base e size (.slice a n c) n xs)
    (base' : Nat) (ad : Option Addr) (m c' : Nat) (news : List Value) (hx : act.eval x = .slice ad m c') (hsrc : w.ownsRow base' e size (.slice ad m c') m news) (h1 : ∀ u ∈ news, u.oneCell' = true)
    (h63 : n + m ≤ maxLen) (hbytes : (n + m) * bytes ≤ 140737488355328) (hbase : base ≤ w.heap.size)
    (h : ∀ a' cap w', Hid (w'.ownsRow base e size (.slice a' (n + m) cap) (n + m) (xs ++ news)) → Hid (Turn (fun k => (Value.slice a n c).ownBlock = some k) w w') → Hid ((Value.slice a' (n + m) cap).ownBlock = (Value.slice a n c).ownBlock ∨ ∃ g, a' = some ⟨g, 0, none⟩ ∧ w.heap.size ≤ g) →
      wpList P ops Q rest (act.put o.dst (.slice a' (n + m) cap)) w') : wpList P ops Q (o :: rest) act w := by
  obtain ⟨a', cap, w', hrun, h2, h3, h4⟩ := run_append_row (P := P) w base t o.type e size bytes z ht hi hzs hsz a n c xs hown base' ad m c' news hsrc h1 h63 hbytes hbase
  refine wpList_plain hgd fun K hK => ?_
  unfold Oper.wp
  simp [execOp, ho, resolve, invoke, builtin, hs, hx, hrun, Result.andThen]
  exact hK _ _ (h a' cap w' h2 h3 h4)
end Go.Proofs.Ythfkgkddklnnhaa
