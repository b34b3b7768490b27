/- Both views of a heap in memory, and the calls done on both. -/
import Derived.Test.YteanlncnhncpbaaSimOps
namespace Go.Proofs.Yteanlncnhncpbaa
set_option linter.unusedVariables false
open Go.ChangeShapes Go.WideShapes Go.ChangeAt Go.RowKit
open M (W)

/-- In w stand the heap s and the document's heap x, which say the same; both were made since w0. -/
structure Both (w0 w : World) (s : St) (x : Rf) : Prop where
  hp : HpIs w s
  rf : RfIs w0.heap.size w x
  bg : w0.heap.size ≤ s.g
  bgw : w0.heap.size ≤ s.gw
  n : x.n = s.n
  len : x.len = s.m
  K : x.K = s.lk
  N : x.N = s.ln
  sep : ∀ o ∈ x.L, o.fv.ownBlock ≠ some s.gw
  sim : Sim s x.L
  below : Below w0.heap.size w0 w
  fit : ∀ o ∈ x.L, ∀ v ∈ o.fs, s.fits v = true
/-- What a call leaves. -/
def After (w0 w : World) (s : St) (x : Rf) : Prop := ∃ s' x', Both w0 w s' x' ∧ s'.g = s.g ∧ x'.gx = x.gx ∧ s'.n = s.n ∧ x'.L.length ≤ x.L.length + 1 ∧ x.L.length ≤ x'.L.length
theorem Both.after {w0 w : World} {s : St} {x : Rf} (h : Both w0 w s x) : After w0 w s x := ⟨s, x, h, rfl, rfl, rfl, by omega, by omega⟩
theorem Both.still {w0 w w' : World} {s : St} {x : Rf} (h : Both w0 w s x) (t : Still w w') : Both w0 w' s x :=
  { h with hp := h.hp.still t, rf := h.rf.still t, below := h.below.trans ((Still.below t).mono h.below.size) }
theorem Both.fits {w0 w : World} {s : St} {x : Rf} (h : Both w0 w s x) (v : Int) : x.fits v = s.fits v := by
  unfold Rf.fits St.fits M.fits
  rw [h.sim.has]; rfl
theorem Both.kd {w0 w : World} {s : St} {x : Rf} (h : Both w0 w s x) (i : Int) : M.kd x.len x.K i = s.kind i ∧ M.kd x.len x.N i = s.len i := by
  rw [h.len, h.K, h.N]; exact ⟨rfl, rfl⟩
theorem Both.valid {w0 w : World} {s : St} {x : Rf} (h : Both w0 w s x) : ∀ j, j < x.len → x.K j = 1 ∨ x.K j = 2 ∨ x.K j = 3 := by
  rw [h.len, h.K]; exact h.hp.kinds
theorem Both.sum {w0 w : World} {s : St} {x : Rf} (h : Both w0 w s x) : x.sum x.L = s.top := by
  have := Tile.sum (s := s) (x := x) (fun o ho => by
    have hg := (h.sim.good o ho).sz.2.1
    unfold Rf.need
    rw [(h.kd o.sh).1, (h.kd o.sh).2]
    exact hg) x.L 0 (fun o ho => ho) h.sim.tile
  simpa using this
/-- The words' block is none of the list's. -/
theorem Both.rf_gw {w0 w w1 : World} {s : St} {x : Rf} (h : Both w0 w s x) (t : Turn (fun k => k = s.g ∨ k = s.gw) w w1) : RfIs w0.heap.size w1 x := by
  refine h.rf.keep t ?_ ?_ ?_ ?_
  · rintro k (rfl | rfl)
    · exact h.bg
    · exact h.bgw
  · rintro (e | e)
    · exact HpIs.rowIs_ne h.rf.blk h.hp.blk (by decide) e
    · exact HpIs.rowIs_ne h.rf.blk h.hp.words (by decide) e
  · rintro k hk (e | e)
    · exact own_type h.rf.row h.hp.blk (by decide) (by rw [hk, e])
    · exact own_type h.rf.row h.hp.words (by decide) (by rw [hk, e])
  · rintro o ho k (hk | hk) (e | e)
    · exact own_type (h.rf.rows o ho).1 h.hp.blk (by decide) (by rw [hk, e])
    · exact h.sep o ho (by rw [hk, e])
    · exact own_type (h.rf.rows o ho).2 h.hp.blk (by decide) (by rw [hk, e])
    · exact own_type (h.rf.rows o ho).2 h.hp.words (by decide) (by rw [hk, e])

theorem both_set {w0 w : World} {s : St} {x : Rf} (h : Both w0 w s x) (a i : Int) (v : Nat) (hv : v < 18446744073709551616) :
    ∃ r : Int, Calls Try.prog 47 #[s.ptr, .int .i64 a, .int .i64 i, .int .u64 v] w fun e w1 => e = .returned (.int .i64 r) ∧ Turn (fun k => k = s.g ∨ k = s.gw) w w1 ∧
      Calls Try.prog 53 #[x.ptr, .int .i64 a, .int .i64 i, .int .u64 v] w1 fun e w2 => e = .returned (.int .i64 r) ∧ After w0 w2 s x := by
  cases hh : x.has a with
  | false =>
    refine ⟨1, (set_no _ _ _ _ _ (field_no _ _ _ _ (.out h.hp (by rw [← h.sim.has, hh])))).mono fun e w1 ⟨he, t1⟩ => ⟨he, Still.turn t1, ?_⟩⟩
    exact (refSet_no x a i v w1 (h.rf.still t1) (find_no x a w1 (h.rf.still t1) (Rf.has_no hh))).mono fun e w2 ⟨he, t2⟩ => ⟨he, (h.still (t1.trans t2)).after⟩
  | true =>
    obtain ⟨k, o, hk, rfl, hun⟩ := Rf.has_yes hh
    have hm := List.mem_of_getElem? hk
    have hob := h.sim.obAt h.hp hm
    have hg := h.sim.good o hm
    have FA := fun W (hW : RfIs w0.heap.size W x) => find_at x k o o.at_ W hW hk rfl hun
    by_cases hk3 : s.kind o.sh = 3
    · have hfs : o.fs.length = 0 := by rw [(hg.b hk3).1]; rfl
      refine ⟨1, (set_no _ _ _ _ _ (field_none s o.at_ _ i w h.hp hob (.inl hk3))).mono fun e w1 ⟨he, t1⟩ => ⟨he, Still.turn t1, ?_⟩⟩
      exact (refSet_out x _ i v k o w1 (h.rf.still t1) hk (FA w1 (h.rf.still t1)) (by omega)).mono fun e w2 ⟨he, t2⟩ => ⟨he, (h.still (t1.trans t2)).after⟩
    · obtain ⟨f1, f2, f3⟩ := hg.f hk3
      by_cases hi : i < 0 ∨ (o.n : Int) ≤ i
      · refine ⟨1, (set_no _ _ _ _ _ (field_none s o.at_ _ i w h.hp hob (.inr hi))).mono fun e w1 ⟨he, t1⟩ => ⟨he, Still.turn t1, ?_⟩⟩
        exact (refSet_out x _ i v k o w1 (h.rf.still t1) hk (FA w1 (h.rf.still t1)) (by omega)).mono fun e w2 ⟨he, t2⟩ => ⟨he, (h.still (t1.trans t2)).after⟩
      · obtain ⟨j, rfl⟩ := Int.eq_ofNat_of_zero_le (show 0 ≤ i by omega)
        have hj : j < o.fs.length := by omega
        cases hf : s.fits v with
        | false =>
          refine ⟨1, (set_unfit s o.at_ _ j v w h.hp hob hk3 (by show (j : Int) < (o.n : Int); omega) (by omega) (by omega) hf).mono fun e w1 ⟨he, t1⟩ => ⟨he, Still.turn t1, ?_⟩⟩
          exact (refSet_unfit x _ v j k o w1 (h.rf.still t1) hk (FA w1 (h.rf.still t1)) hj (by omega) (by omega) (by rw [h.fits, hf])).mono fun e w2 ⟨he, t2⟩ => ⟨he, (h.still (t1.trans t2)).after⟩
        | true =>
          refine ⟨0, (set_ok s o.at_ _ j v w h.hp hob hk3 (by show (j : Int) < (o.n : Int); omega) (by omega) (by omega) hf).mono fun e w1 ⟨he, h1, t1⟩ => ⟨he, t1.mono fun k _ e => .inr e, ?_⟩⟩
          have hr1 := h.rf_gw (t1.mono fun k _ e => .inr e)
          refine (refSet_ok x _ v j k o w1 hr1 hk (FA w1 hr1) hj hv (by rw [h.fits, hf])).mono fun e w2 ⟨he, h2, t2⟩ => ⟨he, s.put (o.at_ + 1 + j) v, x.upd k { o with fs := o.fs.set j v }, ?_, rfl, rfl, rfl, by unfold Rf.upd; simp, by unfold Rf.upd; simp⟩
          have hro := (hr1.rows o hm).1
          refine ⟨?_, h2, h.bg, h.bgw, h.n, h.len, h.K, h.N, ?_, ?_, ?_, ?_⟩
          · have h1' : HpIs w1 (s.put (o.at_ + 1 + j) v) := by simpa using h1
            exact h1'.keep t2 (fun e => own_type hro h1'.blk (by decide) e) (fun e => h.sep o hm e) (fun e => own_type hro h1'.lays (by decide) e)
          · intro p hp
            rcases mem_set hp with rfl | ⟨j', _, hj'⟩
            · intro e
              refine h.sep o hm (Eq.trans ?_ e)
              show Value.ownBlock (.slice o.fa _ _) = Value.ownBlock (.slice o.fa _ _)
              cases o.fa <;> rfl
            · exact h.sep p (List.mem_of_getElem? hj')
          · exact h.sim.setF hk hj hv
          · refine (t1.own h.below (Nat.le_refl _) (by rintro k rfl; exact h.bgw)) |> fun b1 => t2.own b1 (Nat.le_refl _) fun b hb => (hro.lt b hb).1
          · intro p hp u hu
            rcases mem_set hp with rfl | ⟨j', _, hj'⟩
            · rcases List.mem_or_eq_of_mem_set hu with h1 | h1
              · exact h.fit o hm u h1
              · rw [h1]; exact hf
            · exact h.fit p (List.mem_of_getElem? hj') u hu
theorem both_setByte {w0 w : World} {s : St} {x : Rf} (h : Both w0 w s x) (a i : Int) (c : Nat) (hc : c < 256) :
    ∃ r : Int, Calls Try.prog 54 #[s.ptr, .int .i64 a, .int .i64 i, .int .u8 c] w fun e w1 => e = .returned (.int .i64 r) ∧ Turn (fun k => k = s.g ∨ k = s.gw) w w1 ∧
      Calls Try.prog 55 #[x.ptr, .int .i64 a, .int .i64 i, .int .u8 c] w1 fun e w2 => e = .returned (.int .i64 r) ∧ After w0 w2 s x := by
  cases hh : x.has a with
  | false =>
    refine ⟨1, (setByte_no _ _ _ _ _ (octet_no _ _ _ _ (.out h.hp (by rw [← h.sim.has, hh])))).mono fun e w1 ⟨he, t1⟩ => ⟨he, Still.turn t1, ?_⟩⟩
    exact (refSetByte_no x a i c w1 (h.rf.still t1) (find_no x a w1 (h.rf.still t1) (Rf.has_no hh))).mono fun e w2 ⟨he, t2⟩ => ⟨he, (h.still (t1.trans t2)).after⟩
  | true =>
    obtain ⟨k, o, hk, rfl, hun⟩ := Rf.has_yes hh
    have hm := List.mem_of_getElem? hk
    have hob := h.sim.obAt h.hp hm
    have hg := h.sim.good o hm
    have FA := fun W (hW : RfIs w0.heap.size W x) => find_at x k o o.at_ W hW hk rfl hun
    by_cases hk3 : s.kind o.sh = 3
    · obtain ⟨f1, f2, f3⟩ := hg.b hk3
      by_cases hi : i < 0 ∨ (o.n : Int) ≤ i
      · refine ⟨1, (setByte_no _ _ _ _ _ (octet_none s o.at_ _ i w h.hp hob (.inr hi))).mono fun e w1 ⟨he, t1⟩ => ⟨he, Still.turn t1, ?_⟩⟩
        exact (refSetByte_out x _ i c k o w1 (h.rf.still t1) hk (FA w1 (h.rf.still t1)) (by omega)).mono fun e w2 ⟨he, t2⟩ => ⟨he, (h.still (t1.trans t2)).after⟩
      · obtain ⟨j, rfl⟩ := Int.eq_ofNat_of_zero_le (show 0 ≤ i by omega)
        have hj : j < o.bs.length := by omega
        refine ⟨0, (setByte_ok s o.at_ _ j c w h.hp hob hk3 (by show (j : Int) < (o.n : Int); omega) hc).mono fun e w1 ⟨he, h1, t1⟩ => ⟨he, t1.mono fun k _ e => .inr e, ?_⟩⟩
        have hr1 := h.rf_gw (t1.mono fun k _ e => .inr e)
        refine (refSetByte_ok x _ c j k o w1 hr1 hk (FA w1 hr1) hj).mono fun e w2 ⟨he, h2, t2⟩ => ⟨he, s.put (o.at_ + 1 + j / 8) (M.setByteOf (s.ws (o.at_ + 1 + j / 8)) (j % 8) c), x.upd k { o with bs := o.bs.set j c }, ⟨?_, h2, h.bg, h.bgw, h.n, h.len, h.K, h.N, ?_, h.sim.setB hk hj hc, ?_, ?_⟩, rfl, rfl, rfl, by unfold Rf.upd; simp, by unfold Rf.upd; simp⟩
        · have hro := (hr1.rows o hm).2
          exact h1.keep t2 (fun e => own_type hro h1.blk (by decide) e) (fun e => own_type hro h1.words (by decide) e) (fun e => own_type hro h1.lays (by decide) e)
        · intro p hp
          rcases mem_set hp with rfl | ⟨j', _, hj'⟩
          · exact h.sep o hm
          · exact h.sep p (List.mem_of_getElem? hj')
        · refine (t1.own h.below (Nat.le_refl _) (by rintro k rfl; exact h.bgw)) |> fun b1 => t2.own b1 (Nat.le_refl _) fun b hb => ((hr1.rows o hm).2.lt b hb).1
        · intro p hp u hu
          rcases mem_set hp with rfl | ⟨j', _, hj'⟩
          · exact h.fit o hm u hu
          · exact h.fit p (List.mem_of_getElem? hj') u hu
    · obtain ⟨f1, f2, f3⟩ := hg.f hk3
      have hbs : o.bs.length = 0 := by rw [f1]; rfl
      refine ⟨1, (setByte_no _ _ _ _ _ (octet_none s o.at_ _ i w h.hp hob (.inl hk3))).mono fun e w1 ⟨he, t1⟩ => ⟨he, Still.turn t1, ?_⟩⟩
      exact (refSetByte_out x _ i c k o w1 (h.rf.still t1) hk (FA w1 (h.rf.still t1)) (by omega)).mono fun e w2 ⟨he, t2⟩ => ⟨he, (h.still (t1.trans t2)).after⟩

theorem wordOf_zero (n j : Nat) : M.wordOf (List.replicate n 0) j = 0 := by
  have h : ∀ i, (List.replicate n 0).getD i 0 = 0 := fun i => by
    rw [List.getD_eq_getElem?_getD, List.getElem?_replicate]; split <;> rfl
  unfold M.wordOf
  simp only [h]
theorem good_new {s : St} {o : RO} {D : Nat} (he : s.needE o.sh o.n = 0) (ha : o.at_ = s.top) (hD : D = s.sz o) (h3 : s.kind o.sh = 3 → o.fs = [] ∧ o.bs = List.replicate o.n 0) (h1 : s.kind o.sh ≠ 3 → o.bs = [] ∧ o.fs = List.replicate o.n 1) : Good (s.more D (M.hd o.sh o.n 0 0).toNat (s.zero o.sh)) o := by
  -- the sizes, by a heap in which the object stands alone
  have hsz : s.sz o = (if s.kind o.sh = 3 then 1 + (o.n + 7) / 8 else 1 + o.n) := by
    unfold St.sz St.need
    have he' := he
    unfold St.needE at he'
    generalize s.kind o.sh = K at *
    generalize s.len o.sh = N at *
    unfold M.needE at he'
    unfold M.need
    by_cases c1 : K = 0 ∨ (o.n : Int) < 0 ∨ (K = 1 ∧ (o.n : Int) ≠ N)
    · rw [if_pos c1] at he'; omega
    · rw [if_neg c1] at he' ⊢
      by_cases c2 : 65536 < (o.n : Int)
      · rw [if_pos c2] at he'; omega
      · rw [if_neg c2]; split <;> omega
  subst hD
  refine ⟨he, ?_, fun hk => ?_, fun hk => ?_, ?_, ?_⟩
  · show (if o.at_ = s.top then _ else _) = _
    rw [if_pos ha]
  · have hk' : s.kind o.sh ≠ 3 := hk
    obtain ⟨b1, b2⟩ := h1 hk'
    rw [if_neg hk'] at hsz
    refine ⟨b1, by rw [b2]; simp, fun i hi => ?_⟩
    show (if o.at_ + 1 + i = s.top then _ else if s.top < o.at_ + 1 + i ∧ o.at_ + 1 + i < s.top + s.sz o then s.zero o.sh else _) = _
    rw [if_neg (by omega), if_pos (by omega), b2, List.getD_eq_getElem?_getD, List.getElem?_replicate, if_pos hi]
    unfold St.zero
    rw [if_neg hk']; rfl
  · have hk' : s.kind o.sh = 3 := hk
    obtain ⟨b1, b2⟩ := h3 hk'
    rw [if_pos hk'] at hsz
    refine ⟨b1, by rw [b2]; simp, fun j hj => ?_⟩
    show (if o.at_ + 1 + j = s.top then _ else if s.top < o.at_ + 1 + j ∧ o.at_ + 1 + j < s.top + s.sz o then s.zero o.sh else _) = _
    rw [if_neg (by omega), if_pos (by omega), b2, wordOf_zero]
    unfold St.zero
    rw [if_pos hk']
  · intro v hv
    rcases Decidable.em (s.kind o.sh = 3) with e | e
    · rw [(h3 e).1] at hv; simp at hv
    · rw [(h1 e).2] at hv; rw [List.eq_of_mem_replicate hv]; decide
  · intro v hv
    rcases Decidable.em (s.kind o.sh = 3) with e | e
    · rw [(h3 e).2] at hv; rw [List.eq_of_mem_replicate hv]; decide
    · rw [(h1 e).1] at hv; simp at hv
theorem both_new {w0 w w1 w2 : World} {s : St} {x : Rf} (h : Both w0 w s x) (k n D : Nat) (fs bs : List Nat) (he : s.needE k n = 0) (hD : s.need k n = D) (hf : (D : Int) ≤ s.n - s.top) (h1 : HpIs w1 (s.more D (M.hd k n 0 0).toNat (s.zero k))) (t1 : Turn (fun k => k = s.g ∨ k = s.gw) w w1)
    (hm : RMade w0.heap.size x k n fs bs w1 w2) (hr1 : RfIs w0.heap.size w1 x) (h3 : s.kind k = 3 → fs = [] ∧ bs = List.replicate n 0) (h4 : s.kind k ≠ 3 → bs = [] ∧ fs = List.replicate n 1) (hD1 : 1 ≤ D) : After w0 w2 s x := by
  obtain ⟨lv, o, r, oa, rfl, rfl, rfl, rfl, t2, hnew⟩ := hm
  rw [h.sum] at oa
  have oa' : o.at_ = s.top := by omega
  have hDs : D = s.sz o := by unfold St.sz; rw [hD]; rfl
  have hn := h.hp.n_le
  refine ⟨s.more D (M.hd o.sh o.n 0 0).toNat (s.zero o.sh), x.more lv o, ⟨?_, r, h.bg, h.bgw, h.n, h.len, h.K, h.N, ?_, ?_, ?_, ?_⟩, rfl, rfl, rfl, by unfold Rf.more; simp, by unfold Rf.more; simp⟩
  · refine h1.keep t2 ?_ ?_ ?_
    · rintro (e | e)
      · exact HpIs.rowIs_ne h1.blk hr1.blk (by decide) e
      · exact own_type hr1.row h1.blk (by decide) e
    · rintro (e | e)
      · exact HpIs.rowIs_ne h1.words hr1.blk (by decide) e
      · exact own_type hr1.row h1.words (by decide) e
    · rintro (e | e)
      · exact HpIs.rowIs_ne h1.lays hr1.blk (by decide) e
      · exact own_type hr1.row h1.lays (by decide) e
  · intro p hp
    unfold Rf.more at hp
    rcases List.mem_append.1 hp with hp | hp
    · exact h.sep p hp
    · obtain rfl : p = o := by simpa using hp
      intro e
      have := hnew _ (.inl e)
      have := h1.words.lt
      have e2 : (s.more D (M.hd p.sh p.n 0 0).toNat (s.zero p.sh)).gw = s.gw := rfl
      omega
  · exact h.sim.more oa' hDs (good_new he oa' hDs h3 h4) (by omega)
  · have b1 := t1.own h.below (Nat.le_refl _) (by
      rintro k (rfl | rfl)
      · exact h.bg
      · exact h.bgw)
    refine t2.own b1 (Nat.le_refl _) ?_
    rintro b (rfl | hb)
    · exact h.rf.base
    · exact (h.rf.row.lt b hb).1
  · have grow : ∀ v : Int, s.fits v = true → (s.more D (M.hd o.sh o.n 0 0).toNat (s.zero o.sh)).fits v = true := fun v hv => by
      unfold St.fits M.fits at hv ⊢
      rw [Bool.or_eq_true] at hv ⊢
      rcases hv with hv | hv
      · exact .inl hv
      · right
        show M.inSet (M.putIn s.hx s.top) (v / 2) = true
        rw [M.putIn_in _ _ (by omega), hv, Bool.or_true]
    intro p hp u hu
    unfold Rf.more at hp
    rcases List.mem_append.1 hp with hp | hp
    · exact grow _ (h.fit p hp u hu)
    · obtain rfl : p = o := by simpa using hp
      rcases Decidable.em (s.kind p.sh = 3) with e | e
      · rw [(h3 e).1] at hu; simp at hu
      · rw [(h4 e).2] at hu
        rw [List.eq_of_mem_replicate hu]
        unfold St.fits M.fits; rfl
theorem both_alloc {w0 w : World} {s : St} {x : Rf} (h : Both w0 w s x) (sh n : Int) (hfew : x.L.length < 1000) :
    ∃ a r : Int, Calls Try.prog 45 #[s.ptr, .int .i64 sh, .int .i64 n] w fun e w1 => e = .returned (.tuple #[.int .i64 a, .int .i64 r]) ∧ Turn (fun k => k = s.g ∨ k = s.gw) w w1 ∧
      Calls Try.prog 52 #[x.ptr, .int .i64 sh, .int .i64 n] w1 fun e w2 => e = .returned (.tuple #[.int .i64 a, .int .i64 r]) ∧ After w0 w2 s x := by
  have hE : M.needE (M.kd x.len x.K sh) (M.kd x.len x.N sh) n = s.needE sh n := by rw [(h.kd sh).1, (h.kd sh).2]; rfl
  have hN : M.need (M.kd x.len x.K sh) (M.kd x.len x.N sh) n = s.need sh n := by rw [(h.kd sh).1, (h.kd sh).2]; rfl
  have hn := h.hp.n_le
  by_cases he : s.needE sh n = 0
  · by_cases hf : (s.n : Int) - s.top < s.need sh n
    · refine ⟨0, 3, (alloc_full s sh n w h.hp he hf).mono fun e w1 ⟨h1, t1⟩ => ⟨h1, Still.turn t1, ?_⟩⟩
      exact (refAlloc_full x sh n w1 (h.rf.still t1) h.valid (by rw [hE, he]) (by rw [h.n]; omega) (by rw [h.sum, hN, h.n]; exact hf)).mono fun e w2 ⟨h2, t2⟩ => ⟨h2, (h.still (t1.trans t2)).after⟩
    · -- it fits: the shape and n are numbers
      have hpos : 0 ≤ sh ∧ sh < s.m ∧ 0 ≤ n ∧ n ≤ 65536 ∧ 1 ≤ s.need sh n := by
        have he' := he
        unfold St.needE at he'
        unfold St.need
        have hsm : s.kind sh ≠ 0 → 0 ≤ sh ∧ sh < s.m := by
          intro hk
          unfold St.kind at hk
          by_cases hc : 0 ≤ sh ∧ sh < s.m
          · exact hc
          · rw [if_neg hc] at hk; exact absurd rfl hk
        generalize s.kind sh = K at *
        generalize s.len sh = N at *
        unfold M.needE at he'
        unfold M.need
        by_cases c1 : K = 0 ∨ n < 0 ∨ (K = 1 ∧ n ≠ N)
        · rw [if_pos c1] at he'; omega
        · rw [if_neg c1] at he' ⊢
          by_cases c2 : 65536 < n
          · rw [if_pos c2] at he'; omega
          · rw [if_neg c2]
            have := hsm (by omega)
            refine ⟨this.1, this.2, by omega, by omega, ?_⟩
            split <;> omega
      obtain ⟨p1, p2, p3, p4, p5⟩ := hpos
      obtain ⟨k, rfl⟩ := Int.eq_ofNat_of_zero_le p1
      obtain ⟨m, rfl⟩ := Int.eq_ofNat_of_zero_le p3
      obtain ⟨D, hD⟩ := Int.eq_ofNat_of_zero_le (show 0 ≤ s.need k m by omega)
      refine ⟨s.top, 0, (alloc_ok s k m D w h.hp he hD (by omega) (by omega)).mono fun e w1 ⟨h1, hh1, t1⟩ => ⟨h1, t1, ?_⟩⟩
      have hr1 := h.rf_gw t1
      have hkl : k < x.len := by rw [h.len]; omega
      have hkd : s.kind k = x.K k := by rw [← (h.kd k).1]; unfold M.kd; rw [if_pos (by omega)]; simp
      have e1 : M.needE (M.kd x.len x.K (k : Int)) (M.kd x.len x.N (k : Int)) (m : Int) = 0 := by rw [hE, he]
      have e2 : M.need (M.kd x.len x.K (k : Int)) (M.kd x.len x.N (k : Int)) (m : Int) = D := by rw [hN, hD]
      have e3 : (D : Int) ≤ x.n - x.sum x.L := by rw [h.n, h.sum]; omega
      by_cases hk3 : x.K k = 3
      · refine (refAlloc_b x k m D w1 hr1 h.valid hkl hk3 (by omega) e1 e2 (by rw [h.n]; omega) e3 hfew).mono fun e w2 ⟨h2, hm⟩ => ⟨by rw [h2, h.sum], ?_⟩
        exact both_new h k m D _ _ he hD (by omega) hh1 t1 hm hr1 (fun _ => ⟨rfl, rfl⟩) (fun e => absurd (hkd.trans hk3) e) (by omega)
      · refine (refAlloc_f x k m D w1 hr1 h.valid hkl hk3 (by omega) e1 e2 (by rw [h.n]; omega) e3 hfew).mono fun e w2 ⟨h2, hm⟩ => ⟨by rw [h2, h.sum], ?_⟩
        exact both_new h k m D _ _ he hD (by omega) hh1 t1 hm hr1 (fun e => absurd (hkd.symm.trans e) hk3) (fun _ => ⟨rfl, rfl⟩) (by omega)
  · refine ⟨0, s.needE sh n, (alloc_err s sh n w h.hp he).mono fun e w1 ⟨h1, t1⟩ => ⟨h1, Still.turn t1, ?_⟩⟩
    have := refAlloc_err x sh n w1 (h.rf.still t1) h.valid (by rw [hE]; exact he)
    rw [hE] at this
    exact this.mono fun e w2 ⟨h2, t2⟩ => ⟨h2, (h.still (t1.trans t2)).after⟩
end Go.Proofs.Yteanlncnhncpbaa
