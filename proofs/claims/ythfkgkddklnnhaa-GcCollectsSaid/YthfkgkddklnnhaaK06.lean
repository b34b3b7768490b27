/- Lemmas, put together: RefOps RefOps2 Append. -/
import Derived.Test.YthfkgkddklnnhaaK05
import Derived.Test.YthfkgkddklnnhaaK02
import Derived.Maps.AppendAt
import Derived.Deep.RegionLaw
/- The document's own Top, Fits, Get, Set, SetByte of layer 2. -/
namespace Go.Proofs.Ythfkgkddklnnhaa
set_option linter.unusedVariables false
open Go.ChangeShapes Go.WideShapes Go.ChangeAt Go.RowKit
open M (W)

def Rf.need (x : Rf) (o : RO) : Int := M.need (M.kd x.len x.K o.sh) (M.kd x.len x.N o.sh) o.n
def Rf.sum (x : Rf) (L : List RO) : Int := (L.map x.need).sum
theorem Rf.sum_nil (x : Rf) : x.sum [] = 0 := rfl
theorem Rf.sum_snoc (x : Rf) (L : List RO) (o : RO) : x.sum (L ++ [o]) = x.sum L + x.need o := by unfold Rf.sum; simp
theorem Rf.sum_cons (x : Rf) (L : List RO) (o : RO) : x.sum (o :: L) = x.need o + x.sum L := by unfold Rf.sum; simp
theorem M.need_bd (K N n : Int) : 0 ≤ M.need K N n ∧ M.need K N n ≤ 65537 := by
  unfold M.need
  split
  · omega
  · split
    · omega
    · split <;> omega
theorem Rf.sum_bd (x : Rf) : ∀ (L : List RO), 0 ≤ x.sum L ∧ x.sum L ≤ L.length * 65537
  | [] => by simp [Rf.sum_nil]
  | o :: L => by
    have h := Rf.sum_bd x L
    have hn := M.need_bd (M.kd x.len x.K o.sh) (M.kd x.len x.N o.sh) o.n
    rw [Rf.sum_cons]
    unfold Rf.need
    simp only [List.length_cons]
    omega
theorem take_snoc' {α : Type} (L : List α) (j : Nat) (p : α) (h : L[j]? = some p) : L.take (j + 1) = L.take j ++ [p] := by
  rw [List.take_add_one, h]; rfl

set_option maxHeartbeats 1000000 in
theorem refTop_any {B : Nat} (x : Rf) (w : World) (h : RfIs B w x) (hv : ∀ j, j < x.len → x.K j = 1 ∨ x.K j = 2 ∨ x.K j = 3) :
    Calls Try.prog 13 #[x.ptr] w fun e w' => e = .returned (.int .i64 (x.sum x.L)) ∧ Still w w' := by
  have c2 := h.c2
  have hfew := h.few
  rcases h.lv_form with ⟨h1, h0⟩ | ⟨g, cap, h1, hg, hb, hle, hm, hf, hc⟩
  · rw [h1] at c2
    rw [h0]
    clear h1 h hfew
    go_enter Try.func13, Try.ntmps13
    go_wp2_with fail
    refine wp_loop_rounds 1 ?_
    rw [rounds_succ]
    go_wp2
    go_ret
    exact ⟨rfl, Still.refl _⟩
  rw [h1] at c2
  unfold maxLen at hm
  have HC := Lib.hid hc
  have HN := fun W (t : Still w W) sh n => refNeed_any x.gx x.a x.len x.cap x.K x.N W sh n (by rw [t.cell (p := ⟨x.gx, 1, none⟩) h.blk.lt]; exact h.c1) (h.lays.still t) hv
  have HNN := Lib.hid HN
  obtain ⟨G, hG⟩ : ∃ G : Nat → Int, G = fun j => x.sum (x.L.take j) := ⟨_, rfl⟩
  have hG0 : G 0 = 0 := by rw [hG]; rfl
  have hGn : G x.L.length = x.sum x.L := by rw [hG]; simp
  have hGb : ∀ j, 0 ≤ G j ∧ G j ≤ 65537000 := fun j => by
    have hb := x.sum_bd (x.L.take j)
    have : (x.L.take j).length ≤ 1000 := by rw [List.length_take]; omega
    rw [hG]; simp only; omega
  have hGs : ∀ (j : Nat) p, x.L[j]? = some p → G (j + 1) = G j + M.need (M.kd x.len x.K p.sh) (M.kd x.len x.N p.sh) p.n := fun j p hp => by
    rw [hG]; simp only; rw [take_snoc' _ _ _ hp, x.sum_snoc]; rfl
  rw [← hGn]
  have HG0 := Lib.hid hG0
  have HGB := Lib.hid hGb
  have HGS := Lib.hid hGs
  clear hG hG0 hGn hGb hGs hc h1 hf HN h
  go_enter Try.func13, Try.ntmps13
  go_wp2_with fail
  go_loopw [3, 13] (fun s v wr => ∃ j : Nat, v = .int .i64 j ∧ j ≤ x.L.length ∧ s = .int .i64 (G j) ∧ Still w wr) (fun _ v _ => x.L.length - (intOf v).toNat)
  case atStart => exact ⟨0, rfl, by omega, by rw [HG0.out], Still.refl _⟩
  case round =>
    obtain ⟨j, rfl, hj, rfl, ht⟩ := hrel
    by_cases hjl : j < x.L.length
    · obtain ⟨p, hp⟩ : ∃ p, x.L[j]? = some p := ⟨_, List.getElem?_eq_getElem hjl⟩
      obtain ⟨d0, d1, d2, d3, d4⟩ := HC.out j p hp
      have e0 : wr.cell? ⟨g, j * 5, none⟩ = some (.int .i64 p.at_) := by rw [ht.cell hg]; exact d0
      have e1 : wr.cell? ⟨g, j * 5 + 1, none⟩ = some (.int .i64 p.sh) := by rw [ht.cell hg]; exact d1
      have e2 : wr.cell? ⟨g, j * 5 + 2, none⟩ = some (.int .i64 p.n) := by rw [ht.cell hg]; exact d2
      have e3 : wr.cell? ⟨g, j * 5 + 3, none⟩ = some p.fv := by rw [ht.cell hg]; exact d3
      have e4 : wr.cell? ⟨g, j * 5 + 4, none⟩ = some p.bv := by rw [ht.cell hg]; exact d4
      have hgr : g < wr.heap.size := Nat.lt_of_lt_of_le hg ht.size
      have HT := Lib.hid ht
      have hs := HGS.out j p hp
      obtain ⟨b0, b1⟩ := HGB.out j
      have nb := M.need_bd (M.kd x.len x.K p.sh) (M.kd x.len x.N p.sh) p.n
      obtain ⟨nb0, nb1⟩ := nb
      obtain ⟨S, hS⟩ : ∃ S, S = G j := ⟨_, rfl⟩
      rw [← hS] at b0 b1 ⊢
      have HN := HNN.out _ (ht.alloc (.cells #[.int .i64 p.at_, .int .i64 p.sh, .int .i64 p.n, p.fv, p.bv] 73)) p.sh p.n
      rw [← hS] at hs
      generalize M.need (M.kd x.len x.K p.sh) (M.kd x.len x.N p.sh) p.n = D at *
      generalize M.needE (M.kd x.len x.K p.sh) (M.kd x.len x.N p.sh) p.n = E at *
      have HS := Lib.hid hs
      clear d0 d1 d2 d3 d4 ht c2 hp hs hS
      go_wp2_with fail
      refine HN.mono ?_; rintro e w2 ⟨rfl, rfl⟩
      clear HN
      go_wp2_with fail
      go_roundw
      case rel => exact ⟨j + 1, by go_num, by omega, by rw [HS.out], HT.out.alloc _⟩
      case measure => simp [intOf]; omega
    · obtain rfl : j = x.L.length := by omega
      have HT := Lib.hid ht
      obtain ⟨b0, b1⟩ := HGB.out x.L.length
      clear ht
      go_wp2_with fail
      go_ret
      exact ⟨rfl, HT.out⟩

/-- Whether the document's list has an object at i. -/
def Rf.has (x : Rf) (i : Int) : Bool := x.L.any fun p => decide ((p.at_ : Int) = i)
def Rf.fits (x : Rf) (v : Int) : Bool := (v % 2 == 1) || x.has (v / 2)
theorem Rf.has_no {x : Rf} {i : Int} (h : x.has i = false) : ∀ p ∈ x.L, (p.at_ : Int) ≠ i := by
  intro p hp e
  unfold Rf.has at h
  rw [List.any_eq_false] at h
  exact h p hp (by simpa using e)
theorem Rf.has_yes {x : Rf} {i : Int} (h : x.has i = true) : ∃ (k : Nat) (o : RO), x.L[k]? = some o ∧ i = o.at_ ∧ ∀ (j : Nat) p, j < k → x.L[j]? = some p → (p.at_ : Int) ≠ i := by
  unfold Rf.has at h
  generalize x.L = M at h
  induction M with
  | nil => simp at h
  | cons a M ih =>
    by_cases ha : (a.at_ : Int) = i
    · exact ⟨0, a, by simp, ha.symm, fun j p hj => by omega⟩
    · have : (M.any fun p => decide ((p.at_ : Int) = i)) = true := by simpa [ha] using h
      obtain ⟨k, o, h1, h2, h3⟩ := ih this
      refine ⟨k + 1, o, by simpa using h1, h2, fun j p hj hp => ?_⟩
      rcases j with _ | j
      · simp at hp; subst hp; exact ha
      · exact h3 j p (by omega) (by simpa using hp)
theorem refFits_any {B : Nat} (x : Rf) (v : Int) (w : World) (h : RfIs B w x) (v0 : 0 ≤ v) (v1 : v < 18446744073709551616) :
    Calls Try.prog 35 #[x.ptr, .int .u64 v] w fun e w' => e = .returned (.bool (x.fits v)) ∧ Still w w' := by
  unfold Rf.fits
  by_cases ho : v % 2 = 1
  · have e : (v % 2 == 1) = true := by simpa using ho
    rw [e]
    clear h
    go_enter Try.func35, Try.ntmps35
    go_wp2_with fail
    go_ret
    exact ⟨rfl, Still.refl _⟩
  · have e : (v % 2 == 1) = false := by simpa using ho
    rw [e]
    have hF : ∃ b : Bool, x.has (v / 2) = b ∧ Calls Try.prog 48 #[x.ptr, .int .i64 (v / 2)] w fun e w' => (∃ r : Int, e = .returned (.int .i64 r) ∧ (b = decide (0 ≤ r))) ∧ Still w w' := by
      cases hh : x.has (v / 2)
      · exact ⟨false, rfl, (find_no x _ w h (Rf.has_no hh)).mono fun _ _ ⟨he, hw⟩ => ⟨⟨-1, he, by decide⟩, hw⟩⟩
      · obtain ⟨k, o, h1, h2, h3⟩ := Rf.has_yes hh
        exact ⟨true, rfl, (find_at x k o _ w h h1 h2 h3).mono fun _ _ ⟨he, hw⟩ => ⟨⟨k, he, by simp⟩, hw⟩⟩
    obtain ⟨b, hb, HF⟩ := hF
    rw [hb]
    clear h hb
    go_enter Try.func35, Try.ntmps35
    go_wp2_with fail
    refine HF.mono ?_; rintro e w1 ⟨⟨r, rfl, rfl⟩, t1⟩
    have HT := Lib.hid t1; clear t1
    go_wp2_with fail
    go_ret
    exact ⟨by simp, HT.out⟩

theorem RfIs.apart_f {B : Nat} {w : World} {x : Rf} (h : RfIs B w x) {j k : Nat} {p o : RO} (hj : x.L[j]? = some p) (hk : x.L[k]? = some o) (hjk : j ≠ k) {b : Nat} (hb : o.fv.ownBlock = some b) : p.fv.ownBlock ≠ some b := by
  have ha := h.apart
  rw [List.pairwise_iff_getElem] at ha
  obtain ⟨hjl, rfl⟩ := List.getElem?_eq_some_iff.1 hj
  obtain ⟨hkl, rfl⟩ := List.getElem?_eq_some_iff.1 hk
  intro e
  rcases Nat.lt_or_gt_of_ne hjk with hlt | hlt
  · have := (ha j k (by simpa using hjl) (by simpa using hkl) hlt).1
    simp only [List.getElem_map, RO.blocks] at this
    rw [e, hb] at this; simp at this
  · have := (ha k j (by simpa using hkl) (by simpa using hjl) hlt).1
    simp only [List.getElem_map, RO.blocks] at this
    rw [e, hb] at this; simp at this
theorem RfIs.apart_b {B : Nat} {w : World} {x : Rf} (h : RfIs B w x) {j k : Nat} {p o : RO} (hj : x.L[j]? = some p) (hk : x.L[k]? = some o) (hjk : j ≠ k) {b : Nat} (hb : o.bv.ownBlock = some b) : p.bv.ownBlock ≠ some b := by
  have ha := h.apart
  rw [List.pairwise_iff_getElem] at ha
  obtain ⟨hjl, rfl⟩ := List.getElem?_eq_some_iff.1 hj
  obtain ⟨hkl, rfl⟩ := List.getElem?_eq_some_iff.1 hk
  intro e
  rcases Nat.lt_or_gt_of_ne hjk with hlt | hlt
  · have := (ha j k (by simpa using hjl) (by simpa using hkl) hlt).2
    simp only [List.getElem_map, RO.blocks] at this
    rw [e, hb] at this; simp at this
  · have := (ha k j (by simpa using hkl) (by simpa using hjl) hlt).2
    simp only [List.getElem_map, RO.blocks] at this
    rw [e, hb] at this; simp at this
theorem map_set_same {α β : Type} (f : α → β) (L : List α) (k : Nat) (o o' : α) (h : L[k]? = some o) (e : f o' = f o) : (L.set k o').map f = L.map f := by
  apply List.ext_getElem?
  intro i
  rw [List.getElem?_map, List.getElem?_map, List.getElem?_set]
  by_cases hi : k = i
  · subst hi
    have hl := (List.getElem?_eq_some_iff.1 h).1
    rw [if_pos rfl, if_pos hl, h]
    simp [e]
  · rw [if_neg hi]
theorem flat_set_same (L : List RO) (k : Nat) (o o' : RO) (h : L[k]? = some o) (e : o'.cells = o.cells) : (L.set k o').flatMap RO.cells = L.flatMap RO.cells := by
  rw [List.flatMap_def, List.flatMap_def, map_set_same RO.cells L k o o' h e]

/-- The form of an object's fields, where it has some. -/
theorem own_form {w : World} {B : Nat} {e : TypeId} {a : Option Addr} {n c : Nat} {xs : List Value} (h : w.ownsRow B e 1 (.slice a n c) n xs) (hn : 0 < n) : ∃ g, a = some ⟨g, 0, none⟩ ∧ g < w.heap.size ∧ n ≤ c ∧ c ≤ maxLen ∧ (∀ j v, xs[j]? = some v → w.cell? ⟨g, j, none⟩ = some v) ∧ ∀ j, w.frozen? ⟨g, j, none⟩ = false := by
  have hh := h
  rcases h.2 with ⟨h1, h2⟩ | ⟨g, cap, cur, h1, hb, hg, hle, hm, _⟩
  · omega
  · injection h1 with h1 h2 h3
    subst h1 h3
    refine ⟨g, rfl, (Array.getElem?_eq_some_iff.1 hg).1, hle, hm, fun j v hj => ?_, fun j => frozen_of_row w g j cur _ hg⟩
    have hl := hh.1
    rw [hh.cellAt j (by have := (List.getElem?_eq_some_iff.1 hj).1; omega)]
    exact hj
theorem own_put {w : World} {B : Nat} {e : TypeId} {g n c i : Nat} {xs : List Value} (h : w.ownsRow B e 1 (.slice (some ⟨g, 0, none⟩) n c) n xs) (u : Value) : (w.setCell ⟨g, i, none⟩ u).ownsRow B e 1 (.slice (some ⟨g, 0, none⟩) n c) n (xs.set i u) := (h.stored i u).1

def Rf.upd (x : Rf) (k : Nat) (o : RO) : Rf := { x with L := x.L.set k o }
theorem mem_set {L : List RO} {k : Nat} {o' p : RO} (hp : p ∈ L.set k o') : p = o' ∨ ∃ j, j ≠ k ∧ L[j]? = some p := by
  obtain ⟨j, hj⟩ := List.mem_iff_getElem?.1 hp
  rw [List.getElem?_set] at hj
  by_cases e : k = j
  · subst e
    rw [if_pos rfl] at hj
    split at hj
    · injection hj with hj; exact .inl hj.symm
    · simp at hj
  · rw [if_neg e] at hj; exact .inr ⟨j, fun e' => e e'.symm, hj⟩
theorem RfIs.updF {B : Nat} {w : World} {x : Rf} (h : RfIs B w x) {k i g v : Nat} {o : RO} (hk : x.L[k]? = some o) (hg : o.fa = some ⟨g, 0, none⟩) (hi : i < o.fs.length) : RfIs B (w.setCell ⟨g, i, none⟩ (.int .u64 v)) (x.upd k { o with fs := o.fs.set i v }) ∧ B ≤ g := by
  have hr := h.rows o (List.mem_of_getElem? hk)
  have hfb : o.fv.ownBlock = some g := by show Value.ownBlock (.slice o.fa _ _) = _; rw [hg]; rfl
  obtain ⟨hgB, hgl⟩ := hr.1.lt g hfb
  have t : Turn (fun k => k = g) w (w.setCell ⟨g, i, none⟩ (.int .u64 v)) := (Turn.refl (fun k => k = g) w).setCell (fun _ => rfl) _
  have n1 : x.gx ≠ g := fun e => own_type hr.1 h.blk (by decide) (by rw [hfb, e])
  have n2 : ∀ b, x.lv.ownBlock = some b → b ≠ g := fun b hb e => by
    subst e
    rcases own_types h.row hr.1 (by decide) with e1 | e1
    · rw [hb] at e1; simp at e1
    · exact e1 (hb.trans hfb.symm)
  have hcs : ({ o with fs := o.fs.set i v } : RO).cells = o.cells := by simp [RO.cells, RO.fv]
  refine ⟨{ h with le := Nat.le_trans h.le t.size, blk := h.blk.of_block (t.block _ h.blk.lt n1), lays := ?_, row := ?_, rows := ?_, apart := ?_, few := ?_ }, hgB⟩
  · exact ⟨fun hl => by
      obtain ⟨b, off, e, hb, hc⟩ := h.lays.at_ hl
      have hbB := h.old b off e hl
      refine ⟨b, off, e, Nat.lt_of_lt_of_le hb t.size, fun j hj => ?_⟩
      have hn : ¬ b = g := by omega
      exact ⟨by rw [t.cell (p := ⟨b, _, none⟩) hb hn]; exact (hc j hj).1, by rw [t.cell (p := ⟨b, _, none⟩) hb hn]; exact (hc j hj).2⟩⟩
  · have := own_keep h.row t n2
    unfold Rf.upd
    simp only [List.length_set]
    rw [flat_set_same x.L k o _ hk hcs]
    exact this
  · intro p hp
    rcases mem_set hp with rfl | ⟨j, hjk, hj⟩
    · refine ⟨?_, own_keep hr.2 t fun b hb e => ?_⟩
      · have h1 := hr.1
        rw [show o.fv = .slice (some ⟨g, 0, none⟩) o.fs.length o.fc by show Value.slice o.fa _ _ = _; rw [hg]] at h1
        have h2 := own_put (i := i) h1 (.int .u64 (v : Int))
        show World.ownsRow _ B _ 1 (.slice o.fa (o.fs.set i v).length o.fc) (o.fs.set i v).length ((o.fs.set i v).map fun v : Nat => Value.int .u64 (v : Int))
        rw [List.map_set, List.length_set, hg]
        exact h2
      · subst e
        rcases own_types hr.2 hr.1 (by decide) with e1 | e1
        · rw [hb] at e1; simp at e1
        · exact e1 (hb.trans hfb.symm)
    · have hpr := h.rows p (List.mem_of_getElem? hj)
      refine ⟨own_keep hpr.1 t fun b hb e => ?_, own_keep hpr.2 t fun b hb e => ?_⟩
      · subst e; exact h.apart_f hj hk hjk hfb hb
      · subst e
        rcases own_types hpr.2 hr.1 (by decide) with e1 | e1
        · rw [hb] at e1; simp at e1
        · exact e1 (hb.trans hfb.symm)
  · unfold Rf.upd
    rw [map_set_same RO.blocks x.L k o _ hk (by simp [RO.blocks, RO.fv, hg, Value.ownBlock])]
    exact h.apart
  · unfold Rf.upd; simpa using h.few
theorem RfIs.updB {B : Nat} {w : World} {x : Rf} (h : RfIs B w x) {k i g v : Nat} {o : RO} (hk : x.L[k]? = some o) (hg : o.ba = some ⟨g, 0, none⟩) (hi : i < o.bs.length) : RfIs B (w.setCell ⟨g, i, none⟩ (.int .u8 v)) (x.upd k { o with bs := o.bs.set i v }) ∧ B ≤ g := by
  have hr := h.rows o (List.mem_of_getElem? hk)
  have hfb : o.bv.ownBlock = some g := by show Value.ownBlock (.slice o.ba _ _) = _; rw [hg]; rfl
  obtain ⟨hgB, hgl⟩ := hr.2.lt g hfb
  have t : Turn (fun k => k = g) w (w.setCell ⟨g, i, none⟩ (.int .u8 v)) := (Turn.refl (fun k => k = g) w).setCell (fun _ => rfl) _
  have n1 : x.gx ≠ g := fun e => own_type hr.2 h.blk (by decide) (by rw [hfb, e])
  have n2 : ∀ b, x.lv.ownBlock = some b → b ≠ g := fun b hb e => by
    subst e
    rcases own_types h.row hr.2 (by decide) with e1 | e1
    · rw [hb] at e1; simp at e1
    · exact e1 (hb.trans hfb.symm)
  have hcs : ({ o with bs := o.bs.set i v } : RO).cells = o.cells := by simp [RO.cells, RO.bv]
  refine ⟨{ h with le := Nat.le_trans h.le t.size, blk := h.blk.of_block (t.block _ h.blk.lt n1), lays := ?_, row := ?_, rows := ?_, apart := ?_, few := ?_ }, hgB⟩
  · exact ⟨fun hl => by
      obtain ⟨b, off, e, hb, hc⟩ := h.lays.at_ hl
      have hbB := h.old b off e hl
      refine ⟨b, off, e, Nat.lt_of_lt_of_le hb t.size, fun j hj => ?_⟩
      have hn : ¬ b = g := by omega
      exact ⟨by rw [t.cell (p := ⟨b, _, none⟩) hb hn]; exact (hc j hj).1, by rw [t.cell (p := ⟨b, _, none⟩) hb hn]; exact (hc j hj).2⟩⟩
  · have := own_keep h.row t n2
    unfold Rf.upd
    simp only [List.length_set]
    rw [flat_set_same x.L k o _ hk hcs]
    exact this
  · intro p hp
    rcases mem_set hp with rfl | ⟨j, hjk, hj⟩
    · refine ⟨own_keep hr.1 t fun b hb e => ?_, ?_⟩
      · subst e
        rcases own_types hr.1 hr.2 (by decide) with e1 | e1
        · rw [hb] at e1; simp at e1
        · exact e1 (hb.trans hfb.symm)
      · have h1 := hr.2
        rw [show o.bv = .slice (some ⟨g, 0, none⟩) o.bs.length o.bc by show Value.slice o.ba _ _ = _; rw [hg]] at h1
        have h2 := own_put (i := i) h1 (.int .u8 (v : Int))
        show World.ownsRow _ B _ 1 (.slice o.ba (o.bs.set i v).length o.bc) (o.bs.set i v).length ((o.bs.set i v).map fun v : Nat => Value.int .u8 (v : Int))
        rw [List.map_set, List.length_set, hg]
        exact h2
    · have hpr := h.rows p (List.mem_of_getElem? hj)
      refine ⟨own_keep hpr.1 t fun b hb e => ?_, own_keep hpr.2 t fun b hb e => ?_⟩
      · subst e
        rcases own_types hpr.1 hr.2 (by decide) with e1 | e1
        · rw [hb] at e1; simp at e1
        · exact e1 (hb.trans hfb.symm)
      · subst e; exact h.apart_b hj hk hjk hfb hb
  · unfold Rf.upd
    rw [map_set_same RO.blocks x.L k o _ hk (by simp [RO.blocks, RO.bv, hg, Value.ownBlock])]
    exact h.apart
  · unfold Rf.upd; simpa using h.few

/-- What Find answers. -/
def FindNo (x : Rf) (i : Int) (w : World) : Prop := Calls Try.prog 48 #[x.ptr, .int .i64 i] w fun e w' => e = .returned (.int .i64 (-1)) ∧ Still w w'
def FindAt (x : Rf) (k : Nat) (i : Int) (w : World) : Prop := Calls Try.prog 48 #[x.ptr, .int .i64 i] w fun e w' => e = .returned (.int .i64 k) ∧ Still w w'
theorem refSet_no {B : Nat} (x : Rf) (a i v : Int) (w : World) (h : RfIs B w x) (hf : FindNo x a w) : Calls Try.prog 56 #[x.ptr, .int .i64 a, .int .i64 i, .int .u64 v] w fun e w' => e = .returned (.int .i64 1) ∧ Still w w' := by
  unfold FindNo at hf
  clear h
  go_enter Try.func56, Try.ntmps56
  go_wp2_with fail
  refine hf.mono ?_; rintro e w1 ⟨rfl, t1⟩
  have HT := Lib.hid t1; clear t1
  go_wp2_with fail
  go_ret
  exact ⟨rfl, HT.out⟩
theorem refSet_out {B : Nat} (x : Rf) (a i v : Int) (k : Nat) (o : RO) (w : World) (h : RfIs B w x) (hk : x.L[k]? = some o) (hf : FindAt x k a w) (hi : i < 0 ∨ (o.fs.length : Int) ≤ i) : Calls Try.prog 56 #[x.ptr, .int .i64 a, .int .i64 i, .int .u64 v] w fun e w' => e = .returned (.int .i64 1) ∧ Still w w' := by
  unfold FindAt at hf
  have hkl : k < x.L.length := (List.getElem?_eq_some_iff.1 hk).1
  by_cases hi0 : i < 0
  · clear hi h
    go_enter Try.func56, Try.ntmps56
    go_wp2_with fail
    refine hf.mono ?_; rintro e w1 ⟨rfl, t1⟩
    have HT := Lib.hid t1; clear t1
    go_wp2_with fail
    go_ret
    exact ⟨rfl, HT.out⟩
  · have hi1 : (o.fs.length : Int) ≤ i := by omega
    have HH := Lib.hid h
    have HK := Lib.hid hk
    clear hi h hk
    go_enter Try.func56, Try.ntmps56
    go_wp2_with fail
    refine hf.mono ?_; rintro e w1 ⟨rfl, t1⟩
    have c2 := (HH.out.still t1).c2
    have hfew := HH.out.few
    rcases (HH.out.still t1).lv_form with ⟨h1, h0⟩ | ⟨g, cap, h1, hg, hb, hle, hm, hff, hc⟩
    · rw [h0] at hkl; simp at hkl
    rw [h1] at c2
    obtain ⟨d0, d1, d2, d3, d4⟩ := hc k o HK.out
    unfold maxLen at hm
    have HT := Lib.hid t1; clear t1 hc hff d0 d1 d2 d4 h1
    go_wp2_with fail
    go_ret
    exact ⟨rfl, HT.out⟩
theorem refSet_unfit {B : Nat} (x : Rf) (a v : Int) (i : Nat) (k : Nat) (o : RO) (w : World) (h : RfIs B w x) (hk : x.L[k]? = some o) (hf : FindAt x k a w) (hi : i < o.fs.length) (v0 : 0 ≤ v) (v1 : v < 18446744073709551616) (hv : x.fits v = false) : Calls Try.prog 56 #[x.ptr, .int .i64 a, .int .i64 i, .int .u64 v] w fun e w' => e = .returned (.int .i64 1) ∧ Still w w' := by
  unfold FindAt at hf
  have hkl : k < x.L.length := (List.getElem?_eq_some_iff.1 hk).1
  have HFF := fun W (hW : RfIs B W x) => refFits_any x v W hW v0 v1
  rw [hv] at HFF
  have HH := Lib.hid h
  have HK := Lib.hid hk
  clear h hk hv
  go_enter Try.func56, Try.ntmps56
  go_wp2_with fail
  refine hf.mono ?_; rintro e w1 ⟨rfl, t1⟩
  have c2 := (HH.out.still t1).c2
  have hfew := HH.out.few
  rcases (HH.out.still t1).lv_form with ⟨h1, h0⟩ | ⟨g, cap, h1, hg, hb, hle, hm, hff, hc⟩
  · rw [h0] at hkl; simp at hkl
  rw [h1] at c2
  obtain ⟨d0, d1, d2, d3, d4⟩ := hc k o HK.out
  unfold maxLen at hm
  have HT := Lib.hid t1; clear t1 hc hff d0 d1 d2 d4 h1
  go_wp2_with fail
  refine (HFF _ (HH.out.still HT.out)).mono ?_; rintro e w2 ⟨rfl, t2⟩
  have HT2 := Lib.hid (HT.out.trans t2); clear t2
  go_wp2_with fail
  go_ret
  exact ⟨rfl, HT2.out⟩
set_option maxHeartbeats 1000000 in
theorem refSet_ok {B : Nat} (x : Rf) (a : Int) (v i : Nat) (k : Nat) (o : RO) (w : World) (h : RfIs B w x) (hk : x.L[k]? = some o) (hf : FindAt x k a w) (hi : i < o.fs.length) (v1 : v < 18446744073709551616) (hv : x.fits v = true) :
    Calls Try.prog 56 #[x.ptr, .int .i64 a, .int .i64 i, .int .u64 v] w fun e w' => e = .returned (.int .i64 0) ∧ RfIs B w' (x.upd k { o with fs := o.fs.set i v }) ∧ Turn (fun b => o.fv.ownBlock = some b) w w' := by
  unfold FindAt at hf
  have hkl : k < x.L.length := (List.getElem?_eq_some_iff.1 hk).1
  have HFF := fun W (hW : RfIs B W x) => refFits_any x v W hW (by omega) (by omega)
  rw [hv] at HFF
  have HH := Lib.hid h
  have HK := Lib.hid hk
  clear h hk hv
  go_enter Try.func56, Try.ntmps56
  go_wp2_with fail
  refine hf.mono ?_; rintro e w1 ⟨rfl, t1⟩
  have c2 := (HH.out.still t1).c2
  have hfew := HH.out.few
  rcases (HH.out.still t1).lv_form with ⟨h1, h0⟩ | ⟨g, cap, h1, hg, hb, hle, hm, hff, hc⟩
  · rw [h0] at hkl; simp at hkl
  rw [h1] at c2
  obtain ⟨d0, d1, d2, d3, d4⟩ := hc k o HK.out
  unfold maxLen at hm
  have HT := Lib.hid t1; clear t1 hc hff d0 d1 d2 d4 h1
  go_wp2_with fail
  refine (HFF _ (HH.out.still HT.out)).mono ?_; rintro e w2 ⟨rfl, t2⟩
  have ht2 := HT.out.trans t2
  have H2 := HH.out.still ht2
  obtain ⟨gf, ha, hgf, hcf, hcm, hcell, hfr⟩ := own_form (H2.rows o (List.mem_of_getElem? HK.out)).1 (by omega)
  obtain ⟨u, hu⟩ : ∃ u, (o.fs.map fun v : Nat => Value.int .u64 (v : Int))[i]? = some u := ⟨_, List.getElem?_eq_getElem (by simpa using hi)⟩
  have ci := hcell i u hu
  have cf := hfr i
  have c2' : w2.cell? ⟨x.gx, 2, none⟩ = some (.slice (some ⟨g, 0, none⟩) x.L.length cap) := by rw [t2.cell (p := ⟨x.gx, 2, none⟩) ((HH.out.still HT.out).blk.lt)]; exact c2
  have d3' : w2.cell? ⟨g, k * 5 + 3, none⟩ = some (.slice (some ⟨gf, 0, none⟩) o.fs.length o.fc) := by rw [t2.cell (p := ⟨g, k * 5 + 3, none⟩) hg, d3]; show some (Value.slice o.fa _ _) = _; rw [ha]
  have HT2 := Lib.hid ht2
  have HA := Lib.hid ha
  have HH2 := Lib.hid H2
  clear ht2 t2 H2 hcell hfr hu c2 d3 ha
  go_wp2_with fail
  go_ret
  obtain ⟨r1, r2⟩ := HH2.out.updF (v := v) HK.out HA.out hi
  exact ⟨rfl, r1, (Still.turn HT2.out).setCell (fun _ => by show Value.ownBlock (.slice o.fa _ _) = _; rw [HA.out]; rfl) _⟩
end Go.Proofs.Ythfkgkddklnnhaa
/- The document's own SetByte and Get of layer 2. -/
namespace Go.Proofs.Ythfkgkddklnnhaa
set_option linter.unusedVariables false
open Go.ChangeShapes Go.WideShapes Go.ChangeAt Go.RowKit
open M (W)

theorem refSetByte_no {B : Nat} (x : Rf) (a i v : Int) (w : World) (h : RfIs B w x) (hf : FindNo x a w) : Calls Try.prog 58 #[x.ptr, .int .i64 a, .int .i64 i, .int .u8 v] w fun e w' => e = .returned (.int .i64 1) ∧ Still w w' := by
  unfold FindNo at hf
  clear h
  go_enter Try.func58, Try.ntmps58
  go_wp2_with fail
  refine hf.mono ?_; rintro e w1 ⟨rfl, t1⟩
  have HT := Lib.hid t1; clear t1
  go_wp2_with fail
  go_ret
  exact ⟨rfl, HT.out⟩
theorem refSetByte_out {B : Nat} (x : Rf) (a i v : Int) (k : Nat) (o : RO) (w : World) (h : RfIs B w x) (hk : x.L[k]? = some o) (hf : FindAt x k a w) (hi : i < 0 ∨ (o.bs.length : Int) ≤ i) : Calls Try.prog 58 #[x.ptr, .int .i64 a, .int .i64 i, .int .u8 v] w fun e w' => e = .returned (.int .i64 1) ∧ Still w w' := by
  unfold FindAt at hf
  have hkl : k < x.L.length := (List.getElem?_eq_some_iff.1 hk).1
  by_cases hi0 : i < 0
  · clear hi h
    go_enter Try.func58, Try.ntmps58
    go_wp2_with fail
    refine hf.mono ?_; rintro e w1 ⟨rfl, t1⟩
    have HT := Lib.hid t1; clear t1
    go_wp2_with fail
    go_ret
    exact ⟨rfl, HT.out⟩
  · have hi1 : (o.bs.length : Int) ≤ i := by omega
    have HH := Lib.hid h
    have HK := Lib.hid hk
    clear hi h hk
    go_enter Try.func58, Try.ntmps58
    go_wp2_with fail
    refine hf.mono ?_; rintro e w1 ⟨rfl, t1⟩
    have c2 := (HH.out.still t1).c2
    have hfew := HH.out.few
    rcases (HH.out.still t1).lv_form with ⟨h1, h0⟩ | ⟨g, cap, h1, hg, hb, hle, hm, hff, hc⟩
    · rw [h0] at hkl; simp at hkl
    rw [h1] at c2
    obtain ⟨d0, d1, d2, d3, d4⟩ := hc k o HK.out
    unfold maxLen at hm
    have HT := Lib.hid t1; clear t1 hc hff d0 d1 d2 d3 h1
    go_wp2_with fail
    go_ret
    exact ⟨rfl, HT.out⟩
set_option maxHeartbeats 1000000 in
theorem refSetByte_ok {B : Nat} (x : Rf) (a : Int) (v i : Nat) (k : Nat) (o : RO) (w : World) (h : RfIs B w x) (hk : x.L[k]? = some o) (hf : FindAt x k a w) (hi : i < o.bs.length) :
    Calls Try.prog 58 #[x.ptr, .int .i64 a, .int .i64 i, .int .u8 v] w fun e w' => e = .returned (.int .i64 0) ∧ RfIs B w' (x.upd k { o with bs := o.bs.set i v }) ∧ Turn (fun b => o.bv.ownBlock = some b) w w' := by
  unfold FindAt at hf
  have hkl : k < x.L.length := (List.getElem?_eq_some_iff.1 hk).1
  have HH := Lib.hid h
  have HK := Lib.hid hk
  clear h hk
  go_enter Try.func58, Try.ntmps58
  go_wp2_with fail
  refine hf.mono ?_; rintro e w1 ⟨rfl, t1⟩
  have c2 := (HH.out.still t1).c2
  have hfew := HH.out.few
  rcases (HH.out.still t1).lv_form with ⟨h1, h0⟩ | ⟨g, cap, h1, hg, hb, hle, hm, hff, hc⟩
  · rw [h0] at hkl; simp at hkl
  rw [h1] at c2
  obtain ⟨d0, d1, d2, d3, d4⟩ := hc k o HK.out
  unfold maxLen at hm
  have ht2 := t1
  have H2 := HH.out.still ht2
  obtain ⟨gf, ha, hgf, hcf, hcm, hcell, hfr⟩ := own_form (H2.rows o (List.mem_of_getElem? HK.out)).2 (by omega)
  obtain ⟨u, hu⟩ : ∃ u, (o.bs.map fun v : Nat => Value.int .u8 (v : Int))[i]? = some u := ⟨_, List.getElem?_eq_getElem (by simpa using hi)⟩
  have ci := hcell i u hu
  have cf := hfr i
  have d4' : w1.cell? ⟨g, k * 5 + 4, none⟩ = some (.slice (some ⟨gf, 0, none⟩) o.bs.length o.bc) := by rw [d4]; show some (Value.slice o.ba _ _) = _; rw [ha]
  have HT2 := Lib.hid ht2
  have HA := Lib.hid ha
  have HH2 := Lib.hid H2
  clear ht2 t1 H2 hcell hfr hu d0 d1 d2 d3 d4 hc hff h1 ha
  go_wp2_with fail
  go_ret
  obtain ⟨r1, r2⟩ := HH2.out.updB (v := v) HK.out HA.out hi
  exact ⟨rfl, r1, (Still.turn HT2.out).setCell (fun _ => by show Value.ownBlock (.slice o.ba _ _) = _; rw [HA.out]; rfl) _⟩

end Go.Proofs.Ythfkgkddklnnhaa
/- append onto a row of the call's own, its form told: in a plain region and in one that draws. No program in sight. -/
namespace Go.Proofs.Ythfkgkddklnnhaa
set_option linter.unusedVariables false
open Go.RowKit
variable {P : Program}

theorem run_append_form (w : World) (base : Nat) (t ty e : TypeId) (size bytes : Nat) (z : Value) (ht : P.underlying t = some (.slice e)) (hi : (P.info? e).map (fun i => (i.zero, i.size, i.bytes)) = some (some z, size, bytes))
    (hzs : z.cells.size = size) (hsz : 0 < size) (a : Option Addr) (n c : Nat) (xs : List Value) (hown : w.ownsRow base e size (.slice a n c) n xs)
    (ad : Addr) (m c' : Nat) (news : List Value) (hl : news.length = m * size) (hnews : ∀ j u, news[j]? = some u → w.cell? (ad.add j) = some u) (h1 : ∀ u ∈ news, u.oneCell' = true) (hm : 0 < m)
    (h63 : n + m ≤ maxLen) (hbytes : (n + m) * bytes ≤ 140737488355328) (hbase : base ≤ w.heap.size) :
    ∃ g cap w', (Builtin.append_ #[t, t] ty #[.slice a n c, .slice (some ad) m c']).run P w = .ok (.slice (some ⟨g, 0, none⟩) (n + m) cap) w' ∧ w'.ownsRow base e size (.slice (some ⟨g, 0, none⟩) (n + m) cap) (n + m) (xs ++ news) ∧
      Turn (fun k => (Value.slice a n c).ownBlock = some k) w w' ∧ ((Value.slice a n c).ownBlock = some g ∨ w.heap.size ≤ g) := by
  obtain ⟨i, hi', hzz⟩ := Option.map_eq_some_iff.1 hi
  simp only [Prod.mk.injEq] at hzz
  obtain ⟨hz, hs, hb⟩ := hzz
  obtain ⟨v', w', hrun, h2, h3, _, h5⟩ := run_append_own_at (P := P) w base t ty e i z size bytes ht hi' hz hs hb hzs hsz (.slice a n c) n xs hown ad m c' news hl hnews h1 h63 hbytes hbase
  have h2' := h2
  rcases h2.2 with ⟨_, h0⟩ | ⟨g, cap, cur, rfl, _⟩
  · omega
  · refine ⟨g, cap, w', hrun, h2', ?_, ?_⟩
    · exact (Turn.refl (fun k => (Value.slice a n c).ownBlock = some k) w).grown h3 (fun k hk _ => hk)
    · rcases h5 with h5 | h5
      · exact .inl h5.symm
      · right
        have : g = w.heap.size := by simpa [Value.ownBlock] using h5
        omega
theorem wpList_append_form {w : World} {ops : Array Oper} {rest : List Oper} {o : Oper} {act : Act} {Q : Exit → Act → World → Prop} (hgd : o.guard = none) (s x : Operand) (t : TypeId)
    (ho : o.op = .call { callee := .builtin .append, args := #[s, x], argTypes := #[t, t] })
    (base : Nat) (e : TypeId) (size bytes : Nat) (z : Value) (ht : P.underlying t = some (.slice e)) (hi : (P.info? e).map (fun i => (i.zero, i.size, i.bytes)) = some (some z, size, bytes))
    (hzs : z.cells.size = size) (hsz : 0 < size) (a : Option Addr) (n c : Nat) (xs : List Value) (hs : act.eval s = .slice a n c) (hown : w.ownsRow base e size (.slice a n c) n xs)
    (ad : Addr) (m c' : Nat) (news : List Value) (hx : act.eval x = .slice (some ad) m c') (hl : news.length = m * size) (hnews : ∀ j u, news[j]? = some u → w.cell? (ad.add j) = some u) (h1 : ∀ u ∈ news, u.oneCell' = true) (hm : 0 < m)
    (h63 : n + m ≤ maxLen) (hbytes : (n + m) * bytes ≤ 140737488355328) (hbase : base ≤ w.heap.size)
    (h : ∀ g cap w', Hid (w'.ownsRow base e size (.slice (some ⟨g, 0, none⟩) (n + m) cap) (n + m) (xs ++ news)) → Hid (Turn (fun k => (Value.slice a n c).ownBlock = some k) w w') → Hid ((Value.slice a n c).ownBlock = some g ∨ w.heap.size ≤ g) →
      wpList P ops Q rest (act.put o.dst (.slice (some ⟨g, 0, none⟩) (n + m) cap)) w') : wpList P ops Q (o :: rest) act w := by
  obtain ⟨g, cap, w', hrun, h2, h3, h4⟩ := run_append_form (P := P) w base t o.type e size bytes z ht hi hzs hsz a n c xs hown ad m c' news hl hnews h1 hm h63 hbytes hbase
  refine wpList_plain hgd fun K hK => ?_
  unfold Oper.wp
  simp [execOp, ho, resolve, invoke, builtin, hs, hx, hrun, Result.andThen]
  exact hK _ _ (h g cap w' h2 h3 h4)
theorem step_append_form {w : World} {ops : Array Oper} {o : Oper} {act : Act} {K : Act → World → Prop} {Q : Exit → Act → World → Prop} {E : Prop} (hgd : o.guard = none) (s x : Operand) (t : TypeId)
    (ho : o.op = .call { callee := .builtin .append, args := #[s, x], argTypes := #[t, t] })
    (base : Nat) (e : TypeId) (size bytes : Nat) (z : Value) (ht : P.underlying t = some (.slice e)) (hi : (P.info? e).map (fun i => (i.zero, i.size, i.bytes)) = some (some z, size, bytes))
    (hzs : z.cells.size = size) (hsz : 0 < size) (a : Option Addr) (n c : Nat) (xs : List Value) (hs : act.eval s = .slice a n c) (hown : w.ownsRow base e size (.slice a n c) n xs)
    (ad : Addr) (m c' : Nat) (news : List Value) (hx : act.eval x = .slice (some ad) m c') (hl : news.length = m * size) (hnews : ∀ j u, news[j]? = some u → w.cell? (ad.add j) = some u) (h1 : ∀ u ∈ news, u.oneCell' = true) (hm : 0 < m)
    (h63 : n + m ≤ maxLen) (hbytes : (n + m) * bytes ≤ 140737488355328) (hbase : base ≤ w.heap.size)
    (h : ∀ g cap w', Hid (w'.ownsRow base e size (.slice (some ⟨g, 0, none⟩) (n + m) cap) (n + m) (xs ++ news)) → Hid (Turn (fun k => (Value.slice a n c).ownBlock = some k) w w') → Hid ((Value.slice a n c).ownBlock = some g ∨ w.heap.size ≤ g) →
      K (act.put o.dst (.slice (some ⟨g, 0, none⟩) (n + m) cap)) w') : if Region.wanted o (yielded ops act.tmps) = true then Oper.wp P o act w K Q else E := by
  have hw : Region.wanted o (yielded ops act.tmps) = true := by simp [Region.wanted, hgd]
  rw [if_pos hw]
  obtain ⟨g, cap, w', hrun, h2, h3, h4⟩ := run_append_form (P := P) w base t o.type e size bytes z ht hi hzs hsz a n c xs hown ad m c' news hl hnews h1 hm h63 hbytes hbase
  unfold Oper.wp
  simp [execOp, ho, resolve, invoke, builtin, hs, hx, hrun, Result.andThen]
  exact h g cap w' h2 h3 h4
end Go.Proofs.Ythfkgkddklnnhaa
