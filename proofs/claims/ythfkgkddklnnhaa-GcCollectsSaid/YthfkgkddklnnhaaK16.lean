/- Lemmas, put together: Look2 LookB RightOps Reach. -/
import Derived.Test.YthfkgkddklnnhaaK15
import Derived.Test.YthfkgkddklnnhaaK08
import Derived.Test.YthfkgkddklnnhaaK14
import Derived.Test.YthfkgkddklnnhaaK05
/- The contract of gc's look. -/
namespace Go.Proofs.Ythfkgkddklnnhaa
set_option linter.unusedVariables false
open Go.ChangeShapes Go.WideShapes Go.ChangeAt Go.RowKit
open M (W)

/-- What tell may not turn. -/
def Stays (s : St) (c : Cl) (bx bt k : Nat) : Prop := k = s.g ∨ k = s.gw ∨ k = s.gl ∨ k = c.g ∨ k = c.gr ∨ k = bx ∨ k = bt
theorem GcIs.keep {w w' : World} {s : St} {c : Cl} {m : Nat → Nat} {S : Nat → Prop} (h : GcIs w s c m) (t : Turn S w w') (h1 : ¬ S s.g) (h2 : ¬ S s.gw) (h3 : ¬ S s.gl) (h4 : ¬ S c.g) (h5 : ¬ S c.gr) : GcIs w' s c m :=
  ⟨{ hp := h.is.hp.keep t h1 h2 h3, blk := h.is.blk.of_block (t.block _ h.is.blk.lt h4), roots := h.is.roots.of_block (t.block _ h.is.roots.lt h5), rs_lt := h.is.rs_lt, r_le := h.is.r_le, ne := h.is.ne }, h.lt⟩
theorem GcIs.ne_blk {W : World} {s : St} {c : Cl} {m : Nat → Nat} {b : Nat} {t : TypeId} {cs : Array Value} (h : GcIs W s c m) (hb : Blk W b t cs) (ht : 33 ≠ t) : b ≠ s.gw ∧ b ≠ c.gr := by
  refine ⟨fun e => ?_, fun e => ?_⟩
  · obtain ⟨x, hx, _⟩ := h.is.hp.words
    have h' := hb
    unfold Blk at h'
    rw [e] at h'
    change W.heap[s.gw]? = _ at hx
    rw [hx] at h'; injection h' with h'; injection h' with _ e2; exact ht e2
  · obtain ⟨x, hx, _⟩ := h.is.roots
    have h' := hb
    unfold Blk at h'
    rw [e] at h'
    change W.heap[c.gr]? = _ at hx
    rw [hx] at h'; injection h' with h'; injection h' with _ e2; exact ht e2
/-- The memory while marks are taken: before p as it was, from p on as it is marked. -/
def M.mix (p : Nat) (m0 m1 : Nat → Nat) : Nat → Nat := fun k => if k < p then m0 k else m1 k
/-- Which objects are marked: where they stand. -/
def M.mkl (mk : Nat → Bool) (L : List RO) : List Nat := (L.filter fun o => mk o.at_).map RO.at_
theorem mkl_step {mk : Nat → Bool} {L : List RO} {j : Nat} {o : RO} (h : L[j]? = some o) : M.mkl mk (L.take (j + 1)) = M.mkl mk (L.take j) ++ (if mk o.at_ = true then [o.at_] else []) := by
  unfold M.mkl
  rw [List.take_add_one, h]
  simp only [Option.toList, List.filter_append, List.map_append, List.filter_cons, List.filter_nil]
  split <;> rfl
theorem mkl_len (mk : Nat → Bool) (L : List RO) : (M.mkl mk L).length ≤ L.length := by
  unfold M.mkl
  rw [List.length_map]
  exact List.length_filter_le _ _
theorem tile_at {s : St} {top : Nat} (m : Nat → Nat) : ∀ {L : List RO} {p : Nat}, TileTo s top p L → TileTo (s.at m) top p L
  | [], p, h => h
  | o :: L, p, h => ⟨h.1, tile_at m h.2⟩
/-- The words of a heap, and roots behind them, lie as the words do. -/
theorem LaidAs.mem {s : St} {L : List RO} (h : LaidAs s s.top L) (htop : s.top ≤ s.n) (rv : Nat → Nat) : LaidAs (s.at (s.mem rv)) s.top L := by
  refine ⟨tile_at _ h.tile, fun o ho => (h.good o ho).keep rfl rfl rfl fun i i1 i2 => ?_, h.fit⟩
  have := h.tile.in.2 o ho
  show s.mem rv i = s.ws i
  unfold St.mem
  rw [if_pos (by omega)]
/-- What is closed as it is. -/
theorem as_mem (s : St) (L : List RO) (rv : Nat → Nat) (htop : s.top ≤ s.n) : ((s.as L).at ((s.as L).mem rv)).closed (s.as L).top (L.map RO.at_) = s.as L := by
  unfold St.as St.closed St.at St.mem
  simp only
  congr 1
  funext i
  by_cases h : i < s.top
  · rw [if_pos h, if_pos (by omega), if_pos h]
  · rw [if_neg h, if_neg h]
/-- What a look needs to know of tell: J says what has come of it when the first j objects are gone by. -/
structure Telling (s : St) (c : Cl) (L : List RO) (w : World) (fid : FuncId) (caps : Array Value) (J : (Nat → Bool) → Nat → World → Prop) : Prop where
  start : ∀ mk, J mk 0 w
  turn : ∀ mk j W W', J mk j W → Turn (fun b => b = s.g ∨ b = s.gw ∨ b = c.gr) W W' → J mk j W'
  skip : ∀ mk j o W, L[j]? = some o → mk o.at_ = false → J mk j W → J mk (j + 1) W
  step : ∀ mk j o W bx bt m, L[j]? = some o → mk o.at_ = true → w.heap.size ≤ bx → w.heap.size ≤ bt → GcIs W s c m → Boxed W bx c → Blk W bt 111 #[.func (.func fid) #[] caps] → J mk j W →
    Calls Try.prog fid (#[.int .i64 o.at_] ++ caps) W fun e w' => e = .returned (.tuple #[]) ∧ Turn (fun k => ¬ Stays s c bx bt k) W w' ∧ J mk (j + 1) w'
set_option maxRecDepth 100000 in
theorem look_each (s : St) (c : Cl) (L : List RO) (rv : Nat → Nat) (R : Nat → Prop) (fid : FuncId) (hfid : ∀ args W, (callFunc fid args).run Try.prog W = .ok (.enter fid args) W) (caps : Array Value) (J : (Nat → Bool) → Nat → World → Prop) (w0 w : World) (mk : Nat → Bool) (m1 : Nat → Nat) (bx bt : Nat)
    (hT : Telling s c L w0 fid caps J) (hF : Field s L (s.mem rv) mk c.r) (hneed : ∀ o ∈ L, s.needOf o.sh o.n = s.sz o ∧ o.sh < 512 ∧ o.n ≤ 65536 ∧ 1 ≤ s.sz o) (hM : Marked s L (s.mem rv) R mk m1)
    (h : GcIs w s c m1) (hbx : Boxed w bx c) (hbt : Blk w bt 111 #[.func (.func fid) #[] caps]) (b1 : w0.heap.size ≤ bx) (b2 : w0.heap.size ≤ bt) (hJ : J mk 0 w) :
    Calls Try.prog 79 #[c.ptr, .func (.func 92) #[] #[.pointer (some ⟨bx, 0, none⟩), .pointer (some ⟨bt, 0, none⟩)]] w fun e w' => e = .returned (.int .i64 (M.tof s mk L s.top : Nat)) ∧ GcIs w' s c (s.mem rv) ∧ Boxed w' bx c ∧ J mk L.length w' := by
  have hGo := hF.goes
  have hz : ∀ o ∈ L, 1 ≤ s.sz o := fun o ho => (hneed o ho).2.2.2
  have hfar := hF.tile.far hz
  have gcT : ∀ W W', Turn (fun b => b = s.gw ∨ b = c.gr) W W' → Turn (fun b => b = s.g ∨ b = s.gw ∨ b = c.gr) W W' := fun W W' t => t.mono fun k _ e => e.elim (fun e => .inr (.inl e)) (fun e => .inr (.inr e))
  have btne : ∀ W m, GcIs W s c m → Blk W bt 111 #[.func (.func fid) #[] caps] → bt ≠ s.gw ∧ bt ≠ c.gr := fun W m hg hb => hg.ne_blk hb (by decide)
  have hend : M.mix s.top (s.mem rv) m1 = s.mem rv := by
    funext k
    unfold M.mix
    by_cases hk : k < s.top
    · rw [if_pos hk]
    · rw [if_neg hk]
      refine hM.rest k fun o ho e => ?_
      have := hF.tile.in.2 o ho
      have := hz o ho
      omega
  have hstart : M.mix 0 (s.mem rv) m1 = m1 := by
    funext k; unfold M.mix; rw [if_neg (by omega)]
  refine (each_any s c L 92 (fun args W => by rfl) #[.pointer (some ⟨bx, 0, none⟩), .pointer (some ⟨bt, 0, none⟩)] (fun j to W => ∃ p, Stands s L j p ∧ to = M.tof s mk L p ∧ GcIs W s c (M.mix p (s.mem rv) m1) ∧ Boxed W bx c ∧ Blk W bt 111 #[.func (.func fid) #[] caps] ∧ J mk j W) w hF.tile hneed hF.top
    ⟨0, Stands.first hF.tile, (tof_zero hF.tile (Nat.le_refl _)).symm, by rw [hstart]; exact h, hbx, hbt, hJ⟩ ?_ ?_ ?_ ?_).mono ?_
  · rintro j to W ⟨p, hs, ht, hg, _⟩
    exact ⟨_, hg⟩
  · rintro j to W o ho ⟨p, hs, rfl, hg, _⟩
    rw [hs.1 o ho]
    exact hGo.le o (List.mem_of_getElem? ho)
  · rintro to W ⟨p, hs, rfl, hg, _⟩
    rw [hs.2 rfl]
    have := tof_le (mk := mk) (a := s.top) hF.tile (fun o ho _ => hF.tile.in.2 o ho) (Nat.zero_le _)
    omega
  · rintro j o to W ho ⟨p, hs, rfl, hg, hbx, hbt, hj⟩
    have hom := List.mem_of_getElem? ho
    obtain rfl := hs.1 o ho
    have hnx := Stands.next hF.tile ho
    have hst := tof_step (mk := mk) hF.tile hz o hom
    have hle := hF.ground.le o hom
    have hnf := hF.ground.nf o hom
    have hzo := hz o hom
    have hat : o.at_ < s.n := by omega
    have hself : M.mix o.at_ (s.mem rv) m1 o.at_ = m1 o.at_ := by unfold M.mix; rw [if_neg (by omega)]
    have hupd : M.upd (M.mix o.at_ (s.mem rv) m1) o.at_ (m1 o.at_) = M.mix o.at_ (s.mem rv) m1 := by
      funext k; unfold M.upd
      by_cases e : k = o.at_
      · rw [if_pos e, e, hself]
      · rw [if_neg e]
    have hnext : M.upd (M.mix o.at_ (s.mem rv) m1) o.at_ (s.mem rv o.at_) = M.mix (o.at_ + s.sz o) (s.mem rv) m1 := by
      funext k; unfold M.upd M.mix
      by_cases e : k = o.at_
      · rw [if_pos e, e, if_pos (by omega)]
      · rw [if_neg e]
        by_cases e1 : k < o.at_
        · rw [if_pos e1, if_pos (by omega)]
        · rw [if_neg e1]
          by_cases e2 : k < o.at_ + s.sz o
          · rw [if_pos e2]
            refine hM.rest k fun q hq eq => ?_
            have hzq := hz q hq
            rcases hfar o hom q hq with x | x | x
            · rw [x] at e; exact e eq
            · omega
            · omega
          · rw [if_neg e2]
    have hhd := hM.head o hom
    have hh0 := hF.ground.head o hom
    refine ⟨_, [], m1 o.at_, mk o.at_, hg, hself, List.nodup_nil, fun p hp => by simp at hp, hhd, fun W1 hg1 t1 => ⟨fun hm => ?_, fun hm => ?_⟩⟩
    · rw [all_nil, hupd] at hg1
      have e0 : m1 o.at_ = s.mem rv o.at_ := by
        rw [hm] at hhd
        have h4 : M.hdOf o false 0 = M.hd o.sh o.n 0 0 := rfl
        omega
      have hg2 : GcIs W1 s c (M.mix (o.at_ + s.sz o) (s.mem rv) m1) := by rw [← hnext, ← e0, hupd]; exact hg1
      rw [hm] at hst
      exact ⟨_, hnx, by simpa using hst.symm, hg2, hbx.turn hg t1, Blk.keep hbt t1 (fun e => e.elim (btne W _ hg hbt).1 (btne W _ hg hbt).2), hT.skip _ _ _ _ ho hm (hT.turn _ _ _ _ hj (gcT _ _ t1))⟩
    · rw [all_nil, hupd] at hg1
      rw [if_pos hm] at hst
      rw [hm] at hhd
      have hbx1 := hbx.turn hg t1
      have hbt1 := Blk.keep hbt t1 (fun e => e.elim (btne W _ hg hbt).1 (btne W _ hg hbt).2)
      have hj1 := hT.turn _ _ _ _ hj (gcT _ _ t1)
      refine look1_any s c (M.mix o.at_ (s.mem rv) m1) bx bt o _ (m1 o.at_) (s.mem rv o.at_) fid hfid caps _ W1 hg1 hbx1 hbt1 (btne _ _ hg1 hbt1) hat hhd (by rw [hh0]; rfl) fun W2 hg2 t2 => ?_
      rw [hnext] at hg2
      have hbx2 := hbx1.turn hg1 t2
      have hbt2 := Blk.keep hbt1 t2 (fun e => e.elim (btne _ _ hg1 hbt1).1 (btne _ _ hg1 hbt1).2)
      have hj2 := hT.turn _ _ _ _ hj1 (gcT _ _ t2)
      refine (hT.step mk j o W2 bx bt _ ho hm b1 b2 hg2 hbx2 hbt2 hj2).mono ?_
      rintro e w3 ⟨rfl, t3, hj3⟩
      refine ⟨rfl, _, hnx, hst.symm, hg2.keep t3 ?_ ?_ ?_ ?_ ?_, Blk.keep hbx2 t3 ?_, Blk.keep hbt2 t3 ?_, hj3⟩
      all_goals
        refine fun hn => hn ?_
        unfold Stays
        simp
  · rintro e w' ⟨to, rfl, p, hs, rfl, hg, hbx, hbt, hj⟩
    obtain rfl := hs.2 rfl
    rw [hend] at hg
    exact ⟨rfl, hg, hbx, hj⟩
set_option maxRecDepth 100000 in
set_option maxHeartbeats 4000000 in
theorem look_any (s : St) (c : Cl) (L : List RO) (rv : Nat → Nat) (R : Nat → Prop) (fid : FuncId) (hfid : ∀ args W, (callFunc fid args).run Try.prog W = .ok (.enter fid args) W) (caps : Array Value) (J : (Nat → Bool) → Nat → World → Prop) (w : World)
    (hT : Telling s c L w fid caps J) (hF : ∀ mk, Field s L (s.mem rv) mk c.r) (hneed : ∀ o ∈ L, s.needOf o.sh o.n = s.sz o ∧ o.sh < 512 ∧ o.n ≤ 65536 ∧ 1 ≤ s.sz o) (hRC : RClosed s L (s.mem rv) R) (hRr : ∀ i, i < c.r → rv i % 2 = 0 → R (rv i / 2)) (hL : LaidAs s s.top L)
    (h : GcIs w s c (s.mem rv)) :
    Calls Try.prog 73 #[c.ptr, .func (.func fid) #[] caps] w fun e w' => ∃ mk, e = .returned (.int .i64 (M.tof s mk L s.top : Nat)) ∧ Closed s L (s.mem rv) mk ∧ (∀ b, mk b = true → R b) ∧ (∀ i, i < c.r → rv i % 2 = 0 → mk (rv i / 2) = true) ∧
      HpIs w' ((s.at (s.mem rv)).closed s.top (L.map RO.at_)) ∧ J mk L.length w' := by
  have hn := h.n_le
  have hmem : ∀ i, s.mem rv (s.n + i) = rv i := fun i => by
    unfold St.mem
    rw [if_neg (by omega), show s.n + i - s.n = i by omega]
  have hrt : Roots s c L (s.mem rv) R := ⟨fun i hi => by
    by_cases he : s.mem rv (s.n + i) % 2 = 1
    · exact .inl he
    · exact .inr ((hF (fun _ => false)).roots i hi (by omega)), fun i hi he => by rw [hmem] at he ⊢; exact hRr i hi he⟩
  have hG := (hF (fun _ => false)).ground
  have HMK : Hid (∀ W, GcIs W s c (s.mem rv) → _) := Lib.hid fun W hW => mark_any s c L (s.mem rv) R (fun _ => false) (s.mem rv) W hW hG hRC hG.none hrt
  have HH := Lib.hid h
  have HT := Lib.hid hT
  have HF := Lib.hid hF
  have HND := Lib.hid hneed
  have HLM := Lib.hid (hL.mem (hF (fun _ => false)).top rv)
  have HTP := Lib.hid (hF (fun _ => false)).top
  have HMM := Lib.hid hmem
  have HFID := Lib.hid hfid
  clear hT hF hneed hRC hRr hL h hrt hG hmem hfid
  go_enter Try.func73, Try.ntmps73
  go_wp2_with fail
  have hI0 : GcIs ((w.alloc (.cells #[c.ptr] 95)).alloc (.cells #[.func (.func fid) #[] caps] 111)) s c (s.mem rv) ∧ Boxed ((w.alloc (.cells #[c.ptr] 95)).alloc (.cells #[.func (.func fid) #[] caps] 111)) w.heap.size c ∧
      Blk ((w.alloc (.cells #[c.ptr] 95)).alloc (.cells #[.func (.func fid) #[] caps] 111)) (w.heap.size + 1) 111 #[.func (.func fid) #[] caps] ∧ Still w ((w.alloc (.cells #[c.ptr] 95)).alloc (.cells #[.func (.func fid) #[] caps] 111)) :=
    ⟨HH.out.still (((Still.refl w).alloc _).alloc _), (Blk.new w _ _).alloc _, by have := Blk.new (w.alloc (.cells #[c.ptr] 95)) 111 #[.func (.func fid) #[] caps]; simpa using this, ((Still.refl w).alloc _).alloc _⟩
  generalize ((w.alloc (.cells #[c.ptr] 95)).alloc (.cells #[.func (.func fid) #[] caps] 111)) = W1 at *
  obtain ⟨bx, hbx⟩ : ∃ bx, w.heap.size = bx := ⟨_, rfl⟩
  obtain ⟨bt, hbt⟩ : ∃ bt, bx + 1 = bt := ⟨_, rfl⟩
  rw [hbx, hbt] at hI0 ⊢
  have HI0 := Lib.hid hI0
  have HBX := Lib.hid (And.intro hbx hbt)
  clear hI0 hbx hbt
  refine (HMK.out W1 HI0.out.1).mono ?_; rintro e w2 ⟨rfl, mk, m1, h2, hM2, hrt, t2⟩
  have hb2 : Boxed w2 bx c := HI0.out.2.1.turn HI0.out.1 t2
  have hbt2 : Blk w2 bt 111 #[.func (.func fid) #[] caps] := Blk.keep HI0.out.2.2.1 t2 (fun e => e.elim (HI0.out.1.ne_blk HI0.out.2.2.1 (by decide)).1 (HI0.out.1.ne_blk HI0.out.2.2.1 (by decide)).2)
  have gcT : Turn (fun b => b = s.g ∨ b = s.gw ∨ b = c.gr) W1 w2 := t2.mono fun k _ e => e.elim (fun e => .inr (.inl e)) (fun e => .inr (.inr e))
  have hJ2 : J mk 0 w2 := HT.out.turn _ _ _ _ (HT.out.turn _ _ _ _ (HT.out.start mk) (Still.turn HI0.out.2.2.2)) gcT
  have HE := Lib.hid (look_each s c L rv R fid HFID.out caps J w w2 mk m1 bx bt HT.out (HF.out mk) HND.out hM2 h2 hb2 hbt2 (by have := HBX.out; omega) (by have := HBX.out; omega) hJ2)
  have HM := Lib.hid (And.intro hM2.closed (And.intro hM2.sub hrt))
  have cb := hb2.c
  have hbl := Blk.lt hb2
  clear h2 hM2 hrt t2 hb2 hbt2 gcT hJ2 HMK
  go_wp2_with fail
  refine HE.out.mono ?_; rintro e w3 ⟨rfl, h3, b3, hj3⟩
  have hr4 : ∀ i, i < c.r → rv i % 2 = 0 → mk (rv i / 2) = true := fun i hi he => by
    have := HM.out.2.2 i hi
    rw [HMM.out] at this
    exact this he
  have HR4 := Lib.hid hr4
  have HGD : Hid (GcIs (w3.drew) s c (s.mem rv)) := h3.still (Turn.drew (Still.refl w3) : Still w3 w3.drew)
  have HBD : Hid (Boxed (w3.drew) bx c) := b3.still (Turn.drew (Still.refl w3) : Still w3 w3.drew)
  have HJ3 : Hid (J mk L.length w3.drew) := HT.out.turn _ _ _ _ hj3 (Still.turn (Turn.drew (Still.refl w3) : Still w3 w3.drew))
  have HTOP := Lib.hid (top_any (s.at (s.mem rv)) (w3.drew) HGD.out.is.hp)
  change Hid (Calls _ _ #[.pointer (some ⟨s.g, 0, none⟩)] w3.drew fun e w' => e = .returned (.int .i64 s.top) ∧ w' = w3.drew) at HTOP
  have HCS := Lib.hid (close_laid (s.at (s.mem rv)) s.top L (w3.drew) HGD.out.is.hp HTP.out HLM.out)
  change Hid (Calls _ _ #[.pointer (some ⟨s.g, 0, none⟩), _] w3.drew _) at HCS
  have cb3 : (w3.drew).cell? ⟨bx, 0, none⟩ = some (.pointer (some ⟨c.g, 0, none⟩)) := HBD.out.c
  have hbl3 : bx < (w3.drew).heap.size := Blk.lt HBD.out
  have c03 : (w3.drew).cell? ⟨c.g, 0, none⟩ = some (.pointer (some ⟨s.g, 0, none⟩)) := HGD.out.c0
  have hcg3 : c.g < (w3.drew).heap.size := HGD.out.g_lt
  have HCLM := Lib.hid (And.intro HM.out.1 HM.out.2.1)
  obtain ⟨T, hT⟩ : ∃ T, M.tof s mk L s.top = T := ⟨_, rfl⟩
  rw [hT]
  have HTT := Lib.hid hT
  clear h3 b3 hj3 cb hbl HE hr4 hT
  go_wp2_with fail
  refine wp_region_still_tail 9 (by kernel_rfl) (by kernel_rfl) ?_
  simp only [List.take_succ_cons, List.take_zero, List.drop_succ_cons, List.drop_zero]
  change wpStill _ _ w3.drew (fun a' => wpList _ _ _ _ a' w3.drew) _ _
  repeat still_step

  still_call HTOP.out
  refine wpStill_nil ?_
  go_wp2_with fail
  refine HCS.out.mono ?_; rintro e w4 ⟨rfl, hp4, t4⟩
  have HP4 := Lib.hid hp4
  have HJ4 := Lib.hid (HT.out.turn _ _ _ _ HJ3.out (t4.mono fun k _ e => e.elim .inl (fun e => .inr (.inl e))))
  clear hp4 t4
  go_wp2_with fail
  go_ret
  exact ⟨mk, by rw [HTT.out]; rfl, HCLM.out.1, HCLM.out.2, HR4.out, HP4.out, HJ4.out⟩
end Go.Proofs.Ythfkgkddklnnhaa
/- The contracts of gc's Live and Marks. -/
namespace Go.Proofs.Ythfkgkddklnnhaa
set_option linter.unusedVariables false
open Go.ChangeShapes Go.WideShapes Go.ChangeAt Go.RowKit
open M (W)

theorem look_both {w w1 : World} {s : St} {L : List RO} (h : Right w s L) (hb : Right w1 (s.as L) L) (c : Cl) (rv : Nat → Nat) (R : Nat → Prop) (hrv : ∀ i, rv i < 18446744073709551616) (hg : GcIs w1 (s.as L) c ((s.as L).mem rv)) (hfit : ∀ i, i < c.r → s.fits (rv i) = true)
    (hRC : RClosed (s.as L) L ((s.as L).mem rv) R) (hRr : ∀ i, i < c.r → rv i % 2 = 0 → R (rv i / 2)) (fid : FuncId) (hfid : ∀ args W, (callFunc fid args).run Try.prog W = .ok (.enter fid args) W) (caps : Array Value) (J : (Nat → Bool) → Nat → World → Prop)
    (hT : Telling (s.as L) c L w1 fid caps J) (hJw : ∀ mk j W, J mk j W → Turn (fun b => b = s.g ∨ b = s.gw) w W) :
    Calls Try.prog 73 #[c.ptr, .func (.func fid) #[] caps] w1 fun e w' => ∃ mk, e = .returned (.int .i64 (M.tof (s.as L) mk L s.top : Nat)) ∧ Closed (s.as L) L ((s.as L).mem rv) mk ∧ (∀ b, mk b = true → R b) ∧ (∀ i, i < c.r → rv i % 2 = 0 → mk (rv i / 2) = true) ∧
      Right w' (s.as L) L ∧ J mk L.length w' := by
  have hLa := hb.laid
  have hroot : ∀ i, i < c.r → rv i % 2 = 0 → ∃ q ∈ L, rv i = 2 * q.at_ := fun i hi he => h.root (hfit i hi) he
  have htn : (s.as L).top ≤ (s.as L).n := hb.hp.top_le
  have hF := fun mk => hLa.field htn hb.hp.m_le rv hb.hp.ws_lt hrv mk c.r hroot
  have hneed : ∀ o ∈ L, (s.as L).needOf o.sh o.n = (s.as L).sz o ∧ o.sh < 512 ∧ o.n ≤ 65536 ∧ 1 ≤ (s.as L).sz o := fun o ho => by
    have h1 := (hLa.good o ho).kd
    have h2 := hb.hp.m_le
    exact ⟨(hLa.good o ho).needOf, by omega, h1.2.1, (hLa.good o ho).sz.2.2⟩
  refine (look_any (s.as L) c L rv R fid hfid caps J w1 hT hF hneed hRC hRr hLa hg).mono ?_
  rintro e w' ⟨mk, rfl, hcl, hsub, hrt, hp, hj⟩
  rw [as_mem s L rv htn] at hp
  exact ⟨mk, rfl, hcl, hsub, hrt, h.into hp hb.sim, hj⟩
/-- What a look leaves. -/
structure Looked (w : World) (s : St) (L : List RO) (n : Nat) (rv : Nat → Nat) (R : Nat → Prop) (mk : Nat → Bool) (w' : World) : Prop where
  right : Right w' (s.as L) L
  turn : Turn (fun b => b = s.g ∨ b = s.gw) w w'
  closed : Closed (s.as L) L ((s.as L).mem rv) mk
  sub : ∀ b, mk b = true → R b
  roots : ∀ i, i < n → rv i % 2 = 0 → mk (rv i / 2) = true
  fit : ∀ i, i < n → s.fits (rv i) = true
/-- What the refusal of roots leaves. -/
structure Refused (w : World) (s : St) (L : List RO) (n : Nat) (rv : Nat → Nat) (w' : World) : Prop where
  right : Right w' (s.as L) L
  turn : Turn (fun b => b = s.g ∨ b = s.gw) w w'
  unfit : ∃ i, i < n ∧ s.fits (rv i) = false
theorem gc_turn_from {w w1 W W' : World} {s : St} {c : Cl} (h : Turn (fun b => b = s.g ∨ b = s.gw) w W) (hc : w.heap.size ≤ c.gr) (t : Turn (fun b => b = s.g ∨ b = s.gw ∨ b = c.gr) W W') : Turn (fun b => b = s.g ∨ b = s.gw) w W' := by
  have u1 : Turn (fun b => b = s.g ∨ b = s.gw ∨ b = c.gr) w W := h.mono fun k _ e => e.elim .inl (fun e => .inr (.inl e))
  exact (u1.trans t).mono fun k hk e => e.elim .inl fun e => e.elim .inr fun e => by omega
theorem live1_any (at_ : Int) (w : World) : Calls Try.prog 74 #[.int .i64 at_] w fun e w' => e = .returned (.tuple #[]) ∧ w' = w := by
  go_enter Try.func74, Try.ntmps74
  go_wp2_with fail
  first | go_end0 | refine bodyPost_ret (results_none rfl _ _ _) rfl ?_
  exact ⟨rfl, rfl⟩
set_option maxRecDepth 100000 in
set_option maxHeartbeats 4000000 in
theorem live_any {w : World} {s : St} {L : List RO} (h : Right w s L) (a : Option Addr) (n cap : Nat) (rv : Nat → Nat) (R : Nat → Prop) (hrow : RootRow w a n rv (fun b => b = s.g ∨ b = s.gw)) (hcap : n ≤ cap) (hcm : cap ≤ maxLen) (hRC : RClosed (s.as L) L ((s.as L).mem rv) R) (hRr : ∀ i, i < n → rv i % 2 = 0 → R (rv i / 2)) :
    Calls Try.prog 41 #[s.ptr, .slice a n cap] w fun e w' => (e = .returned (.tuple #[.int .i64 0, .int .i64 1]) ∧ Refused w s L n rv w') ∨
      ∃ mk, e = .returned (.tuple #[.int .i64 (M.tof (s.as L) mk L s.top : Nat), .int .i64 0]) ∧ Looked w s L n rv R mk w' := by
  have HB := Lib.hid (begin_any h a n cap rv hrow hcap hcm)
  have HH := Lib.hid h
  have HRC := Lib.hid hRC
  have HRR := Lib.hid hRr
  have HRL := Lib.hid hrow.lt
  clear h hrow hRC hRr
  go_enter Try.func41, Try.ntmps41
  go_wp2_with fail
  refine HB.out.mono ?_; rintro e w1 ⟨hb, t1, ⟨c, rfl, rfl, hg, hcg, hcgr, hfit⟩ | ⟨rfl, hno⟩⟩
  case inr =>
    have HR := Lib.hid (Refused.mk hb t1 hno)
    clear hb t1 hno HB
    go_wp2_with fail
    go_ret2
    exact .inl ⟨rfl, HR.out⟩
  have HL := Lib.hid (look_both HH.out hb c rv R HRL.out hg hfit HRC.out HRR.out 74 (fun args W => by rfl) #[] (fun mk j W => Turn (fun b => b = s.g ∨ b = s.gw) w W)
    ⟨fun _ => t1, fun mk j W W' hj t => gc_turn_from (s := s) (w1 := w1) hj hcgr t, fun mk j o W _ _ hj => hj, fun mk j o W bx bt m ho hm b1 b2 hgc hbx hbt hj => (live1_any o.at_ W).mono fun e w' ⟨he, hw⟩ => ⟨he, by rw [hw]; exact Turn.refl _ _, by rw [hw]; exact hj⟩⟩ (fun mk j W hj => hj))
  have HFT := Lib.hid hfit
  clear hb t1 hg hfit HB
  go_wp2_with fail
  refine HL.out.mono ?_; rintro e w2 ⟨mk, rfl, hcl, hsub, hrt, hb2, t2⟩
  have HR := Lib.hid (Looked.mk hb2 t2 hcl hsub hrt HFT.out)
  clear hcl hsub hrt hb2 t2 HL
  go_wp2_with fail
  go_ret2
  exact .inr ⟨mk, rfl, HR.out⟩
/-- What Marks has laid down when j objects are gone by. -/
def MarkJ (w : World) (s : St) (L : List RO) (bp : Nat) (mk : Nat → Bool) (j : Nat) (W : World) : Prop :=
  Turn (fun b => b = s.g ∨ b = s.gw) w W ∧ ∃ a n c, Blk W bp 86 #[.slice a n c] ∧ n = (M.mkl mk (L.take j)).length ∧ W.ownsRow (bp + 1) 3 1 (.slice a n c) n (M.ints (M.mkl mk (L.take j)))
end Go.Proofs.Ythfkgkddklnnhaa
/- Layer 2's calls on a heap that is right. -/
namespace Go.Proofs.Ythfkgkddklnnhaa
set_option linter.unusedVariables false
open Go.ChangeShapes Go.WideShapes Go.ChangeAt Go.RowKit
open M (W)

/-- An object of fields, and one of bytes. -/
def M.objF (a k n : Nat) (fs : List Nat) : RO := ⟨a, k, n, fs, [], none, 0, none, 0⟩
def M.objB (a k n : Nat) (bs : List Nat) : RO := ⟨a, k, n, [], bs, none, 0, none, 0⟩
theorem right_nil {w : World} {s : St} (h : HpIs w s) (ht : s.top = 0) (hw : ∀ i, s.ws i = 0) (hx : ∀ i, s.hx i = 0) : Right w s [] :=
  ⟨h, ⟨ht.symm, fun o ho => by simp at ho, fun k => by unfold St.is; rw [hx]; simp, fun i _ => hw i⟩, fun o ho => by simp at ho⟩
theorem right_more {w w' : World} {s : St} {L : List RO} (h : Right w s L) {o : RO} {D : Nat} (he : s.needE o.sh o.n = 0) (ha : o.at_ = s.top) (hD : s.need o.sh o.n = D) (hf : (D : Int) ≤ s.n - s.top) (hD1 : 1 ≤ D) (hp : HpIs w' (s.more D (M.hd o.sh o.n 0 0).toNat (s.zero o.sh)))
    (h3 : s.kind o.sh = 3 → o.fs = [] ∧ o.bs = List.replicate o.n 0) (h1 : s.kind o.sh ≠ 3 → o.bs = [] ∧ o.fs = List.replicate o.n 1) : Right w' (s.more D (M.hd o.sh o.n 0 0).toNat (s.zero o.sh)) (L ++ [o]) := by
  have hn := h.hp.n_le
  have hDs : D = s.sz o := by unfold St.sz; rw [hD]; rfl
  refine ⟨hp, h.sim.more ha hDs (good_new he ha hDs h3 h1) (by omega), ?_⟩
  have grow : ∀ v : Int, s.fits v = true → (s.more D (M.hd o.sh o.n 0 0).toNat (s.zero o.sh)).fits v = true := fun v hv => by
    unfold St.fits M.fits at hv ⊢
    rw [Bool.or_eq_true] at hv ⊢
    rcases hv with hv | hv
    · exact .inl hv
    · right
      show M.inSet (M.putIn s.hx s.top) (v / 2) = true
      rw [M.putIn_in _ _ (by omega), hv, Bool.or_true]
  intro p hp u hu
  rcases List.mem_append.1 hp with hp | hp
  · exact grow _ (h.fit p hp u hu)
  · obtain rfl : p = o := by simpa using hp
    rcases Decidable.em (s.kind p.sh = 3) with e | e
    · rw [(h3 e).1] at hu; simp at hu
    · rw [(h1 e).2] at hu
      rw [List.eq_of_mem_replicate hu]
      unfold St.fits M.fits; rfl
/-- A new object of fields. -/
theorem right_alloc {w : World} {s : St} {L : List RO} (h : Right w s L) (k n : Nat) (hk : s.kind k ≠ 3) (he : s.needE k n = 0) (hf : 1 + n ≤ s.n - s.top) :
    Calls Try.prog 27 #[s.ptr, .int .i64 k, .int .i64 n] w fun e w' => e = .returned (.tuple #[.int .i64 s.top, .int .i64 0]) ∧ Right w' (s.more (1 + n) (M.hd k n 0 0).toNat (s.zero k)) (L ++ [M.objF s.top k n (List.replicate n 1)]) ∧ Turn (fun k => k = s.g ∨ k = s.gw) w w' := by
  have ht := h.hp.top_le
  have hD : s.need k n = ((1 + n : Nat) : Int) := by
    have he' := he
    unfold St.needE M.needE at he'
    unfold St.need M.need
    by_cases c1 : s.kind k = 0 ∨ (n : Int) < 0 ∨ (s.kind k = 1 ∧ (n : Int) ≠ s.len k)
    · rw [if_pos c1] at he'; omega
    · rw [if_neg c1] at he' ⊢
      by_cases c2 : 65536 < (n : Int)
      · rw [if_pos c2] at he'; omega
      · rw [if_neg c2, if_neg hk]; omega
  refine (alloc_ok s k n (1 + n) w h.hp he hD (by omega) (by omega)).mono ?_
  rintro e w' ⟨rfl, hp, t⟩
  exact ⟨rfl, right_more h (o := M.objF s.top k n (List.replicate n 1)) he rfl hD (by omega) (by omega) hp (fun e => absurd e hk) (fun _ => ⟨rfl, rfl⟩), t⟩
/-- A new object of bytes. -/
theorem right_allocB {w : World} {s : St} {L : List RO} (h : Right w s L) (k n : Nat) (hk : s.kind k = 3) (he : s.needE k n = 0) (hf : 1 + (n + 7) / 8 ≤ s.n - s.top) :
    Calls Try.prog 27 #[s.ptr, .int .i64 k, .int .i64 n] w fun e w' => e = .returned (.tuple #[.int .i64 s.top, .int .i64 0]) ∧ Right w' (s.more (1 + (n + 7) / 8) (M.hd k n 0 0).toNat (s.zero k)) (L ++ [M.objB s.top k n (List.replicate n 0)]) ∧ Turn (fun k => k = s.g ∨ k = s.gw) w w' := by
  have ht := h.hp.top_le
  have hD : s.need k n = ((1 + (n + 7) / 8 : Nat) : Int) := by
    have he' := he
    unfold St.needE M.needE at he'
    unfold St.need M.need
    by_cases c1 : s.kind k = 0 ∨ (n : Int) < 0 ∨ (s.kind k = 1 ∧ (n : Int) ≠ s.len k)
    · rw [if_pos c1] at he'; omega
    · rw [if_neg c1] at he' ⊢
      by_cases c2 : 65536 < (n : Int)
      · rw [if_pos c2] at he'; omega
      · rw [if_neg c2, if_pos hk]; omega
  refine (alloc_ok s k n (1 + (n + 7) / 8) w h.hp he hD (by omega) (by omega)).mono ?_
  rintro e w' ⟨rfl, hp, t⟩
  exact ⟨rfl, right_more h (o := M.objB s.top k n (List.replicate n 0)) he rfl hD (by omega) (by omega) hp (fun _ => ⟨rfl, rfl⟩) (fun e => absurd hk e), t⟩
/-- A field is set. -/
theorem right_set {w : World} {s : St} {L : List RO} (h : Right w s L) {k j v : Nat} {o : RO} (hk : L[k]? = some o) (hj : j < o.fs.length) (hv : v < 18446744073709551616) (hf : s.fits v = true) :
    Calls Try.prog 28 #[s.ptr, .int .i64 o.at_, .int .i64 j, .int .u64 v] w fun e w' => e = .returned (.int .i64 0) ∧ Right w' (s.put (o.at_ + 1 + j) v) (L.set k { o with fs := o.fs.set j v }) ∧ Turn (fun k => k = s.gw) w w' := by
  have hm := List.mem_of_getElem? hk
  have hob := h.sim.obAt h.hp hm
  have hg := h.sim.good o hm
  have hk3 : s.kind o.sh ≠ 3 := fun e => by have := (hg.b e).1; rw [this] at hj; simp at hj
  obtain ⟨f1, f2, f3⟩ := hg.f hk3
  refine (set_ok s o.at_ _ j v w h.hp hob hk3 (by show (j : Int) < (o.n : Int); omega) (by omega) (by omega) hf).mono ?_
  rintro e w' ⟨rfl, hp, t⟩
  refine ⟨rfl, ⟨by simpa using hp, h.sim.setF hk hj hv, fun p hp u hu => ?_⟩, t⟩
  rcases mem_set hp with rfl | ⟨j', _, hj'⟩
  · rcases List.mem_or_eq_of_mem_set hu with h1 | h1
    · exact h.fit o hm u h1
    · rw [h1]; exact hf
  · exact h.fit p (List.mem_of_getElem? hj') u hu
/-- A field is got. -/
theorem right_get {w : World} {s : St} {L : List RO} (h : Right w s L) {j : Nat} {o : RO} (ho : o ∈ L) (hj : j < o.fs.length) :
    Calls Try.prog 43 #[s.ptr, .int .i64 o.at_, .int .i64 j] w fun e w' => e = .returned (.tuple #[.int .u64 (o.fs.getD j 0 : Nat), .int .i64 0]) ∧ Still w w' := by
  have hob := h.sim.obAt h.hp ho
  have hg := h.sim.good o ho
  have hk3 : s.kind o.sh ≠ 3 := fun e => by have := (hg.b e).1; rw [this] at hj; simp at hj
  obtain ⟨f1, f2, f3⟩ := hg.f hk3
  refine (get_ok s o.at_ _ j w h.hp hob hk3 (by show (j : Int) < (o.n : Int); omega)).mono ?_
  rintro e w' ⟨rfl, t⟩
  exact ⟨by rw [f3 j (by omega)], t⟩
end Go.Proofs.Ythfkgkddklnnhaa
/- Which objects are reached: the document's search breadth first, in lists alone. No program in sight. -/
namespace Go.Proofs.Ythfkgkddklnnhaa
set_option linter.unusedVariables false

/-- A place that is reached from the words rl. -/
inductive M.Rch (L : List RO) (rl : List Nat) : Nat → Prop
  | root {v : Nat} : v ∈ rl → v % 2 = 0 → M.Rch L rl (v / 2)
  | field {o : RO} {v : Nat} : o ∈ L → M.Rch L rl o.at_ → v ∈ o.fs → v % 2 = 0 → M.Rch L rl (v / 2)
/-- The object at b is ticked. -/
def M.At (L : List RO) (is : Nat → Bool) (b : Nat) : Prop := ∃ (k : Nat) (o : RO), L[k]? = some o ∧ o.at_ = b ∧ is k = true
def M.tick (is : Nat → Bool) (k : Nat) : Nat → Bool := fun j => decide (j = k) || is j
/-- Where the search stands. -/
structure Rs (L : List RO) (rl : List Nat) (is : Nat → Bool) (todo : List Nat) : Prop where
  snd : ∀ (k : Nat) (o : RO), L[k]? = some o → is k = true → M.Rch L rl o.at_
  tsnd : ∀ v ∈ todo, v % 2 = 0 → M.Rch L rl (v / 2)
  tfit : ∀ v ∈ todo, v % 2 = 0 → ∃ o ∈ L, o.at_ = v / 2
  croot : ∀ v ∈ rl, v % 2 = 0 → v ∈ todo ∨ M.At L is (v / 2)
  cfield : ∀ (k : Nat) (o : RO), L[k]? = some o → is k = true → ∀ v ∈ o.fs, v % 2 = 0 → v ∈ todo ∨ M.At L is (v / 2)
variable {L : List RO} {rl : List Nat} {is : Nat → Bool} {todo : List Nat} {v : Nat}
theorem Rs.start (hf : ∀ v ∈ rl, v % 2 = 0 → ∃ o ∈ L, o.at_ = v / 2) : Rs L rl (fun _ => false) rl :=
  ⟨fun _ _ _ h => by simp at h, fun v hv he => .root hv he, hf, fun v hv _ => .inl hv, fun _ _ _ h => by simp at h⟩
/-- What is behind the first word, when that says nothing new. -/
theorem Rs.pop (h : Rs L rl is (v :: todo)) (hv : v % 2 = 1 ∨ M.At L is (v / 2)) : Rs L rl is todo := by
  have key : ∀ u, u % 2 = 0 → u ∈ v :: todo ∨ M.At L is (u / 2) → u ∈ todo ∨ M.At L is (u / 2) := fun u he hu => by
    rcases hu with hu | hu
    · rcases List.mem_cons.1 hu with rfl | hu
      · rcases hv with hv | hv
        · omega
        · exact .inr hv
      · exact .inl hu
    · exact .inr hu
  exact ⟨h.snd, fun u hu => h.tsnd u (List.mem_cons_of_mem _ hu), fun u hu => h.tfit u (List.mem_cons_of_mem _ hu), fun u hu he => key u he (h.croot u hu he), fun k o hk hi u hu he => key u he (h.cfield k o hk hi u hu he)⟩
theorem At.tick {b k : Nat} (h : M.At L is b) : M.At L (M.tick is k) b := by
  obtain ⟨j, o, hj, ho, hi⟩ := h
  exact ⟨j, o, hj, ho, by unfold M.tick; rw [hi, Bool.or_true]⟩
/-- An object that is met first. -/
theorem Rs.new (hF : ∀ o ∈ L, ∀ v ∈ o.fs, v % 2 = 0 → ∃ p ∈ L, p.at_ = v / 2) (h : Rs L rl is (v :: todo)) (he : v % 2 = 0) {k : Nat} {o : RO} (hk : L[k]? = some o) (ha : o.at_ = v / 2) : Rs L rl (M.tick is k) (todo ++ o.fs) := by
  have hR : M.Rch L rl o.at_ := by rw [ha]; exact h.tsnd v (List.mem_cons_self) he
  have hom := List.mem_of_getElem? hk
  have hat : M.At L (M.tick is k) (v / 2) := ⟨k, o, hk, ha, by unfold M.tick; simp⟩
  have key : ∀ u, u ∈ v :: todo ∨ M.At L is (u / 2) → u ∈ todo ++ o.fs ∨ M.At L (M.tick is k) (u / 2) := fun u hu => by
    rcases hu with hu | hu
    · rcases List.mem_cons.1 hu with rfl | hu
      · exact .inr hat
      · exact .inl (List.mem_append_left _ hu)
    · exact .inr (At.tick hu)
  refine ⟨fun j p hj hi => ?_, fun u hu hue => ?_, fun u hu hue => ?_, fun u hu hue => key u (h.croot u hu hue), fun j p hj hi u hu hue => ?_⟩
  · by_cases e : j = k
    · subst e
      rw [hk] at hj; injection hj with hj; subst hj; exact hR
    · exact h.snd j p hj (by unfold M.tick at hi; rwa [decide_eq_false e, Bool.false_or] at hi)
  · rcases List.mem_append.1 hu with hu | hu
    · exact h.tsnd u (List.mem_cons_of_mem _ hu) hue
    · exact .field hom hR hu hue
  · rcases List.mem_append.1 hu with hu | hu
    · exact h.tfit u (List.mem_cons_of_mem _ hu) hue
    · exact hF o hom u hu hue
  · by_cases e : j = k
    · subst e
      rw [hk] at hj; injection hj with hj; subst hj
      exact .inl (List.mem_append_right _ hu)
    · exact key u (h.cfield j p hj (by unfold M.tick at hi; rwa [decide_eq_false e, Bool.false_or] at hi) u hu hue)
/-- The search is over: just what is reached is ticked. -/
theorem Rs.over (hun : ∀ (j k : Nat) (p o : RO), L[j]? = some p → L[k]? = some o → p.at_ = o.at_ → j = k) (h : Rs L rl is []) : ∀ (k : Nat) (o : RO), L[k]? = some o → (is k = true ↔ M.Rch L rl o.at_) := by
  have hall : ∀ b, M.Rch L rl b → M.At L is b := by
    intro b hb
    induction hb with
    | root hv he =>
      rcases h.croot _ hv he with h1 | h1
      · simp at h1
      · exact h1
    | field ho _ hv he ih =>
      obtain ⟨k, p, hk, hp, hi⟩ := ih
      obtain ⟨j, hj⟩ := List.mem_iff_getElem?.1 ho
      obtain rfl := hun k j p _ hk hj hp
      rw [hk] at hj; injection hj with hj; subst hj
      rcases h.cfield _ _ hk hi _ hv he with h1 | h1
      · simp at h1
      · exact h1
  intro k o hk
  refine ⟨h.snd k o hk, fun hr => ?_⟩
  obtain ⟨j, p, hj, hp, hi⟩ := hall _ hr
  obtain rfl := hun j k p o hj hk hp
  exact hi
def M.sumTo : Nat → (Nat → Nat) → Nat
  | 0, _ => 0
  | n + 1, f => M.sumTo n f + f n
theorem sumTo_le {f : Nat → Nat} {c : Nat} (hf : ∀ k, f k ≤ c) : ∀ n, M.sumTo n f ≤ n * c
  | 0 => by simp [M.sumTo]
  | n + 1 => by
    have := sumTo_le hf n
    have := hf n
    rw [M.sumTo, Nat.succ_mul]
    omega
theorem sumTo_congr {f g : Nat → Nat} : ∀ n, (∀ k, k < n → f k = g k) → M.sumTo n f = M.sumTo n g
  | 0, _ => rfl
  | n + 1, h => by rw [M.sumTo, M.sumTo, sumTo_congr n (fun k hk => h k (by omega)), h n (by omega)]
theorem sumTo_zero {f g : Nat → Nat} {k : Nat} : ∀ n, k < n → g k = 0 → (∀ j, j ≠ k → g j = f j) → M.sumTo n g + f k = M.sumTo n f
  | 0, h, _, _ => by omega
  | n + 1, h, h0, hj => by
    rw [M.sumTo, M.sumTo]
    by_cases e : k = n
    · subst e
      rw [h0, sumTo_congr k (fun j hjk => hj j (by omega))]; omega
    · have := sumTo_zero n (by omega) h0 hj
      rw [hj n (by omega)]
      omega
/-- How many fields are left to the search. -/
def M.unseen (L : List RO) (is : Nat → Bool) : Nat := M.sumTo L.length fun k => if is k = true then 0 else (L[k]?.map fun o => o.fs.length).getD 0
theorem left_tick {k : Nat} {o : RO} (hk : L[k]? = some o) (hi : is k = false) : M.unseen L (M.tick is k) + o.fs.length = M.unseen L is := by
  have hkl : k < L.length := (List.getElem?_eq_some_iff.1 hk).1
  have := sumTo_zero (f := fun k => if is k = true then 0 else (L[k]?.map fun o => o.fs.length).getD 0) (g := fun j => if M.tick is k j = true then 0 else (L[j]?.map fun o => o.fs.length).getD 0) L.length hkl (by unfold M.tick; simp) fun j hj => by
    unfold M.tick; simp [hj]
  unfold M.unseen
  rw [← this]
  simp only [hi, hk]
  simp
theorem left_le (hf : ∀ o ∈ L, o.fs.length ≤ 65536) : M.unseen L is ≤ L.length * 65536 := by
  refine sumTo_le (fun k => ?_) _
  split
  · omega
  · cases hk : L[k]? with
    | none => simp
    | some o => simpa using hf o (List.mem_of_getElem? hk)
end Go.Proofs.Ythfkgkddklnnhaa
