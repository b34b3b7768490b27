/- Sub and Join are as the document says: the law's walk. -/
import Derived.Test.YtilfmnlbnfhkpaaGreatDoorVor
import Derived.Test.YtilfmnlbnfhkpaaGreatDoorV15
namespace Go.Proofs.YtilfmnlbnfhkpaaGreatDoor
set_option linter.unusedVariables false
set_option linter.unusedSimpArgs false
open Go.ChangeShapes Go.WideShapes Go.ChangeAt Go.RowKit
open Vf (tsub joinL)
/-- The two types' boxes. -/
structure Box2 (w : World) (M : Nat) (ia : Bool) (a : Option Addr) (na ca : Nat) (ib : Bool) (b : Option Addr) (nb cb : Nat) : Prop where
  b0 : Blk w M 24 #[.bool ia, .slice a na ca]
  b1 : Blk w (M + 1) 24 #[.bool ib, .slice b nb cb]
theorem Box2.still {w w' : World} {M : Nat} {ia : Bool} {a : Option Addr} {na ca : Nat} {ib : Bool} {b : Option Addr} {nb cb : Nat} (h : Box2 w M ia a na ca ib b nb cb) (t : Still w w') : Box2 w' M ia a na ca ib b nb cb := ⟨t.blk h.b0, t.blk h.b1⟩
theorem Box2.put {w0 w : World} {M : Nat} {ia : Bool} {a : Option Addr} {na ca : Nat} {ib : Bool} {b : Option Addr} {nb cb : Nat} (h : Box2 w M ia a na ca ib b nb cb) (t : Still w0 w) (hM : w0.heap.size = M) (a1 : Option Addr) (n1 c1 : Nat) (a2 : Option Addr) (n2 c2 : Nat) :
    Box2 ((((w.setCell ⟨M, 0, none⟩ (.bool ia)).setCell ⟨M, 1, none⟩ (.slice a1 n1 c1)).setCell ⟨M + 1, 0, none⟩ (.bool ib)).setCell ⟨M + 1, 1, none⟩ (.slice a2 n2 c2)) M ia a1 n1 c1 ib a2 n2 c2 ∧ Turn (fun j => M ≤ j ∧ j ≤ M + 1) w ((((w.setCell ⟨M, 0, none⟩ (.bool ia)).setCell ⟨M, 1, none⟩ (.slice a1 n1 c1)).setCell ⟨M + 1, 0, none⟩ (.bool ib)).setCell ⟨M + 1, 1, none⟩ (.slice a2 n2 c2)) := by
  have t0 : Turn (fun j => j = M) w ((w.setCell ⟨M, 0, none⟩ (.bool ia)).setCell ⟨M, 1, none⟩ (.slice a1 n1 c1)) := ((Turn.refl (fun j => j = M) w).setCell (p := ⟨M, 0, none⟩) (fun _ => rfl) _).setCell (p := ⟨M, 1, none⟩) (fun _ => rfl) _
  have b0 : Blk ((w.setCell ⟨M, 0, none⟩ (.bool ia)).setCell ⟨M, 1, none⟩ (.slice a1 n1 c1)) M 24 #[.bool ia, .slice a1 n1 c1] := by simpa using (h.b0.set 0 (.bool ia)).set 1 (.slice a1 n1 c1)
  have b1 := h.b1.keep t0 (by omega)
  generalize ((w.setCell ⟨M, 0, none⟩ (.bool ia)).setCell ⟨M, 1, none⟩ (.slice a1 n1 c1)) = w1 at *
  have t1 : Turn (fun j => j = M + 1) w1 ((w1.setCell ⟨M + 1, 0, none⟩ (.bool ib)).setCell ⟨M + 1, 1, none⟩ (.slice a2 n2 c2)) := ((Turn.refl (fun j => j = M + 1) w1).setCell (p := ⟨M + 1, 0, none⟩) (fun _ => rfl) _).setCell (p := ⟨M + 1, 1, none⟩) (fun _ => rfl) _
  have b1' : Blk ((w1.setCell ⟨M + 1, 0, none⟩ (.bool ib)).setCell ⟨M + 1, 1, none⟩ (.slice a2 n2 c2)) (M + 1) 24 #[.bool ib, .slice a2 n2 c2] := by simpa using (b1.set 0 (.bool ib)).set 1 (.slice a2 n2 c2)
  exact ⟨⟨b0.keep t1 (by omega), b1'⟩, (t0.mono fun j _ e => by omega).trans (t1.mono fun j _ e => by omega)⟩
/-- Behind short: the two types. -/
def Typ2 (w : World) (M : Nat) (ia ib : Bool) (xs ys : List Int) (W : World) : Prop := ∃ (a1 : Option Addr) (n1 c1 : Nat) (a2 : Option Addr) (n2 c2 : Nat), Still w W ∧ Box2 W M ia a1 n1 c1 ib a2 n2 c2 ∧ Ints w.heap.size W a1 n1 xs ∧ Ints w.heap.size W a2 n2 ys ∧ n1 ≤ 60 ∧ n2 ≤ 60
theorem Ints.off {B : Nat} {w w' : World} {a : Option Addr} {n : Nat} {xs : List Int} (h : Ints B w a n xs) {j : Nat} (t : Turn (fun k => k = j) w w') {T : TypeId} {i : Bool} {s : Option Addr} {m k : Nat} (hb : Blk w j T #[.bool i, .slice s m k]) : Ints B w' a n xs :=
  ⟨h.len, fun hn => by
    obtain ⟨b', off', e', _, hc⟩ := ints_cell h hn
    have hne : ¬ b' = j := by
      rintro rfl
      have h0 := hc 0 hn
      rw [hb.cell] at h0
      rcases off' with _ | _ | _ <;> simp at h0
    have hlt : b' < w.heap.size := World.block_lt_of_cell? _ _ (hc 0 hn)
    obtain ⟨b, off, ha, hB, hx⟩ := h.at_ hn
    rw [e'] at ha
    obtain ⟨rfl, rfl⟩ : b' = b ∧ off' = off := by simpa using ha
    refine ⟨b', off', e', hB, fun i x hi => ?_⟩
    obtain ⟨cs, h1, h2, h3⟩ := hx i x hi
    exact ⟨cs, h1, h2, fun j hj => (t.cell (p := ⟨b', off' + i * 1 + j, none⟩) hlt hne).trans (h3 j hj)⟩⟩
set_option maxRecDepth 100000 in
set_option maxHeartbeats 8000000 in
theorem verifyTypes_w {w : World} (ia ib : Bool) {a b : Option Addr} {na ca nb cb : Nat} {xs ys : List Int} (ha : TyArg w a na ca xs) (hb : TyArg w b nb cb ys) :
    Calls Tryz.prog 3 #[.agg #[.bool ia, .slice a na ca], .agg #[.bool ib, .slice b nb cb]] w fun e w' => e = .returned (.bool true) ∧ Still w w' := by
  have G : Hid (Still w ((w.alloc (.cells #[.bool ia, .slice a na ca] 24)).alloc (.cells #[.bool ib, .slice b nb cb] 24)) ∧ Box2 ((w.alloc (.cells #[.bool ia, .slice a na ca] 24)).alloc (.cells #[.bool ib, .slice b nb cb] 24)) w.heap.size ia a na ca ib b nb cb) := ⟨((Still.refl w).alloc _).alloc _, (blk_at rfl).alloc _, blk_at (by simp)⟩
  have HA : Hid (∀ {W : World}, Still w W → Calls Tryz.prog 10 #[.agg #[.bool ia, .slice a na ca]] W (ShortR w.heap.size ia xs W)) := fun {W} t => short_any ia (ha.ints.keep (Still.below t) (Nat.le_refl _)) t.size ha.le ha.cap
  have HB : Hid (∀ {W : World}, Still w W → Calls Tryz.prog 10 #[.agg #[.bool ib, .slice b nb cb]] W (ShortR w.heap.size ib ys W)) := fun {W} t => short_any ib (hb.ints.keep (Still.below t) (Nat.le_refl _)) t.size hb.le hb.cap
  clear ha hb
  go_enter Tryz.func3, Tryz.ntmps3
  go_wp2_with fail
  generalize ((w.alloc (.cells #[.bool ia, .slice a na ca] 24)).alloc (.cells #[.bool ib, .slice b nb cb] 24)) = w3 at G ⊢
  obtain ⟨M, hM⟩ : ∃ M, w.heap.size = M := ⟨_, rfl⟩
  have HM := Lib.hid hM
  rw [hM] at G
  rw [hM]
  have SD : Hid (Still w3 w3.drew) := (Still.refl w3).drew
  have BD := G.out.2.still SD.out
  have d00 : w3.drew.cell? ⟨M, 0, none⟩ = some (.bool ia) := BD.b0.cell 0; have d01 : w3.drew.cell? ⟨M, 1, none⟩ = some (.slice a na ca) := BD.b0.cell 1; have d10 : w3.drew.cell? ⟨M + 1, 0, none⟩ = some (.bool ib) := BD.b1.cell 0; have d11 : w3.drew.cell? ⟨M + 1, 1, none⟩ = some (.slice b nb cb) := BD.b1.cell 1; have dl0 := BD.b0.lt; have dl1 := BD.b1.lt
  clear BD hM
  go_cut [] from 7 (fun wc => Typ2 w M ia ib (xs.take 60) (ys.take 60) wc)
  case first =>
   go_region_law (go_simp; go_at_call 10; first
    | ((with_reducible refine (HA.out (G.out.1.trans SD.out)).mono ?_); rintro e wA ⟨a1, n1, c1, rfl, hA, hnA, tA⟩; have TA := Lib.hid ((G.out.1.trans SD.out).trans tA); have BA := Lib.hid (G.out.2.still (SD.out.trans tA)); have RA := Lib.hid (And.intro hA hnA); clear hA hnA tA; have p00 : wA.cell? ⟨M, 0, none⟩ = some (.bool ia) := BA.out.b0.cell 0; have p01 : wA.cell? ⟨M, 1, none⟩ = some (.slice a na ca) := BA.out.b0.cell 1; have p10 : wA.cell? ⟨M + 1, 0, none⟩ = some (.bool ib) := BA.out.b1.cell 0; have p11 : wA.cell? ⟨M + 1, 1, none⟩ = some (.slice b nb cb) := BA.out.b1.cell 1; have pl0 := BA.out.b0.lt; have pl1 := BA.out.b1.lt)
    | ((with_reducible refine (HB.out TA.out).mono ?_); rintro e wB ⟨a2, n2, c2, rfl, hB, hnB, tB⟩; have TB := Lib.hid (TA.out.trans tB); have BB := Lib.hid (BA.out.still tB); have RB := Lib.hid (And.intro (RA.out.1.keep ((Still.below tB).mono TA.out.size) TA.out.size) (And.intro hB hnB)); clear hB hnB tB; have q00 : wB.cell? ⟨M, 0, none⟩ = some (.bool ia) := BB.out.b0.cell 0; have q01 : wB.cell? ⟨M, 1, none⟩ = some (.slice a na ca) := BB.out.b0.cell 1; have q10 : wB.cell? ⟨M + 1, 0, none⟩ = some (.bool ib) := BB.out.b1.cell 0; have q11 : wB.cell? ⟨M + 1, 1, none⟩ = some (.slice b nb cb) := BB.out.b1.cell 1; have ql0 := BB.out.b0.lt; have ql1 := BB.out.b1.lt; have qf00 := BB.out.b0.frozen 0; have qf01 := BB.out.b0.frozen 1; have qf10 := BB.out.b1.frozen 0; have qf11 := BB.out.b1.frozen 1))
   all_goals
    go_wp2_with fail
    go_meet
    case rel =>
      obtain ⟨g1, g2⟩ := BB.out.put TB.out HM.out a1 n1 c1 a2 n2 c2
      have hbw : Below w.heap.size wB ((((wB.setCell ⟨M, 0, none⟩ (.bool ia)).setCell ⟨M, 1, none⟩ (.slice a1 n1 c1)).setCell ⟨M + 1, 0, none⟩ (.bool ib)).setCell ⟨M + 1, 1, none⟩ (.slice a2 n2 c2)) := g2.below TB.out.size fun j e => by have := HM.out; omega
      exact ⟨a1, n1, c1, a2, n2, c2, (TB.out.turn.trans g2).mono (fun j hj e => by have := HM.out; omega), g1, RB.out.1.keep hbw TB.out.size, RB.out.2.1.keep hbw TB.out.size, RA.out.2, RB.out.2.2⟩
  case rest =>
    clear d00 d01 d10 d11 dl0 dl1
    obtain ⟨a1, n1, c1, a2, n2, c2, hst, hbx, hi1, hi2, hn1, hn2⟩ := hcut
    generalize xs.take 60 = xs' at *
    generalize ys.take 60 = ys' at *
    have W1 : Hid (Still w wc ∧ Box2 wc M ia a1 n1 c1 ib a2 n2 c2) := ⟨hst, hbx⟩
    have HI : Hid (∀ {W : World}, Still wc W → w.heap.size ≤ W.heap.size ∧ Ints w.heap.size W a1 n1 xs' ∧ Ints w.heap.size W a2 n2 ys') := fun {W} t => ⟨(hst.trans t).size, hi1.keep ((Still.below t).mono hst.size) hst.size, hi2.keep ((Still.below t).mono hst.size) hst.size⟩
    have HN : Hid (n1 ≤ 60 ∧ n2 ≤ 60 ∧ n1 ≤ 1000 ∧ n2 ≤ 1000) := ⟨hn1, hn2, by omega, by omega⟩
    have H64 : Hid (∀ y ∈ xs' ++ ys', In64 y) := fun y hy => (List.mem_append.1 hy).elim (hi1.in64 y) (hi2.in64 y)
    clear HA HB G SD hst hbx hi1 hi2 hn1 hn2
    obtain ⟨zj, hzj⟩ : ∃ zj, joinL (xs' ++ ys') = zj := ⟨_, rfl⟩
    obtain ⟨ij, hij⟩ : ∃ ij, (ia || ib) = ij := ⟨_, rfl⟩
    have HZ : Hid (joinL (xs' ++ ys') = zj ∧ (ia || ib) = ij) := ⟨hzj, hij⟩
    clear hzj hij
    go_upto_region 11 with fail
    go_cut [5, 6] from 7 (fun s5 s6 wv => ∃ (jx jy : Nat) (ax : Option Addr) (nx cx : Nat) (ay : Option Addr) (ny cy : Nat), s5 = .pointer (some ⟨jx, 0, none⟩) ∧ s6 = .pointer (some ⟨jy, 0, none⟩) ∧ Still wc wv ∧ Blk wv jx 24 #[.bool ij, .slice ax nx cx] ∧ Blk wv jy 24 #[.bool ij, .slice ay ny cy] ∧ Ints wv.heap.size wv ax nx zj ∧ Ints wv.heap.size wv ay ny zj)
    case first =>
      obtain ⟨w0, hw0⟩ : ∃ w0, wc.drew = w0 := ⟨_, rfl⟩
      have ST0 : Hid (Still wc w0) := by rw [← hw0]; exact (Still.refl wc).drew
      have B0 := W1.out.2.still ST0.out
      have hS0 : w0.cell? ⟨M, 0, none⟩ = some (.bool ia) ∧ w0.cell? ⟨M, 1, none⟩ = some (.slice a1 n1 c1) ∧ w0.cell? ⟨M + 1, 0, none⟩ = some (.bool ib) ∧ w0.cell? ⟨M + 1, 1, none⟩ = some (.slice a2 n2 c2) := ⟨B0.b0.cell 0, B0.b0.cell 1, B0.b1.cell 0, B0.b1.cell 1⟩
      have bl0 := B0.b0.lt
      have bl1 := B0.b1.lt
      clear B0
      go_wp2_with fail
      refine wp_region_held_drew (S := fun W => W.cell? ⟨M, 0, none⟩ = some (.bool ia) ∧ W.cell? ⟨M, 1, none⟩ = some (.slice a1 n1 c1) ∧ W.cell? ⟨M + 1, 0, none⟩ = some (.bool ib) ∧ W.cell? ⟨M + 1, 1, none⟩ = some (.slice a2 n2 c2)) (by kernel_rfl) (by rw [hw0]; exact hS0) (fun hHeld => ?_)
      try simp only [Act.put, List.getElem_toArray, List.getElem_cons_succ, List.getElem_cons_zero, List.setIfInBounds_toArray, List.set_cons_zero, List.set_cons_succ]
      rw [hw0] at hHeld ⊢
      clear hw0 hS0
      refine wpAnyH_take (i := 0) (v := ?_) rfl (by kernel_rfl) (by kernel_rfl) (by kernel_rfl) (fun _ _ _ h => h) (Or.inl ⟨by rfl, ?_⟩) (by assumption) ?_
      rotate_left
      · intro w hSw; (try dsimp only at hSw); go_simp; try with_reducible rfl
      try simp only [Act.put, List.getElem_toArray, List.getElem_cons_succ, List.getElem_cons_zero, List.setIfInBounds_toArray, List.set_cons_zero, List.set_cons_succ]
      refine wpAnyH_take (i := 1) (v := ?_) rfl (by kernel_rfl) (by kernel_rfl) (by kernel_rfl) (fun _ _ _ h => h) (Or.inl ⟨by rfl, ?_⟩) (by assumption) ?_
      rotate_left
      · intro w hSw; (try dsimp only at hSw); go_simp; try with_reducible rfl
      try simp only [Act.put, List.getElem_toArray, List.getElem_cons_succ, List.getElem_cons_zero, List.setIfInBounds_toArray, List.set_cons_zero, List.set_cons_succ]
      refine wpAnyH_take (i := 3) (v := ?_) rfl (by kernel_rfl) (by kernel_rfl) (by kernel_rfl) (fun _ _ _ h => h) (Or.inl ⟨by rfl, ?_⟩) (by assumption) ?_
      rotate_left
      · intro w hSw; (try dsimp only at hSw); go_simp; try with_reducible rfl
      try simp only [Act.put, List.getElem_toArray, List.getElem_cons_succ, List.getElem_cons_zero, List.setIfInBounds_toArray, List.set_cons_zero, List.set_cons_succ]
      refine wpAnyH_take (i := 4) (v := ?_) rfl (by kernel_rfl) (by kernel_rfl) (by kernel_rfl) (fun _ _ _ h => h) (Or.inl ⟨by rfl, ?_⟩) (by assumption) ?_
      rotate_left
      · intro w hSw; (try dsimp only at hSw); go_simp; try with_reducible rfl
      try simp only [Act.put, List.getElem_toArray, List.getElem_cons_succ, List.getElem_cons_zero, List.setIfInBounds_toArray, List.set_cons_zero, List.set_cons_succ]
      clear bl0 bl1
      refine wpAnyH_ready (rs := [2, 6, 7]) (by kernel_rfl) (by simp) ?_
      refine (AllReadyH.cons rfl (fun K hK => ?_) (AllReadyH.cons rfl (fun K hK => ?_) (AllReadyH.cons rfl (fun K hK => ?_) AllReadyH.nil)))
      · go_simp
        refine (join_any (HI.out ST0.out).2.1 (HI.out ST0.out).2.2 (HI.out ST0.out).1 HN.out.2.2.1 HN.out.2.2.2).mono ?_; rintro e w1 ⟨ax, nx, cx, rfl, hix, t1⟩
        rw [HZ.out.1] at hix
        rw [HZ.out.2]
        have ST1 : Hid (Still wc w1) := ST0.out.trans t1
        have RX1 : Hid (Ints w1.heap.size w1 ax nx zj) := hix
        clear hix
        have BK := W1.out.2.still ST1.out
        have hS1 : w1.cell? ⟨M, 0, none⟩ = some (.bool ia) ∧ w1.cell? ⟨M, 1, none⟩ = some (.slice a1 n1 c1) ∧ w1.cell? ⟨M + 1, 0, none⟩ = some (.bool ib) ∧ w1.cell? ⟨M + 1, 1, none⟩ = some (.slice a2 n2 c2) := ⟨BK.b0.cell 0, BK.b0.cell 1, BK.b1.cell 0, BK.b1.cell 1⟩
        clear hHeld BK t1
        refine hK.out _ _ hS1 (fun hHeld => ?_)
        clear hK K hS1 ST0
        refine wpAnyH_ready (rs := [5, 6, 7]) (by kernel_rfl) (by simp) ?_
        refine (AllReadyH.cons rfl (fun K hK => ?_) (AllReadyH.cons rfl (fun K hK => ?_) (AllReadyH.cons rfl (fun K hK => ?_) AllReadyH.nil)))
        · go_simp
          refine (refJoin_any (HI.out ST1.out).2.1 (HI.out ST1.out).2.2 (HI.out ST1.out).1 HN.out.2.2.1 HN.out.2.2.2 H64.out).mono ?_; rintro e w2 ⟨ay, ny, cy, rfl, hiy, t2⟩
          rw [HZ.out.1] at hiy
          rw [HZ.out.2]
          have ST2 : Hid (Still wc w2) := ST1.out.trans t2
          have RX2 : Hid (Ints w2.heap.size w2 ax nx zj) := (RX1.out.keep (Still.below t2) (Nat.le_refl _)).up t2.size
          have RY2 : Hid (Ints w2.heap.size w2 ay ny zj) := hiy
          clear hiy
          have BK := W1.out.2.still ST2.out
          have hS2 : w2.cell? ⟨M, 0, none⟩ = some (.bool ia) ∧ w2.cell? ⟨M, 1, none⟩ = some (.slice a1 n1 c1) ∧ w2.cell? ⟨M + 1, 0, none⟩ = some (.bool ib) ∧ w2.cell? ⟨M + 1, 1, none⟩ = some (.slice a2 n2 c2) := ⟨BK.b0.cell 0, BK.b0.cell 1, BK.b1.cell 0, BK.b1.cell 1⟩
          clear hHeld BK t2
          refine hK.out _ _ hS2 (fun hHeld => ?_)
          clear hK K hS2 ST1 RX1
          refine wpAnyH_ready (rs := [6, 7]) (by kernel_rfl) (by simp) ?_
          refine (AllReadyH.cons rfl (fun K hK => ?_) (AllReadyH.cons rfl (fun K hK => ?_) AllReadyH.nil))
          · go_simp
            obtain ⟨jx, hjx⟩ : ∃ jx, w2.heap.size = jx := ⟨_, rfl⟩
            have t3 : Still w2 (w2.alloc (.cells #[.bool false, .slice none 0 0] 24)) := (Still.refl _).alloc _
            have BN := blk_at (t := 24) (cs := #[.bool false, .slice none 0 0]) hjx
            obtain ⟨w3, hw3⟩ : ∃ w3, w2.alloc (.cells #[.bool false, .slice none 0 0] 24) = w3 := ⟨_, rfl⟩
            rw [hw3] at t3 BN
            rw [hjx, hw3]
            have ST3 : Hid (Still wc w3) := ST2.out.trans t3
            have JX3 : Hid (wc.heap.size ≤ jx ∧ Blk w3 jx 24 #[.bool false, .slice none 0 0]) := ⟨by have := ST2.out.size; omega, BN⟩
            have RX3 : Hid (Ints w3.heap.size w3 ax nx zj) := (RX2.out.keep (Still.below t3) (Nat.le_refl _)).up t3.size
            have RY3 : Hid (Ints w3.heap.size w3 ay ny zj) := (RY2.out.keep (Still.below t3) (Nat.le_refl _)).up t3.size
            clear BN hw3 hjx
            have BK := W1.out.2.still ST3.out
            have hS3 : w3.cell? ⟨M, 0, none⟩ = some (.bool ia) ∧ w3.cell? ⟨M, 1, none⟩ = some (.slice a1 n1 c1) ∧ w3.cell? ⟨M + 1, 0, none⟩ = some (.bool ib) ∧ w3.cell? ⟨M + 1, 1, none⟩ = some (.slice a2 n2 c2) := ⟨BK.b0.cell 0, BK.b0.cell 1, BK.b1.cell 0, BK.b1.cell 1⟩
            clear hHeld BK t3
            refine hK.out _ _ hS3 (fun hHeld => ?_)
            clear hK K hS3 ST2 RX2 RY2
            refine wpAnyH_ready (rs := [7]) (by kernel_rfl) (by simp) ?_
            refine (AllReadyH.cons rfl (fun K hK => ?_) AllReadyH.nil)
            go_simp
            obtain ⟨jy, hjy⟩ : ∃ jy, w3.heap.size = jy := ⟨_, rfl⟩
            have t4 : Still w3 (w3.alloc (.cells #[.bool false, .slice none 0 0] 24)) := (Still.refl _).alloc _
            have BN := blk_at (t := 24) (cs := #[.bool false, .slice none 0 0]) hjy
            obtain ⟨w4, hw4⟩ : ∃ w4, w3.alloc (.cells #[.bool false, .slice none 0 0] 24) = w4 := ⟨_, rfl⟩
            rw [hw4] at t4 BN
            rw [hjy, hw4]
            have ST4 : Hid (Still wc w4) := ST3.out.trans t4
            have JY4 : Hid (wc.heap.size ≤ jy ∧ Blk w4 jy 24 #[.bool false, .slice none 0 0]) := ⟨by have := ST3.out.size; omega, BN⟩
            have NE : Hid (jx ≠ jy) := by have := JX3.out.2.lt; show _ ≠ _; omega
            have RX4 : Hid (Ints w4.heap.size w4 ax nx zj) := (RX3.out.keep (Still.below t4) (Nat.le_refl _)).up t4.size
            have RY4 : Hid (Ints w4.heap.size w4 ay ny zj) := (RY3.out.keep (Still.below t4) (Nat.le_refl _)).up t4.size
            have JX4 : Hid (wc.heap.size ≤ jx ∧ Blk w4 jx 24 #[.bool false, .slice none 0 0]) := ⟨JX3.out.1, t4.blk JX3.out.2⟩
            clear BN hw4 hjy
            have BK := W1.out.2.still ST4.out
            have hS4 : w4.cell? ⟨M, 0, none⟩ = some (.bool ia) ∧ w4.cell? ⟨M, 1, none⟩ = some (.slice a1 n1 c1) ∧ w4.cell? ⟨M + 1, 0, none⟩ = some (.bool ib) ∧ w4.cell? ⟨M + 1, 1, none⟩ = some (.slice a2 n2 c2) := ⟨BK.b0.cell 0, BK.b0.cell 1, BK.b1.cell 0, BK.b1.cell 1⟩
            clear hHeld BK t4
            refine hK.out _ _ hS4 (fun hHeld => ?_)
            clear hK K hS4 ST3 RX3 RY3 JX3
            refine wpAnyH_ready (rs := [8]) (by kernel_rfl) (by simp) ?_
            refine (AllReadyH.cons rfl (fun K hK => ?_) AllReadyH.nil)
            have jc0 : w4.cell? ⟨jx, 0, none⟩ = some (.bool false) := JX4.out.2.cell 0
            have jc1 : w4.cell? ⟨jx, 1, none⟩ = some (.slice none 0 0) := JX4.out.2.cell 1
            have jf0 := JX4.out.2.frozen 0
            have jf1 := JX4.out.2.frozen 1
            have jl := JX4.out.2.lt
            go_simp
            have t5 : Turn (fun k => k = jx) w4 ((w4.setCell ⟨jx, 0, none⟩ (.bool ij)).setCell ⟨jx, 1, none⟩ (.slice ax nx cx)) := ((Turn.refl (fun k => k = jx) w4).setCell (p := ⟨jx, 0, none⟩) (fun _ => rfl) _).setCell (p := ⟨jx, 1, none⟩) (fun _ => rfl) _
            have BN : Blk ((w4.setCell ⟨jx, 0, none⟩ (.bool ij)).setCell ⟨jx, 1, none⟩ (.slice ax nx cx)) jx 24 #[.bool ij, .slice ax nx cx] := by simpa using (JX4.out.2.set 0 (.bool ij)).set 1 (.slice ax nx cx)
            obtain ⟨w5, hw5⟩ : ∃ w5, ((w4.setCell ⟨jx, 0, none⟩ (.bool ij)).setCell ⟨jx, 1, none⟩ (.slice ax nx cx)) = w5 := ⟨_, rfl⟩
            rw [hw5] at t5 BN
            rw [hw5]
            have ST5 : Hid (Still wc w5) := (ST4.out.turn.trans t5).mono fun k hk e => by have := JX4.out.1; omega
            have JX5 : Hid (wc.heap.size ≤ jx ∧ Blk w5 jx 24 #[.bool ij, .slice ax nx cx]) := ⟨JX4.out.1, BN⟩
            have JY5 : Hid (wc.heap.size ≤ jy ∧ Blk w5 jy 24 #[.bool false, .slice none 0 0]) := ⟨JY4.out.1, JY4.out.2.keep t5 (by have := NE.out; omega)⟩
            have RX5 : Hid (Ints w5.heap.size w5 ax nx zj) := (RX4.out.off t5 JX4.out.2).up t5.size
            have RY5 : Hid (Ints w5.heap.size w5 ay ny zj) := (RY4.out.off t5 JX4.out.2).up t5.size
            clear BN hw5 jc0 jc1 jf0 jf1 jl
            have BK := W1.out.2.still ST5.out
            have hS5 : w5.cell? ⟨M, 0, none⟩ = some (.bool ia) ∧ w5.cell? ⟨M, 1, none⟩ = some (.slice a1 n1 c1) ∧ w5.cell? ⟨M + 1, 0, none⟩ = some (.bool ib) ∧ w5.cell? ⟨M + 1, 1, none⟩ = some (.slice a2 n2 c2) := ⟨BK.b0.cell 0, BK.b0.cell 1, BK.b1.cell 0, BK.b1.cell 1⟩
            clear hHeld BK t5
            refine hK.out _ _ hS5 (fun hHeld => ?_)
            clear hK K hS5 ST4 RX4 RY4 JX4 JY4
            refine wpAnyH_ready (rs := [9]) (by kernel_rfl) (by simp) ?_
            refine (AllReadyH.cons rfl (fun K hK => ?_) AllReadyH.nil)
            have jc0 : w5.cell? ⟨jy, 0, none⟩ = some (.bool false) := JY5.out.2.cell 0
            have jc1 : w5.cell? ⟨jy, 1, none⟩ = some (.slice none 0 0) := JY5.out.2.cell 1
            have jf0 := JY5.out.2.frozen 0
            have jf1 := JY5.out.2.frozen 1
            have jl := JY5.out.2.lt
            go_simp
            have t6 : Turn (fun k => k = jy) w5 ((w5.setCell ⟨jy, 0, none⟩ (.bool ij)).setCell ⟨jy, 1, none⟩ (.slice ay ny cy)) := ((Turn.refl (fun k => k = jy) w5).setCell (p := ⟨jy, 0, none⟩) (fun _ => rfl) _).setCell (p := ⟨jy, 1, none⟩) (fun _ => rfl) _
            have BN : Blk ((w5.setCell ⟨jy, 0, none⟩ (.bool ij)).setCell ⟨jy, 1, none⟩ (.slice ay ny cy)) jy 24 #[.bool ij, .slice ay ny cy] := by simpa using (JY5.out.2.set 0 (.bool ij)).set 1 (.slice ay ny cy)
            obtain ⟨w6, hw6⟩ : ∃ w6, ((w5.setCell ⟨jy, 0, none⟩ (.bool ij)).setCell ⟨jy, 1, none⟩ (.slice ay ny cy)) = w6 := ⟨_, rfl⟩
            rw [hw6] at t6 BN
            rw [hw6]
            have ST6 : Hid (Still wc w6) := (ST5.out.turn.trans t6).mono fun k hk e => by have := JY5.out.1; omega
            have JY6 : Hid (wc.heap.size ≤ jy ∧ Blk w6 jy 24 #[.bool ij, .slice ay ny cy]) := ⟨JY5.out.1, BN⟩
            have JX6 : Hid (wc.heap.size ≤ jx ∧ Blk w6 jx 24 #[.bool ij, .slice ax nx cx]) := ⟨JX5.out.1, JX5.out.2.keep t6 (by have := NE.out; omega)⟩
            have RX6 : Hid (Ints w6.heap.size w6 ax nx zj) := (RX5.out.off t6 JY5.out.2).up t6.size
            have RY6 : Hid (Ints w6.heap.size w6 ay ny zj) := (RY5.out.off t6 JY5.out.2).up t6.size
            clear BN hw6 jc0 jc1 jf0 jf1 jl
            have BK := W1.out.2.still ST6.out
            have hS6 : w6.cell? ⟨M, 0, none⟩ = some (.bool ia) ∧ w6.cell? ⟨M, 1, none⟩ = some (.slice a1 n1 c1) ∧ w6.cell? ⟨M + 1, 0, none⟩ = some (.bool ib) ∧ w6.cell? ⟨M + 1, 1, none⟩ = some (.slice a2 n2 c2) := ⟨BK.b0.cell 0, BK.b0.cell 1, BK.b1.cell 0, BK.b1.cell 1⟩
            clear hHeld BK t6
            refine hK.out _ _ hS6 (fun hHeld => ?_)
            clear hK K hS6 ST5 RX5 RY5 JX5 JY5
            refine wpAnyH_done (by kernel_rfl) ?_ _
            go_wp2_with fail
            go_meet
            case rel => exact ⟨jx, jy, ax, nx, cx, ay, ny, cy, rfl, rfl, ST6.out, JX6.out.2, JY6.out.2, RX6.out, RY6.out⟩
          · go_simp
            obtain ⟨jy, hjy⟩ : ∃ jy, w2.heap.size = jy := ⟨_, rfl⟩
            have t3 : Still w2 (w2.alloc (.cells #[.bool false, .slice none 0 0] 24)) := (Still.refl _).alloc _
            have BN := blk_at (t := 24) (cs := #[.bool false, .slice none 0 0]) hjy
            obtain ⟨w3, hw3⟩ : ∃ w3, w2.alloc (.cells #[.bool false, .slice none 0 0] 24) = w3 := ⟨_, rfl⟩
            rw [hw3] at t3 BN
            rw [hjy, hw3]
            have ST3 : Hid (Still wc w3) := ST2.out.trans t3
            have JY3 : Hid (wc.heap.size ≤ jy ∧ Blk w3 jy 24 #[.bool false, .slice none 0 0]) := ⟨by have := ST2.out.size; omega, BN⟩
            have RX3 : Hid (Ints w3.heap.size w3 ax nx zj) := (RX2.out.keep (Still.below t3) (Nat.le_refl _)).up t3.size
            have RY3 : Hid (Ints w3.heap.size w3 ay ny zj) := (RY2.out.keep (Still.below t3) (Nat.le_refl _)).up t3.size
            clear BN hw3 hjy
            have BK := W1.out.2.still ST3.out
            have hS3 : w3.cell? ⟨M, 0, none⟩ = some (.bool ia) ∧ w3.cell? ⟨M, 1, none⟩ = some (.slice a1 n1 c1) ∧ w3.cell? ⟨M + 1, 0, none⟩ = some (.bool ib) ∧ w3.cell? ⟨M + 1, 1, none⟩ = some (.slice a2 n2 c2) := ⟨BK.b0.cell 0, BK.b0.cell 1, BK.b1.cell 0, BK.b1.cell 1⟩
            clear hHeld BK t3
            refine hK.out _ _ hS3 (fun hHeld => ?_)
            clear hK K hS3 ST2 RX2 RY2
            refine wpAnyH_ready (rs := [6]) (by kernel_rfl) (by simp) ?_
            refine (AllReadyH.cons rfl (fun K hK => ?_) AllReadyH.nil)
            go_simp
            obtain ⟨jx, hjx⟩ : ∃ jx, w3.heap.size = jx := ⟨_, rfl⟩
            have t4 : Still w3 (w3.alloc (.cells #[.bool false, .slice none 0 0] 24)) := (Still.refl _).alloc _
            have BN := blk_at (t := 24) (cs := #[.bool false, .slice none 0 0]) hjx
            obtain ⟨w4, hw4⟩ : ∃ w4, w3.alloc (.cells #[.bool false, .slice none 0 0] 24) = w4 := ⟨_, rfl⟩
            rw [hw4] at t4 BN
            rw [hjx, hw4]
            have ST4 : Hid (Still wc w4) := ST3.out.trans t4
            have JX4 : Hid (wc.heap.size ≤ jx ∧ Blk w4 jx 24 #[.bool false, .slice none 0 0]) := ⟨by have := ST3.out.size; omega, BN⟩
            have NE : Hid (jx ≠ jy) := by have := JY3.out.2.lt; show _ ≠ _; omega
            have RX4 : Hid (Ints w4.heap.size w4 ax nx zj) := (RX3.out.keep (Still.below t4) (Nat.le_refl _)).up t4.size
            have RY4 : Hid (Ints w4.heap.size w4 ay ny zj) := (RY3.out.keep (Still.below t4) (Nat.le_refl _)).up t4.size
            have JY4 : Hid (wc.heap.size ≤ jy ∧ Blk w4 jy 24 #[.bool false, .slice none 0 0]) := ⟨JY3.out.1, t4.blk JY3.out.2⟩
            clear BN hw4 hjx
            have BK := W1.out.2.still ST4.out
            have hS4 : w4.cell? ⟨M, 0, none⟩ = some (.bool ia) ∧ w4.cell? ⟨M, 1, none⟩ = some (.slice a1 n1 c1) ∧ w4.cell? ⟨M + 1, 0, none⟩ = some (.bool ib) ∧ w4.cell? ⟨M + 1, 1, none⟩ = some (.slice a2 n2 c2) := ⟨BK.b0.cell 0, BK.b0.cell 1, BK.b1.cell 0, BK.b1.cell 1⟩
            clear hHeld BK t4
            refine hK.out _ _ hS4 (fun hHeld => ?_)
            clear hK K hS4 ST3 RX3 RY3 JY3
            refine wpAnyH_ready (rs := [8]) (by kernel_rfl) (by simp) ?_
            refine (AllReadyH.cons rfl (fun K hK => ?_) AllReadyH.nil)
            have jc0 : w4.cell? ⟨jx, 0, none⟩ = some (.bool false) := JX4.out.2.cell 0
            have jc1 : w4.cell? ⟨jx, 1, none⟩ = some (.slice none 0 0) := JX4.out.2.cell 1
            have jf0 := JX4.out.2.frozen 0
            have jf1 := JX4.out.2.frozen 1
            have jl := JX4.out.2.lt
            go_simp
            have t5 : Turn (fun k => k = jx) w4 ((w4.setCell ⟨jx, 0, none⟩ (.bool ij)).setCell ⟨jx, 1, none⟩ (.slice ax nx cx)) := ((Turn.refl (fun k => k = jx) w4).setCell (p := ⟨jx, 0, none⟩) (fun _ => rfl) _).setCell (p := ⟨jx, 1, none⟩) (fun _ => rfl) _
            have BN : Blk ((w4.setCell ⟨jx, 0, none⟩ (.bool ij)).setCell ⟨jx, 1, none⟩ (.slice ax nx cx)) jx 24 #[.bool ij, .slice ax nx cx] := by simpa using (JX4.out.2.set 0 (.bool ij)).set 1 (.slice ax nx cx)
            obtain ⟨w5, hw5⟩ : ∃ w5, ((w4.setCell ⟨jx, 0, none⟩ (.bool ij)).setCell ⟨jx, 1, none⟩ (.slice ax nx cx)) = w5 := ⟨_, rfl⟩
            rw [hw5] at t5 BN
            rw [hw5]
            have ST5 : Hid (Still wc w5) := (ST4.out.turn.trans t5).mono fun k hk e => by have := JX4.out.1; omega
            have JX5 : Hid (wc.heap.size ≤ jx ∧ Blk w5 jx 24 #[.bool ij, .slice ax nx cx]) := ⟨JX4.out.1, BN⟩
            have JY5 : Hid (wc.heap.size ≤ jy ∧ Blk w5 jy 24 #[.bool false, .slice none 0 0]) := ⟨JY4.out.1, JY4.out.2.keep t5 (by have := NE.out; omega)⟩
            have RX5 : Hid (Ints w5.heap.size w5 ax nx zj) := (RX4.out.off t5 JX4.out.2).up t5.size
            have RY5 : Hid (Ints w5.heap.size w5 ay ny zj) := (RY4.out.off t5 JX4.out.2).up t5.size
            clear BN hw5 jc0 jc1 jf0 jf1 jl
            have BK := W1.out.2.still ST5.out
            have hS5 : w5.cell? ⟨M, 0, none⟩ = some (.bool ia) ∧ w5.cell? ⟨M, 1, none⟩ = some (.slice a1 n1 c1) ∧ w5.cell? ⟨M + 1, 0, none⟩ = some (.bool ib) ∧ w5.cell? ⟨M + 1, 1, none⟩ = some (.slice a2 n2 c2) := ⟨BK.b0.cell 0, BK.b0.cell 1, BK.b1.cell 0, BK.b1.cell 1⟩
            clear hHeld BK t5
            refine hK.out _ _ hS5 (fun hHeld => ?_)
            clear hK K hS5 ST4 RX4 RY4 JY4 JX4
            refine wpAnyH_ready (rs := [9]) (by kernel_rfl) (by simp) ?_
            refine (AllReadyH.cons rfl (fun K hK => ?_) AllReadyH.nil)
            have jc0 : w5.cell? ⟨jy, 0, none⟩ = some (.bool false) := JY5.out.2.cell 0
            have jc1 : w5.cell? ⟨jy, 1, none⟩ = some (.slice none 0 0) := JY5.out.2.cell 1
            have jf0 := JY5.out.2.frozen 0
            have jf1 := JY5.out.2.frozen 1
            have jl := JY5.out.2.lt
            go_simp
            have t6 : Turn (fun k => k = jy) w5 ((w5.setCell ⟨jy, 0, none⟩ (.bool ij)).setCell ⟨jy, 1, none⟩ (.slice ay ny cy)) := ((Turn.refl (fun k => k = jy) w5).setCell (p := ⟨jy, 0, none⟩) (fun _ => rfl) _).setCell (p := ⟨jy, 1, none⟩) (fun _ => rfl) _
            have BN : Blk ((w5.setCell ⟨jy, 0, none⟩ (.bool ij)).setCell ⟨jy, 1, none⟩ (.slice ay ny cy)) jy 24 #[.bool ij, .slice ay ny cy] := by simpa using (JY5.out.2.set 0 (.bool ij)).set 1 (.slice ay ny cy)
            obtain ⟨w6, hw6⟩ : ∃ w6, ((w5.setCell ⟨jy, 0, none⟩ (.bool ij)).setCell ⟨jy, 1, none⟩ (.slice ay ny cy)) = w6 := ⟨_, rfl⟩
            rw [hw6] at t6 BN
            rw [hw6]
            have ST6 : Hid (Still wc w6) := (ST5.out.turn.trans t6).mono fun k hk e => by have := JY5.out.1; omega
            have JY6 : Hid (wc.heap.size ≤ jy ∧ Blk w6 jy 24 #[.bool ij, .slice ay ny cy]) := ⟨JY5.out.1, BN⟩
            have JX6 : Hid (wc.heap.size ≤ jx ∧ Blk w6 jx 24 #[.bool ij, .slice ax nx cx]) := ⟨JX5.out.1, JX5.out.2.keep t6 (by have := NE.out; omega)⟩
            have RX6 : Hid (Ints w6.heap.size w6 ax nx zj) := (RX5.out.off t6 JY5.out.2).up t6.size
            have RY6 : Hid (Ints w6.heap.size w6 ay ny zj) := (RY5.out.off t6 JY5.out.2).up t6.size
            clear BN hw6 jc0 jc1 jf0 jf1 jl
            have BK := W1.out.2.still ST6.out
            have hS6 : w6.cell? ⟨M, 0, none⟩ = some (.bool ia) ∧ w6.cell? ⟨M, 1, none⟩ = some (.slice a1 n1 c1) ∧ w6.cell? ⟨M + 1, 0, none⟩ = some (.bool ib) ∧ w6.cell? ⟨M + 1, 1, none⟩ = some (.slice a2 n2 c2) := ⟨BK.b0.cell 0, BK.b0.cell 1, BK.b1.cell 0, BK.b1.cell 1⟩
            clear hHeld BK t6
            refine hK.out _ _ hS6 (fun hHeld => ?_)
            clear hK K hS6 ST5 RX5 RY5 JY5 JX5
            refine wpAnyH_done (by kernel_rfl) ?_ _
            go_wp2_with fail
            go_meet
            case rel => exact ⟨jx, jy, ax, nx, cx, ay, ny, cy, rfl, rfl, ST6.out, JX6.out.2, JY6.out.2, RX6.out, RY6.out⟩
        · go_simp
          obtain ⟨jx, hjx⟩ : ∃ jx, w1.heap.size = jx := ⟨_, rfl⟩
          have t2 : Still w1 (w1.alloc (.cells #[.bool false, .slice none 0 0] 24)) := (Still.refl _).alloc _
          have BN := blk_at (t := 24) (cs := #[.bool false, .slice none 0 0]) hjx
          obtain ⟨w2, hw2⟩ : ∃ w2, w1.alloc (.cells #[.bool false, .slice none 0 0] 24) = w2 := ⟨_, rfl⟩
          rw [hw2] at t2 BN
          rw [hjx, hw2]
          have ST2 : Hid (Still wc w2) := ST1.out.trans t2
          have JX2 : Hid (wc.heap.size ≤ jx ∧ Blk w2 jx 24 #[.bool false, .slice none 0 0]) := ⟨by have := ST1.out.size; omega, BN⟩
          have RX2 : Hid (Ints w2.heap.size w2 ax nx zj) := (RX1.out.keep (Still.below t2) (Nat.le_refl _)).up t2.size
          clear BN hw2 hjx
          have BK := W1.out.2.still ST2.out
          have hS2 : w2.cell? ⟨M, 0, none⟩ = some (.bool ia) ∧ w2.cell? ⟨M, 1, none⟩ = some (.slice a1 n1 c1) ∧ w2.cell? ⟨M + 1, 0, none⟩ = some (.bool ib) ∧ w2.cell? ⟨M + 1, 1, none⟩ = some (.slice a2 n2 c2) := ⟨BK.b0.cell 0, BK.b0.cell 1, BK.b1.cell 0, BK.b1.cell 1⟩
          clear hHeld BK t2
          refine hK.out _ _ hS2 (fun hHeld => ?_)
          clear hK K hS2 ST1 RX1
          refine wpAnyH_ready (rs := [5, 7]) (by kernel_rfl) (by simp) ?_
          refine (AllReadyH.cons rfl (fun K hK => ?_) (AllReadyH.cons rfl (fun K hK => ?_) AllReadyH.nil))
          · go_simp
            refine (refJoin_any (HI.out ST2.out).2.1 (HI.out ST2.out).2.2 (HI.out ST2.out).1 HN.out.2.2.1 HN.out.2.2.2 H64.out).mono ?_; rintro e w3 ⟨ay, ny, cy, rfl, hiy, t3⟩
            rw [HZ.out.1] at hiy
            rw [HZ.out.2]
            have ST3 : Hid (Still wc w3) := ST2.out.trans t3
            have RX3 : Hid (Ints w3.heap.size w3 ax nx zj) := (RX2.out.keep (Still.below t3) (Nat.le_refl _)).up t3.size
            have JX3 : Hid (wc.heap.size ≤ jx ∧ Blk w3 jx 24 #[.bool false, .slice none 0 0]) := ⟨JX2.out.1, t3.blk JX2.out.2⟩
            have RY3 : Hid (Ints w3.heap.size w3 ay ny zj) := hiy
            clear hiy
            have BK := W1.out.2.still ST3.out
            have hS3 : w3.cell? ⟨M, 0, none⟩ = some (.bool ia) ∧ w3.cell? ⟨M, 1, none⟩ = some (.slice a1 n1 c1) ∧ w3.cell? ⟨M + 1, 0, none⟩ = some (.bool ib) ∧ w3.cell? ⟨M + 1, 1, none⟩ = some (.slice a2 n2 c2) := ⟨BK.b0.cell 0, BK.b0.cell 1, BK.b1.cell 0, BK.b1.cell 1⟩
            clear hHeld BK t3
            refine hK.out _ _ hS3 (fun hHeld => ?_)
            clear hK K hS3 ST2 RX2 JX2
            refine wpAnyH_ready (rs := [7]) (by kernel_rfl) (by simp) ?_
            refine (AllReadyH.cons rfl (fun K hK => ?_) AllReadyH.nil)
            go_simp
            obtain ⟨jy, hjy⟩ : ∃ jy, w3.heap.size = jy := ⟨_, rfl⟩
            have t4 : Still w3 (w3.alloc (.cells #[.bool false, .slice none 0 0] 24)) := (Still.refl _).alloc _
            have BN := blk_at (t := 24) (cs := #[.bool false, .slice none 0 0]) hjy
            obtain ⟨w4, hw4⟩ : ∃ w4, w3.alloc (.cells #[.bool false, .slice none 0 0] 24) = w4 := ⟨_, rfl⟩
            rw [hw4] at t4 BN
            rw [hjy, hw4]
            have ST4 : Hid (Still wc w4) := ST3.out.trans t4
            have JY4 : Hid (wc.heap.size ≤ jy ∧ Blk w4 jy 24 #[.bool false, .slice none 0 0]) := ⟨by have := ST3.out.size; omega, BN⟩
            have NE : Hid (jx ≠ jy) := by have := JX3.out.2.lt; show _ ≠ _; omega
            have RX4 : Hid (Ints w4.heap.size w4 ax nx zj) := (RX3.out.keep (Still.below t4) (Nat.le_refl _)).up t4.size
            have JX4 : Hid (wc.heap.size ≤ jx ∧ Blk w4 jx 24 #[.bool false, .slice none 0 0]) := ⟨JX3.out.1, t4.blk JX3.out.2⟩
            have RY4 : Hid (Ints w4.heap.size w4 ay ny zj) := (RY3.out.keep (Still.below t4) (Nat.le_refl _)).up t4.size
            clear BN hw4 hjy
            have BK := W1.out.2.still ST4.out
            have hS4 : w4.cell? ⟨M, 0, none⟩ = some (.bool ia) ∧ w4.cell? ⟨M, 1, none⟩ = some (.slice a1 n1 c1) ∧ w4.cell? ⟨M + 1, 0, none⟩ = some (.bool ib) ∧ w4.cell? ⟨M + 1, 1, none⟩ = some (.slice a2 n2 c2) := ⟨BK.b0.cell 0, BK.b0.cell 1, BK.b1.cell 0, BK.b1.cell 1⟩
            clear hHeld BK t4
            refine hK.out _ _ hS4 (fun hHeld => ?_)
            clear hK K hS4 ST3 RX3 JX3 RY3
            refine wpAnyH_ready (rs := [8]) (by kernel_rfl) (by simp) ?_
            refine (AllReadyH.cons rfl (fun K hK => ?_) AllReadyH.nil)
            have jc0 : w4.cell? ⟨jx, 0, none⟩ = some (.bool false) := JX4.out.2.cell 0
            have jc1 : w4.cell? ⟨jx, 1, none⟩ = some (.slice none 0 0) := JX4.out.2.cell 1
            have jf0 := JX4.out.2.frozen 0
            have jf1 := JX4.out.2.frozen 1
            have jl := JX4.out.2.lt
            go_simp
            have t5 : Turn (fun k => k = jx) w4 ((w4.setCell ⟨jx, 0, none⟩ (.bool ij)).setCell ⟨jx, 1, none⟩ (.slice ax nx cx)) := ((Turn.refl (fun k => k = jx) w4).setCell (p := ⟨jx, 0, none⟩) (fun _ => rfl) _).setCell (p := ⟨jx, 1, none⟩) (fun _ => rfl) _
            have BN : Blk ((w4.setCell ⟨jx, 0, none⟩ (.bool ij)).setCell ⟨jx, 1, none⟩ (.slice ax nx cx)) jx 24 #[.bool ij, .slice ax nx cx] := by simpa using (JX4.out.2.set 0 (.bool ij)).set 1 (.slice ax nx cx)
            obtain ⟨w5, hw5⟩ : ∃ w5, ((w4.setCell ⟨jx, 0, none⟩ (.bool ij)).setCell ⟨jx, 1, none⟩ (.slice ax nx cx)) = w5 := ⟨_, rfl⟩
            rw [hw5] at t5 BN
            rw [hw5]
            have ST5 : Hid (Still wc w5) := (ST4.out.turn.trans t5).mono fun k hk e => by have := JX4.out.1; omega
            have JX5 : Hid (wc.heap.size ≤ jx ∧ Blk w5 jx 24 #[.bool ij, .slice ax nx cx]) := ⟨JX4.out.1, BN⟩
            have JY5 : Hid (wc.heap.size ≤ jy ∧ Blk w5 jy 24 #[.bool false, .slice none 0 0]) := ⟨JY4.out.1, JY4.out.2.keep t5 (by have := NE.out; omega)⟩
            have RX5 : Hid (Ints w5.heap.size w5 ax nx zj) := (RX4.out.off t5 JX4.out.2).up t5.size
            have RY5 : Hid (Ints w5.heap.size w5 ay ny zj) := (RY4.out.off t5 JX4.out.2).up t5.size
            clear BN hw5 jc0 jc1 jf0 jf1 jl
            have BK := W1.out.2.still ST5.out
            have hS5 : w5.cell? ⟨M, 0, none⟩ = some (.bool ia) ∧ w5.cell? ⟨M, 1, none⟩ = some (.slice a1 n1 c1) ∧ w5.cell? ⟨M + 1, 0, none⟩ = some (.bool ib) ∧ w5.cell? ⟨M + 1, 1, none⟩ = some (.slice a2 n2 c2) := ⟨BK.b0.cell 0, BK.b0.cell 1, BK.b1.cell 0, BK.b1.cell 1⟩
            clear hHeld BK t5
            refine hK.out _ _ hS5 (fun hHeld => ?_)
            clear hK K hS5 ST4 RX4 JX4 RY4 JY4
            refine wpAnyH_ready (rs := [9]) (by kernel_rfl) (by simp) ?_
            refine (AllReadyH.cons rfl (fun K hK => ?_) AllReadyH.nil)
            have jc0 : w5.cell? ⟨jy, 0, none⟩ = some (.bool false) := JY5.out.2.cell 0
            have jc1 : w5.cell? ⟨jy, 1, none⟩ = some (.slice none 0 0) := JY5.out.2.cell 1
            have jf0 := JY5.out.2.frozen 0
            have jf1 := JY5.out.2.frozen 1
            have jl := JY5.out.2.lt
            go_simp
            have t6 : Turn (fun k => k = jy) w5 ((w5.setCell ⟨jy, 0, none⟩ (.bool ij)).setCell ⟨jy, 1, none⟩ (.slice ay ny cy)) := ((Turn.refl (fun k => k = jy) w5).setCell (p := ⟨jy, 0, none⟩) (fun _ => rfl) _).setCell (p := ⟨jy, 1, none⟩) (fun _ => rfl) _
            have BN : Blk ((w5.setCell ⟨jy, 0, none⟩ (.bool ij)).setCell ⟨jy, 1, none⟩ (.slice ay ny cy)) jy 24 #[.bool ij, .slice ay ny cy] := by simpa using (JY5.out.2.set 0 (.bool ij)).set 1 (.slice ay ny cy)
            obtain ⟨w6, hw6⟩ : ∃ w6, ((w5.setCell ⟨jy, 0, none⟩ (.bool ij)).setCell ⟨jy, 1, none⟩ (.slice ay ny cy)) = w6 := ⟨_, rfl⟩
            rw [hw6] at t6 BN
            rw [hw6]
            have ST6 : Hid (Still wc w6) := (ST5.out.turn.trans t6).mono fun k hk e => by have := JY5.out.1; omega
            have JY6 : Hid (wc.heap.size ≤ jy ∧ Blk w6 jy 24 #[.bool ij, .slice ay ny cy]) := ⟨JY5.out.1, BN⟩
            have JX6 : Hid (wc.heap.size ≤ jx ∧ Blk w6 jx 24 #[.bool ij, .slice ax nx cx]) := ⟨JX5.out.1, JX5.out.2.keep t6 (by have := NE.out; omega)⟩
            have RX6 : Hid (Ints w6.heap.size w6 ax nx zj) := (RX5.out.off t6 JY5.out.2).up t6.size
            have RY6 : Hid (Ints w6.heap.size w6 ay ny zj) := (RY5.out.off t6 JY5.out.2).up t6.size
            clear BN hw6 jc0 jc1 jf0 jf1 jl
            have BK := W1.out.2.still ST6.out
            have hS6 : w6.cell? ⟨M, 0, none⟩ = some (.bool ia) ∧ w6.cell? ⟨M, 1, none⟩ = some (.slice a1 n1 c1) ∧ w6.cell? ⟨M + 1, 0, none⟩ = some (.bool ib) ∧ w6.cell? ⟨M + 1, 1, none⟩ = some (.slice a2 n2 c2) := ⟨BK.b0.cell 0, BK.b0.cell 1, BK.b1.cell 0, BK.b1.cell 1⟩
            clear hHeld BK t6
            refine hK.out _ _ hS6 (fun hHeld => ?_)
            clear hK K hS6 ST5 RX5 JX5 RY5 JY5
            refine wpAnyH_done (by kernel_rfl) ?_ _
            go_wp2_with fail
            go_meet
            case rel => exact ⟨jx, jy, ax, nx, cx, ay, ny, cy, rfl, rfl, ST6.out, JX6.out.2, JY6.out.2, RX6.out, RY6.out⟩
          · go_simp
            obtain ⟨jy, hjy⟩ : ∃ jy, w2.heap.size = jy := ⟨_, rfl⟩
            have t3 : Still w2 (w2.alloc (.cells #[.bool false, .slice none 0 0] 24)) := (Still.refl _).alloc _
            have BN := blk_at (t := 24) (cs := #[.bool false, .slice none 0 0]) hjy
            obtain ⟨w3, hw3⟩ : ∃ w3, w2.alloc (.cells #[.bool false, .slice none 0 0] 24) = w3 := ⟨_, rfl⟩
            rw [hw3] at t3 BN
            rw [hjy, hw3]
            have ST3 : Hid (Still wc w3) := ST2.out.trans t3
            have JY3 : Hid (wc.heap.size ≤ jy ∧ Blk w3 jy 24 #[.bool false, .slice none 0 0]) := ⟨by have := ST2.out.size; omega, BN⟩
            have NE : Hid (jx ≠ jy) := by have := JX2.out.2.lt; show _ ≠ _; omega
            have RX3 : Hid (Ints w3.heap.size w3 ax nx zj) := (RX2.out.keep (Still.below t3) (Nat.le_refl _)).up t3.size
            have JX3 : Hid (wc.heap.size ≤ jx ∧ Blk w3 jx 24 #[.bool false, .slice none 0 0]) := ⟨JX2.out.1, t3.blk JX2.out.2⟩
            clear BN hw3 hjy
            have BK := W1.out.2.still ST3.out
            have hS3 : w3.cell? ⟨M, 0, none⟩ = some (.bool ia) ∧ w3.cell? ⟨M, 1, none⟩ = some (.slice a1 n1 c1) ∧ w3.cell? ⟨M + 1, 0, none⟩ = some (.bool ib) ∧ w3.cell? ⟨M + 1, 1, none⟩ = some (.slice a2 n2 c2) := ⟨BK.b0.cell 0, BK.b0.cell 1, BK.b1.cell 0, BK.b1.cell 1⟩
            clear hHeld BK t3
            refine hK.out _ _ hS3 (fun hHeld => ?_)
            clear hK K hS3 ST2 RX2 JX2
            refine wpAnyH_ready (rs := [5]) (by kernel_rfl) (by simp) ?_
            refine (AllReadyH.cons rfl (fun K hK => ?_) AllReadyH.nil)
            go_simp
            refine (refJoin_any (HI.out ST3.out).2.1 (HI.out ST3.out).2.2 (HI.out ST3.out).1 HN.out.2.2.1 HN.out.2.2.2 H64.out).mono ?_; rintro e w4 ⟨ay, ny, cy, rfl, hiy, t4⟩
            rw [HZ.out.1] at hiy
            rw [HZ.out.2]
            have ST4 : Hid (Still wc w4) := ST3.out.trans t4
            have RX4 : Hid (Ints w4.heap.size w4 ax nx zj) := (RX3.out.keep (Still.below t4) (Nat.le_refl _)).up t4.size
            have JX4 : Hid (wc.heap.size ≤ jx ∧ Blk w4 jx 24 #[.bool false, .slice none 0 0]) := ⟨JX3.out.1, t4.blk JX3.out.2⟩
            have JY4 : Hid (wc.heap.size ≤ jy ∧ Blk w4 jy 24 #[.bool false, .slice none 0 0]) := ⟨JY3.out.1, t4.blk JY3.out.2⟩
            have RY4 : Hid (Ints w4.heap.size w4 ay ny zj) := hiy
            clear hiy
            have BK := W1.out.2.still ST4.out
            have hS4 : w4.cell? ⟨M, 0, none⟩ = some (.bool ia) ∧ w4.cell? ⟨M, 1, none⟩ = some (.slice a1 n1 c1) ∧ w4.cell? ⟨M + 1, 0, none⟩ = some (.bool ib) ∧ w4.cell? ⟨M + 1, 1, none⟩ = some (.slice a2 n2 c2) := ⟨BK.b0.cell 0, BK.b0.cell 1, BK.b1.cell 0, BK.b1.cell 1⟩
            clear hHeld BK t4
            refine hK.out _ _ hS4 (fun hHeld => ?_)
            clear hK K hS4 ST3 RX3 JX3 JY3
            refine wpAnyH_ready (rs := [8]) (by kernel_rfl) (by simp) ?_
            refine (AllReadyH.cons rfl (fun K hK => ?_) AllReadyH.nil)
            have jc0 : w4.cell? ⟨jx, 0, none⟩ = some (.bool false) := JX4.out.2.cell 0
            have jc1 : w4.cell? ⟨jx, 1, none⟩ = some (.slice none 0 0) := JX4.out.2.cell 1
            have jf0 := JX4.out.2.frozen 0
            have jf1 := JX4.out.2.frozen 1
            have jl := JX4.out.2.lt
            go_simp
            have t5 : Turn (fun k => k = jx) w4 ((w4.setCell ⟨jx, 0, none⟩ (.bool ij)).setCell ⟨jx, 1, none⟩ (.slice ax nx cx)) := ((Turn.refl (fun k => k = jx) w4).setCell (p := ⟨jx, 0, none⟩) (fun _ => rfl) _).setCell (p := ⟨jx, 1, none⟩) (fun _ => rfl) _
            have BN : Blk ((w4.setCell ⟨jx, 0, none⟩ (.bool ij)).setCell ⟨jx, 1, none⟩ (.slice ax nx cx)) jx 24 #[.bool ij, .slice ax nx cx] := by simpa using (JX4.out.2.set 0 (.bool ij)).set 1 (.slice ax nx cx)
            obtain ⟨w5, hw5⟩ : ∃ w5, ((w4.setCell ⟨jx, 0, none⟩ (.bool ij)).setCell ⟨jx, 1, none⟩ (.slice ax nx cx)) = w5 := ⟨_, rfl⟩
            rw [hw5] at t5 BN
            rw [hw5]
            have ST5 : Hid (Still wc w5) := (ST4.out.turn.trans t5).mono fun k hk e => by have := JX4.out.1; omega
            have JX5 : Hid (wc.heap.size ≤ jx ∧ Blk w5 jx 24 #[.bool ij, .slice ax nx cx]) := ⟨JX4.out.1, BN⟩
            have JY5 : Hid (wc.heap.size ≤ jy ∧ Blk w5 jy 24 #[.bool false, .slice none 0 0]) := ⟨JY4.out.1, JY4.out.2.keep t5 (by have := NE.out; omega)⟩
            have RX5 : Hid (Ints w5.heap.size w5 ax nx zj) := (RX4.out.off t5 JX4.out.2).up t5.size
            have RY5 : Hid (Ints w5.heap.size w5 ay ny zj) := (RY4.out.off t5 JX4.out.2).up t5.size
            clear BN hw5 jc0 jc1 jf0 jf1 jl
            have BK := W1.out.2.still ST5.out
            have hS5 : w5.cell? ⟨M, 0, none⟩ = some (.bool ia) ∧ w5.cell? ⟨M, 1, none⟩ = some (.slice a1 n1 c1) ∧ w5.cell? ⟨M + 1, 0, none⟩ = some (.bool ib) ∧ w5.cell? ⟨M + 1, 1, none⟩ = some (.slice a2 n2 c2) := ⟨BK.b0.cell 0, BK.b0.cell 1, BK.b1.cell 0, BK.b1.cell 1⟩
            clear hHeld BK t5
            refine hK.out _ _ hS5 (fun hHeld => ?_)
            clear hK K hS5 ST4 RX4 JX4 JY4 RY4
            refine wpAnyH_ready (rs := [9]) (by kernel_rfl) (by simp) ?_
            refine (AllReadyH.cons rfl (fun K hK => ?_) AllReadyH.nil)
            have jc0 : w5.cell? ⟨jy, 0, none⟩ = some (.bool false) := JY5.out.2.cell 0
            have jc1 : w5.cell? ⟨jy, 1, none⟩ = some (.slice none 0 0) := JY5.out.2.cell 1
            have jf0 := JY5.out.2.frozen 0
            have jf1 := JY5.out.2.frozen 1
            have jl := JY5.out.2.lt
            go_simp
            have t6 : Turn (fun k => k = jy) w5 ((w5.setCell ⟨jy, 0, none⟩ (.bool ij)).setCell ⟨jy, 1, none⟩ (.slice ay ny cy)) := ((Turn.refl (fun k => k = jy) w5).setCell (p := ⟨jy, 0, none⟩) (fun _ => rfl) _).setCell (p := ⟨jy, 1, none⟩) (fun _ => rfl) _
            have BN : Blk ((w5.setCell ⟨jy, 0, none⟩ (.bool ij)).setCell ⟨jy, 1, none⟩ (.slice ay ny cy)) jy 24 #[.bool ij, .slice ay ny cy] := by simpa using (JY5.out.2.set 0 (.bool ij)).set 1 (.slice ay ny cy)
            obtain ⟨w6, hw6⟩ : ∃ w6, ((w5.setCell ⟨jy, 0, none⟩ (.bool ij)).setCell ⟨jy, 1, none⟩ (.slice ay ny cy)) = w6 := ⟨_, rfl⟩
            rw [hw6] at t6 BN
            rw [hw6]
            have ST6 : Hid (Still wc w6) := (ST5.out.turn.trans t6).mono fun k hk e => by have := JY5.out.1; omega
            have JY6 : Hid (wc.heap.size ≤ jy ∧ Blk w6 jy 24 #[.bool ij, .slice ay ny cy]) := ⟨JY5.out.1, BN⟩
            have JX6 : Hid (wc.heap.size ≤ jx ∧ Blk w6 jx 24 #[.bool ij, .slice ax nx cx]) := ⟨JX5.out.1, JX5.out.2.keep t6 (by have := NE.out; omega)⟩
            have RX6 : Hid (Ints w6.heap.size w6 ax nx zj) := (RX5.out.off t6 JY5.out.2).up t6.size
            have RY6 : Hid (Ints w6.heap.size w6 ay ny zj) := (RY5.out.off t6 JY5.out.2).up t6.size
            clear BN hw6 jc0 jc1 jf0 jf1 jl
            have BK := W1.out.2.still ST6.out
            have hS6 : w6.cell? ⟨M, 0, none⟩ = some (.bool ia) ∧ w6.cell? ⟨M, 1, none⟩ = some (.slice a1 n1 c1) ∧ w6.cell? ⟨M + 1, 0, none⟩ = some (.bool ib) ∧ w6.cell? ⟨M + 1, 1, none⟩ = some (.slice a2 n2 c2) := ⟨BK.b0.cell 0, BK.b0.cell 1, BK.b1.cell 0, BK.b1.cell 1⟩
            clear hHeld BK t6
            refine hK.out _ _ hS6 (fun hHeld => ?_)
            clear hK K hS6 ST5 RX5 JX5 JY5 RY5
            refine wpAnyH_done (by kernel_rfl) ?_ _
            go_wp2_with fail
            go_meet
            case rel => exact ⟨jx, jy, ax, nx, cx, ay, ny, cy, rfl, rfl, ST6.out, JX6.out.2, JY6.out.2, RX6.out, RY6.out⟩
        · go_simp
          obtain ⟨jy, hjy⟩ : ∃ jy, w1.heap.size = jy := ⟨_, rfl⟩
          have t2 : Still w1 (w1.alloc (.cells #[.bool false, .slice none 0 0] 24)) := (Still.refl _).alloc _
          have BN := blk_at (t := 24) (cs := #[.bool false, .slice none 0 0]) hjy
          obtain ⟨w2, hw2⟩ : ∃ w2, w1.alloc (.cells #[.bool false, .slice none 0 0] 24) = w2 := ⟨_, rfl⟩
          rw [hw2] at t2 BN
          rw [hjy, hw2]
          have ST2 : Hid (Still wc w2) := ST1.out.trans t2
          have JY2 : Hid (wc.heap.size ≤ jy ∧ Blk w2 jy 24 #[.bool false, .slice none 0 0]) := ⟨by have := ST1.out.size; omega, BN⟩
          have RX2 : Hid (Ints w2.heap.size w2 ax nx zj) := (RX1.out.keep (Still.below t2) (Nat.le_refl _)).up t2.size
          clear BN hw2 hjy
          have BK := W1.out.2.still ST2.out
          have hS2 : w2.cell? ⟨M, 0, none⟩ = some (.bool ia) ∧ w2.cell? ⟨M, 1, none⟩ = some (.slice a1 n1 c1) ∧ w2.cell? ⟨M + 1, 0, none⟩ = some (.bool ib) ∧ w2.cell? ⟨M + 1, 1, none⟩ = some (.slice a2 n2 c2) := ⟨BK.b0.cell 0, BK.b0.cell 1, BK.b1.cell 0, BK.b1.cell 1⟩
          clear hHeld BK t2
          refine hK.out _ _ hS2 (fun hHeld => ?_)
          clear hK K hS2 ST1 RX1
          refine wpAnyH_ready (rs := [5, 6]) (by kernel_rfl) (by simp) ?_
          refine (AllReadyH.cons rfl (fun K hK => ?_) (AllReadyH.cons rfl (fun K hK => ?_) AllReadyH.nil))
          · go_simp
            refine (refJoin_any (HI.out ST2.out).2.1 (HI.out ST2.out).2.2 (HI.out ST2.out).1 HN.out.2.2.1 HN.out.2.2.2 H64.out).mono ?_; rintro e w3 ⟨ay, ny, cy, rfl, hiy, t3⟩
            rw [HZ.out.1] at hiy
            rw [HZ.out.2]
            have ST3 : Hid (Still wc w3) := ST2.out.trans t3
            have RX3 : Hid (Ints w3.heap.size w3 ax nx zj) := (RX2.out.keep (Still.below t3) (Nat.le_refl _)).up t3.size
            have JY3 : Hid (wc.heap.size ≤ jy ∧ Blk w3 jy 24 #[.bool false, .slice none 0 0]) := ⟨JY2.out.1, t3.blk JY2.out.2⟩
            have RY3 : Hid (Ints w3.heap.size w3 ay ny zj) := hiy
            clear hiy
            have BK := W1.out.2.still ST3.out
            have hS3 : w3.cell? ⟨M, 0, none⟩ = some (.bool ia) ∧ w3.cell? ⟨M, 1, none⟩ = some (.slice a1 n1 c1) ∧ w3.cell? ⟨M + 1, 0, none⟩ = some (.bool ib) ∧ w3.cell? ⟨M + 1, 1, none⟩ = some (.slice a2 n2 c2) := ⟨BK.b0.cell 0, BK.b0.cell 1, BK.b1.cell 0, BK.b1.cell 1⟩
            clear hHeld BK t3
            refine hK.out _ _ hS3 (fun hHeld => ?_)
            clear hK K hS3 ST2 RX2 JY2
            refine wpAnyH_ready (rs := [6]) (by kernel_rfl) (by simp) ?_
            refine (AllReadyH.cons rfl (fun K hK => ?_) AllReadyH.nil)
            go_simp
            obtain ⟨jx, hjx⟩ : ∃ jx, w3.heap.size = jx := ⟨_, rfl⟩
            have t4 : Still w3 (w3.alloc (.cells #[.bool false, .slice none 0 0] 24)) := (Still.refl _).alloc _
            have BN := blk_at (t := 24) (cs := #[.bool false, .slice none 0 0]) hjx
            obtain ⟨w4, hw4⟩ : ∃ w4, w3.alloc (.cells #[.bool false, .slice none 0 0] 24) = w4 := ⟨_, rfl⟩
            rw [hw4] at t4 BN
            rw [hjx, hw4]
            have ST4 : Hid (Still wc w4) := ST3.out.trans t4
            have JX4 : Hid (wc.heap.size ≤ jx ∧ Blk w4 jx 24 #[.bool false, .slice none 0 0]) := ⟨by have := ST3.out.size; omega, BN⟩
            have NE : Hid (jx ≠ jy) := by have := JY3.out.2.lt; show _ ≠ _; omega
            have RX4 : Hid (Ints w4.heap.size w4 ax nx zj) := (RX3.out.keep (Still.below t4) (Nat.le_refl _)).up t4.size
            have JY4 : Hid (wc.heap.size ≤ jy ∧ Blk w4 jy 24 #[.bool false, .slice none 0 0]) := ⟨JY3.out.1, t4.blk JY3.out.2⟩
            have RY4 : Hid (Ints w4.heap.size w4 ay ny zj) := (RY3.out.keep (Still.below t4) (Nat.le_refl _)).up t4.size
            clear BN hw4 hjx
            have BK := W1.out.2.still ST4.out
            have hS4 : w4.cell? ⟨M, 0, none⟩ = some (.bool ia) ∧ w4.cell? ⟨M, 1, none⟩ = some (.slice a1 n1 c1) ∧ w4.cell? ⟨M + 1, 0, none⟩ = some (.bool ib) ∧ w4.cell? ⟨M + 1, 1, none⟩ = some (.slice a2 n2 c2) := ⟨BK.b0.cell 0, BK.b0.cell 1, BK.b1.cell 0, BK.b1.cell 1⟩
            clear hHeld BK t4
            refine hK.out _ _ hS4 (fun hHeld => ?_)
            clear hK K hS4 ST3 RX3 JY3 RY3
            refine wpAnyH_ready (rs := [8]) (by kernel_rfl) (by simp) ?_
            refine (AllReadyH.cons rfl (fun K hK => ?_) AllReadyH.nil)
            have jc0 : w4.cell? ⟨jx, 0, none⟩ = some (.bool false) := JX4.out.2.cell 0
            have jc1 : w4.cell? ⟨jx, 1, none⟩ = some (.slice none 0 0) := JX4.out.2.cell 1
            have jf0 := JX4.out.2.frozen 0
            have jf1 := JX4.out.2.frozen 1
            have jl := JX4.out.2.lt
            go_simp
            have t5 : Turn (fun k => k = jx) w4 ((w4.setCell ⟨jx, 0, none⟩ (.bool ij)).setCell ⟨jx, 1, none⟩ (.slice ax nx cx)) := ((Turn.refl (fun k => k = jx) w4).setCell (p := ⟨jx, 0, none⟩) (fun _ => rfl) _).setCell (p := ⟨jx, 1, none⟩) (fun _ => rfl) _
            have BN : Blk ((w4.setCell ⟨jx, 0, none⟩ (.bool ij)).setCell ⟨jx, 1, none⟩ (.slice ax nx cx)) jx 24 #[.bool ij, .slice ax nx cx] := by simpa using (JX4.out.2.set 0 (.bool ij)).set 1 (.slice ax nx cx)
            obtain ⟨w5, hw5⟩ : ∃ w5, ((w4.setCell ⟨jx, 0, none⟩ (.bool ij)).setCell ⟨jx, 1, none⟩ (.slice ax nx cx)) = w5 := ⟨_, rfl⟩
            rw [hw5] at t5 BN
            rw [hw5]
            have ST5 : Hid (Still wc w5) := (ST4.out.turn.trans t5).mono fun k hk e => by have := JX4.out.1; omega
            have JX5 : Hid (wc.heap.size ≤ jx ∧ Blk w5 jx 24 #[.bool ij, .slice ax nx cx]) := ⟨JX4.out.1, BN⟩
            have JY5 : Hid (wc.heap.size ≤ jy ∧ Blk w5 jy 24 #[.bool false, .slice none 0 0]) := ⟨JY4.out.1, JY4.out.2.keep t5 (by have := NE.out; omega)⟩
            have RX5 : Hid (Ints w5.heap.size w5 ax nx zj) := (RX4.out.off t5 JX4.out.2).up t5.size
            have RY5 : Hid (Ints w5.heap.size w5 ay ny zj) := (RY4.out.off t5 JX4.out.2).up t5.size
            clear BN hw5 jc0 jc1 jf0 jf1 jl
            have BK := W1.out.2.still ST5.out
            have hS5 : w5.cell? ⟨M, 0, none⟩ = some (.bool ia) ∧ w5.cell? ⟨M, 1, none⟩ = some (.slice a1 n1 c1) ∧ w5.cell? ⟨M + 1, 0, none⟩ = some (.bool ib) ∧ w5.cell? ⟨M + 1, 1, none⟩ = some (.slice a2 n2 c2) := ⟨BK.b0.cell 0, BK.b0.cell 1, BK.b1.cell 0, BK.b1.cell 1⟩
            clear hHeld BK t5
            refine hK.out _ _ hS5 (fun hHeld => ?_)
            clear hK K hS5 ST4 RX4 JY4 RY4 JX4
            refine wpAnyH_ready (rs := [9]) (by kernel_rfl) (by simp) ?_
            refine (AllReadyH.cons rfl (fun K hK => ?_) AllReadyH.nil)
            have jc0 : w5.cell? ⟨jy, 0, none⟩ = some (.bool false) := JY5.out.2.cell 0
            have jc1 : w5.cell? ⟨jy, 1, none⟩ = some (.slice none 0 0) := JY5.out.2.cell 1
            have jf0 := JY5.out.2.frozen 0
            have jf1 := JY5.out.2.frozen 1
            have jl := JY5.out.2.lt
            go_simp
            have t6 : Turn (fun k => k = jy) w5 ((w5.setCell ⟨jy, 0, none⟩ (.bool ij)).setCell ⟨jy, 1, none⟩ (.slice ay ny cy)) := ((Turn.refl (fun k => k = jy) w5).setCell (p := ⟨jy, 0, none⟩) (fun _ => rfl) _).setCell (p := ⟨jy, 1, none⟩) (fun _ => rfl) _
            have BN : Blk ((w5.setCell ⟨jy, 0, none⟩ (.bool ij)).setCell ⟨jy, 1, none⟩ (.slice ay ny cy)) jy 24 #[.bool ij, .slice ay ny cy] := by simpa using (JY5.out.2.set 0 (.bool ij)).set 1 (.slice ay ny cy)
            obtain ⟨w6, hw6⟩ : ∃ w6, ((w5.setCell ⟨jy, 0, none⟩ (.bool ij)).setCell ⟨jy, 1, none⟩ (.slice ay ny cy)) = w6 := ⟨_, rfl⟩
            rw [hw6] at t6 BN
            rw [hw6]
            have ST6 : Hid (Still wc w6) := (ST5.out.turn.trans t6).mono fun k hk e => by have := JY5.out.1; omega
            have JY6 : Hid (wc.heap.size ≤ jy ∧ Blk w6 jy 24 #[.bool ij, .slice ay ny cy]) := ⟨JY5.out.1, BN⟩
            have JX6 : Hid (wc.heap.size ≤ jx ∧ Blk w6 jx 24 #[.bool ij, .slice ax nx cx]) := ⟨JX5.out.1, JX5.out.2.keep t6 (by have := NE.out; omega)⟩
            have RX6 : Hid (Ints w6.heap.size w6 ax nx zj) := (RX5.out.off t6 JY5.out.2).up t6.size
            have RY6 : Hid (Ints w6.heap.size w6 ay ny zj) := (RY5.out.off t6 JY5.out.2).up t6.size
            clear BN hw6 jc0 jc1 jf0 jf1 jl
            have BK := W1.out.2.still ST6.out
            have hS6 : w6.cell? ⟨M, 0, none⟩ = some (.bool ia) ∧ w6.cell? ⟨M, 1, none⟩ = some (.slice a1 n1 c1) ∧ w6.cell? ⟨M + 1, 0, none⟩ = some (.bool ib) ∧ w6.cell? ⟨M + 1, 1, none⟩ = some (.slice a2 n2 c2) := ⟨BK.b0.cell 0, BK.b0.cell 1, BK.b1.cell 0, BK.b1.cell 1⟩
            clear hHeld BK t6
            refine hK.out _ _ hS6 (fun hHeld => ?_)
            clear hK K hS6 ST5 RX5 JY5 RY5 JX5
            refine wpAnyH_done (by kernel_rfl) ?_ _
            go_wp2_with fail
            go_meet
            case rel => exact ⟨jx, jy, ax, nx, cx, ay, ny, cy, rfl, rfl, ST6.out, JX6.out.2, JY6.out.2, RX6.out, RY6.out⟩
          · go_simp
            obtain ⟨jx, hjx⟩ : ∃ jx, w2.heap.size = jx := ⟨_, rfl⟩
            have t3 : Still w2 (w2.alloc (.cells #[.bool false, .slice none 0 0] 24)) := (Still.refl _).alloc _
            have BN := blk_at (t := 24) (cs := #[.bool false, .slice none 0 0]) hjx
            obtain ⟨w3, hw3⟩ : ∃ w3, w2.alloc (.cells #[.bool false, .slice none 0 0] 24) = w3 := ⟨_, rfl⟩
            rw [hw3] at t3 BN
            rw [hjx, hw3]
            have ST3 : Hid (Still wc w3) := ST2.out.trans t3
            have JX3 : Hid (wc.heap.size ≤ jx ∧ Blk w3 jx 24 #[.bool false, .slice none 0 0]) := ⟨by have := ST2.out.size; omega, BN⟩
            have NE : Hid (jx ≠ jy) := by have := JY2.out.2.lt; show _ ≠ _; omega
            have RX3 : Hid (Ints w3.heap.size w3 ax nx zj) := (RX2.out.keep (Still.below t3) (Nat.le_refl _)).up t3.size
            have JY3 : Hid (wc.heap.size ≤ jy ∧ Blk w3 jy 24 #[.bool false, .slice none 0 0]) := ⟨JY2.out.1, t3.blk JY2.out.2⟩
            clear BN hw3 hjx
            have BK := W1.out.2.still ST3.out
            have hS3 : w3.cell? ⟨M, 0, none⟩ = some (.bool ia) ∧ w3.cell? ⟨M, 1, none⟩ = some (.slice a1 n1 c1) ∧ w3.cell? ⟨M + 1, 0, none⟩ = some (.bool ib) ∧ w3.cell? ⟨M + 1, 1, none⟩ = some (.slice a2 n2 c2) := ⟨BK.b0.cell 0, BK.b0.cell 1, BK.b1.cell 0, BK.b1.cell 1⟩
            clear hHeld BK t3
            refine hK.out _ _ hS3 (fun hHeld => ?_)
            clear hK K hS3 ST2 RX2 JY2
            refine wpAnyH_ready (rs := [5]) (by kernel_rfl) (by simp) ?_
            refine (AllReadyH.cons rfl (fun K hK => ?_) AllReadyH.nil)
            go_simp
            refine (refJoin_any (HI.out ST3.out).2.1 (HI.out ST3.out).2.2 (HI.out ST3.out).1 HN.out.2.2.1 HN.out.2.2.2 H64.out).mono ?_; rintro e w4 ⟨ay, ny, cy, rfl, hiy, t4⟩
            rw [HZ.out.1] at hiy
            rw [HZ.out.2]
            have ST4 : Hid (Still wc w4) := ST3.out.trans t4
            have RX4 : Hid (Ints w4.heap.size w4 ax nx zj) := (RX3.out.keep (Still.below t4) (Nat.le_refl _)).up t4.size
            have JY4 : Hid (wc.heap.size ≤ jy ∧ Blk w4 jy 24 #[.bool false, .slice none 0 0]) := ⟨JY3.out.1, t4.blk JY3.out.2⟩
            have JX4 : Hid (wc.heap.size ≤ jx ∧ Blk w4 jx 24 #[.bool false, .slice none 0 0]) := ⟨JX3.out.1, t4.blk JX3.out.2⟩
            have RY4 : Hid (Ints w4.heap.size w4 ay ny zj) := hiy
            clear hiy
            have BK := W1.out.2.still ST4.out
            have hS4 : w4.cell? ⟨M, 0, none⟩ = some (.bool ia) ∧ w4.cell? ⟨M, 1, none⟩ = some (.slice a1 n1 c1) ∧ w4.cell? ⟨M + 1, 0, none⟩ = some (.bool ib) ∧ w4.cell? ⟨M + 1, 1, none⟩ = some (.slice a2 n2 c2) := ⟨BK.b0.cell 0, BK.b0.cell 1, BK.b1.cell 0, BK.b1.cell 1⟩
            clear hHeld BK t4
            refine hK.out _ _ hS4 (fun hHeld => ?_)
            clear hK K hS4 ST3 RX3 JY3 JX3
            refine wpAnyH_ready (rs := [8]) (by kernel_rfl) (by simp) ?_
            refine (AllReadyH.cons rfl (fun K hK => ?_) AllReadyH.nil)
            have jc0 : w4.cell? ⟨jx, 0, none⟩ = some (.bool false) := JX4.out.2.cell 0
            have jc1 : w4.cell? ⟨jx, 1, none⟩ = some (.slice none 0 0) := JX4.out.2.cell 1
            have jf0 := JX4.out.2.frozen 0
            have jf1 := JX4.out.2.frozen 1
            have jl := JX4.out.2.lt
            go_simp
            have t5 : Turn (fun k => k = jx) w4 ((w4.setCell ⟨jx, 0, none⟩ (.bool ij)).setCell ⟨jx, 1, none⟩ (.slice ax nx cx)) := ((Turn.refl (fun k => k = jx) w4).setCell (p := ⟨jx, 0, none⟩) (fun _ => rfl) _).setCell (p := ⟨jx, 1, none⟩) (fun _ => rfl) _
            have BN : Blk ((w4.setCell ⟨jx, 0, none⟩ (.bool ij)).setCell ⟨jx, 1, none⟩ (.slice ax nx cx)) jx 24 #[.bool ij, .slice ax nx cx] := by simpa using (JX4.out.2.set 0 (.bool ij)).set 1 (.slice ax nx cx)
            obtain ⟨w5, hw5⟩ : ∃ w5, ((w4.setCell ⟨jx, 0, none⟩ (.bool ij)).setCell ⟨jx, 1, none⟩ (.slice ax nx cx)) = w5 := ⟨_, rfl⟩
            rw [hw5] at t5 BN
            rw [hw5]
            have ST5 : Hid (Still wc w5) := (ST4.out.turn.trans t5).mono fun k hk e => by have := JX4.out.1; omega
            have JX5 : Hid (wc.heap.size ≤ jx ∧ Blk w5 jx 24 #[.bool ij, .slice ax nx cx]) := ⟨JX4.out.1, BN⟩
            have JY5 : Hid (wc.heap.size ≤ jy ∧ Blk w5 jy 24 #[.bool false, .slice none 0 0]) := ⟨JY4.out.1, JY4.out.2.keep t5 (by have := NE.out; omega)⟩
            have RX5 : Hid (Ints w5.heap.size w5 ax nx zj) := (RX4.out.off t5 JX4.out.2).up t5.size
            have RY5 : Hid (Ints w5.heap.size w5 ay ny zj) := (RY4.out.off t5 JX4.out.2).up t5.size
            clear BN hw5 jc0 jc1 jf0 jf1 jl
            have BK := W1.out.2.still ST5.out
            have hS5 : w5.cell? ⟨M, 0, none⟩ = some (.bool ia) ∧ w5.cell? ⟨M, 1, none⟩ = some (.slice a1 n1 c1) ∧ w5.cell? ⟨M + 1, 0, none⟩ = some (.bool ib) ∧ w5.cell? ⟨M + 1, 1, none⟩ = some (.slice a2 n2 c2) := ⟨BK.b0.cell 0, BK.b0.cell 1, BK.b1.cell 0, BK.b1.cell 1⟩
            clear hHeld BK t5
            refine hK.out _ _ hS5 (fun hHeld => ?_)
            clear hK K hS5 ST4 RX4 JY4 JX4 RY4
            refine wpAnyH_ready (rs := [9]) (by kernel_rfl) (by simp) ?_
            refine (AllReadyH.cons rfl (fun K hK => ?_) AllReadyH.nil)
            have jc0 : w5.cell? ⟨jy, 0, none⟩ = some (.bool false) := JY5.out.2.cell 0
            have jc1 : w5.cell? ⟨jy, 1, none⟩ = some (.slice none 0 0) := JY5.out.2.cell 1
            have jf0 := JY5.out.2.frozen 0
            have jf1 := JY5.out.2.frozen 1
            have jl := JY5.out.2.lt
            go_simp
            have t6 : Turn (fun k => k = jy) w5 ((w5.setCell ⟨jy, 0, none⟩ (.bool ij)).setCell ⟨jy, 1, none⟩ (.slice ay ny cy)) := ((Turn.refl (fun k => k = jy) w5).setCell (p := ⟨jy, 0, none⟩) (fun _ => rfl) _).setCell (p := ⟨jy, 1, none⟩) (fun _ => rfl) _
            have BN : Blk ((w5.setCell ⟨jy, 0, none⟩ (.bool ij)).setCell ⟨jy, 1, none⟩ (.slice ay ny cy)) jy 24 #[.bool ij, .slice ay ny cy] := by simpa using (JY5.out.2.set 0 (.bool ij)).set 1 (.slice ay ny cy)
            obtain ⟨w6, hw6⟩ : ∃ w6, ((w5.setCell ⟨jy, 0, none⟩ (.bool ij)).setCell ⟨jy, 1, none⟩ (.slice ay ny cy)) = w6 := ⟨_, rfl⟩
            rw [hw6] at t6 BN
            rw [hw6]
            have ST6 : Hid (Still wc w6) := (ST5.out.turn.trans t6).mono fun k hk e => by have := JY5.out.1; omega
            have JY6 : Hid (wc.heap.size ≤ jy ∧ Blk w6 jy 24 #[.bool ij, .slice ay ny cy]) := ⟨JY5.out.1, BN⟩
            have JX6 : Hid (wc.heap.size ≤ jx ∧ Blk w6 jx 24 #[.bool ij, .slice ax nx cx]) := ⟨JX5.out.1, JX5.out.2.keep t6 (by have := NE.out; omega)⟩
            have RX6 : Hid (Ints w6.heap.size w6 ax nx zj) := (RX5.out.off t6 JY5.out.2).up t6.size
            have RY6 : Hid (Ints w6.heap.size w6 ay ny zj) := (RY5.out.off t6 JY5.out.2).up t6.size
            clear BN hw6 jc0 jc1 jf0 jf1 jl
            have BK := W1.out.2.still ST6.out
            have hS6 : w6.cell? ⟨M, 0, none⟩ = some (.bool ia) ∧ w6.cell? ⟨M, 1, none⟩ = some (.slice a1 n1 c1) ∧ w6.cell? ⟨M + 1, 0, none⟩ = some (.bool ib) ∧ w6.cell? ⟨M + 1, 1, none⟩ = some (.slice a2 n2 c2) := ⟨BK.b0.cell 0, BK.b0.cell 1, BK.b1.cell 0, BK.b1.cell 1⟩
            clear hHeld BK t6
            refine hK.out _ _ hS6 (fun hHeld => ?_)
            clear hK K hS6 ST5 RX5 JY5 JX5 RY5
            refine wpAnyH_done (by kernel_rfl) ?_ _
            go_wp2_with fail
            go_meet
            case rel => exact ⟨jx, jy, ax, nx, cx, ay, ny, cy, rfl, rfl, ST6.out, JX6.out.2, JY6.out.2, RX6.out, RY6.out⟩
      · go_simp
        obtain ⟨jx, hjx⟩ : ∃ jx, w0.heap.size = jx := ⟨_, rfl⟩
        have t1 : Still w0 (w0.alloc (.cells #[.bool false, .slice none 0 0] 24)) := (Still.refl _).alloc _
        have BN := blk_at (t := 24) (cs := #[.bool false, .slice none 0 0]) hjx
        obtain ⟨w1, hw1⟩ : ∃ w1, w0.alloc (.cells #[.bool false, .slice none 0 0] 24) = w1 := ⟨_, rfl⟩
        rw [hw1] at t1 BN
        rw [hjx, hw1]
        have ST1 : Hid (Still wc w1) := ST0.out.trans t1
        have JX1 : Hid (wc.heap.size ≤ jx ∧ Blk w1 jx 24 #[.bool false, .slice none 0 0]) := ⟨by have := ST0.out.size; omega, BN⟩
        clear BN hw1 hjx
        have BK := W1.out.2.still ST1.out
        have hS1 : w1.cell? ⟨M, 0, none⟩ = some (.bool ia) ∧ w1.cell? ⟨M, 1, none⟩ = some (.slice a1 n1 c1) ∧ w1.cell? ⟨M + 1, 0, none⟩ = some (.bool ib) ∧ w1.cell? ⟨M + 1, 1, none⟩ = some (.slice a2 n2 c2) := ⟨BK.b0.cell 0, BK.b0.cell 1, BK.b1.cell 0, BK.b1.cell 1⟩
        clear hHeld BK t1
        refine hK.out _ _ hS1 (fun hHeld => ?_)
        clear hK K hS1 ST0
        refine wpAnyH_ready (rs := [2, 7]) (by kernel_rfl) (by simp) ?_
        refine (AllReadyH.cons rfl (fun K hK => ?_) (AllReadyH.cons rfl (fun K hK => ?_) AllReadyH.nil))
        · go_simp
          refine (join_any (HI.out ST1.out).2.1 (HI.out ST1.out).2.2 (HI.out ST1.out).1 HN.out.2.2.1 HN.out.2.2.2).mono ?_; rintro e w2 ⟨ax, nx, cx, rfl, hix, t2⟩
          rw [HZ.out.1] at hix
          rw [HZ.out.2]
          have ST2 : Hid (Still wc w2) := ST1.out.trans t2
          have JX2 : Hid (wc.heap.size ≤ jx ∧ Blk w2 jx 24 #[.bool false, .slice none 0 0]) := ⟨JX1.out.1, t2.blk JX1.out.2⟩
          have RX2 : Hid (Ints w2.heap.size w2 ax nx zj) := hix
          clear hix
          have BK := W1.out.2.still ST2.out
          have hS2 : w2.cell? ⟨M, 0, none⟩ = some (.bool ia) ∧ w2.cell? ⟨M, 1, none⟩ = some (.slice a1 n1 c1) ∧ w2.cell? ⟨M + 1, 0, none⟩ = some (.bool ib) ∧ w2.cell? ⟨M + 1, 1, none⟩ = some (.slice a2 n2 c2) := ⟨BK.b0.cell 0, BK.b0.cell 1, BK.b1.cell 0, BK.b1.cell 1⟩
          clear hHeld BK t2
          refine hK.out _ _ hS2 (fun hHeld => ?_)
          clear hK K hS2 ST1 JX1
          refine wpAnyH_ready (rs := [5, 7]) (by kernel_rfl) (by simp) ?_
          refine (AllReadyH.cons rfl (fun K hK => ?_) (AllReadyH.cons rfl (fun K hK => ?_) AllReadyH.nil))
          · go_simp
            refine (refJoin_any (HI.out ST2.out).2.1 (HI.out ST2.out).2.2 (HI.out ST2.out).1 HN.out.2.2.1 HN.out.2.2.2 H64.out).mono ?_; rintro e w3 ⟨ay, ny, cy, rfl, hiy, t3⟩
            rw [HZ.out.1] at hiy
            rw [HZ.out.2]
            have ST3 : Hid (Still wc w3) := ST2.out.trans t3
            have JX3 : Hid (wc.heap.size ≤ jx ∧ Blk w3 jx 24 #[.bool false, .slice none 0 0]) := ⟨JX2.out.1, t3.blk JX2.out.2⟩
            have RX3 : Hid (Ints w3.heap.size w3 ax nx zj) := (RX2.out.keep (Still.below t3) (Nat.le_refl _)).up t3.size
            have RY3 : Hid (Ints w3.heap.size w3 ay ny zj) := hiy
            clear hiy
            have BK := W1.out.2.still ST3.out
            have hS3 : w3.cell? ⟨M, 0, none⟩ = some (.bool ia) ∧ w3.cell? ⟨M, 1, none⟩ = some (.slice a1 n1 c1) ∧ w3.cell? ⟨M + 1, 0, none⟩ = some (.bool ib) ∧ w3.cell? ⟨M + 1, 1, none⟩ = some (.slice a2 n2 c2) := ⟨BK.b0.cell 0, BK.b0.cell 1, BK.b1.cell 0, BK.b1.cell 1⟩
            clear hHeld BK t3
            refine hK.out _ _ hS3 (fun hHeld => ?_)
            clear hK K hS3 ST2 JX2 RX2
            refine wpAnyH_ready (rs := [7]) (by kernel_rfl) (by simp) ?_
            refine (AllReadyH.cons rfl (fun K hK => ?_) AllReadyH.nil)
            go_simp
            obtain ⟨jy, hjy⟩ : ∃ jy, w3.heap.size = jy := ⟨_, rfl⟩
            have t4 : Still w3 (w3.alloc (.cells #[.bool false, .slice none 0 0] 24)) := (Still.refl _).alloc _
            have BN := blk_at (t := 24) (cs := #[.bool false, .slice none 0 0]) hjy
            obtain ⟨w4, hw4⟩ : ∃ w4, w3.alloc (.cells #[.bool false, .slice none 0 0] 24) = w4 := ⟨_, rfl⟩
            rw [hw4] at t4 BN
            rw [hjy, hw4]
            have ST4 : Hid (Still wc w4) := ST3.out.trans t4
            have JY4 : Hid (wc.heap.size ≤ jy ∧ Blk w4 jy 24 #[.bool false, .slice none 0 0]) := ⟨by have := ST3.out.size; omega, BN⟩
            have NE : Hid (jx ≠ jy) := by have := JX3.out.2.lt; show _ ≠ _; omega
            have JX4 : Hid (wc.heap.size ≤ jx ∧ Blk w4 jx 24 #[.bool false, .slice none 0 0]) := ⟨JX3.out.1, t4.blk JX3.out.2⟩
            have RX4 : Hid (Ints w4.heap.size w4 ax nx zj) := (RX3.out.keep (Still.below t4) (Nat.le_refl _)).up t4.size
            have RY4 : Hid (Ints w4.heap.size w4 ay ny zj) := (RY3.out.keep (Still.below t4) (Nat.le_refl _)).up t4.size
            clear BN hw4 hjy
            have BK := W1.out.2.still ST4.out
            have hS4 : w4.cell? ⟨M, 0, none⟩ = some (.bool ia) ∧ w4.cell? ⟨M, 1, none⟩ = some (.slice a1 n1 c1) ∧ w4.cell? ⟨M + 1, 0, none⟩ = some (.bool ib) ∧ w4.cell? ⟨M + 1, 1, none⟩ = some (.slice a2 n2 c2) := ⟨BK.b0.cell 0, BK.b0.cell 1, BK.b1.cell 0, BK.b1.cell 1⟩
            clear hHeld BK t4
            refine hK.out _ _ hS4 (fun hHeld => ?_)
            clear hK K hS4 ST3 JX3 RX3 RY3
            refine wpAnyH_ready (rs := [8]) (by kernel_rfl) (by simp) ?_
            refine (AllReadyH.cons rfl (fun K hK => ?_) AllReadyH.nil)
            have jc0 : w4.cell? ⟨jx, 0, none⟩ = some (.bool false) := JX4.out.2.cell 0
            have jc1 : w4.cell? ⟨jx, 1, none⟩ = some (.slice none 0 0) := JX4.out.2.cell 1
            have jf0 := JX4.out.2.frozen 0
            have jf1 := JX4.out.2.frozen 1
            have jl := JX4.out.2.lt
            go_simp
            have t5 : Turn (fun k => k = jx) w4 ((w4.setCell ⟨jx, 0, none⟩ (.bool ij)).setCell ⟨jx, 1, none⟩ (.slice ax nx cx)) := ((Turn.refl (fun k => k = jx) w4).setCell (p := ⟨jx, 0, none⟩) (fun _ => rfl) _).setCell (p := ⟨jx, 1, none⟩) (fun _ => rfl) _
            have BN : Blk ((w4.setCell ⟨jx, 0, none⟩ (.bool ij)).setCell ⟨jx, 1, none⟩ (.slice ax nx cx)) jx 24 #[.bool ij, .slice ax nx cx] := by simpa using (JX4.out.2.set 0 (.bool ij)).set 1 (.slice ax nx cx)
            obtain ⟨w5, hw5⟩ : ∃ w5, ((w4.setCell ⟨jx, 0, none⟩ (.bool ij)).setCell ⟨jx, 1, none⟩ (.slice ax nx cx)) = w5 := ⟨_, rfl⟩
            rw [hw5] at t5 BN
            rw [hw5]
            have ST5 : Hid (Still wc w5) := (ST4.out.turn.trans t5).mono fun k hk e => by have := JX4.out.1; omega
            have JX5 : Hid (wc.heap.size ≤ jx ∧ Blk w5 jx 24 #[.bool ij, .slice ax nx cx]) := ⟨JX4.out.1, BN⟩
            have JY5 : Hid (wc.heap.size ≤ jy ∧ Blk w5 jy 24 #[.bool false, .slice none 0 0]) := ⟨JY4.out.1, JY4.out.2.keep t5 (by have := NE.out; omega)⟩
            have RX5 : Hid (Ints w5.heap.size w5 ax nx zj) := (RX4.out.off t5 JX4.out.2).up t5.size
            have RY5 : Hid (Ints w5.heap.size w5 ay ny zj) := (RY4.out.off t5 JX4.out.2).up t5.size
            clear BN hw5 jc0 jc1 jf0 jf1 jl
            have BK := W1.out.2.still ST5.out
            have hS5 : w5.cell? ⟨M, 0, none⟩ = some (.bool ia) ∧ w5.cell? ⟨M, 1, none⟩ = some (.slice a1 n1 c1) ∧ w5.cell? ⟨M + 1, 0, none⟩ = some (.bool ib) ∧ w5.cell? ⟨M + 1, 1, none⟩ = some (.slice a2 n2 c2) := ⟨BK.b0.cell 0, BK.b0.cell 1, BK.b1.cell 0, BK.b1.cell 1⟩
            clear hHeld BK t5
            refine hK.out _ _ hS5 (fun hHeld => ?_)
            clear hK K hS5 ST4 JX4 RX4 RY4 JY4
            refine wpAnyH_ready (rs := [9]) (by kernel_rfl) (by simp) ?_
            refine (AllReadyH.cons rfl (fun K hK => ?_) AllReadyH.nil)
            have jc0 : w5.cell? ⟨jy, 0, none⟩ = some (.bool false) := JY5.out.2.cell 0
            have jc1 : w5.cell? ⟨jy, 1, none⟩ = some (.slice none 0 0) := JY5.out.2.cell 1
            have jf0 := JY5.out.2.frozen 0
            have jf1 := JY5.out.2.frozen 1
            have jl := JY5.out.2.lt
            go_simp
            have t6 : Turn (fun k => k = jy) w5 ((w5.setCell ⟨jy, 0, none⟩ (.bool ij)).setCell ⟨jy, 1, none⟩ (.slice ay ny cy)) := ((Turn.refl (fun k => k = jy) w5).setCell (p := ⟨jy, 0, none⟩) (fun _ => rfl) _).setCell (p := ⟨jy, 1, none⟩) (fun _ => rfl) _
            have BN : Blk ((w5.setCell ⟨jy, 0, none⟩ (.bool ij)).setCell ⟨jy, 1, none⟩ (.slice ay ny cy)) jy 24 #[.bool ij, .slice ay ny cy] := by simpa using (JY5.out.2.set 0 (.bool ij)).set 1 (.slice ay ny cy)
            obtain ⟨w6, hw6⟩ : ∃ w6, ((w5.setCell ⟨jy, 0, none⟩ (.bool ij)).setCell ⟨jy, 1, none⟩ (.slice ay ny cy)) = w6 := ⟨_, rfl⟩
            rw [hw6] at t6 BN
            rw [hw6]
            have ST6 : Hid (Still wc w6) := (ST5.out.turn.trans t6).mono fun k hk e => by have := JY5.out.1; omega
            have JY6 : Hid (wc.heap.size ≤ jy ∧ Blk w6 jy 24 #[.bool ij, .slice ay ny cy]) := ⟨JY5.out.1, BN⟩
            have JX6 : Hid (wc.heap.size ≤ jx ∧ Blk w6 jx 24 #[.bool ij, .slice ax nx cx]) := ⟨JX5.out.1, JX5.out.2.keep t6 (by have := NE.out; omega)⟩
            have RX6 : Hid (Ints w6.heap.size w6 ax nx zj) := (RX5.out.off t6 JY5.out.2).up t6.size
            have RY6 : Hid (Ints w6.heap.size w6 ay ny zj) := (RY5.out.off t6 JY5.out.2).up t6.size
            clear BN hw6 jc0 jc1 jf0 jf1 jl
            have BK := W1.out.2.still ST6.out
            have hS6 : w6.cell? ⟨M, 0, none⟩ = some (.bool ia) ∧ w6.cell? ⟨M, 1, none⟩ = some (.slice a1 n1 c1) ∧ w6.cell? ⟨M + 1, 0, none⟩ = some (.bool ib) ∧ w6.cell? ⟨M + 1, 1, none⟩ = some (.slice a2 n2 c2) := ⟨BK.b0.cell 0, BK.b0.cell 1, BK.b1.cell 0, BK.b1.cell 1⟩
            clear hHeld BK t6
            refine hK.out _ _ hS6 (fun hHeld => ?_)
            clear hK K hS6 ST5 JX5 RX5 RY5 JY5
            refine wpAnyH_done (by kernel_rfl) ?_ _
            go_wp2_with fail
            go_meet
            case rel => exact ⟨jx, jy, ax, nx, cx, ay, ny, cy, rfl, rfl, ST6.out, JX6.out.2, JY6.out.2, RX6.out, RY6.out⟩
          · go_simp
            obtain ⟨jy, hjy⟩ : ∃ jy, w2.heap.size = jy := ⟨_, rfl⟩
            have t3 : Still w2 (w2.alloc (.cells #[.bool false, .slice none 0 0] 24)) := (Still.refl _).alloc _
            have BN := blk_at (t := 24) (cs := #[.bool false, .slice none 0 0]) hjy
            obtain ⟨w3, hw3⟩ : ∃ w3, w2.alloc (.cells #[.bool false, .slice none 0 0] 24) = w3 := ⟨_, rfl⟩
            rw [hw3] at t3 BN
            rw [hjy, hw3]
            have ST3 : Hid (Still wc w3) := ST2.out.trans t3
            have JY3 : Hid (wc.heap.size ≤ jy ∧ Blk w3 jy 24 #[.bool false, .slice none 0 0]) := ⟨by have := ST2.out.size; omega, BN⟩
            have NE : Hid (jx ≠ jy) := by have := JX2.out.2.lt; show _ ≠ _; omega
            have JX3 : Hid (wc.heap.size ≤ jx ∧ Blk w3 jx 24 #[.bool false, .slice none 0 0]) := ⟨JX2.out.1, t3.blk JX2.out.2⟩
            have RX3 : Hid (Ints w3.heap.size w3 ax nx zj) := (RX2.out.keep (Still.below t3) (Nat.le_refl _)).up t3.size
            clear BN hw3 hjy
            have BK := W1.out.2.still ST3.out
            have hS3 : w3.cell? ⟨M, 0, none⟩ = some (.bool ia) ∧ w3.cell? ⟨M, 1, none⟩ = some (.slice a1 n1 c1) ∧ w3.cell? ⟨M + 1, 0, none⟩ = some (.bool ib) ∧ w3.cell? ⟨M + 1, 1, none⟩ = some (.slice a2 n2 c2) := ⟨BK.b0.cell 0, BK.b0.cell 1, BK.b1.cell 0, BK.b1.cell 1⟩
            clear hHeld BK t3
            refine hK.out _ _ hS3 (fun hHeld => ?_)
            clear hK K hS3 ST2 JX2 RX2
            refine wpAnyH_ready (rs := [5]) (by kernel_rfl) (by simp) ?_
            refine (AllReadyH.cons rfl (fun K hK => ?_) AllReadyH.nil)
            go_simp
            refine (refJoin_any (HI.out ST3.out).2.1 (HI.out ST3.out).2.2 (HI.out ST3.out).1 HN.out.2.2.1 HN.out.2.2.2 H64.out).mono ?_; rintro e w4 ⟨ay, ny, cy, rfl, hiy, t4⟩
            rw [HZ.out.1] at hiy
            rw [HZ.out.2]
            have ST4 : Hid (Still wc w4) := ST3.out.trans t4
            have JX4 : Hid (wc.heap.size ≤ jx ∧ Blk w4 jx 24 #[.bool false, .slice none 0 0]) := ⟨JX3.out.1, t4.blk JX3.out.2⟩
            have RX4 : Hid (Ints w4.heap.size w4 ax nx zj) := (RX3.out.keep (Still.below t4) (Nat.le_refl _)).up t4.size
            have JY4 : Hid (wc.heap.size ≤ jy ∧ Blk w4 jy 24 #[.bool false, .slice none 0 0]) := ⟨JY3.out.1, t4.blk JY3.out.2⟩
            have RY4 : Hid (Ints w4.heap.size w4 ay ny zj) := hiy
            clear hiy
            have BK := W1.out.2.still ST4.out
            have hS4 : w4.cell? ⟨M, 0, none⟩ = some (.bool ia) ∧ w4.cell? ⟨M, 1, none⟩ = some (.slice a1 n1 c1) ∧ w4.cell? ⟨M + 1, 0, none⟩ = some (.bool ib) ∧ w4.cell? ⟨M + 1, 1, none⟩ = some (.slice a2 n2 c2) := ⟨BK.b0.cell 0, BK.b0.cell 1, BK.b1.cell 0, BK.b1.cell 1⟩
            clear hHeld BK t4
            refine hK.out _ _ hS4 (fun hHeld => ?_)
            clear hK K hS4 ST3 JX3 RX3 JY3
            refine wpAnyH_ready (rs := [8]) (by kernel_rfl) (by simp) ?_
            refine (AllReadyH.cons rfl (fun K hK => ?_) AllReadyH.nil)
            have jc0 : w4.cell? ⟨jx, 0, none⟩ = some (.bool false) := JX4.out.2.cell 0
            have jc1 : w4.cell? ⟨jx, 1, none⟩ = some (.slice none 0 0) := JX4.out.2.cell 1
            have jf0 := JX4.out.2.frozen 0
            have jf1 := JX4.out.2.frozen 1
            have jl := JX4.out.2.lt
            go_simp
            have t5 : Turn (fun k => k = jx) w4 ((w4.setCell ⟨jx, 0, none⟩ (.bool ij)).setCell ⟨jx, 1, none⟩ (.slice ax nx cx)) := ((Turn.refl (fun k => k = jx) w4).setCell (p := ⟨jx, 0, none⟩) (fun _ => rfl) _).setCell (p := ⟨jx, 1, none⟩) (fun _ => rfl) _
            have BN : Blk ((w4.setCell ⟨jx, 0, none⟩ (.bool ij)).setCell ⟨jx, 1, none⟩ (.slice ax nx cx)) jx 24 #[.bool ij, .slice ax nx cx] := by simpa using (JX4.out.2.set 0 (.bool ij)).set 1 (.slice ax nx cx)
            obtain ⟨w5, hw5⟩ : ∃ w5, ((w4.setCell ⟨jx, 0, none⟩ (.bool ij)).setCell ⟨jx, 1, none⟩ (.slice ax nx cx)) = w5 := ⟨_, rfl⟩
            rw [hw5] at t5 BN
            rw [hw5]
            have ST5 : Hid (Still wc w5) := (ST4.out.turn.trans t5).mono fun k hk e => by have := JX4.out.1; omega
            have JX5 : Hid (wc.heap.size ≤ jx ∧ Blk w5 jx 24 #[.bool ij, .slice ax nx cx]) := ⟨JX4.out.1, BN⟩
            have JY5 : Hid (wc.heap.size ≤ jy ∧ Blk w5 jy 24 #[.bool false, .slice none 0 0]) := ⟨JY4.out.1, JY4.out.2.keep t5 (by have := NE.out; omega)⟩
            have RX5 : Hid (Ints w5.heap.size w5 ax nx zj) := (RX4.out.off t5 JX4.out.2).up t5.size
            have RY5 : Hid (Ints w5.heap.size w5 ay ny zj) := (RY4.out.off t5 JX4.out.2).up t5.size
            clear BN hw5 jc0 jc1 jf0 jf1 jl
            have BK := W1.out.2.still ST5.out
            have hS5 : w5.cell? ⟨M, 0, none⟩ = some (.bool ia) ∧ w5.cell? ⟨M, 1, none⟩ = some (.slice a1 n1 c1) ∧ w5.cell? ⟨M + 1, 0, none⟩ = some (.bool ib) ∧ w5.cell? ⟨M + 1, 1, none⟩ = some (.slice a2 n2 c2) := ⟨BK.b0.cell 0, BK.b0.cell 1, BK.b1.cell 0, BK.b1.cell 1⟩
            clear hHeld BK t5
            refine hK.out _ _ hS5 (fun hHeld => ?_)
            clear hK K hS5 ST4 JX4 RX4 JY4 RY4
            refine wpAnyH_ready (rs := [9]) (by kernel_rfl) (by simp) ?_
            refine (AllReadyH.cons rfl (fun K hK => ?_) AllReadyH.nil)
            have jc0 : w5.cell? ⟨jy, 0, none⟩ = some (.bool false) := JY5.out.2.cell 0
            have jc1 : w5.cell? ⟨jy, 1, none⟩ = some (.slice none 0 0) := JY5.out.2.cell 1
            have jf0 := JY5.out.2.frozen 0
            have jf1 := JY5.out.2.frozen 1
            have jl := JY5.out.2.lt
            go_simp
            have t6 : Turn (fun k => k = jy) w5 ((w5.setCell ⟨jy, 0, none⟩ (.bool ij)).setCell ⟨jy, 1, none⟩ (.slice ay ny cy)) := ((Turn.refl (fun k => k = jy) w5).setCell (p := ⟨jy, 0, none⟩) (fun _ => rfl) _).setCell (p := ⟨jy, 1, none⟩) (fun _ => rfl) _
            have BN : Blk ((w5.setCell ⟨jy, 0, none⟩ (.bool ij)).setCell ⟨jy, 1, none⟩ (.slice ay ny cy)) jy 24 #[.bool ij, .slice ay ny cy] := by simpa using (JY5.out.2.set 0 (.bool ij)).set 1 (.slice ay ny cy)
            obtain ⟨w6, hw6⟩ : ∃ w6, ((w5.setCell ⟨jy, 0, none⟩ (.bool ij)).setCell ⟨jy, 1, none⟩ (.slice ay ny cy)) = w6 := ⟨_, rfl⟩
            rw [hw6] at t6 BN
            rw [hw6]
            have ST6 : Hid (Still wc w6) := (ST5.out.turn.trans t6).mono fun k hk e => by have := JY5.out.1; omega
            have JY6 : Hid (wc.heap.size ≤ jy ∧ Blk w6 jy 24 #[.bool ij, .slice ay ny cy]) := ⟨JY5.out.1, BN⟩
            have JX6 : Hid (wc.heap.size ≤ jx ∧ Blk w6 jx 24 #[.bool ij, .slice ax nx cx]) := ⟨JX5.out.1, JX5.out.2.keep t6 (by have := NE.out; omega)⟩
            have RX6 : Hid (Ints w6.heap.size w6 ax nx zj) := (RX5.out.off t6 JY5.out.2).up t6.size
            have RY6 : Hid (Ints w6.heap.size w6 ay ny zj) := (RY5.out.off t6 JY5.out.2).up t6.size
            clear BN hw6 jc0 jc1 jf0 jf1 jl
            have BK := W1.out.2.still ST6.out
            have hS6 : w6.cell? ⟨M, 0, none⟩ = some (.bool ia) ∧ w6.cell? ⟨M, 1, none⟩ = some (.slice a1 n1 c1) ∧ w6.cell? ⟨M + 1, 0, none⟩ = some (.bool ib) ∧ w6.cell? ⟨M + 1, 1, none⟩ = some (.slice a2 n2 c2) := ⟨BK.b0.cell 0, BK.b0.cell 1, BK.b1.cell 0, BK.b1.cell 1⟩
            clear hHeld BK t6
            refine hK.out _ _ hS6 (fun hHeld => ?_)
            clear hK K hS6 ST5 JX5 RX5 JY5 RY5
            refine wpAnyH_done (by kernel_rfl) ?_ _
            go_wp2_with fail
            go_meet
            case rel => exact ⟨jx, jy, ax, nx, cx, ay, ny, cy, rfl, rfl, ST6.out, JX6.out.2, JY6.out.2, RX6.out, RY6.out⟩
        · go_simp
          obtain ⟨jy, hjy⟩ : ∃ jy, w1.heap.size = jy := ⟨_, rfl⟩
          have t2 : Still w1 (w1.alloc (.cells #[.bool false, .slice none 0 0] 24)) := (Still.refl _).alloc _
          have BN := blk_at (t := 24) (cs := #[.bool false, .slice none 0 0]) hjy
          obtain ⟨w2, hw2⟩ : ∃ w2, w1.alloc (.cells #[.bool false, .slice none 0 0] 24) = w2 := ⟨_, rfl⟩
          rw [hw2] at t2 BN
          rw [hjy, hw2]
          have ST2 : Hid (Still wc w2) := ST1.out.trans t2
          have JY2 : Hid (wc.heap.size ≤ jy ∧ Blk w2 jy 24 #[.bool false, .slice none 0 0]) := ⟨by have := ST1.out.size; omega, BN⟩
          have NE : Hid (jx ≠ jy) := by have := JX1.out.2.lt; show _ ≠ _; omega
          have JX2 : Hid (wc.heap.size ≤ jx ∧ Blk w2 jx 24 #[.bool false, .slice none 0 0]) := ⟨JX1.out.1, t2.blk JX1.out.2⟩
          clear BN hw2 hjy
          have BK := W1.out.2.still ST2.out
          have hS2 : w2.cell? ⟨M, 0, none⟩ = some (.bool ia) ∧ w2.cell? ⟨M, 1, none⟩ = some (.slice a1 n1 c1) ∧ w2.cell? ⟨M + 1, 0, none⟩ = some (.bool ib) ∧ w2.cell? ⟨M + 1, 1, none⟩ = some (.slice a2 n2 c2) := ⟨BK.b0.cell 0, BK.b0.cell 1, BK.b1.cell 0, BK.b1.cell 1⟩
          clear hHeld BK t2
          refine hK.out _ _ hS2 (fun hHeld => ?_)
          clear hK K hS2 ST1 JX1
          refine wpAnyH_ready (rs := [2]) (by kernel_rfl) (by simp) ?_
          refine (AllReadyH.cons rfl (fun K hK => ?_) AllReadyH.nil)
          go_simp
          refine (join_any (HI.out ST2.out).2.1 (HI.out ST2.out).2.2 (HI.out ST2.out).1 HN.out.2.2.1 HN.out.2.2.2).mono ?_; rintro e w3 ⟨ax, nx, cx, rfl, hix, t3⟩
          rw [HZ.out.1] at hix
          rw [HZ.out.2]
          have ST3 : Hid (Still wc w3) := ST2.out.trans t3
          have JX3 : Hid (wc.heap.size ≤ jx ∧ Blk w3 jx 24 #[.bool false, .slice none 0 0]) := ⟨JX2.out.1, t3.blk JX2.out.2⟩
          have JY3 : Hid (wc.heap.size ≤ jy ∧ Blk w3 jy 24 #[.bool false, .slice none 0 0]) := ⟨JY2.out.1, t3.blk JY2.out.2⟩
          have RX3 : Hid (Ints w3.heap.size w3 ax nx zj) := hix
          clear hix
          have BK := W1.out.2.still ST3.out
          have hS3 : w3.cell? ⟨M, 0, none⟩ = some (.bool ia) ∧ w3.cell? ⟨M, 1, none⟩ = some (.slice a1 n1 c1) ∧ w3.cell? ⟨M + 1, 0, none⟩ = some (.bool ib) ∧ w3.cell? ⟨M + 1, 1, none⟩ = some (.slice a2 n2 c2) := ⟨BK.b0.cell 0, BK.b0.cell 1, BK.b1.cell 0, BK.b1.cell 1⟩
          clear hHeld BK t3
          refine hK.out _ _ hS3 (fun hHeld => ?_)
          clear hK K hS3 ST2 JX2 JY2
          refine wpAnyH_ready (rs := [5]) (by kernel_rfl) (by simp) ?_
          refine (AllReadyH.cons rfl (fun K hK => ?_) AllReadyH.nil)
          go_simp
          refine (refJoin_any (HI.out ST3.out).2.1 (HI.out ST3.out).2.2 (HI.out ST3.out).1 HN.out.2.2.1 HN.out.2.2.2 H64.out).mono ?_; rintro e w4 ⟨ay, ny, cy, rfl, hiy, t4⟩
          rw [HZ.out.1] at hiy
          rw [HZ.out.2]
          have ST4 : Hid (Still wc w4) := ST3.out.trans t4
          have JX4 : Hid (wc.heap.size ≤ jx ∧ Blk w4 jx 24 #[.bool false, .slice none 0 0]) := ⟨JX3.out.1, t4.blk JX3.out.2⟩
          have JY4 : Hid (wc.heap.size ≤ jy ∧ Blk w4 jy 24 #[.bool false, .slice none 0 0]) := ⟨JY3.out.1, t4.blk JY3.out.2⟩
          have RX4 : Hid (Ints w4.heap.size w4 ax nx zj) := (RX3.out.keep (Still.below t4) (Nat.le_refl _)).up t4.size
          have RY4 : Hid (Ints w4.heap.size w4 ay ny zj) := hiy
          clear hiy
          have BK := W1.out.2.still ST4.out
          have hS4 : w4.cell? ⟨M, 0, none⟩ = some (.bool ia) ∧ w4.cell? ⟨M, 1, none⟩ = some (.slice a1 n1 c1) ∧ w4.cell? ⟨M + 1, 0, none⟩ = some (.bool ib) ∧ w4.cell? ⟨M + 1, 1, none⟩ = some (.slice a2 n2 c2) := ⟨BK.b0.cell 0, BK.b0.cell 1, BK.b1.cell 0, BK.b1.cell 1⟩
          clear hHeld BK t4
          refine hK.out _ _ hS4 (fun hHeld => ?_)
          clear hK K hS4 ST3 JX3 JY3 RX3
          refine wpAnyH_ready (rs := [8]) (by kernel_rfl) (by simp) ?_
          refine (AllReadyH.cons rfl (fun K hK => ?_) AllReadyH.nil)
          have jc0 : w4.cell? ⟨jx, 0, none⟩ = some (.bool false) := JX4.out.2.cell 0
          have jc1 : w4.cell? ⟨jx, 1, none⟩ = some (.slice none 0 0) := JX4.out.2.cell 1
          have jf0 := JX4.out.2.frozen 0
          have jf1 := JX4.out.2.frozen 1
          have jl := JX4.out.2.lt
          go_simp
          have t5 : Turn (fun k => k = jx) w4 ((w4.setCell ⟨jx, 0, none⟩ (.bool ij)).setCell ⟨jx, 1, none⟩ (.slice ax nx cx)) := ((Turn.refl (fun k => k = jx) w4).setCell (p := ⟨jx, 0, none⟩) (fun _ => rfl) _).setCell (p := ⟨jx, 1, none⟩) (fun _ => rfl) _
          have BN : Blk ((w4.setCell ⟨jx, 0, none⟩ (.bool ij)).setCell ⟨jx, 1, none⟩ (.slice ax nx cx)) jx 24 #[.bool ij, .slice ax nx cx] := by simpa using (JX4.out.2.set 0 (.bool ij)).set 1 (.slice ax nx cx)
          obtain ⟨w5, hw5⟩ : ∃ w5, ((w4.setCell ⟨jx, 0, none⟩ (.bool ij)).setCell ⟨jx, 1, none⟩ (.slice ax nx cx)) = w5 := ⟨_, rfl⟩
          rw [hw5] at t5 BN
          rw [hw5]
          have ST5 : Hid (Still wc w5) := (ST4.out.turn.trans t5).mono fun k hk e => by have := JX4.out.1; omega
          have JX5 : Hid (wc.heap.size ≤ jx ∧ Blk w5 jx 24 #[.bool ij, .slice ax nx cx]) := ⟨JX4.out.1, BN⟩
          have JY5 : Hid (wc.heap.size ≤ jy ∧ Blk w5 jy 24 #[.bool false, .slice none 0 0]) := ⟨JY4.out.1, JY4.out.2.keep t5 (by have := NE.out; omega)⟩
          have RX5 : Hid (Ints w5.heap.size w5 ax nx zj) := (RX4.out.off t5 JX4.out.2).up t5.size
          have RY5 : Hid (Ints w5.heap.size w5 ay ny zj) := (RY4.out.off t5 JX4.out.2).up t5.size
          clear BN hw5 jc0 jc1 jf0 jf1 jl
          have BK := W1.out.2.still ST5.out
          have hS5 : w5.cell? ⟨M, 0, none⟩ = some (.bool ia) ∧ w5.cell? ⟨M, 1, none⟩ = some (.slice a1 n1 c1) ∧ w5.cell? ⟨M + 1, 0, none⟩ = some (.bool ib) ∧ w5.cell? ⟨M + 1, 1, none⟩ = some (.slice a2 n2 c2) := ⟨BK.b0.cell 0, BK.b0.cell 1, BK.b1.cell 0, BK.b1.cell 1⟩
          clear hHeld BK t5
          refine hK.out _ _ hS5 (fun hHeld => ?_)
          clear hK K hS5 ST4 JX4 JY4 RX4 RY4
          refine wpAnyH_ready (rs := [9]) (by kernel_rfl) (by simp) ?_
          refine (AllReadyH.cons rfl (fun K hK => ?_) AllReadyH.nil)
          have jc0 : w5.cell? ⟨jy, 0, none⟩ = some (.bool false) := JY5.out.2.cell 0
          have jc1 : w5.cell? ⟨jy, 1, none⟩ = some (.slice none 0 0) := JY5.out.2.cell 1
          have jf0 := JY5.out.2.frozen 0
          have jf1 := JY5.out.2.frozen 1
          have jl := JY5.out.2.lt
          go_simp
          have t6 : Turn (fun k => k = jy) w5 ((w5.setCell ⟨jy, 0, none⟩ (.bool ij)).setCell ⟨jy, 1, none⟩ (.slice ay ny cy)) := ((Turn.refl (fun k => k = jy) w5).setCell (p := ⟨jy, 0, none⟩) (fun _ => rfl) _).setCell (p := ⟨jy, 1, none⟩) (fun _ => rfl) _
          have BN : Blk ((w5.setCell ⟨jy, 0, none⟩ (.bool ij)).setCell ⟨jy, 1, none⟩ (.slice ay ny cy)) jy 24 #[.bool ij, .slice ay ny cy] := by simpa using (JY5.out.2.set 0 (.bool ij)).set 1 (.slice ay ny cy)
          obtain ⟨w6, hw6⟩ : ∃ w6, ((w5.setCell ⟨jy, 0, none⟩ (.bool ij)).setCell ⟨jy, 1, none⟩ (.slice ay ny cy)) = w6 := ⟨_, rfl⟩
          rw [hw6] at t6 BN
          rw [hw6]
          have ST6 : Hid (Still wc w6) := (ST5.out.turn.trans t6).mono fun k hk e => by have := JY5.out.1; omega
          have JY6 : Hid (wc.heap.size ≤ jy ∧ Blk w6 jy 24 #[.bool ij, .slice ay ny cy]) := ⟨JY5.out.1, BN⟩
          have JX6 : Hid (wc.heap.size ≤ jx ∧ Blk w6 jx 24 #[.bool ij, .slice ax nx cx]) := ⟨JX5.out.1, JX5.out.2.keep t6 (by have := NE.out; omega)⟩
          have RX6 : Hid (Ints w6.heap.size w6 ax nx zj) := (RX5.out.off t6 JY5.out.2).up t6.size
          have RY6 : Hid (Ints w6.heap.size w6 ay ny zj) := (RY5.out.off t6 JY5.out.2).up t6.size
          clear BN hw6 jc0 jc1 jf0 jf1 jl
          have BK := W1.out.2.still ST6.out
          have hS6 : w6.cell? ⟨M, 0, none⟩ = some (.bool ia) ∧ w6.cell? ⟨M, 1, none⟩ = some (.slice a1 n1 c1) ∧ w6.cell? ⟨M + 1, 0, none⟩ = some (.bool ib) ∧ w6.cell? ⟨M + 1, 1, none⟩ = some (.slice a2 n2 c2) := ⟨BK.b0.cell 0, BK.b0.cell 1, BK.b1.cell 0, BK.b1.cell 1⟩
          clear hHeld BK t6
          refine hK.out _ _ hS6 (fun hHeld => ?_)
          clear hK K hS6 ST5 JX5 JY5 RX5 RY5
          refine wpAnyH_done (by kernel_rfl) ?_ _
          go_wp2_with fail
          go_meet
          case rel => exact ⟨jx, jy, ax, nx, cx, ay, ny, cy, rfl, rfl, ST6.out, JX6.out.2, JY6.out.2, RX6.out, RY6.out⟩
      · go_simp
        obtain ⟨jy, hjy⟩ : ∃ jy, w0.heap.size = jy := ⟨_, rfl⟩
        have t1 : Still w0 (w0.alloc (.cells #[.bool false, .slice none 0 0] 24)) := (Still.refl _).alloc _
        have BN := blk_at (t := 24) (cs := #[.bool false, .slice none 0 0]) hjy
        obtain ⟨w1, hw1⟩ : ∃ w1, w0.alloc (.cells #[.bool false, .slice none 0 0] 24) = w1 := ⟨_, rfl⟩
        rw [hw1] at t1 BN
        rw [hjy, hw1]
        have ST1 : Hid (Still wc w1) := ST0.out.trans t1
        have JY1 : Hid (wc.heap.size ≤ jy ∧ Blk w1 jy 24 #[.bool false, .slice none 0 0]) := ⟨by have := ST0.out.size; omega, BN⟩
        clear BN hw1 hjy
        have BK := W1.out.2.still ST1.out
        have hS1 : w1.cell? ⟨M, 0, none⟩ = some (.bool ia) ∧ w1.cell? ⟨M, 1, none⟩ = some (.slice a1 n1 c1) ∧ w1.cell? ⟨M + 1, 0, none⟩ = some (.bool ib) ∧ w1.cell? ⟨M + 1, 1, none⟩ = some (.slice a2 n2 c2) := ⟨BK.b0.cell 0, BK.b0.cell 1, BK.b1.cell 0, BK.b1.cell 1⟩
        clear hHeld BK t1
        refine hK.out _ _ hS1 (fun hHeld => ?_)
        clear hK K hS1 ST0
        refine wpAnyH_ready (rs := [2, 6]) (by kernel_rfl) (by simp) ?_
        refine (AllReadyH.cons rfl (fun K hK => ?_) (AllReadyH.cons rfl (fun K hK => ?_) AllReadyH.nil))
        · go_simp
          refine (join_any (HI.out ST1.out).2.1 (HI.out ST1.out).2.2 (HI.out ST1.out).1 HN.out.2.2.1 HN.out.2.2.2).mono ?_; rintro e w2 ⟨ax, nx, cx, rfl, hix, t2⟩
          rw [HZ.out.1] at hix
          rw [HZ.out.2]
          have ST2 : Hid (Still wc w2) := ST1.out.trans t2
          have JY2 : Hid (wc.heap.size ≤ jy ∧ Blk w2 jy 24 #[.bool false, .slice none 0 0]) := ⟨JY1.out.1, t2.blk JY1.out.2⟩
          have RX2 : Hid (Ints w2.heap.size w2 ax nx zj) := hix
          clear hix
          have BK := W1.out.2.still ST2.out
          have hS2 : w2.cell? ⟨M, 0, none⟩ = some (.bool ia) ∧ w2.cell? ⟨M, 1, none⟩ = some (.slice a1 n1 c1) ∧ w2.cell? ⟨M + 1, 0, none⟩ = some (.bool ib) ∧ w2.cell? ⟨M + 1, 1, none⟩ = some (.slice a2 n2 c2) := ⟨BK.b0.cell 0, BK.b0.cell 1, BK.b1.cell 0, BK.b1.cell 1⟩
          clear hHeld BK t2
          refine hK.out _ _ hS2 (fun hHeld => ?_)
          clear hK K hS2 ST1 JY1
          refine wpAnyH_ready (rs := [5, 6]) (by kernel_rfl) (by simp) ?_
          refine (AllReadyH.cons rfl (fun K hK => ?_) (AllReadyH.cons rfl (fun K hK => ?_) AllReadyH.nil))
          · go_simp
            refine (refJoin_any (HI.out ST2.out).2.1 (HI.out ST2.out).2.2 (HI.out ST2.out).1 HN.out.2.2.1 HN.out.2.2.2 H64.out).mono ?_; rintro e w3 ⟨ay, ny, cy, rfl, hiy, t3⟩
            rw [HZ.out.1] at hiy
            rw [HZ.out.2]
            have ST3 : Hid (Still wc w3) := ST2.out.trans t3
            have JY3 : Hid (wc.heap.size ≤ jy ∧ Blk w3 jy 24 #[.bool false, .slice none 0 0]) := ⟨JY2.out.1, t3.blk JY2.out.2⟩
            have RX3 : Hid (Ints w3.heap.size w3 ax nx zj) := (RX2.out.keep (Still.below t3) (Nat.le_refl _)).up t3.size
            have RY3 : Hid (Ints w3.heap.size w3 ay ny zj) := hiy
            clear hiy
            have BK := W1.out.2.still ST3.out
            have hS3 : w3.cell? ⟨M, 0, none⟩ = some (.bool ia) ∧ w3.cell? ⟨M, 1, none⟩ = some (.slice a1 n1 c1) ∧ w3.cell? ⟨M + 1, 0, none⟩ = some (.bool ib) ∧ w3.cell? ⟨M + 1, 1, none⟩ = some (.slice a2 n2 c2) := ⟨BK.b0.cell 0, BK.b0.cell 1, BK.b1.cell 0, BK.b1.cell 1⟩
            clear hHeld BK t3
            refine hK.out _ _ hS3 (fun hHeld => ?_)
            clear hK K hS3 ST2 JY2 RX2
            refine wpAnyH_ready (rs := [6]) (by kernel_rfl) (by simp) ?_
            refine (AllReadyH.cons rfl (fun K hK => ?_) AllReadyH.nil)
            go_simp
            obtain ⟨jx, hjx⟩ : ∃ jx, w3.heap.size = jx := ⟨_, rfl⟩
            have t4 : Still w3 (w3.alloc (.cells #[.bool false, .slice none 0 0] 24)) := (Still.refl _).alloc _
            have BN := blk_at (t := 24) (cs := #[.bool false, .slice none 0 0]) hjx
            obtain ⟨w4, hw4⟩ : ∃ w4, w3.alloc (.cells #[.bool false, .slice none 0 0] 24) = w4 := ⟨_, rfl⟩
            rw [hw4] at t4 BN
            rw [hjx, hw4]
            have ST4 : Hid (Still wc w4) := ST3.out.trans t4
            have JX4 : Hid (wc.heap.size ≤ jx ∧ Blk w4 jx 24 #[.bool false, .slice none 0 0]) := ⟨by have := ST3.out.size; omega, BN⟩
            have NE : Hid (jx ≠ jy) := by have := JY3.out.2.lt; show _ ≠ _; omega
            have JY4 : Hid (wc.heap.size ≤ jy ∧ Blk w4 jy 24 #[.bool false, .slice none 0 0]) := ⟨JY3.out.1, t4.blk JY3.out.2⟩
            have RX4 : Hid (Ints w4.heap.size w4 ax nx zj) := (RX3.out.keep (Still.below t4) (Nat.le_refl _)).up t4.size
            have RY4 : Hid (Ints w4.heap.size w4 ay ny zj) := (RY3.out.keep (Still.below t4) (Nat.le_refl _)).up t4.size
            clear BN hw4 hjx
            have BK := W1.out.2.still ST4.out
            have hS4 : w4.cell? ⟨M, 0, none⟩ = some (.bool ia) ∧ w4.cell? ⟨M, 1, none⟩ = some (.slice a1 n1 c1) ∧ w4.cell? ⟨M + 1, 0, none⟩ = some (.bool ib) ∧ w4.cell? ⟨M + 1, 1, none⟩ = some (.slice a2 n2 c2) := ⟨BK.b0.cell 0, BK.b0.cell 1, BK.b1.cell 0, BK.b1.cell 1⟩
            clear hHeld BK t4
            refine hK.out _ _ hS4 (fun hHeld => ?_)
            clear hK K hS4 ST3 JY3 RX3 RY3
            refine wpAnyH_ready (rs := [8]) (by kernel_rfl) (by simp) ?_
            refine (AllReadyH.cons rfl (fun K hK => ?_) AllReadyH.nil)
            have jc0 : w4.cell? ⟨jx, 0, none⟩ = some (.bool false) := JX4.out.2.cell 0
            have jc1 : w4.cell? ⟨jx, 1, none⟩ = some (.slice none 0 0) := JX4.out.2.cell 1
            have jf0 := JX4.out.2.frozen 0
            have jf1 := JX4.out.2.frozen 1
            have jl := JX4.out.2.lt
            go_simp
            have t5 : Turn (fun k => k = jx) w4 ((w4.setCell ⟨jx, 0, none⟩ (.bool ij)).setCell ⟨jx, 1, none⟩ (.slice ax nx cx)) := ((Turn.refl (fun k => k = jx) w4).setCell (p := ⟨jx, 0, none⟩) (fun _ => rfl) _).setCell (p := ⟨jx, 1, none⟩) (fun _ => rfl) _
            have BN : Blk ((w4.setCell ⟨jx, 0, none⟩ (.bool ij)).setCell ⟨jx, 1, none⟩ (.slice ax nx cx)) jx 24 #[.bool ij, .slice ax nx cx] := by simpa using (JX4.out.2.set 0 (.bool ij)).set 1 (.slice ax nx cx)
            obtain ⟨w5, hw5⟩ : ∃ w5, ((w4.setCell ⟨jx, 0, none⟩ (.bool ij)).setCell ⟨jx, 1, none⟩ (.slice ax nx cx)) = w5 := ⟨_, rfl⟩
            rw [hw5] at t5 BN
            rw [hw5]
            have ST5 : Hid (Still wc w5) := (ST4.out.turn.trans t5).mono fun k hk e => by have := JX4.out.1; omega
            have JX5 : Hid (wc.heap.size ≤ jx ∧ Blk w5 jx 24 #[.bool ij, .slice ax nx cx]) := ⟨JX4.out.1, BN⟩
            have JY5 : Hid (wc.heap.size ≤ jy ∧ Blk w5 jy 24 #[.bool false, .slice none 0 0]) := ⟨JY4.out.1, JY4.out.2.keep t5 (by have := NE.out; omega)⟩
            have RX5 : Hid (Ints w5.heap.size w5 ax nx zj) := (RX4.out.off t5 JX4.out.2).up t5.size
            have RY5 : Hid (Ints w5.heap.size w5 ay ny zj) := (RY4.out.off t5 JX4.out.2).up t5.size
            clear BN hw5 jc0 jc1 jf0 jf1 jl
            have BK := W1.out.2.still ST5.out
            have hS5 : w5.cell? ⟨M, 0, none⟩ = some (.bool ia) ∧ w5.cell? ⟨M, 1, none⟩ = some (.slice a1 n1 c1) ∧ w5.cell? ⟨M + 1, 0, none⟩ = some (.bool ib) ∧ w5.cell? ⟨M + 1, 1, none⟩ = some (.slice a2 n2 c2) := ⟨BK.b0.cell 0, BK.b0.cell 1, BK.b1.cell 0, BK.b1.cell 1⟩
            clear hHeld BK t5
            refine hK.out _ _ hS5 (fun hHeld => ?_)
            clear hK K hS5 ST4 JY4 RX4 RY4 JX4
            refine wpAnyH_ready (rs := [9]) (by kernel_rfl) (by simp) ?_
            refine (AllReadyH.cons rfl (fun K hK => ?_) AllReadyH.nil)
            have jc0 : w5.cell? ⟨jy, 0, none⟩ = some (.bool false) := JY5.out.2.cell 0
            have jc1 : w5.cell? ⟨jy, 1, none⟩ = some (.slice none 0 0) := JY5.out.2.cell 1
            have jf0 := JY5.out.2.frozen 0
            have jf1 := JY5.out.2.frozen 1
            have jl := JY5.out.2.lt
            go_simp
            have t6 : Turn (fun k => k = jy) w5 ((w5.setCell ⟨jy, 0, none⟩ (.bool ij)).setCell ⟨jy, 1, none⟩ (.slice ay ny cy)) := ((Turn.refl (fun k => k = jy) w5).setCell (p := ⟨jy, 0, none⟩) (fun _ => rfl) _).setCell (p := ⟨jy, 1, none⟩) (fun _ => rfl) _
            have BN : Blk ((w5.setCell ⟨jy, 0, none⟩ (.bool ij)).setCell ⟨jy, 1, none⟩ (.slice ay ny cy)) jy 24 #[.bool ij, .slice ay ny cy] := by simpa using (JY5.out.2.set 0 (.bool ij)).set 1 (.slice ay ny cy)
            obtain ⟨w6, hw6⟩ : ∃ w6, ((w5.setCell ⟨jy, 0, none⟩ (.bool ij)).setCell ⟨jy, 1, none⟩ (.slice ay ny cy)) = w6 := ⟨_, rfl⟩
            rw [hw6] at t6 BN
            rw [hw6]
            have ST6 : Hid (Still wc w6) := (ST5.out.turn.trans t6).mono fun k hk e => by have := JY5.out.1; omega
            have JY6 : Hid (wc.heap.size ≤ jy ∧ Blk w6 jy 24 #[.bool ij, .slice ay ny cy]) := ⟨JY5.out.1, BN⟩
            have JX6 : Hid (wc.heap.size ≤ jx ∧ Blk w6 jx 24 #[.bool ij, .slice ax nx cx]) := ⟨JX5.out.1, JX5.out.2.keep t6 (by have := NE.out; omega)⟩
            have RX6 : Hid (Ints w6.heap.size w6 ax nx zj) := (RX5.out.off t6 JY5.out.2).up t6.size
            have RY6 : Hid (Ints w6.heap.size w6 ay ny zj) := (RY5.out.off t6 JY5.out.2).up t6.size
            clear BN hw6 jc0 jc1 jf0 jf1 jl
            have BK := W1.out.2.still ST6.out
            have hS6 : w6.cell? ⟨M, 0, none⟩ = some (.bool ia) ∧ w6.cell? ⟨M, 1, none⟩ = some (.slice a1 n1 c1) ∧ w6.cell? ⟨M + 1, 0, none⟩ = some (.bool ib) ∧ w6.cell? ⟨M + 1, 1, none⟩ = some (.slice a2 n2 c2) := ⟨BK.b0.cell 0, BK.b0.cell 1, BK.b1.cell 0, BK.b1.cell 1⟩
            clear hHeld BK t6
            refine hK.out _ _ hS6 (fun hHeld => ?_)
            clear hK K hS6 ST5 JY5 RX5 RY5 JX5
            refine wpAnyH_done (by kernel_rfl) ?_ _
            go_wp2_with fail
            go_meet
            case rel => exact ⟨jx, jy, ax, nx, cx, ay, ny, cy, rfl, rfl, ST6.out, JX6.out.2, JY6.out.2, RX6.out, RY6.out⟩
          · go_simp
            obtain ⟨jx, hjx⟩ : ∃ jx, w2.heap.size = jx := ⟨_, rfl⟩
            have t3 : Still w2 (w2.alloc (.cells #[.bool false, .slice none 0 0] 24)) := (Still.refl _).alloc _
            have BN := blk_at (t := 24) (cs := #[.bool false, .slice none 0 0]) hjx
            obtain ⟨w3, hw3⟩ : ∃ w3, w2.alloc (.cells #[.bool false, .slice none 0 0] 24) = w3 := ⟨_, rfl⟩
            rw [hw3] at t3 BN
            rw [hjx, hw3]
            have ST3 : Hid (Still wc w3) := ST2.out.trans t3
            have JX3 : Hid (wc.heap.size ≤ jx ∧ Blk w3 jx 24 #[.bool false, .slice none 0 0]) := ⟨by have := ST2.out.size; omega, BN⟩
            have NE : Hid (jx ≠ jy) := by have := JY2.out.2.lt; show _ ≠ _; omega
            have JY3 : Hid (wc.heap.size ≤ jy ∧ Blk w3 jy 24 #[.bool false, .slice none 0 0]) := ⟨JY2.out.1, t3.blk JY2.out.2⟩
            have RX3 : Hid (Ints w3.heap.size w3 ax nx zj) := (RX2.out.keep (Still.below t3) (Nat.le_refl _)).up t3.size
            clear BN hw3 hjx
            have BK := W1.out.2.still ST3.out
            have hS3 : w3.cell? ⟨M, 0, none⟩ = some (.bool ia) ∧ w3.cell? ⟨M, 1, none⟩ = some (.slice a1 n1 c1) ∧ w3.cell? ⟨M + 1, 0, none⟩ = some (.bool ib) ∧ w3.cell? ⟨M + 1, 1, none⟩ = some (.slice a2 n2 c2) := ⟨BK.b0.cell 0, BK.b0.cell 1, BK.b1.cell 0, BK.b1.cell 1⟩
            clear hHeld BK t3
            refine hK.out _ _ hS3 (fun hHeld => ?_)
            clear hK K hS3 ST2 JY2 RX2
            refine wpAnyH_ready (rs := [5]) (by kernel_rfl) (by simp) ?_
            refine (AllReadyH.cons rfl (fun K hK => ?_) AllReadyH.nil)
            go_simp
            refine (refJoin_any (HI.out ST3.out).2.1 (HI.out ST3.out).2.2 (HI.out ST3.out).1 HN.out.2.2.1 HN.out.2.2.2 H64.out).mono ?_; rintro e w4 ⟨ay, ny, cy, rfl, hiy, t4⟩
            rw [HZ.out.1] at hiy
            rw [HZ.out.2]
            have ST4 : Hid (Still wc w4) := ST3.out.trans t4
            have JY4 : Hid (wc.heap.size ≤ jy ∧ Blk w4 jy 24 #[.bool false, .slice none 0 0]) := ⟨JY3.out.1, t4.blk JY3.out.2⟩
            have RX4 : Hid (Ints w4.heap.size w4 ax nx zj) := (RX3.out.keep (Still.below t4) (Nat.le_refl _)).up t4.size
            have JX4 : Hid (wc.heap.size ≤ jx ∧ Blk w4 jx 24 #[.bool false, .slice none 0 0]) := ⟨JX3.out.1, t4.blk JX3.out.2⟩
            have RY4 : Hid (Ints w4.heap.size w4 ay ny zj) := hiy
            clear hiy
            have BK := W1.out.2.still ST4.out
            have hS4 : w4.cell? ⟨M, 0, none⟩ = some (.bool ia) ∧ w4.cell? ⟨M, 1, none⟩ = some (.slice a1 n1 c1) ∧ w4.cell? ⟨M + 1, 0, none⟩ = some (.bool ib) ∧ w4.cell? ⟨M + 1, 1, none⟩ = some (.slice a2 n2 c2) := ⟨BK.b0.cell 0, BK.b0.cell 1, BK.b1.cell 0, BK.b1.cell 1⟩
            clear hHeld BK t4
            refine hK.out _ _ hS4 (fun hHeld => ?_)
            clear hK K hS4 ST3 JY3 RX3 JX3
            refine wpAnyH_ready (rs := [8]) (by kernel_rfl) (by simp) ?_
            refine (AllReadyH.cons rfl (fun K hK => ?_) AllReadyH.nil)
            have jc0 : w4.cell? ⟨jx, 0, none⟩ = some (.bool false) := JX4.out.2.cell 0
            have jc1 : w4.cell? ⟨jx, 1, none⟩ = some (.slice none 0 0) := JX4.out.2.cell 1
            have jf0 := JX4.out.2.frozen 0
            have jf1 := JX4.out.2.frozen 1
            have jl := JX4.out.2.lt
            go_simp
            have t5 : Turn (fun k => k = jx) w4 ((w4.setCell ⟨jx, 0, none⟩ (.bool ij)).setCell ⟨jx, 1, none⟩ (.slice ax nx cx)) := ((Turn.refl (fun k => k = jx) w4).setCell (p := ⟨jx, 0, none⟩) (fun _ => rfl) _).setCell (p := ⟨jx, 1, none⟩) (fun _ => rfl) _
            have BN : Blk ((w4.setCell ⟨jx, 0, none⟩ (.bool ij)).setCell ⟨jx, 1, none⟩ (.slice ax nx cx)) jx 24 #[.bool ij, .slice ax nx cx] := by simpa using (JX4.out.2.set 0 (.bool ij)).set 1 (.slice ax nx cx)
            obtain ⟨w5, hw5⟩ : ∃ w5, ((w4.setCell ⟨jx, 0, none⟩ (.bool ij)).setCell ⟨jx, 1, none⟩ (.slice ax nx cx)) = w5 := ⟨_, rfl⟩
            rw [hw5] at t5 BN
            rw [hw5]
            have ST5 : Hid (Still wc w5) := (ST4.out.turn.trans t5).mono fun k hk e => by have := JX4.out.1; omega
            have JX5 : Hid (wc.heap.size ≤ jx ∧ Blk w5 jx 24 #[.bool ij, .slice ax nx cx]) := ⟨JX4.out.1, BN⟩
            have JY5 : Hid (wc.heap.size ≤ jy ∧ Blk w5 jy 24 #[.bool false, .slice none 0 0]) := ⟨JY4.out.1, JY4.out.2.keep t5 (by have := NE.out; omega)⟩
            have RX5 : Hid (Ints w5.heap.size w5 ax nx zj) := (RX4.out.off t5 JX4.out.2).up t5.size
            have RY5 : Hid (Ints w5.heap.size w5 ay ny zj) := (RY4.out.off t5 JX4.out.2).up t5.size
            clear BN hw5 jc0 jc1 jf0 jf1 jl
            have BK := W1.out.2.still ST5.out
            have hS5 : w5.cell? ⟨M, 0, none⟩ = some (.bool ia) ∧ w5.cell? ⟨M, 1, none⟩ = some (.slice a1 n1 c1) ∧ w5.cell? ⟨M + 1, 0, none⟩ = some (.bool ib) ∧ w5.cell? ⟨M + 1, 1, none⟩ = some (.slice a2 n2 c2) := ⟨BK.b0.cell 0, BK.b0.cell 1, BK.b1.cell 0, BK.b1.cell 1⟩
            clear hHeld BK t5
            refine hK.out _ _ hS5 (fun hHeld => ?_)
            clear hK K hS5 ST4 JY4 RX4 JX4 RY4
            refine wpAnyH_ready (rs := [9]) (by kernel_rfl) (by simp) ?_
            refine (AllReadyH.cons rfl (fun K hK => ?_) AllReadyH.nil)
            have jc0 : w5.cell? ⟨jy, 0, none⟩ = some (.bool false) := JY5.out.2.cell 0
            have jc1 : w5.cell? ⟨jy, 1, none⟩ = some (.slice none 0 0) := JY5.out.2.cell 1
            have jf0 := JY5.out.2.frozen 0
            have jf1 := JY5.out.2.frozen 1
            have jl := JY5.out.2.lt
            go_simp
            have t6 : Turn (fun k => k = jy) w5 ((w5.setCell ⟨jy, 0, none⟩ (.bool ij)).setCell ⟨jy, 1, none⟩ (.slice ay ny cy)) := ((Turn.refl (fun k => k = jy) w5).setCell (p := ⟨jy, 0, none⟩) (fun _ => rfl) _).setCell (p := ⟨jy, 1, none⟩) (fun _ => rfl) _
            have BN : Blk ((w5.setCell ⟨jy, 0, none⟩ (.bool ij)).setCell ⟨jy, 1, none⟩ (.slice ay ny cy)) jy 24 #[.bool ij, .slice ay ny cy] := by simpa using (JY5.out.2.set 0 (.bool ij)).set 1 (.slice ay ny cy)
            obtain ⟨w6, hw6⟩ : ∃ w6, ((w5.setCell ⟨jy, 0, none⟩ (.bool ij)).setCell ⟨jy, 1, none⟩ (.slice ay ny cy)) = w6 := ⟨_, rfl⟩
            rw [hw6] at t6 BN
            rw [hw6]
            have ST6 : Hid (Still wc w6) := (ST5.out.turn.trans t6).mono fun k hk e => by have := JY5.out.1; omega
            have JY6 : Hid (wc.heap.size ≤ jy ∧ Blk w6 jy 24 #[.bool ij, .slice ay ny cy]) := ⟨JY5.out.1, BN⟩
            have JX6 : Hid (wc.heap.size ≤ jx ∧ Blk w6 jx 24 #[.bool ij, .slice ax nx cx]) := ⟨JX5.out.1, JX5.out.2.keep t6 (by have := NE.out; omega)⟩
            have RX6 : Hid (Ints w6.heap.size w6 ax nx zj) := (RX5.out.off t6 JY5.out.2).up t6.size
            have RY6 : Hid (Ints w6.heap.size w6 ay ny zj) := (RY5.out.off t6 JY5.out.2).up t6.size
            clear BN hw6 jc0 jc1 jf0 jf1 jl
            have BK := W1.out.2.still ST6.out
            have hS6 : w6.cell? ⟨M, 0, none⟩ = some (.bool ia) ∧ w6.cell? ⟨M, 1, none⟩ = some (.slice a1 n1 c1) ∧ w6.cell? ⟨M + 1, 0, none⟩ = some (.bool ib) ∧ w6.cell? ⟨M + 1, 1, none⟩ = some (.slice a2 n2 c2) := ⟨BK.b0.cell 0, BK.b0.cell 1, BK.b1.cell 0, BK.b1.cell 1⟩
            clear hHeld BK t6
            refine hK.out _ _ hS6 (fun hHeld => ?_)
            clear hK K hS6 ST5 JY5 RX5 JX5 RY5
            refine wpAnyH_done (by kernel_rfl) ?_ _
            go_wp2_with fail
            go_meet
            case rel => exact ⟨jx, jy, ax, nx, cx, ay, ny, cy, rfl, rfl, ST6.out, JX6.out.2, JY6.out.2, RX6.out, RY6.out⟩
        · go_simp
          obtain ⟨jx, hjx⟩ : ∃ jx, w1.heap.size = jx := ⟨_, rfl⟩
          have t2 : Still w1 (w1.alloc (.cells #[.bool false, .slice none 0 0] 24)) := (Still.refl _).alloc _
          have BN := blk_at (t := 24) (cs := #[.bool false, .slice none 0 0]) hjx
          obtain ⟨w2, hw2⟩ : ∃ w2, w1.alloc (.cells #[.bool false, .slice none 0 0] 24) = w2 := ⟨_, rfl⟩
          rw [hw2] at t2 BN
          rw [hjx, hw2]
          have ST2 : Hid (Still wc w2) := ST1.out.trans t2
          have JX2 : Hid (wc.heap.size ≤ jx ∧ Blk w2 jx 24 #[.bool false, .slice none 0 0]) := ⟨by have := ST1.out.size; omega, BN⟩
          have NE : Hid (jx ≠ jy) := by have := JY1.out.2.lt; show _ ≠ _; omega
          have JY2 : Hid (wc.heap.size ≤ jy ∧ Blk w2 jy 24 #[.bool false, .slice none 0 0]) := ⟨JY1.out.1, t2.blk JY1.out.2⟩
          clear BN hw2 hjx
          have BK := W1.out.2.still ST2.out
          have hS2 : w2.cell? ⟨M, 0, none⟩ = some (.bool ia) ∧ w2.cell? ⟨M, 1, none⟩ = some (.slice a1 n1 c1) ∧ w2.cell? ⟨M + 1, 0, none⟩ = some (.bool ib) ∧ w2.cell? ⟨M + 1, 1, none⟩ = some (.slice a2 n2 c2) := ⟨BK.b0.cell 0, BK.b0.cell 1, BK.b1.cell 0, BK.b1.cell 1⟩
          clear hHeld BK t2
          refine hK.out _ _ hS2 (fun hHeld => ?_)
          clear hK K hS2 ST1 JY1
          refine wpAnyH_ready (rs := [2]) (by kernel_rfl) (by simp) ?_
          refine (AllReadyH.cons rfl (fun K hK => ?_) AllReadyH.nil)
          go_simp
          refine (join_any (HI.out ST2.out).2.1 (HI.out ST2.out).2.2 (HI.out ST2.out).1 HN.out.2.2.1 HN.out.2.2.2).mono ?_; rintro e w3 ⟨ax, nx, cx, rfl, hix, t3⟩
          rw [HZ.out.1] at hix
          rw [HZ.out.2]
          have ST3 : Hid (Still wc w3) := ST2.out.trans t3
          have JY3 : Hid (wc.heap.size ≤ jy ∧ Blk w3 jy 24 #[.bool false, .slice none 0 0]) := ⟨JY2.out.1, t3.blk JY2.out.2⟩
          have JX3 : Hid (wc.heap.size ≤ jx ∧ Blk w3 jx 24 #[.bool false, .slice none 0 0]) := ⟨JX2.out.1, t3.blk JX2.out.2⟩
          have RX3 : Hid (Ints w3.heap.size w3 ax nx zj) := hix
          clear hix
          have BK := W1.out.2.still ST3.out
          have hS3 : w3.cell? ⟨M, 0, none⟩ = some (.bool ia) ∧ w3.cell? ⟨M, 1, none⟩ = some (.slice a1 n1 c1) ∧ w3.cell? ⟨M + 1, 0, none⟩ = some (.bool ib) ∧ w3.cell? ⟨M + 1, 1, none⟩ = some (.slice a2 n2 c2) := ⟨BK.b0.cell 0, BK.b0.cell 1, BK.b1.cell 0, BK.b1.cell 1⟩
          clear hHeld BK t3
          refine hK.out _ _ hS3 (fun hHeld => ?_)
          clear hK K hS3 ST2 JY2 JX2
          refine wpAnyH_ready (rs := [5]) (by kernel_rfl) (by simp) ?_
          refine (AllReadyH.cons rfl (fun K hK => ?_) AllReadyH.nil)
          go_simp
          refine (refJoin_any (HI.out ST3.out).2.1 (HI.out ST3.out).2.2 (HI.out ST3.out).1 HN.out.2.2.1 HN.out.2.2.2 H64.out).mono ?_; rintro e w4 ⟨ay, ny, cy, rfl, hiy, t4⟩
          rw [HZ.out.1] at hiy
          rw [HZ.out.2]
          have ST4 : Hid (Still wc w4) := ST3.out.trans t4
          have JY4 : Hid (wc.heap.size ≤ jy ∧ Blk w4 jy 24 #[.bool false, .slice none 0 0]) := ⟨JY3.out.1, t4.blk JY3.out.2⟩
          have JX4 : Hid (wc.heap.size ≤ jx ∧ Blk w4 jx 24 #[.bool false, .slice none 0 0]) := ⟨JX3.out.1, t4.blk JX3.out.2⟩
          have RX4 : Hid (Ints w4.heap.size w4 ax nx zj) := (RX3.out.keep (Still.below t4) (Nat.le_refl _)).up t4.size
          have RY4 : Hid (Ints w4.heap.size w4 ay ny zj) := hiy
          clear hiy
          have BK := W1.out.2.still ST4.out
          have hS4 : w4.cell? ⟨M, 0, none⟩ = some (.bool ia) ∧ w4.cell? ⟨M, 1, none⟩ = some (.slice a1 n1 c1) ∧ w4.cell? ⟨M + 1, 0, none⟩ = some (.bool ib) ∧ w4.cell? ⟨M + 1, 1, none⟩ = some (.slice a2 n2 c2) := ⟨BK.b0.cell 0, BK.b0.cell 1, BK.b1.cell 0, BK.b1.cell 1⟩
          clear hHeld BK t4
          refine hK.out _ _ hS4 (fun hHeld => ?_)
          clear hK K hS4 ST3 JY3 JX3 RX3
          refine wpAnyH_ready (rs := [8]) (by kernel_rfl) (by simp) ?_
          refine (AllReadyH.cons rfl (fun K hK => ?_) AllReadyH.nil)
          have jc0 : w4.cell? ⟨jx, 0, none⟩ = some (.bool false) := JX4.out.2.cell 0
          have jc1 : w4.cell? ⟨jx, 1, none⟩ = some (.slice none 0 0) := JX4.out.2.cell 1
          have jf0 := JX4.out.2.frozen 0
          have jf1 := JX4.out.2.frozen 1
          have jl := JX4.out.2.lt
          go_simp
          have t5 : Turn (fun k => k = jx) w4 ((w4.setCell ⟨jx, 0, none⟩ (.bool ij)).setCell ⟨jx, 1, none⟩ (.slice ax nx cx)) := ((Turn.refl (fun k => k = jx) w4).setCell (p := ⟨jx, 0, none⟩) (fun _ => rfl) _).setCell (p := ⟨jx, 1, none⟩) (fun _ => rfl) _
          have BN : Blk ((w4.setCell ⟨jx, 0, none⟩ (.bool ij)).setCell ⟨jx, 1, none⟩ (.slice ax nx cx)) jx 24 #[.bool ij, .slice ax nx cx] := by simpa using (JX4.out.2.set 0 (.bool ij)).set 1 (.slice ax nx cx)
          obtain ⟨w5, hw5⟩ : ∃ w5, ((w4.setCell ⟨jx, 0, none⟩ (.bool ij)).setCell ⟨jx, 1, none⟩ (.slice ax nx cx)) = w5 := ⟨_, rfl⟩
          rw [hw5] at t5 BN
          rw [hw5]
          have ST5 : Hid (Still wc w5) := (ST4.out.turn.trans t5).mono fun k hk e => by have := JX4.out.1; omega
          have JX5 : Hid (wc.heap.size ≤ jx ∧ Blk w5 jx 24 #[.bool ij, .slice ax nx cx]) := ⟨JX4.out.1, BN⟩
          have JY5 : Hid (wc.heap.size ≤ jy ∧ Blk w5 jy 24 #[.bool false, .slice none 0 0]) := ⟨JY4.out.1, JY4.out.2.keep t5 (by have := NE.out; omega)⟩
          have RX5 : Hid (Ints w5.heap.size w5 ax nx zj) := (RX4.out.off t5 JX4.out.2).up t5.size
          have RY5 : Hid (Ints w5.heap.size w5 ay ny zj) := (RY4.out.off t5 JX4.out.2).up t5.size
          clear BN hw5 jc0 jc1 jf0 jf1 jl
          have BK := W1.out.2.still ST5.out
          have hS5 : w5.cell? ⟨M, 0, none⟩ = some (.bool ia) ∧ w5.cell? ⟨M, 1, none⟩ = some (.slice a1 n1 c1) ∧ w5.cell? ⟨M + 1, 0, none⟩ = some (.bool ib) ∧ w5.cell? ⟨M + 1, 1, none⟩ = some (.slice a2 n2 c2) := ⟨BK.b0.cell 0, BK.b0.cell 1, BK.b1.cell 0, BK.b1.cell 1⟩
          clear hHeld BK t5
          refine hK.out _ _ hS5 (fun hHeld => ?_)
          clear hK K hS5 ST4 JY4 JX4 RX4 RY4
          refine wpAnyH_ready (rs := [9]) (by kernel_rfl) (by simp) ?_
          refine (AllReadyH.cons rfl (fun K hK => ?_) AllReadyH.nil)
          have jc0 : w5.cell? ⟨jy, 0, none⟩ = some (.bool false) := JY5.out.2.cell 0
          have jc1 : w5.cell? ⟨jy, 1, none⟩ = some (.slice none 0 0) := JY5.out.2.cell 1
          have jf0 := JY5.out.2.frozen 0
          have jf1 := JY5.out.2.frozen 1
          have jl := JY5.out.2.lt
          go_simp
          have t6 : Turn (fun k => k = jy) w5 ((w5.setCell ⟨jy, 0, none⟩ (.bool ij)).setCell ⟨jy, 1, none⟩ (.slice ay ny cy)) := ((Turn.refl (fun k => k = jy) w5).setCell (p := ⟨jy, 0, none⟩) (fun _ => rfl) _).setCell (p := ⟨jy, 1, none⟩) (fun _ => rfl) _
          have BN : Blk ((w5.setCell ⟨jy, 0, none⟩ (.bool ij)).setCell ⟨jy, 1, none⟩ (.slice ay ny cy)) jy 24 #[.bool ij, .slice ay ny cy] := by simpa using (JY5.out.2.set 0 (.bool ij)).set 1 (.slice ay ny cy)
          obtain ⟨w6, hw6⟩ : ∃ w6, ((w5.setCell ⟨jy, 0, none⟩ (.bool ij)).setCell ⟨jy, 1, none⟩ (.slice ay ny cy)) = w6 := ⟨_, rfl⟩
          rw [hw6] at t6 BN
          rw [hw6]
          have ST6 : Hid (Still wc w6) := (ST5.out.turn.trans t6).mono fun k hk e => by have := JY5.out.1; omega
          have JY6 : Hid (wc.heap.size ≤ jy ∧ Blk w6 jy 24 #[.bool ij, .slice ay ny cy]) := ⟨JY5.out.1, BN⟩
          have JX6 : Hid (wc.heap.size ≤ jx ∧ Blk w6 jx 24 #[.bool ij, .slice ax nx cx]) := ⟨JX5.out.1, JX5.out.2.keep t6 (by have := NE.out; omega)⟩
          have RX6 : Hid (Ints w6.heap.size w6 ax nx zj) := (RX5.out.off t6 JY5.out.2).up t6.size
          have RY6 : Hid (Ints w6.heap.size w6 ay ny zj) := (RY5.out.off t6 JY5.out.2).up t6.size
          clear BN hw6 jc0 jc1 jf0 jf1 jl
          have BK := W1.out.2.still ST6.out
          have hS6 : w6.cell? ⟨M, 0, none⟩ = some (.bool ia) ∧ w6.cell? ⟨M, 1, none⟩ = some (.slice a1 n1 c1) ∧ w6.cell? ⟨M + 1, 0, none⟩ = some (.bool ib) ∧ w6.cell? ⟨M + 1, 1, none⟩ = some (.slice a2 n2 c2) := ⟨BK.b0.cell 0, BK.b0.cell 1, BK.b1.cell 0, BK.b1.cell 1⟩
          clear hHeld BK t6
          refine hK.out _ _ hS6 (fun hHeld => ?_)
          clear hK K hS6 ST5 JY5 JX5 RX5 RY5
          refine wpAnyH_done (by kernel_rfl) ?_ _
          go_wp2_with fail
          go_meet
          case rel => exact ⟨jx, jy, ax, nx, cx, ay, ny, cy, rfl, rfl, ST6.out, JX6.out.2, JY6.out.2, RX6.out, RY6.out⟩
    case rest =>
      obtain ⟨jx, jy, ax, nx, cx, ay, ny, cy, rfl, rfl, hst, hbx, hby, hix, hiy⟩ := hcut
      have W2 : Hid (Still w wc) := W1.out.1.trans hst
      have HS : Hid (∀ {W : World}, Still wc W → W.cell? ⟨M, 0, none⟩ = some (.bool ia) ∧ W.cell? ⟨M, 1, none⟩ = some (.slice a1 n1 c1) ∧ W.cell? ⟨M + 1, 0, none⟩ = some (.bool ib) ∧ W.cell? ⟨M + 1, 1, none⟩ = some (.slice a2 n2 c2) ∧ W.cell? ⟨jx, 0, none⟩ = some (.bool ij) ∧ W.cell? ⟨jx, 1, none⟩ = some (.slice ax nx cx) ∧ W.cell? ⟨jy, 0, none⟩ = some (.bool ij) ∧ W.cell? ⟨jy, 1, none⟩ = some (.slice ay ny cy)) := fun {W} t => by have B := W1.out.2.still (hst.trans t); exact ⟨B.b0.cell 0, B.b0.cell 1, B.b1.cell 0, B.b1.cell 1, (t.blk hbx).cell 0, (t.blk hbx).cell 1, (t.blk hby).cell 0, (t.blk hby).cell 1⟩
      have HJ : Hid (∀ {W : World}, Still wc W → w.heap.size ≤ W.heap.size ∧ Ints w.heap.size W a1 n1 xs' ∧ Ints w.heap.size W a2 n2 ys' ∧ wc.heap.size ≤ W.heap.size ∧ Ints wc.heap.size W ax nx zj ∧ Ints wc.heap.size W ay ny zj) := fun {W} t => ⟨(HI.out (hst.trans t)).1, (HI.out (hst.trans t)).2.1, (HI.out (hst.trans t)).2.2, t.size, hix.keep (Still.below t) (Nat.le_refl _), hiy.keep (Still.below t) (Nat.le_refl _)⟩
      have HNJ : Hid (nx ≤ 1000000) := by
        have h1 := hix.len
        have h2 := joinL_len (xs' ++ ys')
        have h3 := (HI.out (Still.refl _)).2.1.len
        have h4 := (HI.out (Still.refl _)).2.2.len
        have h5 := HN.out
        rw [HZ.out.1, List.length_append] at h2
        show _ ≤ _
        omega
      have BL : Hid (M + 1 < wc.heap.size ∧ jx < wc.heap.size ∧ jy < wc.heap.size) := ⟨Nat.lt_of_lt_of_le W1.out.2.b1.lt hst.size, hbx.lt, hby.lt⟩
      clear hst hbx hby hix hiy HI H64
      obtain ⟨w0, hw0⟩ : ∃ w0, wc.drew = w0 := ⟨_, rfl⟩
      have ST0 : Hid (Still wc w0) := by rw [← hw0]; exact (Still.refl wc).drew
      have hS0 : w0.cell? ⟨M, 0, none⟩ = some (.bool ia) ∧ w0.cell? ⟨M, 1, none⟩ = some (.slice a1 n1 c1) ∧ w0.cell? ⟨M + 1, 0, none⟩ = some (.bool ib) ∧ w0.cell? ⟨M + 1, 1, none⟩ = some (.slice a2 n2 c2) ∧ w0.cell? ⟨jx, 0, none⟩ = some (.bool ij) ∧ w0.cell? ⟨jx, 1, none⟩ = some (.slice ax nx cx) ∧ w0.cell? ⟨jy, 0, none⟩ = some (.bool ij) ∧ w0.cell? ⟨jy, 1, none⟩ = some (.slice ay ny cy) := HS.out ST0.out
      go_wp2_with fail
      refine wp_region_held_drew (S := fun W => W.cell? ⟨M, 0, none⟩ = some (.bool ia) ∧ W.cell? ⟨M, 1, none⟩ = some (.slice a1 n1 c1) ∧ W.cell? ⟨M + 1, 0, none⟩ = some (.bool ib) ∧ W.cell? ⟨M + 1, 1, none⟩ = some (.slice a2 n2 c2) ∧ W.cell? ⟨jx, 0, none⟩ = some (.bool ij) ∧ W.cell? ⟨jx, 1, none⟩ = some (.slice ax nx cx) ∧ W.cell? ⟨jy, 0, none⟩ = some (.bool ij) ∧ W.cell? ⟨jy, 1, none⟩ = some (.slice ay ny cy)) (by kernel_rfl) (by rw [hw0]; exact hS0) (fun hHeld => ?_)
      try simp only [Act.put, List.getElem_toArray, List.getElem_cons_succ, List.getElem_cons_zero, List.setIfInBounds_toArray, List.set_cons_zero, List.set_cons_succ]
      rw [hw0] at hHeld ⊢
      clear hw0 hS0
      refine wpAnyH_take (i := 0) (v := ?_) rfl (by kernel_rfl) (by kernel_rfl) (by kernel_rfl) (fun _ _ _ h => h) (Or.inl ⟨by rfl, ?_⟩) (by assumption) ?_
      rotate_left
      · intro w hSw; (try dsimp only at hSw); go_simp; try with_reducible rfl
      try simp only [Act.put, List.getElem_toArray, List.getElem_cons_succ, List.getElem_cons_zero, List.setIfInBounds_toArray, List.set_cons_zero, List.set_cons_succ]
      refine wpAnyH_take (i := 1) (v := ?_) rfl (by kernel_rfl) (by kernel_rfl) (by kernel_rfl) (fun _ _ _ h => h) (Or.inl ⟨by rfl, ?_⟩) (by assumption) ?_
      rotate_left
      · intro w hSw; (try dsimp only at hSw); go_simp; try with_reducible rfl
      try simp only [Act.put, List.getElem_toArray, List.getElem_cons_succ, List.getElem_cons_zero, List.setIfInBounds_toArray, List.set_cons_zero, List.set_cons_succ]
      refine wpAnyH_take (i := 3) (v := ?_) rfl (by kernel_rfl) (by kernel_rfl) (by kernel_rfl) (fun _ _ _ h => h) (Or.inl ⟨by rfl, ?_⟩) (by assumption) ?_
      rotate_left
      · intro w hSw; (try dsimp only at hSw); go_simp; try with_reducible rfl
      try simp only [Act.put, List.getElem_toArray, List.getElem_cons_succ, List.getElem_cons_zero, List.setIfInBounds_toArray, List.set_cons_zero, List.set_cons_succ]
      refine wpAnyH_take (i := 4) (v := ?_) rfl (by kernel_rfl) (by kernel_rfl) (by kernel_rfl) (fun _ _ _ h => h) (Or.inl ⟨by rfl, ?_⟩) (by assumption) ?_
      rotate_left
      · intro w hSw; (try dsimp only at hSw); go_simp; try with_reducible rfl
      try simp only [Act.put, List.getElem_toArray, List.getElem_cons_succ, List.getElem_cons_zero, List.setIfInBounds_toArray, List.set_cons_zero, List.set_cons_succ]
      refine wpAnyH_ready (rs := [2]) (by kernel_rfl) (by simp) ?_
      refine AllReadyH.cons rfl (fun K hK => ?_) AllReadyH.nil
      go_simp
      refine (sub_any (HJ.out ST0.out).2.1 (HJ.out ST0.out).2.2.1 (HJ.out ST0.out).1 HN.out.2.2.1 HN.out.2.2.2).mono ?_; rintro e w1 ⟨rfl, t1⟩
      obtain ⟨tb, htb⟩ : ∃ tb, tsub ia xs' ib ys' = tb := ⟨_, rfl⟩
      have HTB := Lib.hid htb
      rw [htb]
      clear htb
      have ST1 : Hid (Still wc w1) := ST0.out.trans t1
      have hS1 := HS.out ST1.out
      clear t1 hHeld
      refine hK.out _ _ hS1 (fun hHeld => ?_)
      clear hK K hS1
      refine wpAnyH_ready (rs := [5]) (by kernel_rfl) (by simp) ?_
      refine AllReadyH.cons rfl (fun K hK => ?_) AllReadyH.nil
      go_simp
      refine (refSub_any (HJ.out ST1.out).2.1 (HJ.out ST1.out).2.2.1 (HJ.out ST1.out).1 HN.out.2.2.1 HN.out.2.2.2).mono ?_; rintro e w2 ⟨rfl, t2⟩
      rw [HTB.out]
      have ST2 : Hid (Still wc w2) := ST1.out.trans t2
      have hS2 := HS.out ST2.out
      clear t2 hHeld
      refine hK.out _ _ hS2 (fun hHeld => ?_)
      clear hK K hS2
      have hbb : (tb == tb) = true := by simp
      have hbj : (ij == ij) = true := by simp
      refine wpAnyH_take (i := 6) (v := (.bool true)) rfl (by kernel_rfl) (by kernel_rfl) (by kernel_rfl) (fun _ _ _ h => h) (Or.inl ⟨by rfl, ?_⟩) (by assumption) ?_
      · intro w hSw; (try dsimp only at hSw); go_simp; try with_reducible rfl
      try simp only [Act.put, List.getElem_toArray, List.getElem_cons_succ, List.getElem_cons_zero, List.setIfInBounds_toArray, List.set_cons_zero, List.set_cons_succ]
      refine wpAnyH_take (i := 7) (v := ?_) rfl (by kernel_rfl) (by kernel_rfl) (by kernel_rfl) (fun _ _ _ h => h) (Or.inl ⟨by rfl, ?_⟩) (by assumption) ?_
      rotate_left
      · intro w hSw; (try dsimp only at hSw); go_simp; try with_reducible rfl
      try simp only [Act.put, List.getElem_toArray, List.getElem_cons_succ, List.getElem_cons_zero, List.setIfInBounds_toArray, List.set_cons_zero, List.set_cons_succ]
      refine wpAnyH_take (i := 8) (v := ?_) rfl (by kernel_rfl) (by kernel_rfl) (by kernel_rfl) (fun _ _ _ h => h) (Or.inl ⟨by rfl, ?_⟩) (by assumption) ?_
      rotate_left
      · intro w hSw; (try dsimp only at hSw); go_simp; try with_reducible rfl
      try simp only [Act.put, List.getElem_toArray, List.getElem_cons_succ, List.getElem_cons_zero, List.setIfInBounds_toArray, List.set_cons_zero, List.set_cons_succ]
      refine wpAnyH_take (i := 9) (v := ?_) rfl (by kernel_rfl) (by kernel_rfl) (by kernel_rfl) (fun _ _ _ h => h) (Or.inl ⟨by rfl, ?_⟩) (by assumption) ?_
      rotate_left
      · intro w hSw; (try dsimp only at hSw); go_simp; try with_reducible rfl
      try simp only [Act.put, List.getElem_toArray, List.getElem_cons_succ, List.getElem_cons_zero, List.setIfInBounds_toArray, List.set_cons_zero, List.set_cons_succ]
      refine wpAnyH_take (i := 10) (v := ?_) rfl (by kernel_rfl) (by kernel_rfl) (by kernel_rfl) (fun _ _ _ h => h) (Or.inl ⟨by rfl, ?_⟩) (by assumption) ?_
      rotate_left
      · intro w hSw; (try dsimp only at hSw); go_simp; try with_reducible rfl
      try simp only [Act.put, List.getElem_toArray, List.getElem_cons_succ, List.getElem_cons_zero, List.setIfInBounds_toArray, List.set_cons_zero, List.set_cons_succ]
      refine wpAnyH_take (i := 11) (v := ?_) rfl (by kernel_rfl) (by kernel_rfl) (by kernel_rfl) (fun _ _ _ h => h) (Or.inl ⟨by rfl, ?_⟩) (by assumption) ?_
      rotate_left
      · intro w hSw; (try dsimp only at hSw); go_simp; try with_reducible rfl
      try simp only [Act.put, List.getElem_toArray, List.getElem_cons_succ, List.getElem_cons_zero, List.setIfInBounds_toArray, List.set_cons_zero, List.set_cons_succ]
      refine wpAnyH_take (i := 12) (v := (.bool true)) rfl (by kernel_rfl) (by kernel_rfl) (by kernel_rfl) (fun _ _ _ h => h) (Or.inl ⟨by rfl, ?_⟩) (by assumption) ?_
      · intro w hSw; (try dsimp only at hSw); go_simp; try with_reducible rfl
      try simp only [Act.put, List.getElem_toArray, List.getElem_cons_succ, List.getElem_cons_zero, List.setIfInBounds_toArray, List.set_cons_zero, List.set_cons_succ]
      refine wpAnyH_take (i := 13) (v := ?_) rfl (by kernel_rfl) (by kernel_rfl) (by kernel_rfl) (fun _ _ _ h => h) (Or.inl ⟨by rfl, ?_⟩) (by assumption) ?_
      rotate_left
      · intro w hSw; (try dsimp only at hSw); go_simp; try with_reducible rfl
      try simp only [Act.put, List.getElem_toArray, List.getElem_cons_succ, List.getElem_cons_zero, List.setIfInBounds_toArray, List.set_cons_zero, List.set_cons_succ]
      refine wpAnyH_take (i := 14) (v := ?_) rfl (by kernel_rfl) (by kernel_rfl) (by kernel_rfl) (fun _ _ _ h => h) (Or.inl ⟨by rfl, ?_⟩) (by assumption) ?_
      rotate_left
      · intro w hSw; (try dsimp only at hSw); go_simp; try with_reducible rfl
      try simp only [Act.put, List.getElem_toArray, List.getElem_cons_succ, List.getElem_cons_zero, List.setIfInBounds_toArray, List.set_cons_zero, List.set_cons_succ]
      refine wpAnyH_take (i := 15) (v := ?_) rfl (by kernel_rfl) (by kernel_rfl) (by kernel_rfl) (fun _ _ _ h => h) (Or.inl ⟨by rfl, ?_⟩) (by assumption) ?_
      rotate_left
      · intro w hSw; (try dsimp only at hSw); go_simp; try with_reducible rfl
      try simp only [Act.put, List.getElem_toArray, List.getElem_cons_succ, List.getElem_cons_zero, List.setIfInBounds_toArray, List.set_cons_zero, List.set_cons_succ]
      refine wpAnyH_take (i := 16) (v := ?_) rfl (by kernel_rfl) (by kernel_rfl) (by kernel_rfl) (fun _ _ _ h => h) (Or.inl ⟨by rfl, ?_⟩) (by assumption) ?_
      rotate_left
      · intro w hSw; (try dsimp only at hSw); go_simp; try with_reducible rfl
      try simp only [Act.put, List.getElem_toArray, List.getElem_cons_succ, List.getElem_cons_zero, List.setIfInBounds_toArray, List.set_cons_zero, List.set_cons_succ]
      refine wpAnyH_take (i := 17) (v := ?_) rfl (by kernel_rfl) (by kernel_rfl) (by kernel_rfl) (fun _ _ _ h => h) (Or.inl ⟨by rfl, ?_⟩) (by assumption) ?_
      rotate_left
      · intro w hSw; (try dsimp only at hSw); go_simp; try with_reducible rfl
      try simp only [Act.put, List.getElem_toArray, List.getElem_cons_succ, List.getElem_cons_zero, List.setIfInBounds_toArray, List.set_cons_zero, List.set_cons_succ]
      refine wpAnyH_take (i := 18) (v := ?_) rfl (by kernel_rfl) (by kernel_rfl) (by kernel_rfl) (fun _ _ _ h => h) (Or.inl ⟨by rfl, ?_⟩) (by assumption) ?_
      rotate_left
      · intro w hSw; (try dsimp only at hSw); go_simp; try with_reducible rfl
      try simp only [Act.put, List.getElem_toArray, List.getElem_cons_succ, List.getElem_cons_zero, List.setIfInBounds_toArray, List.set_cons_zero, List.set_cons_succ]
      refine wpAnyH_ready (rs := [19]) (by kernel_rfl) (by simp) ?_
      refine AllReadyH.cons rfl (fun K hK => ?_) AllReadyH.nil
      go_simp
      refine (alike_same (HJ.out ST2.out).2.2.2.2.1 (HJ.out ST2.out).2.2.2.2.2 (HJ.out ST2.out).2.2.2.1 HNJ.out).mono ?_; rintro e w3 ⟨rfl, t3⟩
      have ST3 : Hid (Still wc w3) := ST2.out.trans t3
      have hS3 := HS.out ST3.out
      clear t3 hHeld
      refine hK.out _ _ hS3 (fun hHeld => ?_)
      clear hK K hS3
      refine wpAnyH_take (i := 20) (v := ?_) rfl (by kernel_rfl) (by kernel_rfl) (by kernel_rfl) (fun _ _ _ h => h) (Or.inl ⟨by rfl, ?_⟩) (by assumption) ?_
      rotate_left
      · intro w hSw; (try dsimp only at hSw); go_simp; try with_reducible rfl
      try simp only [Act.put, List.getElem_toArray, List.getElem_cons_succ, List.getElem_cons_zero, List.setIfInBounds_toArray, List.set_cons_zero, List.set_cons_succ]
      refine wpAnyH_take (i := 21) (v := ?_) rfl (by kernel_rfl) (by kernel_rfl) (by kernel_rfl) (fun _ _ _ h => h) (Or.inl ⟨by rfl, ?_⟩) (by assumption) ?_
      rotate_left
      · intro w hSw; (try dsimp only at hSw); go_simp; try with_reducible rfl
      try simp only [Act.put, List.getElem_toArray, List.getElem_cons_succ, List.getElem_cons_zero, List.setIfInBounds_toArray, List.set_cons_zero, List.set_cons_succ]
      refine wpAnyH_ready (rs := [22]) (by kernel_rfl) (by simp) ?_
      refine AllReadyH.cons rfl (fun K hK => ?_) AllReadyH.nil
      go_simp
      refine (lives_any _).mono ?_; rintro e w4 ⟨rfl, t4⟩
      have ST4 : Hid (Still wc w4) := ST3.out.trans t4
      have hS4 := HS.out ST4.out
      clear t4 hHeld
      refine hK.out _ _ hS4 (fun hHeld => ?_)
      clear hK K hS4
      refine wpAnyH_take (i := 23) (v := ?_) rfl (by kernel_rfl) (by kernel_rfl) (by kernel_rfl) (fun _ _ _ h => h) (Or.inl ⟨by rfl, ?_⟩) (by assumption) ?_
      rotate_left
      · intro w hSw; (try dsimp only at hSw); go_simp; try with_reducible rfl
      try simp only [Act.put, List.getElem_toArray, List.getElem_cons_succ, List.getElem_cons_zero, List.setIfInBounds_toArray, List.set_cons_zero, List.set_cons_succ]
      refine wpAnyH_ready (rs := [24]) (by kernel_rfl) (by simp) ?_
      refine AllReadyH.cons rfl (fun K hK => ?_) AllReadyH.nil
      go_simp
      refine hK.out _ _ hHeld (fun hHeld => ?_)
      clear hK K
      refine wpAnyH_done (by kernel_rfl) ?_ _
      go_wp2_with fail
      go_ret
      exact ⟨rfl, W2.out.trans ST4.out⟩
end Go.Proofs.YtilfmnlbnfhkpaaGreatDoor
