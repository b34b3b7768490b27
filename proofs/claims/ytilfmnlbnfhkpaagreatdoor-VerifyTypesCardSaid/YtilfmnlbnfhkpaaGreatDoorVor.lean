/- Sub is an order, Join the least type above two: the law's walk. -/
import Derived.Test.YtilfmnlbnfhkpaaGreatDoorV13
namespace Go.Proofs.YtilfmnlbnfhkpaaGreatDoor
set_option linter.unusedVariables false
set_option linter.unusedSimpArgs false
open Go.ChangeShapes Go.WideShapes Go.ChangeAt Go.RowKit
open Vf (tsub joinL)
theorem ins_len (x : Int) : ∀ l : List Int, (Vf.ins x l).length = l.length + 1
  | [] => rfl
  | y :: l => by
    unfold Vf.ins
    split
    · simp
    · simp [ins_len x l]
theorem joinL_len (xs : List Int) : (joinL xs).length ≤ xs.length := by
  have gen : ∀ (xs l : List Int), (xs.foldl (fun l s => if s ∈ l then l else Vf.ins s l) l).length ≤ l.length + xs.length := by
    intro xs
    induction xs with
    | nil => intro l; simp
    | cons x xs ih =>
      intro l
      rw [List.foldl_cons]
      have h := ih (if x ∈ l then l else Vf.ins x l)
      have h2 : (if x ∈ l then l else Vf.ins x l).length ≤ l.length + 1 := by
        split
        · omega
        · rw [ins_len]; exact Nat.le_refl _
      simp only [List.length_cons]
      omega
  have := gen xs []
  simpa [joinL] using this
/-- The three types' boxes. -/
structure Box3 (w : World) (M : Nat) (ia : Bool) (a : Option Addr) (na ca : Nat) (ib : Bool) (b : Option Addr) (nb cb : Nat) (ic : Bool) (c : Option Addr) (nc cc : Nat) : Prop where
  b0 : Blk w M 24 #[.bool ia, .slice a na ca]
  b1 : Blk w (M + 1) 24 #[.bool ib, .slice b nb cb]
  b2 : Blk w (M + 1 + 1) 24 #[.bool ic, .slice c nc cc]
theorem Box3.still {w w' : World} {M : Nat} {ia : Bool} {a : Option Addr} {na ca : Nat} {ib : Bool} {b : Option Addr} {nb cb : Nat} {ic : Bool} {c : Option Addr} {nc cc : Nat} (h : Box3 w M ia a na ca ib b nb cb ic c nc cc) (t : Still w w') : Box3 w' M ia a na ca ib b nb cb ic c nc cc := ⟨t.blk h.b0, t.blk h.b1, t.blk h.b2⟩
theorem Box3.put {w0 w : World} {M : Nat} {ia : Bool} {a : Option Addr} {na ca : Nat} {ib : Bool} {b : Option Addr} {nb cb : Nat} {ic : Bool} {c : Option Addr} {nc cc : Nat} (h : Box3 w M ia a na ca ib b nb cb ic c nc cc) (t : Still w0 w) (hM : w0.heap.size = M) (a1 : Option Addr) (n1 c1 : Nat) (a2 : Option Addr) (n2 c2 : Nat) (a3 : Option Addr) (n3 c3 : Nat) :
    Box3 ((((((w.setCell ⟨M, 0, none⟩ (.bool ia)).setCell ⟨M, 1, none⟩ (.slice a1 n1 c1)).setCell ⟨M + 1, 0, none⟩ (.bool ib)).setCell ⟨M + 1, 1, none⟩ (.slice a2 n2 c2)).setCell ⟨M + 1 + 1, 0, none⟩ (.bool ic)).setCell ⟨M + 1 + 1, 1, none⟩ (.slice a3 n3 c3)) M ia a1 n1 c1 ib a2 n2 c2 ic a3 n3 c3 ∧ Turn (fun j => M ≤ j ∧ j ≤ M + 2) w ((((((w.setCell ⟨M, 0, none⟩ (.bool ia)).setCell ⟨M, 1, none⟩ (.slice a1 n1 c1)).setCell ⟨M + 1, 0, none⟩ (.bool ib)).setCell ⟨M + 1, 1, none⟩ (.slice a2 n2 c2)).setCell ⟨M + 1 + 1, 0, none⟩ (.bool ic)).setCell ⟨M + 1 + 1, 1, none⟩ (.slice a3 n3 c3)) := by
  have t0 : Turn (fun j => j = M) w ((w.setCell ⟨M, 0, none⟩ (.bool ia)).setCell ⟨M, 1, none⟩ (.slice a1 n1 c1)) := ((Turn.refl (fun j => j = M) w).setCell (p := ⟨M, 0, none⟩) (fun _ => rfl) _).setCell (p := ⟨M, 1, none⟩) (fun _ => rfl) _
  have b0 : Blk ((w.setCell ⟨M, 0, none⟩ (.bool ia)).setCell ⟨M, 1, none⟩ (.slice a1 n1 c1)) M 24 #[.bool ia, .slice a1 n1 c1] := by simpa using (h.b0.set 0 (.bool ia)).set 1 (.slice a1 n1 c1)
  have b1 := h.b1.keep t0 (by omega)
  have b2 := h.b2.keep t0 (by omega)
  generalize ((w.setCell ⟨M, 0, none⟩ (.bool ia)).setCell ⟨M, 1, none⟩ (.slice a1 n1 c1)) = w1 at *
  have t1 : Turn (fun j => j = M + 1) w1 ((w1.setCell ⟨M + 1, 0, none⟩ (.bool ib)).setCell ⟨M + 1, 1, none⟩ (.slice a2 n2 c2)) := ((Turn.refl (fun j => j = M + 1) w1).setCell (p := ⟨M + 1, 0, none⟩) (fun _ => rfl) _).setCell (p := ⟨M + 1, 1, none⟩) (fun _ => rfl) _
  have b1' : Blk ((w1.setCell ⟨M + 1, 0, none⟩ (.bool ib)).setCell ⟨M + 1, 1, none⟩ (.slice a2 n2 c2)) (M + 1) 24 #[.bool ib, .slice a2 n2 c2] := by simpa using (b1.set 0 (.bool ib)).set 1 (.slice a2 n2 c2)
  have b0' := b0.keep t1 (by omega)
  have b2' := b2.keep t1 (by omega)
  generalize ((w1.setCell ⟨M + 1, 0, none⟩ (.bool ib)).setCell ⟨M + 1, 1, none⟩ (.slice a2 n2 c2)) = w2 at *
  have t2 : Turn (fun j => j = M + 1 + 1) w2 ((w2.setCell ⟨M + 1 + 1, 0, none⟩ (.bool ic)).setCell ⟨M + 1 + 1, 1, none⟩ (.slice a3 n3 c3)) := ((Turn.refl (fun j => j = M + 1 + 1) w2).setCell (p := ⟨M + 1 + 1, 0, none⟩) (fun _ => rfl) _).setCell (p := ⟨M + 1 + 1, 1, none⟩) (fun _ => rfl) _
  have b2'' : Blk ((w2.setCell ⟨M + 1 + 1, 0, none⟩ (.bool ic)).setCell ⟨M + 1 + 1, 1, none⟩ (.slice a3 n3 c3)) (M + 1 + 1) 24 #[.bool ic, .slice a3 n3 c3] := by simpa using (b2'.set 0 (.bool ic)).set 1 (.slice a3 n3 c3)
  exact ⟨⟨b0'.keep t2 (by omega), b1'.keep t2 (by omega), b2''⟩, ((t0.mono fun j _ e => by omega).trans (t1.mono fun j _ e => by omega)).trans (t2.mono fun j _ e => by omega)⟩
/-- Behind short: the three types. -/
def Ord3 (w : World) (M : Nat) (ia ib ic : Bool) (xs ys zs : List Int) (W : World) : Prop := ∃ (a1 : Option Addr) (n1 c1 : Nat) (a2 : Option Addr) (n2 c2 : Nat) (a3 : Option Addr) (n3 c3 : Nat), Still w W ∧ Box3 W M ia a1 n1 c1 ib a2 n2 c2 ic a3 n3 c3 ∧ Ints w.heap.size W a1 n1 xs ∧ Ints w.heap.size W a2 n2 ys ∧ Ints w.heap.size W a3 n3 zs ∧ n1 ≤ 60 ∧ n2 ≤ 60 ∧ n3 ≤ 60
set_option maxRecDepth 100000 in
set_option maxHeartbeats 8000000 in
theorem verifyOrder_w {w : World} (ia ib ic : Bool) {a b c : Option Addr} {na ca nb cb nc cc : Nat} {xs ys zs : List Int} (ha : TyArg w a na ca xs) (hb : TyArg w b nb cb ys) (hc : TyArg w c nc cc zs) :
    Calls Tryz.prog 4 #[.agg #[.bool ia, .slice a na ca], .agg #[.bool ib, .slice b nb cb], .agg #[.bool ic, .slice c nc cc]] w fun e w' => e = .returned (.bool true) ∧ Still w w' := by
  have G : Hid (Still w (((w.alloc (.cells #[.bool ia, .slice a na ca] 24)).alloc (.cells #[.bool ib, .slice b nb cb] 24)).alloc (.cells #[.bool ic, .slice c nc cc] 24)) ∧ Box3 (((w.alloc (.cells #[.bool ia, .slice a na ca] 24)).alloc (.cells #[.bool ib, .slice b nb cb] 24)).alloc (.cells #[.bool ic, .slice c nc cc] 24)) w.heap.size ia a na ca ib b nb cb ic c nc cc) := ⟨(((Still.refl w).alloc _).alloc _).alloc _, (blk_at rfl).alloc _ |>.alloc _, (blk_at (by simp)).alloc _, blk_at (by simp)⟩
  have HA : Hid (∀ {W : World}, Still w W → Calls Tryz.prog 10 #[.agg #[.bool ia, .slice a na ca]] W (ShortR w.heap.size ia xs W)) := fun {W} t => short_any ia (ha.ints.keep (Still.below t) (Nat.le_refl _)) t.size ha.le ha.cap
  have HB : Hid (∀ {W : World}, Still w W → Calls Tryz.prog 10 #[.agg #[.bool ib, .slice b nb cb]] W (ShortR w.heap.size ib ys W)) := fun {W} t => short_any ib (hb.ints.keep (Still.below t) (Nat.le_refl _)) t.size hb.le hb.cap
  have HC : Hid (∀ {W : World}, Still w W → Calls Tryz.prog 10 #[.agg #[.bool ic, .slice c nc cc]] W (ShortR w.heap.size ic zs W)) := fun {W} t => short_any ic (hc.ints.keep (Still.below t) (Nat.le_refl _)) t.size hc.le hc.cap
  clear ha hb hc
  go_enter Tryz.func4, Tryz.ntmps4
  go_wp2_with fail
  generalize (((w.alloc (.cells #[.bool ia, .slice a na ca] 24)).alloc (.cells #[.bool ib, .slice b nb cb] 24)).alloc (.cells #[.bool ic, .slice c nc cc] 24)) = w3 at G ⊢
  obtain ⟨M, hM⟩ : ∃ M, w.heap.size = M := ⟨_, rfl⟩
  have HM := Lib.hid hM
  rw [hM] at G
  rw [hM]
  have SD : Hid (Still w3 w3.drew) := (Still.refl w3).drew
  have BD := G.out.2.still SD.out
  have d00 : w3.drew.cell? ⟨M, 0, none⟩ = some (.bool ia) := BD.b0.cell 0; have d01 : w3.drew.cell? ⟨M, 1, none⟩ = some (.slice a na ca) := BD.b0.cell 1; have d10 : w3.drew.cell? ⟨M + 1, 0, none⟩ = some (.bool ib) := BD.b1.cell 0; have d11 : w3.drew.cell? ⟨M + 1, 1, none⟩ = some (.slice b nb cb) := BD.b1.cell 1; have d20 : w3.drew.cell? ⟨M + 1 + 1, 0, none⟩ = some (.bool ic) := BD.b2.cell 0; have d21 : w3.drew.cell? ⟨M + 1 + 1, 1, none⟩ = some (.slice c nc cc) := BD.b2.cell 1; have dl0 := BD.b0.lt; have dl1 := BD.b1.lt; have dl2 := BD.b2.lt
  clear BD hM
  go_cut [] from 9 (fun wc => Ord3 w M ia ib ic (xs.take 60) (ys.take 60) (zs.take 60) wc)
  case first =>
   go_region_law (go_simp; go_at_call 10; first
    | ((with_reducible refine (HA.out (G.out.1.trans SD.out)).mono ?_); rintro e wA ⟨a1, n1, c1, rfl, hA, hnA, tA⟩; have TA := Lib.hid ((G.out.1.trans SD.out).trans tA); have BA := Lib.hid (G.out.2.still (SD.out.trans tA)); have RA := Lib.hid (And.intro hA hnA); clear hA hnA tA; have p00 : wA.cell? ⟨M, 0, none⟩ = some (.bool ia) := BA.out.b0.cell 0; have p01 : wA.cell? ⟨M, 1, none⟩ = some (.slice a na ca) := BA.out.b0.cell 1; have p10 : wA.cell? ⟨M + 1, 0, none⟩ = some (.bool ib) := BA.out.b1.cell 0; have p11 : wA.cell? ⟨M + 1, 1, none⟩ = some (.slice b nb cb) := BA.out.b1.cell 1; have p20 : wA.cell? ⟨M + 1 + 1, 0, none⟩ = some (.bool ic) := BA.out.b2.cell 0; have p21 : wA.cell? ⟨M + 1 + 1, 1, none⟩ = some (.slice c nc cc) := BA.out.b2.cell 1; have pl0 := BA.out.b0.lt; have pl1 := BA.out.b1.lt; have pl2 := BA.out.b2.lt)
    | ((with_reducible refine (HB.out TA.out).mono ?_); rintro e wB ⟨a2, n2, c2, rfl, hB, hnB, tB⟩; have TB := Lib.hid (TA.out.trans tB); have BB := Lib.hid (BA.out.still tB); have RB := Lib.hid (And.intro (RA.out.1.keep ((Still.below tB).mono TA.out.size) TA.out.size) (And.intro hB hnB)); clear hB hnB tB; have q00 : wB.cell? ⟨M, 0, none⟩ = some (.bool ia) := BB.out.b0.cell 0; have q01 : wB.cell? ⟨M, 1, none⟩ = some (.slice a na ca) := BB.out.b0.cell 1; have q10 : wB.cell? ⟨M + 1, 0, none⟩ = some (.bool ib) := BB.out.b1.cell 0; have q11 : wB.cell? ⟨M + 1, 1, none⟩ = some (.slice b nb cb) := BB.out.b1.cell 1; have q20 : wB.cell? ⟨M + 1 + 1, 0, none⟩ = some (.bool ic) := BB.out.b2.cell 0; have q21 : wB.cell? ⟨M + 1 + 1, 1, none⟩ = some (.slice c nc cc) := BB.out.b2.cell 1; have ql0 := BB.out.b0.lt; have ql1 := BB.out.b1.lt; have ql2 := BB.out.b2.lt)
    | ((with_reducible refine (HC.out TB.out).mono ?_); rintro e wC ⟨a3, n3, c3, rfl, hC, hnC, tC⟩; have TC := Lib.hid (TB.out.trans tC); have BC := Lib.hid (BB.out.still tC); have RC := Lib.hid (And.intro (RB.out.1.keep ((Still.below tC).mono TB.out.size) TB.out.size) (And.intro (RB.out.2.1.keep ((Still.below tC).mono TB.out.size) TB.out.size) hC)); have RN := Lib.hid (And.intro RA.out.2 (And.intro RB.out.2.2 hnC)); clear hC hnC tC; have r00 : wC.cell? ⟨M, 0, none⟩ = some (.bool ia) := BC.out.b0.cell 0; have r01 : wC.cell? ⟨M, 1, none⟩ = some (.slice a na ca) := BC.out.b0.cell 1; have r10 : wC.cell? ⟨M + 1, 0, none⟩ = some (.bool ib) := BC.out.b1.cell 0; have r11 : wC.cell? ⟨M + 1, 1, none⟩ = some (.slice b nb cb) := BC.out.b1.cell 1; have r20 : wC.cell? ⟨M + 1 + 1, 0, none⟩ = some (.bool ic) := BC.out.b2.cell 0; have r21 : wC.cell? ⟨M + 1 + 1, 1, none⟩ = some (.slice c nc cc) := BC.out.b2.cell 1; have rl0 := BC.out.b0.lt; have rl1 := BC.out.b1.lt; have rl2 := BC.out.b2.lt; have rf00 := BC.out.b0.frozen 0; have rf01 := BC.out.b0.frozen 1; have rf10 := BC.out.b1.frozen 0; have rf11 := BC.out.b1.frozen 1; have rf20 := BC.out.b2.frozen 0; have rf21 := BC.out.b2.frozen 1))
   all_goals
    go_wp2_with fail
    go_meet
    case rel =>
      obtain ⟨g1, g2⟩ := BC.out.put TC.out HM.out a1 n1 c1 a2 n2 c2 a3 n3 c3
      have hbw : Below w.heap.size wC ((((((wC.setCell ⟨M, 0, none⟩ (.bool ia)).setCell ⟨M, 1, none⟩ (.slice a1 n1 c1)).setCell ⟨M + 1, 0, none⟩ (.bool ib)).setCell ⟨M + 1, 1, none⟩ (.slice a2 n2 c2)).setCell ⟨M + 1 + 1, 0, none⟩ (.bool ic)).setCell ⟨M + 1 + 1, 1, none⟩ (.slice a3 n3 c3)) := g2.below TC.out.size fun j e => by have := HM.out; omega
      exact ⟨a1, n1, c1, a2, n2, c2, a3, n3, c3, (TC.out.turn.trans g2).mono (fun j hj e => by have := HM.out; omega), g1, RC.out.1.keep hbw TC.out.size, RC.out.2.1.keep hbw TC.out.size, RC.out.2.2.keep hbw TC.out.size, RN.out.1, RN.out.2.1, RN.out.2.2⟩
  case rest =>
    clear d00 d01 d10 d11 d20 d21 dl0 dl1 dl2
    obtain ⟨a1, n1, c1, a2, n2, c2, a3, n3, c3, hst, hbx, hi1, hi2, hi3, hn1, hn2, hn3⟩ := hcut
    generalize xs.take 60 = xs' at *
    generalize ys.take 60 = ys' at *
    generalize zs.take 60 = zs' at *
    have W1 : Hid (Still w wc ∧ Box3 wc M ia a1 n1 c1 ib a2 n2 c2 ic a3 n3 c3) := ⟨hst, hbx⟩
    have HI : Hid (∀ {W : World}, Still wc W → w.heap.size ≤ W.heap.size ∧ Ints w.heap.size W a1 n1 xs' ∧ Ints w.heap.size W a2 n2 ys' ∧ Ints w.heap.size W a3 n3 zs') := fun {W} t => ⟨(hst.trans t).size, hi1.keep ((Still.below t).mono hst.size) hst.size, hi2.keep ((Still.below t).mono hst.size) hst.size, hi3.keep ((Still.below t).mono hst.size) hst.size⟩
    have HNS : Hid (n1 ≤ 60 ∧ n2 ≤ 60) := ⟨hn1, hn2⟩
    have HN : Hid (n1 ≤ 1000 ∧ n2 ≤ 1000 ∧ n3 ≤ 1000) := ⟨by omega, by omega, by omega⟩
    clear HA HB HC G SD hst hbx hi1 hi2 hi3 hn1 hn2 hn3
    have k00 : wc.cell? ⟨M, 0, none⟩ = some (.bool ia) := W1.out.2.b0.cell 0
    have k01 : wc.cell? ⟨M, 1, none⟩ = some (.slice a1 n1 c1) := W1.out.2.b0.cell 1
    have k10 : wc.cell? ⟨M + 1, 0, none⟩ = some (.bool ib) := W1.out.2.b1.cell 0
    have k11 : wc.cell? ⟨M + 1, 1, none⟩ = some (.slice a2 n2 c2) := W1.out.2.b1.cell 1
    have k20 : wc.cell? ⟨M + 1 + 1, 0, none⟩ = some (.bool ic) := W1.out.2.b2.cell 0
    have k21 : wc.cell? ⟨M + 1 + 1, 1, none⟩ = some (.slice a3 n3 c3) := W1.out.2.b2.cell 1
    have kl0 := W1.out.2.b0.lt
    have kl1 := W1.out.2.b1.lt
    have kl2 := W1.out.2.b2.lt
    go_wp2_with fail
    clear k00 k01 k10 k11 k20 k21 kl0 kl1 kl2
    refine (join_any (HI.out (Still.refl _)).2.1 (HI.out (Still.refl _)).2.2.1 (HI.out (Still.refl _)).1 HN.out.1 HN.out.2.1).mono ?_; rintro e w1 ⟨aj, nj, cj, rfl, hij, tj⟩
    have HJ := Lib.hid (And.intro hij tj)
    clear hij tj
    obtain ⟨zj, hzj⟩ : ∃ zj, joinL (xs' ++ ys') = zj := ⟨_, rfl⟩
    obtain ⟨ij, hijb⟩ : ∃ ij, (ia || ib) = ij := ⟨_, rfl⟩
    have HZJ : Hid (joinL (xs' ++ ys') = zj ∧ (ia || ib) = ij) := ⟨hzj, hijb⟩
    have HF : Hid (tsub ia xs' ia xs' = true ∧ tsub ia xs' ij zj = true ∧ tsub ib ys' ij zj = true ∧ (tsub ia xs' ic zs' = true → tsub ib ys' ic zs' = true → tsub ij zj ic zs' = true) ∧ (tsub ia xs' ib ys' = true → tsub ib ys' ic zs' = true → tsub ia xs' ic zs' = true) ∧ joinL (ys' ++ xs') = zj ∧ (ib || ia) = ij) := by
      rw [← hzj, ← hijb]
      exact ⟨Vf.tsub_refl _ _, Vf.tsub_left _ _ _ _, Vf.tsub_right _ _ _ _, Vf.tsub_least, Vf.tsub_trans, Vf.joinL_comm _ _, Bool.or_comm _ _⟩
    rw [hzj] at HJ
    rw [hijb]
    clear hzj hijb
    have HNJ : Hid (nj ≤ 1000) := by
      have h1 := HJ.out.1.len
      have h2 := joinL_len (xs' ++ ys')
      have h3 := (HI.out (Still.refl _)).2.1.len
      have h4 := (HI.out (Still.refl _)).2.2.1.len
      have h5 := HN.out
      have h6 := HNS.out
      rw [HZJ.out.1, List.length_append] at h2
      show _ ≤ _
      omega
    have W2 : Hid (Still w (w1.alloc (.cells #[.bool ij, .slice aj nj cj] 24)) ∧ Box3 (w1.alloc (.cells #[.bool ij, .slice aj nj cj] 24)) M ia a1 n1 c1 ib a2 n2 c2 ic a3 n3 c3 ∧ Blk (w1.alloc (.cells #[.bool ij, .slice aj nj cj] 24)) w1.heap.size 24 #[.bool ij, .slice aj nj cj]) := ⟨W1.out.1.trans (HJ.out.2.alloc _), W1.out.2.still (HJ.out.2.alloc _), Blk.new w1 _ _⟩
    have HI2 : Hid (∀ {W : World}, Still (w1.alloc (.cells #[.bool ij, .slice aj nj cj] 24)) W → w1.heap.size ≤ W.heap.size ∧ Ints w1.heap.size W a1 n1 xs' ∧ Ints w1.heap.size W a2 n2 ys' ∧ Ints w1.heap.size W a3 n3 zs' ∧ Ints w1.heap.size W aj nj zj) := fun {W} t => by
      have t1 : Still w1 W := ((Still.refl w1).alloc _).trans t
      obtain ⟨h1, h2, h3, h4⟩ := HI.out (HJ.out.2.trans t1)
      have hle : w.heap.size ≤ w1.heap.size := (W1.out.1.trans HJ.out.2).size
      exact ⟨t1.size, h2.up hle, h3.up hle, h4.up hle, HJ.out.1.keep (Still.below t1) (Nat.le_refl _)⟩
    have k00 : (w1.alloc (.cells #[.bool ij, .slice aj nj cj] 24)).cell? ⟨M, 0, none⟩ = some (.bool ia) := W2.out.2.1.b0.cell 0
    have k01 : (w1.alloc (.cells #[.bool ij, .slice aj nj cj] 24)).cell? ⟨M, 1, none⟩ = some (.slice a1 n1 c1) := W2.out.2.1.b0.cell 1
    have k10 : (w1.alloc (.cells #[.bool ij, .slice aj nj cj] 24)).cell? ⟨M + 1, 0, none⟩ = some (.bool ib) := W2.out.2.1.b1.cell 0
    have k11 : (w1.alloc (.cells #[.bool ij, .slice aj nj cj] 24)).cell? ⟨M + 1, 1, none⟩ = some (.slice a2 n2 c2) := W2.out.2.1.b1.cell 1
    have k20 : (w1.alloc (.cells #[.bool ij, .slice aj nj cj] 24)).cell? ⟨M + 1 + 1, 0, none⟩ = some (.bool ic) := W2.out.2.1.b2.cell 0
    have k21 : (w1.alloc (.cells #[.bool ij, .slice aj nj cj] 24)).cell? ⟨M + 1 + 1, 1, none⟩ = some (.slice a3 n3 c3) := W2.out.2.1.b2.cell 1
    have kl0 := W2.out.2.1.b0.lt
    have kl1 := W2.out.2.1.b1.lt
    have kl2 := W2.out.2.1.b2.lt
    have kj0 : (w1.alloc (.cells #[.bool ij, .slice aj nj cj] 24)).cell? ⟨w1.heap.size, 0, none⟩ = some (.bool ij) := W2.out.2.2.cell 0
    have kj1 : (w1.alloc (.cells #[.bool ij, .slice aj nj cj] 24)).cell? ⟨w1.heap.size, 1, none⟩ = some (.slice aj nj cj) := W2.out.2.2.cell 1
    have kjl := W2.out.2.2.lt
    go_wp2_with fail
    clear k00 k01 k10 k11 k20 k21 kl0 kl1 kl2 kj0 kj1 kjl
    generalize w1.alloc (.cells #[.bool ij, .slice aj nj cj] 24) = w2 at W2 HI2 ⊢
    obtain ⟨Jb, hJb⟩ : ∃ Jb, w1.heap.size = Jb := ⟨_, rfl⟩
    rw [hJb] at W2
    rw [hJb]
    clear hJb HI HJ W1
    have KK : Hid (Still w2 w2 ∧ Still w w2) := ⟨Still.refl _, W2.out.1⟩
    cases hab : tsub ia xs' ib ys' <;> cases hbc : tsub ib ys' ic zs' <;> cases hac : tsub ia xs' ic zs'
    · refine (sub_any (HI2.out KK.out.1).2.1 (HI2.out KK.out.1).2.1 (HI2.out KK.out.1).1 HN.out.1 HN.out.1).mono ?_; rintro e v0 ⟨rfl, t0⟩
      have K0 : Hid (Still w2 v0 ∧ Still w v0 ∧ Box3 v0 M ia a1 n1 c1 ib a2 n2 c2 ic a3 n3 c3 ∧ Blk v0 Jb 24 #[.bool ij, .slice aj nj cj]) := ⟨KK.out.1.trans t0, W2.out.1.trans (KK.out.1.trans t0), W2.out.2.1.still (KK.out.1.trans t0), (KK.out.1.trans t0).blk W2.out.2.2⟩
      have s0 := HF.out.1
      clear t0
      have k00 : v0.cell? ⟨M, 0, none⟩ = some (.bool ia) := K0.out.2.2.1.b0.cell 0
      have k01 : v0.cell? ⟨M, 1, none⟩ = some (.slice a1 n1 c1) := K0.out.2.2.1.b0.cell 1
      have k10 : v0.cell? ⟨M + 1, 0, none⟩ = some (.bool ib) := K0.out.2.2.1.b1.cell 0
      have k11 : v0.cell? ⟨M + 1, 1, none⟩ = some (.slice a2 n2 c2) := K0.out.2.2.1.b1.cell 1
      have k20 : v0.cell? ⟨M + 1 + 1, 0, none⟩ = some (.bool ic) := K0.out.2.2.1.b2.cell 0
      have k21 : v0.cell? ⟨M + 1 + 1, 1, none⟩ = some (.slice a3 n3 c3) := K0.out.2.2.1.b2.cell 1
      have kl0 := K0.out.2.2.1.b0.lt
      have kl1 := K0.out.2.2.1.b1.lt
      have kl2 := K0.out.2.2.1.b2.lt
      have kj0 : v0.cell? ⟨Jb, 0, none⟩ = some (.bool ij) := K0.out.2.2.2.cell 0
      have kj1 : v0.cell? ⟨Jb, 1, none⟩ = some (.slice aj nj cj) := K0.out.2.2.2.cell 1
      have kjl := K0.out.2.2.2.lt
      go_wp2_with fail
      clear k00 k01 k10 k11 k20 k21 kl0 kl1 kl2 kj0 kj1 kjl s0
      refine (sub_any (HI2.out K0.out.1).2.1 (HI2.out K0.out.1).2.2.1 (HI2.out K0.out.1).1 HN.out.1 HN.out.2.1).mono ?_; rintro e v1 ⟨rfl, t1⟩
      have K1 : Hid (Still w2 v1 ∧ Still w v1 ∧ Box3 v1 M ia a1 n1 c1 ib a2 n2 c2 ic a3 n3 c3 ∧ Blk v1 Jb 24 #[.bool ij, .slice aj nj cj]) := ⟨K0.out.1.trans t1, W2.out.1.trans (K0.out.1.trans t1), W2.out.2.1.still (K0.out.1.trans t1), (K0.out.1.trans t1).blk W2.out.2.2⟩
      have s1 := hab
      clear t1
      have k00 : v1.cell? ⟨M, 0, none⟩ = some (.bool ia) := K1.out.2.2.1.b0.cell 0
      have k01 : v1.cell? ⟨M, 1, none⟩ = some (.slice a1 n1 c1) := K1.out.2.2.1.b0.cell 1
      have k10 : v1.cell? ⟨M + 1, 0, none⟩ = some (.bool ib) := K1.out.2.2.1.b1.cell 0
      have k11 : v1.cell? ⟨M + 1, 1, none⟩ = some (.slice a2 n2 c2) := K1.out.2.2.1.b1.cell 1
      have k20 : v1.cell? ⟨M + 1 + 1, 0, none⟩ = some (.bool ic) := K1.out.2.2.1.b2.cell 0
      have k21 : v1.cell? ⟨M + 1 + 1, 1, none⟩ = some (.slice a3 n3 c3) := K1.out.2.2.1.b2.cell 1
      have kl0 := K1.out.2.2.1.b0.lt
      have kl1 := K1.out.2.2.1.b1.lt
      have kl2 := K1.out.2.2.1.b2.lt
      have kj0 : v1.cell? ⟨Jb, 0, none⟩ = some (.bool ij) := K1.out.2.2.2.cell 0
      have kj1 : v1.cell? ⟨Jb, 1, none⟩ = some (.slice aj nj cj) := K1.out.2.2.2.cell 1
      have kjl := K1.out.2.2.2.lt
      go_wp2_with fail
      clear k00 k01 k10 k11 k20 k21 kl0 kl1 kl2 kj0 kj1 kjl s1
      refine (sub_any (HI2.out K1.out.1).2.1 (HI2.out K1.out.1).2.2.2.2 (HI2.out K1.out.1).1 HN.out.1 HNJ.out).mono ?_; rintro e v2 ⟨rfl, t2⟩
      have K2 : Hid (Still w2 v2 ∧ Still w v2 ∧ Box3 v2 M ia a1 n1 c1 ib a2 n2 c2 ic a3 n3 c3 ∧ Blk v2 Jb 24 #[.bool ij, .slice aj nj cj]) := ⟨K1.out.1.trans t2, W2.out.1.trans (K1.out.1.trans t2), W2.out.2.1.still (K1.out.1.trans t2), (K1.out.1.trans t2).blk W2.out.2.2⟩
      have s2 := HF.out.2.1
      clear t2
      have k00 : v2.cell? ⟨M, 0, none⟩ = some (.bool ia) := K2.out.2.2.1.b0.cell 0
      have k01 : v2.cell? ⟨M, 1, none⟩ = some (.slice a1 n1 c1) := K2.out.2.2.1.b0.cell 1
      have k10 : v2.cell? ⟨M + 1, 0, none⟩ = some (.bool ib) := K2.out.2.2.1.b1.cell 0
      have k11 : v2.cell? ⟨M + 1, 1, none⟩ = some (.slice a2 n2 c2) := K2.out.2.2.1.b1.cell 1
      have k20 : v2.cell? ⟨M + 1 + 1, 0, none⟩ = some (.bool ic) := K2.out.2.2.1.b2.cell 0
      have k21 : v2.cell? ⟨M + 1 + 1, 1, none⟩ = some (.slice a3 n3 c3) := K2.out.2.2.1.b2.cell 1
      have kl0 := K2.out.2.2.1.b0.lt
      have kl1 := K2.out.2.2.1.b1.lt
      have kl2 := K2.out.2.2.1.b2.lt
      have kj0 : v2.cell? ⟨Jb, 0, none⟩ = some (.bool ij) := K2.out.2.2.2.cell 0
      have kj1 : v2.cell? ⟨Jb, 1, none⟩ = some (.slice aj nj cj) := K2.out.2.2.2.cell 1
      have kjl := K2.out.2.2.2.lt
      go_wp2_with fail
      clear k00 k01 k10 k11 k20 k21 kl0 kl1 kl2 kj0 kj1 kjl s2
      refine (sub_any (HI2.out K2.out.1).2.2.1 (HI2.out K2.out.1).2.2.2.2 (HI2.out K2.out.1).1 HN.out.2.1 HNJ.out).mono ?_; rintro e v3 ⟨rfl, t3⟩
      have K3 : Hid (Still w2 v3 ∧ Still w v3 ∧ Box3 v3 M ia a1 n1 c1 ib a2 n2 c2 ic a3 n3 c3 ∧ Blk v3 Jb 24 #[.bool ij, .slice aj nj cj]) := ⟨K2.out.1.trans t3, W2.out.1.trans (K2.out.1.trans t3), W2.out.2.1.still (K2.out.1.trans t3), (K2.out.1.trans t3).blk W2.out.2.2⟩
      have s3 := HF.out.2.2.1
      clear t3
      have k00 : v3.cell? ⟨M, 0, none⟩ = some (.bool ia) := K3.out.2.2.1.b0.cell 0
      have k01 : v3.cell? ⟨M, 1, none⟩ = some (.slice a1 n1 c1) := K3.out.2.2.1.b0.cell 1
      have k10 : v3.cell? ⟨M + 1, 0, none⟩ = some (.bool ib) := K3.out.2.2.1.b1.cell 0
      have k11 : v3.cell? ⟨M + 1, 1, none⟩ = some (.slice a2 n2 c2) := K3.out.2.2.1.b1.cell 1
      have k20 : v3.cell? ⟨M + 1 + 1, 0, none⟩ = some (.bool ic) := K3.out.2.2.1.b2.cell 0
      have k21 : v3.cell? ⟨M + 1 + 1, 1, none⟩ = some (.slice a3 n3 c3) := K3.out.2.2.1.b2.cell 1
      have kl0 := K3.out.2.2.1.b0.lt
      have kl1 := K3.out.2.2.1.b1.lt
      have kl2 := K3.out.2.2.1.b2.lt
      have kj0 : v3.cell? ⟨Jb, 0, none⟩ = some (.bool ij) := K3.out.2.2.2.cell 0
      have kj1 : v3.cell? ⟨Jb, 1, none⟩ = some (.slice aj nj cj) := K3.out.2.2.2.cell 1
      have kjl := K3.out.2.2.2.lt
      go_wp2_with fail
      clear k00 k01 k10 k11 k20 k21 kl0 kl1 kl2 kj0 kj1 kjl s3
      refine (sub_any (HI2.out K3.out.1).2.1 (HI2.out K3.out.1).2.2.2.1 (HI2.out K3.out.1).1 HN.out.1 HN.out.2.2).mono ?_; rintro e v4 ⟨rfl, t4⟩
      have K4 : Hid (Still w2 v4 ∧ Still w v4 ∧ Box3 v4 M ia a1 n1 c1 ib a2 n2 c2 ic a3 n3 c3 ∧ Blk v4 Jb 24 #[.bool ij, .slice aj nj cj]) := ⟨K3.out.1.trans t4, W2.out.1.trans (K3.out.1.trans t4), W2.out.2.1.still (K3.out.1.trans t4), (K3.out.1.trans t4).blk W2.out.2.2⟩
      have s4 := hac
      clear t4
      have k00 : v4.cell? ⟨M, 0, none⟩ = some (.bool ia) := K4.out.2.2.1.b0.cell 0
      have k01 : v4.cell? ⟨M, 1, none⟩ = some (.slice a1 n1 c1) := K4.out.2.2.1.b0.cell 1
      have k10 : v4.cell? ⟨M + 1, 0, none⟩ = some (.bool ib) := K4.out.2.2.1.b1.cell 0
      have k11 : v4.cell? ⟨M + 1, 1, none⟩ = some (.slice a2 n2 c2) := K4.out.2.2.1.b1.cell 1
      have k20 : v4.cell? ⟨M + 1 + 1, 0, none⟩ = some (.bool ic) := K4.out.2.2.1.b2.cell 0
      have k21 : v4.cell? ⟨M + 1 + 1, 1, none⟩ = some (.slice a3 n3 c3) := K4.out.2.2.1.b2.cell 1
      have kl0 := K4.out.2.2.1.b0.lt
      have kl1 := K4.out.2.2.1.b1.lt
      have kl2 := K4.out.2.2.1.b2.lt
      have kj0 : v4.cell? ⟨Jb, 0, none⟩ = some (.bool ij) := K4.out.2.2.2.cell 0
      have kj1 : v4.cell? ⟨Jb, 1, none⟩ = some (.slice aj nj cj) := K4.out.2.2.2.cell 1
      have kjl := K4.out.2.2.2.lt
      go_wp2_with fail
      clear k00 k01 k10 k11 k20 k21 kl0 kl1 kl2 kj0 kj1 kjl s4
      refine (join_any (HI2.out K4.out.1).2.2.1 (HI2.out K4.out.1).2.1 (HI2.out K4.out.1).1 HN.out.2.1 HN.out.1).mono ?_; rintro e wk ⟨ak, nk, ck, rfl, hik, tk⟩
      rw [HF.out.2.2.2.2.2.1] at hik
      rw [HF.out.2.2.2.2.2.2]
      have WK : Hid (Still w2 (wk.alloc (.cells #[.bool ij, .slice ak nk ck] 24)) ∧ Still w (wk.alloc (.cells #[.bool ij, .slice ak nk ck] 24)) ∧ Box3 (wk.alloc (.cells #[.bool ij, .slice ak nk ck] 24)) M ia a1 n1 c1 ib a2 n2 c2 ic a3 n3 c3 ∧ Blk (wk.alloc (.cells #[.bool ij, .slice ak nk ck] 24)) Jb 24 #[.bool ij, .slice aj nj cj]) := ⟨(K4.out.1.trans tk).alloc _, (K4.out.2.1.trans tk).alloc _, (K4.out.2.2.1.still (tk.alloc _)), (tk.alloc _).blk K4.out.2.2.2⟩
      have BK := Blk.new wk 24 #[.bool ij, .slice ak nk ck]
      have z0 := BK.cell 0
      have z1 := BK.cell 1
      have zl := BK.lt
      have HAL := Lib.hid (alike_same (c := ck) (c' := cj) (hik.keep (Still.below ((Still.refl wk).alloc (.cells #[.bool ij, .slice ak nk ck] 24))) (Nat.le_refl _)) ((HI2.out WK.out.1).2.2.2.2.up (by have := (HI2.out (K4.out.1.trans tk)).1; exact this)) (by simp) (by have h1 := hik.len; have h2 := (HI2.out WK.out.1).2.2.2.2.len; have h3 := HNJ.out; omega))
      have hbb : (ij == ij) = true := by simp
      clear hik tk BK
      have k00 : (wk.alloc (.cells #[.bool ij, .slice ak nk ck] 24)).cell? ⟨M, 0, none⟩ = some (.bool ia) := WK.out.2.2.1.b0.cell 0
      have k01 : (wk.alloc (.cells #[.bool ij, .slice ak nk ck] 24)).cell? ⟨M, 1, none⟩ = some (.slice a1 n1 c1) := WK.out.2.2.1.b0.cell 1
      have k10 : (wk.alloc (.cells #[.bool ij, .slice ak nk ck] 24)).cell? ⟨M + 1, 0, none⟩ = some (.bool ib) := WK.out.2.2.1.b1.cell 0
      have k11 : (wk.alloc (.cells #[.bool ij, .slice ak nk ck] 24)).cell? ⟨M + 1, 1, none⟩ = some (.slice a2 n2 c2) := WK.out.2.2.1.b1.cell 1
      have k20 : (wk.alloc (.cells #[.bool ij, .slice ak nk ck] 24)).cell? ⟨M + 1 + 1, 0, none⟩ = some (.bool ic) := WK.out.2.2.1.b2.cell 0
      have k21 : (wk.alloc (.cells #[.bool ij, .slice ak nk ck] 24)).cell? ⟨M + 1 + 1, 1, none⟩ = some (.slice a3 n3 c3) := WK.out.2.2.1.b2.cell 1
      have kl0 := WK.out.2.2.1.b0.lt
      have kl1 := WK.out.2.2.1.b1.lt
      have kl2 := WK.out.2.2.1.b2.lt
      have kj0 : (wk.alloc (.cells #[.bool ij, .slice ak nk ck] 24)).cell? ⟨Jb, 0, none⟩ = some (.bool ij) := WK.out.2.2.2.cell 0
      have kj1 : (wk.alloc (.cells #[.bool ij, .slice ak nk ck] 24)).cell? ⟨Jb, 1, none⟩ = some (.slice aj nj cj) := WK.out.2.2.2.cell 1
      have kjl := WK.out.2.2.2.lt
      go_wp2_with fail
      refine HAL.out.mono ?_; rintro e wl ⟨rfl, tl⟩
      have TL : Hid (Still w wl) := WK.out.2.1.trans tl
      clear tl z0 z1 zl
      clear k00 k01 k10 k11 k20 k21 kl0 kl1 kl2 kj0 kj1 kjl
      go_wp2_with fail
      refine (lives_any wl).mono ?_; rintro e wm ⟨rfl, tm⟩
      have TM : Hid (Still w wm) := TL.out.trans tm
      clear tm
      go_wp2_with fail
      go_ret
      exact ⟨rfl, TM.out⟩
    · refine (sub_any (HI2.out KK.out.1).2.1 (HI2.out KK.out.1).2.1 (HI2.out KK.out.1).1 HN.out.1 HN.out.1).mono ?_; rintro e v0 ⟨rfl, t0⟩
      have K0 : Hid (Still w2 v0 ∧ Still w v0 ∧ Box3 v0 M ia a1 n1 c1 ib a2 n2 c2 ic a3 n3 c3 ∧ Blk v0 Jb 24 #[.bool ij, .slice aj nj cj]) := ⟨KK.out.1.trans t0, W2.out.1.trans (KK.out.1.trans t0), W2.out.2.1.still (KK.out.1.trans t0), (KK.out.1.trans t0).blk W2.out.2.2⟩
      have s0 := HF.out.1
      clear t0
      have k00 : v0.cell? ⟨M, 0, none⟩ = some (.bool ia) := K0.out.2.2.1.b0.cell 0
      have k01 : v0.cell? ⟨M, 1, none⟩ = some (.slice a1 n1 c1) := K0.out.2.2.1.b0.cell 1
      have k10 : v0.cell? ⟨M + 1, 0, none⟩ = some (.bool ib) := K0.out.2.2.1.b1.cell 0
      have k11 : v0.cell? ⟨M + 1, 1, none⟩ = some (.slice a2 n2 c2) := K0.out.2.2.1.b1.cell 1
      have k20 : v0.cell? ⟨M + 1 + 1, 0, none⟩ = some (.bool ic) := K0.out.2.2.1.b2.cell 0
      have k21 : v0.cell? ⟨M + 1 + 1, 1, none⟩ = some (.slice a3 n3 c3) := K0.out.2.2.1.b2.cell 1
      have kl0 := K0.out.2.2.1.b0.lt
      have kl1 := K0.out.2.2.1.b1.lt
      have kl2 := K0.out.2.2.1.b2.lt
      have kj0 : v0.cell? ⟨Jb, 0, none⟩ = some (.bool ij) := K0.out.2.2.2.cell 0
      have kj1 : v0.cell? ⟨Jb, 1, none⟩ = some (.slice aj nj cj) := K0.out.2.2.2.cell 1
      have kjl := K0.out.2.2.2.lt
      go_wp2_with fail
      clear k00 k01 k10 k11 k20 k21 kl0 kl1 kl2 kj0 kj1 kjl s0
      refine (sub_any (HI2.out K0.out.1).2.1 (HI2.out K0.out.1).2.2.1 (HI2.out K0.out.1).1 HN.out.1 HN.out.2.1).mono ?_; rintro e v1 ⟨rfl, t1⟩
      have K1 : Hid (Still w2 v1 ∧ Still w v1 ∧ Box3 v1 M ia a1 n1 c1 ib a2 n2 c2 ic a3 n3 c3 ∧ Blk v1 Jb 24 #[.bool ij, .slice aj nj cj]) := ⟨K0.out.1.trans t1, W2.out.1.trans (K0.out.1.trans t1), W2.out.2.1.still (K0.out.1.trans t1), (K0.out.1.trans t1).blk W2.out.2.2⟩
      have s1 := hab
      clear t1
      have k00 : v1.cell? ⟨M, 0, none⟩ = some (.bool ia) := K1.out.2.2.1.b0.cell 0
      have k01 : v1.cell? ⟨M, 1, none⟩ = some (.slice a1 n1 c1) := K1.out.2.2.1.b0.cell 1
      have k10 : v1.cell? ⟨M + 1, 0, none⟩ = some (.bool ib) := K1.out.2.2.1.b1.cell 0
      have k11 : v1.cell? ⟨M + 1, 1, none⟩ = some (.slice a2 n2 c2) := K1.out.2.2.1.b1.cell 1
      have k20 : v1.cell? ⟨M + 1 + 1, 0, none⟩ = some (.bool ic) := K1.out.2.2.1.b2.cell 0
      have k21 : v1.cell? ⟨M + 1 + 1, 1, none⟩ = some (.slice a3 n3 c3) := K1.out.2.2.1.b2.cell 1
      have kl0 := K1.out.2.2.1.b0.lt
      have kl1 := K1.out.2.2.1.b1.lt
      have kl2 := K1.out.2.2.1.b2.lt
      have kj0 : v1.cell? ⟨Jb, 0, none⟩ = some (.bool ij) := K1.out.2.2.2.cell 0
      have kj1 : v1.cell? ⟨Jb, 1, none⟩ = some (.slice aj nj cj) := K1.out.2.2.2.cell 1
      have kjl := K1.out.2.2.2.lt
      go_wp2_with fail
      clear k00 k01 k10 k11 k20 k21 kl0 kl1 kl2 kj0 kj1 kjl s1
      refine (sub_any (HI2.out K1.out.1).2.1 (HI2.out K1.out.1).2.2.2.2 (HI2.out K1.out.1).1 HN.out.1 HNJ.out).mono ?_; rintro e v2 ⟨rfl, t2⟩
      have K2 : Hid (Still w2 v2 ∧ Still w v2 ∧ Box3 v2 M ia a1 n1 c1 ib a2 n2 c2 ic a3 n3 c3 ∧ Blk v2 Jb 24 #[.bool ij, .slice aj nj cj]) := ⟨K1.out.1.trans t2, W2.out.1.trans (K1.out.1.trans t2), W2.out.2.1.still (K1.out.1.trans t2), (K1.out.1.trans t2).blk W2.out.2.2⟩
      have s2 := HF.out.2.1
      clear t2
      have k00 : v2.cell? ⟨M, 0, none⟩ = some (.bool ia) := K2.out.2.2.1.b0.cell 0
      have k01 : v2.cell? ⟨M, 1, none⟩ = some (.slice a1 n1 c1) := K2.out.2.2.1.b0.cell 1
      have k10 : v2.cell? ⟨M + 1, 0, none⟩ = some (.bool ib) := K2.out.2.2.1.b1.cell 0
      have k11 : v2.cell? ⟨M + 1, 1, none⟩ = some (.slice a2 n2 c2) := K2.out.2.2.1.b1.cell 1
      have k20 : v2.cell? ⟨M + 1 + 1, 0, none⟩ = some (.bool ic) := K2.out.2.2.1.b2.cell 0
      have k21 : v2.cell? ⟨M + 1 + 1, 1, none⟩ = some (.slice a3 n3 c3) := K2.out.2.2.1.b2.cell 1
      have kl0 := K2.out.2.2.1.b0.lt
      have kl1 := K2.out.2.2.1.b1.lt
      have kl2 := K2.out.2.2.1.b2.lt
      have kj0 : v2.cell? ⟨Jb, 0, none⟩ = some (.bool ij) := K2.out.2.2.2.cell 0
      have kj1 : v2.cell? ⟨Jb, 1, none⟩ = some (.slice aj nj cj) := K2.out.2.2.2.cell 1
      have kjl := K2.out.2.2.2.lt
      go_wp2_with fail
      clear k00 k01 k10 k11 k20 k21 kl0 kl1 kl2 kj0 kj1 kjl s2
      refine (sub_any (HI2.out K2.out.1).2.2.1 (HI2.out K2.out.1).2.2.2.2 (HI2.out K2.out.1).1 HN.out.2.1 HNJ.out).mono ?_; rintro e v3 ⟨rfl, t3⟩
      have K3 : Hid (Still w2 v3 ∧ Still w v3 ∧ Box3 v3 M ia a1 n1 c1 ib a2 n2 c2 ic a3 n3 c3 ∧ Blk v3 Jb 24 #[.bool ij, .slice aj nj cj]) := ⟨K2.out.1.trans t3, W2.out.1.trans (K2.out.1.trans t3), W2.out.2.1.still (K2.out.1.trans t3), (K2.out.1.trans t3).blk W2.out.2.2⟩
      have s3 := HF.out.2.2.1
      clear t3
      have k00 : v3.cell? ⟨M, 0, none⟩ = some (.bool ia) := K3.out.2.2.1.b0.cell 0
      have k01 : v3.cell? ⟨M, 1, none⟩ = some (.slice a1 n1 c1) := K3.out.2.2.1.b0.cell 1
      have k10 : v3.cell? ⟨M + 1, 0, none⟩ = some (.bool ib) := K3.out.2.2.1.b1.cell 0
      have k11 : v3.cell? ⟨M + 1, 1, none⟩ = some (.slice a2 n2 c2) := K3.out.2.2.1.b1.cell 1
      have k20 : v3.cell? ⟨M + 1 + 1, 0, none⟩ = some (.bool ic) := K3.out.2.2.1.b2.cell 0
      have k21 : v3.cell? ⟨M + 1 + 1, 1, none⟩ = some (.slice a3 n3 c3) := K3.out.2.2.1.b2.cell 1
      have kl0 := K3.out.2.2.1.b0.lt
      have kl1 := K3.out.2.2.1.b1.lt
      have kl2 := K3.out.2.2.1.b2.lt
      have kj0 : v3.cell? ⟨Jb, 0, none⟩ = some (.bool ij) := K3.out.2.2.2.cell 0
      have kj1 : v3.cell? ⟨Jb, 1, none⟩ = some (.slice aj nj cj) := K3.out.2.2.2.cell 1
      have kjl := K3.out.2.2.2.lt
      go_wp2_with fail
      clear k00 k01 k10 k11 k20 k21 kl0 kl1 kl2 kj0 kj1 kjl s3
      refine (sub_any (HI2.out K3.out.1).2.1 (HI2.out K3.out.1).2.2.2.1 (HI2.out K3.out.1).1 HN.out.1 HN.out.2.2).mono ?_; rintro e v4 ⟨rfl, t4⟩
      have K4 : Hid (Still w2 v4 ∧ Still w v4 ∧ Box3 v4 M ia a1 n1 c1 ib a2 n2 c2 ic a3 n3 c3 ∧ Blk v4 Jb 24 #[.bool ij, .slice aj nj cj]) := ⟨K3.out.1.trans t4, W2.out.1.trans (K3.out.1.trans t4), W2.out.2.1.still (K3.out.1.trans t4), (K3.out.1.trans t4).blk W2.out.2.2⟩
      have s4 := hac
      clear t4
      have k00 : v4.cell? ⟨M, 0, none⟩ = some (.bool ia) := K4.out.2.2.1.b0.cell 0
      have k01 : v4.cell? ⟨M, 1, none⟩ = some (.slice a1 n1 c1) := K4.out.2.2.1.b0.cell 1
      have k10 : v4.cell? ⟨M + 1, 0, none⟩ = some (.bool ib) := K4.out.2.2.1.b1.cell 0
      have k11 : v4.cell? ⟨M + 1, 1, none⟩ = some (.slice a2 n2 c2) := K4.out.2.2.1.b1.cell 1
      have k20 : v4.cell? ⟨M + 1 + 1, 0, none⟩ = some (.bool ic) := K4.out.2.2.1.b2.cell 0
      have k21 : v4.cell? ⟨M + 1 + 1, 1, none⟩ = some (.slice a3 n3 c3) := K4.out.2.2.1.b2.cell 1
      have kl0 := K4.out.2.2.1.b0.lt
      have kl1 := K4.out.2.2.1.b1.lt
      have kl2 := K4.out.2.2.1.b2.lt
      have kj0 : v4.cell? ⟨Jb, 0, none⟩ = some (.bool ij) := K4.out.2.2.2.cell 0
      have kj1 : v4.cell? ⟨Jb, 1, none⟩ = some (.slice aj nj cj) := K4.out.2.2.2.cell 1
      have kjl := K4.out.2.2.2.lt
      go_wp2_with fail
      clear k00 k01 k10 k11 k20 k21 kl0 kl1 kl2 kj0 kj1 kjl s4
      refine (sub_any (HI2.out K4.out.1).2.2.1 (HI2.out K4.out.1).2.2.2.1 (HI2.out K4.out.1).1 HN.out.2.1 HN.out.2.2).mono ?_; rintro e v5 ⟨rfl, t5⟩
      have K5 : Hid (Still w2 v5 ∧ Still w v5 ∧ Box3 v5 M ia a1 n1 c1 ib a2 n2 c2 ic a3 n3 c3 ∧ Blk v5 Jb 24 #[.bool ij, .slice aj nj cj]) := ⟨K4.out.1.trans t5, W2.out.1.trans (K4.out.1.trans t5), W2.out.2.1.still (K4.out.1.trans t5), (K4.out.1.trans t5).blk W2.out.2.2⟩
      have s5 := hbc
      clear t5
      have k00 : v5.cell? ⟨M, 0, none⟩ = some (.bool ia) := K5.out.2.2.1.b0.cell 0
      have k01 : v5.cell? ⟨M, 1, none⟩ = some (.slice a1 n1 c1) := K5.out.2.2.1.b0.cell 1
      have k10 : v5.cell? ⟨M + 1, 0, none⟩ = some (.bool ib) := K5.out.2.2.1.b1.cell 0
      have k11 : v5.cell? ⟨M + 1, 1, none⟩ = some (.slice a2 n2 c2) := K5.out.2.2.1.b1.cell 1
      have k20 : v5.cell? ⟨M + 1 + 1, 0, none⟩ = some (.bool ic) := K5.out.2.2.1.b2.cell 0
      have k21 : v5.cell? ⟨M + 1 + 1, 1, none⟩ = some (.slice a3 n3 c3) := K5.out.2.2.1.b2.cell 1
      have kl0 := K5.out.2.2.1.b0.lt
      have kl1 := K5.out.2.2.1.b1.lt
      have kl2 := K5.out.2.2.1.b2.lt
      have kj0 : v5.cell? ⟨Jb, 0, none⟩ = some (.bool ij) := K5.out.2.2.2.cell 0
      have kj1 : v5.cell? ⟨Jb, 1, none⟩ = some (.slice aj nj cj) := K5.out.2.2.2.cell 1
      have kjl := K5.out.2.2.2.lt
      go_wp2_with fail
      clear k00 k01 k10 k11 k20 k21 kl0 kl1 kl2 kj0 kj1 kjl s5
      refine (join_any (HI2.out K5.out.1).2.2.1 (HI2.out K5.out.1).2.1 (HI2.out K5.out.1).1 HN.out.2.1 HN.out.1).mono ?_; rintro e wk ⟨ak, nk, ck, rfl, hik, tk⟩
      rw [HF.out.2.2.2.2.2.1] at hik
      rw [HF.out.2.2.2.2.2.2]
      have WK : Hid (Still w2 (wk.alloc (.cells #[.bool ij, .slice ak nk ck] 24)) ∧ Still w (wk.alloc (.cells #[.bool ij, .slice ak nk ck] 24)) ∧ Box3 (wk.alloc (.cells #[.bool ij, .slice ak nk ck] 24)) M ia a1 n1 c1 ib a2 n2 c2 ic a3 n3 c3 ∧ Blk (wk.alloc (.cells #[.bool ij, .slice ak nk ck] 24)) Jb 24 #[.bool ij, .slice aj nj cj]) := ⟨(K5.out.1.trans tk).alloc _, (K5.out.2.1.trans tk).alloc _, (K5.out.2.2.1.still (tk.alloc _)), (tk.alloc _).blk K5.out.2.2.2⟩
      have BK := Blk.new wk 24 #[.bool ij, .slice ak nk ck]
      have z0 := BK.cell 0
      have z1 := BK.cell 1
      have zl := BK.lt
      have HAL := Lib.hid (alike_same (c := ck) (c' := cj) (hik.keep (Still.below ((Still.refl wk).alloc (.cells #[.bool ij, .slice ak nk ck] 24))) (Nat.le_refl _)) ((HI2.out WK.out.1).2.2.2.2.up (by have := (HI2.out (K5.out.1.trans tk)).1; exact this)) (by simp) (by have h1 := hik.len; have h2 := (HI2.out WK.out.1).2.2.2.2.len; have h3 := HNJ.out; omega))
      have hbb : (ij == ij) = true := by simp
      clear hik tk BK
      have k00 : (wk.alloc (.cells #[.bool ij, .slice ak nk ck] 24)).cell? ⟨M, 0, none⟩ = some (.bool ia) := WK.out.2.2.1.b0.cell 0
      have k01 : (wk.alloc (.cells #[.bool ij, .slice ak nk ck] 24)).cell? ⟨M, 1, none⟩ = some (.slice a1 n1 c1) := WK.out.2.2.1.b0.cell 1
      have k10 : (wk.alloc (.cells #[.bool ij, .slice ak nk ck] 24)).cell? ⟨M + 1, 0, none⟩ = some (.bool ib) := WK.out.2.2.1.b1.cell 0
      have k11 : (wk.alloc (.cells #[.bool ij, .slice ak nk ck] 24)).cell? ⟨M + 1, 1, none⟩ = some (.slice a2 n2 c2) := WK.out.2.2.1.b1.cell 1
      have k20 : (wk.alloc (.cells #[.bool ij, .slice ak nk ck] 24)).cell? ⟨M + 1 + 1, 0, none⟩ = some (.bool ic) := WK.out.2.2.1.b2.cell 0
      have k21 : (wk.alloc (.cells #[.bool ij, .slice ak nk ck] 24)).cell? ⟨M + 1 + 1, 1, none⟩ = some (.slice a3 n3 c3) := WK.out.2.2.1.b2.cell 1
      have kl0 := WK.out.2.2.1.b0.lt
      have kl1 := WK.out.2.2.1.b1.lt
      have kl2 := WK.out.2.2.1.b2.lt
      have kj0 : (wk.alloc (.cells #[.bool ij, .slice ak nk ck] 24)).cell? ⟨Jb, 0, none⟩ = some (.bool ij) := WK.out.2.2.2.cell 0
      have kj1 : (wk.alloc (.cells #[.bool ij, .slice ak nk ck] 24)).cell? ⟨Jb, 1, none⟩ = some (.slice aj nj cj) := WK.out.2.2.2.cell 1
      have kjl := WK.out.2.2.2.lt
      go_wp2_with fail
      refine HAL.out.mono ?_; rintro e wl ⟨rfl, tl⟩
      have TL : Hid (Still w wl) := WK.out.2.1.trans tl
      clear tl z0 z1 zl
      clear k00 k01 k10 k11 k20 k21 kl0 kl1 kl2 kj0 kj1 kjl
      go_wp2_with fail
      refine (lives_any wl).mono ?_; rintro e wm ⟨rfl, tm⟩
      have TM : Hid (Still w wm) := TL.out.trans tm
      clear tm
      go_wp2_with fail
      go_ret
      exact ⟨rfl, TM.out⟩
    · refine (sub_any (HI2.out KK.out.1).2.1 (HI2.out KK.out.1).2.1 (HI2.out KK.out.1).1 HN.out.1 HN.out.1).mono ?_; rintro e v0 ⟨rfl, t0⟩
      have K0 : Hid (Still w2 v0 ∧ Still w v0 ∧ Box3 v0 M ia a1 n1 c1 ib a2 n2 c2 ic a3 n3 c3 ∧ Blk v0 Jb 24 #[.bool ij, .slice aj nj cj]) := ⟨KK.out.1.trans t0, W2.out.1.trans (KK.out.1.trans t0), W2.out.2.1.still (KK.out.1.trans t0), (KK.out.1.trans t0).blk W2.out.2.2⟩
      have s0 := HF.out.1
      clear t0
      have k00 : v0.cell? ⟨M, 0, none⟩ = some (.bool ia) := K0.out.2.2.1.b0.cell 0
      have k01 : v0.cell? ⟨M, 1, none⟩ = some (.slice a1 n1 c1) := K0.out.2.2.1.b0.cell 1
      have k10 : v0.cell? ⟨M + 1, 0, none⟩ = some (.bool ib) := K0.out.2.2.1.b1.cell 0
      have k11 : v0.cell? ⟨M + 1, 1, none⟩ = some (.slice a2 n2 c2) := K0.out.2.2.1.b1.cell 1
      have k20 : v0.cell? ⟨M + 1 + 1, 0, none⟩ = some (.bool ic) := K0.out.2.2.1.b2.cell 0
      have k21 : v0.cell? ⟨M + 1 + 1, 1, none⟩ = some (.slice a3 n3 c3) := K0.out.2.2.1.b2.cell 1
      have kl0 := K0.out.2.2.1.b0.lt
      have kl1 := K0.out.2.2.1.b1.lt
      have kl2 := K0.out.2.2.1.b2.lt
      have kj0 : v0.cell? ⟨Jb, 0, none⟩ = some (.bool ij) := K0.out.2.2.2.cell 0
      have kj1 : v0.cell? ⟨Jb, 1, none⟩ = some (.slice aj nj cj) := K0.out.2.2.2.cell 1
      have kjl := K0.out.2.2.2.lt
      go_wp2_with fail
      clear k00 k01 k10 k11 k20 k21 kl0 kl1 kl2 kj0 kj1 kjl s0
      refine (sub_any (HI2.out K0.out.1).2.1 (HI2.out K0.out.1).2.2.1 (HI2.out K0.out.1).1 HN.out.1 HN.out.2.1).mono ?_; rintro e v1 ⟨rfl, t1⟩
      have K1 : Hid (Still w2 v1 ∧ Still w v1 ∧ Box3 v1 M ia a1 n1 c1 ib a2 n2 c2 ic a3 n3 c3 ∧ Blk v1 Jb 24 #[.bool ij, .slice aj nj cj]) := ⟨K0.out.1.trans t1, W2.out.1.trans (K0.out.1.trans t1), W2.out.2.1.still (K0.out.1.trans t1), (K0.out.1.trans t1).blk W2.out.2.2⟩
      have s1 := hab
      clear t1
      have k00 : v1.cell? ⟨M, 0, none⟩ = some (.bool ia) := K1.out.2.2.1.b0.cell 0
      have k01 : v1.cell? ⟨M, 1, none⟩ = some (.slice a1 n1 c1) := K1.out.2.2.1.b0.cell 1
      have k10 : v1.cell? ⟨M + 1, 0, none⟩ = some (.bool ib) := K1.out.2.2.1.b1.cell 0
      have k11 : v1.cell? ⟨M + 1, 1, none⟩ = some (.slice a2 n2 c2) := K1.out.2.2.1.b1.cell 1
      have k20 : v1.cell? ⟨M + 1 + 1, 0, none⟩ = some (.bool ic) := K1.out.2.2.1.b2.cell 0
      have k21 : v1.cell? ⟨M + 1 + 1, 1, none⟩ = some (.slice a3 n3 c3) := K1.out.2.2.1.b2.cell 1
      have kl0 := K1.out.2.2.1.b0.lt
      have kl1 := K1.out.2.2.1.b1.lt
      have kl2 := K1.out.2.2.1.b2.lt
      have kj0 : v1.cell? ⟨Jb, 0, none⟩ = some (.bool ij) := K1.out.2.2.2.cell 0
      have kj1 : v1.cell? ⟨Jb, 1, none⟩ = some (.slice aj nj cj) := K1.out.2.2.2.cell 1
      have kjl := K1.out.2.2.2.lt
      go_wp2_with fail
      clear k00 k01 k10 k11 k20 k21 kl0 kl1 kl2 kj0 kj1 kjl s1
      refine (sub_any (HI2.out K1.out.1).2.1 (HI2.out K1.out.1).2.2.2.2 (HI2.out K1.out.1).1 HN.out.1 HNJ.out).mono ?_; rintro e v2 ⟨rfl, t2⟩
      have K2 : Hid (Still w2 v2 ∧ Still w v2 ∧ Box3 v2 M ia a1 n1 c1 ib a2 n2 c2 ic a3 n3 c3 ∧ Blk v2 Jb 24 #[.bool ij, .slice aj nj cj]) := ⟨K1.out.1.trans t2, W2.out.1.trans (K1.out.1.trans t2), W2.out.2.1.still (K1.out.1.trans t2), (K1.out.1.trans t2).blk W2.out.2.2⟩
      have s2 := HF.out.2.1
      clear t2
      have k00 : v2.cell? ⟨M, 0, none⟩ = some (.bool ia) := K2.out.2.2.1.b0.cell 0
      have k01 : v2.cell? ⟨M, 1, none⟩ = some (.slice a1 n1 c1) := K2.out.2.2.1.b0.cell 1
      have k10 : v2.cell? ⟨M + 1, 0, none⟩ = some (.bool ib) := K2.out.2.2.1.b1.cell 0
      have k11 : v2.cell? ⟨M + 1, 1, none⟩ = some (.slice a2 n2 c2) := K2.out.2.2.1.b1.cell 1
      have k20 : v2.cell? ⟨M + 1 + 1, 0, none⟩ = some (.bool ic) := K2.out.2.2.1.b2.cell 0
      have k21 : v2.cell? ⟨M + 1 + 1, 1, none⟩ = some (.slice a3 n3 c3) := K2.out.2.2.1.b2.cell 1
      have kl0 := K2.out.2.2.1.b0.lt
      have kl1 := K2.out.2.2.1.b1.lt
      have kl2 := K2.out.2.2.1.b2.lt
      have kj0 : v2.cell? ⟨Jb, 0, none⟩ = some (.bool ij) := K2.out.2.2.2.cell 0
      have kj1 : v2.cell? ⟨Jb, 1, none⟩ = some (.slice aj nj cj) := K2.out.2.2.2.cell 1
      have kjl := K2.out.2.2.2.lt
      go_wp2_with fail
      clear k00 k01 k10 k11 k20 k21 kl0 kl1 kl2 kj0 kj1 kjl s2
      refine (sub_any (HI2.out K2.out.1).2.2.1 (HI2.out K2.out.1).2.2.2.2 (HI2.out K2.out.1).1 HN.out.2.1 HNJ.out).mono ?_; rintro e v3 ⟨rfl, t3⟩
      have K3 : Hid (Still w2 v3 ∧ Still w v3 ∧ Box3 v3 M ia a1 n1 c1 ib a2 n2 c2 ic a3 n3 c3 ∧ Blk v3 Jb 24 #[.bool ij, .slice aj nj cj]) := ⟨K2.out.1.trans t3, W2.out.1.trans (K2.out.1.trans t3), W2.out.2.1.still (K2.out.1.trans t3), (K2.out.1.trans t3).blk W2.out.2.2⟩
      have s3 := HF.out.2.2.1
      clear t3
      have k00 : v3.cell? ⟨M, 0, none⟩ = some (.bool ia) := K3.out.2.2.1.b0.cell 0
      have k01 : v3.cell? ⟨M, 1, none⟩ = some (.slice a1 n1 c1) := K3.out.2.2.1.b0.cell 1
      have k10 : v3.cell? ⟨M + 1, 0, none⟩ = some (.bool ib) := K3.out.2.2.1.b1.cell 0
      have k11 : v3.cell? ⟨M + 1, 1, none⟩ = some (.slice a2 n2 c2) := K3.out.2.2.1.b1.cell 1
      have k20 : v3.cell? ⟨M + 1 + 1, 0, none⟩ = some (.bool ic) := K3.out.2.2.1.b2.cell 0
      have k21 : v3.cell? ⟨M + 1 + 1, 1, none⟩ = some (.slice a3 n3 c3) := K3.out.2.2.1.b2.cell 1
      have kl0 := K3.out.2.2.1.b0.lt
      have kl1 := K3.out.2.2.1.b1.lt
      have kl2 := K3.out.2.2.1.b2.lt
      have kj0 : v3.cell? ⟨Jb, 0, none⟩ = some (.bool ij) := K3.out.2.2.2.cell 0
      have kj1 : v3.cell? ⟨Jb, 1, none⟩ = some (.slice aj nj cj) := K3.out.2.2.2.cell 1
      have kjl := K3.out.2.2.2.lt
      go_wp2_with fail
      clear k00 k01 k10 k11 k20 k21 kl0 kl1 kl2 kj0 kj1 kjl s3
      refine (sub_any (HI2.out K3.out.1).2.1 (HI2.out K3.out.1).2.2.2.1 (HI2.out K3.out.1).1 HN.out.1 HN.out.2.2).mono ?_; rintro e v4 ⟨rfl, t4⟩
      have K4 : Hid (Still w2 v4 ∧ Still w v4 ∧ Box3 v4 M ia a1 n1 c1 ib a2 n2 c2 ic a3 n3 c3 ∧ Blk v4 Jb 24 #[.bool ij, .slice aj nj cj]) := ⟨K3.out.1.trans t4, W2.out.1.trans (K3.out.1.trans t4), W2.out.2.1.still (K3.out.1.trans t4), (K3.out.1.trans t4).blk W2.out.2.2⟩
      have s4 := hac
      clear t4
      have k00 : v4.cell? ⟨M, 0, none⟩ = some (.bool ia) := K4.out.2.2.1.b0.cell 0
      have k01 : v4.cell? ⟨M, 1, none⟩ = some (.slice a1 n1 c1) := K4.out.2.2.1.b0.cell 1
      have k10 : v4.cell? ⟨M + 1, 0, none⟩ = some (.bool ib) := K4.out.2.2.1.b1.cell 0
      have k11 : v4.cell? ⟨M + 1, 1, none⟩ = some (.slice a2 n2 c2) := K4.out.2.2.1.b1.cell 1
      have k20 : v4.cell? ⟨M + 1 + 1, 0, none⟩ = some (.bool ic) := K4.out.2.2.1.b2.cell 0
      have k21 : v4.cell? ⟨M + 1 + 1, 1, none⟩ = some (.slice a3 n3 c3) := K4.out.2.2.1.b2.cell 1
      have kl0 := K4.out.2.2.1.b0.lt
      have kl1 := K4.out.2.2.1.b1.lt
      have kl2 := K4.out.2.2.1.b2.lt
      have kj0 : v4.cell? ⟨Jb, 0, none⟩ = some (.bool ij) := K4.out.2.2.2.cell 0
      have kj1 : v4.cell? ⟨Jb, 1, none⟩ = some (.slice aj nj cj) := K4.out.2.2.2.cell 1
      have kjl := K4.out.2.2.2.lt
      go_wp2_with fail
      clear k00 k01 k10 k11 k20 k21 kl0 kl1 kl2 kj0 kj1 kjl s4
      refine (join_any (HI2.out K4.out.1).2.2.1 (HI2.out K4.out.1).2.1 (HI2.out K4.out.1).1 HN.out.2.1 HN.out.1).mono ?_; rintro e wk ⟨ak, nk, ck, rfl, hik, tk⟩
      rw [HF.out.2.2.2.2.2.1] at hik
      rw [HF.out.2.2.2.2.2.2]
      have WK : Hid (Still w2 (wk.alloc (.cells #[.bool ij, .slice ak nk ck] 24)) ∧ Still w (wk.alloc (.cells #[.bool ij, .slice ak nk ck] 24)) ∧ Box3 (wk.alloc (.cells #[.bool ij, .slice ak nk ck] 24)) M ia a1 n1 c1 ib a2 n2 c2 ic a3 n3 c3 ∧ Blk (wk.alloc (.cells #[.bool ij, .slice ak nk ck] 24)) Jb 24 #[.bool ij, .slice aj nj cj]) := ⟨(K4.out.1.trans tk).alloc _, (K4.out.2.1.trans tk).alloc _, (K4.out.2.2.1.still (tk.alloc _)), (tk.alloc _).blk K4.out.2.2.2⟩
      have BK := Blk.new wk 24 #[.bool ij, .slice ak nk ck]
      have z0 := BK.cell 0
      have z1 := BK.cell 1
      have zl := BK.lt
      have HAL := Lib.hid (alike_same (c := ck) (c' := cj) (hik.keep (Still.below ((Still.refl wk).alloc (.cells #[.bool ij, .slice ak nk ck] 24))) (Nat.le_refl _)) ((HI2.out WK.out.1).2.2.2.2.up (by have := (HI2.out (K4.out.1.trans tk)).1; exact this)) (by simp) (by have h1 := hik.len; have h2 := (HI2.out WK.out.1).2.2.2.2.len; have h3 := HNJ.out; omega))
      have hbb : (ij == ij) = true := by simp
      clear hik tk BK
      have k00 : (wk.alloc (.cells #[.bool ij, .slice ak nk ck] 24)).cell? ⟨M, 0, none⟩ = some (.bool ia) := WK.out.2.2.1.b0.cell 0
      have k01 : (wk.alloc (.cells #[.bool ij, .slice ak nk ck] 24)).cell? ⟨M, 1, none⟩ = some (.slice a1 n1 c1) := WK.out.2.2.1.b0.cell 1
      have k10 : (wk.alloc (.cells #[.bool ij, .slice ak nk ck] 24)).cell? ⟨M + 1, 0, none⟩ = some (.bool ib) := WK.out.2.2.1.b1.cell 0
      have k11 : (wk.alloc (.cells #[.bool ij, .slice ak nk ck] 24)).cell? ⟨M + 1, 1, none⟩ = some (.slice a2 n2 c2) := WK.out.2.2.1.b1.cell 1
      have k20 : (wk.alloc (.cells #[.bool ij, .slice ak nk ck] 24)).cell? ⟨M + 1 + 1, 0, none⟩ = some (.bool ic) := WK.out.2.2.1.b2.cell 0
      have k21 : (wk.alloc (.cells #[.bool ij, .slice ak nk ck] 24)).cell? ⟨M + 1 + 1, 1, none⟩ = some (.slice a3 n3 c3) := WK.out.2.2.1.b2.cell 1
      have kl0 := WK.out.2.2.1.b0.lt
      have kl1 := WK.out.2.2.1.b1.lt
      have kl2 := WK.out.2.2.1.b2.lt
      have kj0 : (wk.alloc (.cells #[.bool ij, .slice ak nk ck] 24)).cell? ⟨Jb, 0, none⟩ = some (.bool ij) := WK.out.2.2.2.cell 0
      have kj1 : (wk.alloc (.cells #[.bool ij, .slice ak nk ck] 24)).cell? ⟨Jb, 1, none⟩ = some (.slice aj nj cj) := WK.out.2.2.2.cell 1
      have kjl := WK.out.2.2.2.lt
      go_wp2_with fail
      refine HAL.out.mono ?_; rintro e wl ⟨rfl, tl⟩
      have TL : Hid (Still w wl) := WK.out.2.1.trans tl
      clear tl z0 z1 zl
      clear k00 k01 k10 k11 k20 k21 kl0 kl1 kl2 kj0 kj1 kjl
      go_wp2_with fail
      refine (lives_any wl).mono ?_; rintro e wm ⟨rfl, tm⟩
      have TM : Hid (Still w wm) := TL.out.trans tm
      clear tm
      go_wp2_with fail
      go_ret
      exact ⟨rfl, TM.out⟩
    · refine (sub_any (HI2.out KK.out.1).2.1 (HI2.out KK.out.1).2.1 (HI2.out KK.out.1).1 HN.out.1 HN.out.1).mono ?_; rintro e v0 ⟨rfl, t0⟩
      have K0 : Hid (Still w2 v0 ∧ Still w v0 ∧ Box3 v0 M ia a1 n1 c1 ib a2 n2 c2 ic a3 n3 c3 ∧ Blk v0 Jb 24 #[.bool ij, .slice aj nj cj]) := ⟨KK.out.1.trans t0, W2.out.1.trans (KK.out.1.trans t0), W2.out.2.1.still (KK.out.1.trans t0), (KK.out.1.trans t0).blk W2.out.2.2⟩
      have s0 := HF.out.1
      clear t0
      have k00 : v0.cell? ⟨M, 0, none⟩ = some (.bool ia) := K0.out.2.2.1.b0.cell 0
      have k01 : v0.cell? ⟨M, 1, none⟩ = some (.slice a1 n1 c1) := K0.out.2.2.1.b0.cell 1
      have k10 : v0.cell? ⟨M + 1, 0, none⟩ = some (.bool ib) := K0.out.2.2.1.b1.cell 0
      have k11 : v0.cell? ⟨M + 1, 1, none⟩ = some (.slice a2 n2 c2) := K0.out.2.2.1.b1.cell 1
      have k20 : v0.cell? ⟨M + 1 + 1, 0, none⟩ = some (.bool ic) := K0.out.2.2.1.b2.cell 0
      have k21 : v0.cell? ⟨M + 1 + 1, 1, none⟩ = some (.slice a3 n3 c3) := K0.out.2.2.1.b2.cell 1
      have kl0 := K0.out.2.2.1.b0.lt
      have kl1 := K0.out.2.2.1.b1.lt
      have kl2 := K0.out.2.2.1.b2.lt
      have kj0 : v0.cell? ⟨Jb, 0, none⟩ = some (.bool ij) := K0.out.2.2.2.cell 0
      have kj1 : v0.cell? ⟨Jb, 1, none⟩ = some (.slice aj nj cj) := K0.out.2.2.2.cell 1
      have kjl := K0.out.2.2.2.lt
      go_wp2_with fail
      clear k00 k01 k10 k11 k20 k21 kl0 kl1 kl2 kj0 kj1 kjl s0
      refine (sub_any (HI2.out K0.out.1).2.1 (HI2.out K0.out.1).2.2.1 (HI2.out K0.out.1).1 HN.out.1 HN.out.2.1).mono ?_; rintro e v1 ⟨rfl, t1⟩
      have K1 : Hid (Still w2 v1 ∧ Still w v1 ∧ Box3 v1 M ia a1 n1 c1 ib a2 n2 c2 ic a3 n3 c3 ∧ Blk v1 Jb 24 #[.bool ij, .slice aj nj cj]) := ⟨K0.out.1.trans t1, W2.out.1.trans (K0.out.1.trans t1), W2.out.2.1.still (K0.out.1.trans t1), (K0.out.1.trans t1).blk W2.out.2.2⟩
      have s1 := hab
      clear t1
      have k00 : v1.cell? ⟨M, 0, none⟩ = some (.bool ia) := K1.out.2.2.1.b0.cell 0
      have k01 : v1.cell? ⟨M, 1, none⟩ = some (.slice a1 n1 c1) := K1.out.2.2.1.b0.cell 1
      have k10 : v1.cell? ⟨M + 1, 0, none⟩ = some (.bool ib) := K1.out.2.2.1.b1.cell 0
      have k11 : v1.cell? ⟨M + 1, 1, none⟩ = some (.slice a2 n2 c2) := K1.out.2.2.1.b1.cell 1
      have k20 : v1.cell? ⟨M + 1 + 1, 0, none⟩ = some (.bool ic) := K1.out.2.2.1.b2.cell 0
      have k21 : v1.cell? ⟨M + 1 + 1, 1, none⟩ = some (.slice a3 n3 c3) := K1.out.2.2.1.b2.cell 1
      have kl0 := K1.out.2.2.1.b0.lt
      have kl1 := K1.out.2.2.1.b1.lt
      have kl2 := K1.out.2.2.1.b2.lt
      have kj0 : v1.cell? ⟨Jb, 0, none⟩ = some (.bool ij) := K1.out.2.2.2.cell 0
      have kj1 : v1.cell? ⟨Jb, 1, none⟩ = some (.slice aj nj cj) := K1.out.2.2.2.cell 1
      have kjl := K1.out.2.2.2.lt
      go_wp2_with fail
      clear k00 k01 k10 k11 k20 k21 kl0 kl1 kl2 kj0 kj1 kjl s1
      refine (sub_any (HI2.out K1.out.1).2.1 (HI2.out K1.out.1).2.2.2.2 (HI2.out K1.out.1).1 HN.out.1 HNJ.out).mono ?_; rintro e v2 ⟨rfl, t2⟩
      have K2 : Hid (Still w2 v2 ∧ Still w v2 ∧ Box3 v2 M ia a1 n1 c1 ib a2 n2 c2 ic a3 n3 c3 ∧ Blk v2 Jb 24 #[.bool ij, .slice aj nj cj]) := ⟨K1.out.1.trans t2, W2.out.1.trans (K1.out.1.trans t2), W2.out.2.1.still (K1.out.1.trans t2), (K1.out.1.trans t2).blk W2.out.2.2⟩
      have s2 := HF.out.2.1
      clear t2
      have k00 : v2.cell? ⟨M, 0, none⟩ = some (.bool ia) := K2.out.2.2.1.b0.cell 0
      have k01 : v2.cell? ⟨M, 1, none⟩ = some (.slice a1 n1 c1) := K2.out.2.2.1.b0.cell 1
      have k10 : v2.cell? ⟨M + 1, 0, none⟩ = some (.bool ib) := K2.out.2.2.1.b1.cell 0
      have k11 : v2.cell? ⟨M + 1, 1, none⟩ = some (.slice a2 n2 c2) := K2.out.2.2.1.b1.cell 1
      have k20 : v2.cell? ⟨M + 1 + 1, 0, none⟩ = some (.bool ic) := K2.out.2.2.1.b2.cell 0
      have k21 : v2.cell? ⟨M + 1 + 1, 1, none⟩ = some (.slice a3 n3 c3) := K2.out.2.2.1.b2.cell 1
      have kl0 := K2.out.2.2.1.b0.lt
      have kl1 := K2.out.2.2.1.b1.lt
      have kl2 := K2.out.2.2.1.b2.lt
      have kj0 : v2.cell? ⟨Jb, 0, none⟩ = some (.bool ij) := K2.out.2.2.2.cell 0
      have kj1 : v2.cell? ⟨Jb, 1, none⟩ = some (.slice aj nj cj) := K2.out.2.2.2.cell 1
      have kjl := K2.out.2.2.2.lt
      go_wp2_with fail
      clear k00 k01 k10 k11 k20 k21 kl0 kl1 kl2 kj0 kj1 kjl s2
      refine (sub_any (HI2.out K2.out.1).2.2.1 (HI2.out K2.out.1).2.2.2.2 (HI2.out K2.out.1).1 HN.out.2.1 HNJ.out).mono ?_; rintro e v3 ⟨rfl, t3⟩
      have K3 : Hid (Still w2 v3 ∧ Still w v3 ∧ Box3 v3 M ia a1 n1 c1 ib a2 n2 c2 ic a3 n3 c3 ∧ Blk v3 Jb 24 #[.bool ij, .slice aj nj cj]) := ⟨K2.out.1.trans t3, W2.out.1.trans (K2.out.1.trans t3), W2.out.2.1.still (K2.out.1.trans t3), (K2.out.1.trans t3).blk W2.out.2.2⟩
      have s3 := HF.out.2.2.1
      clear t3
      have k00 : v3.cell? ⟨M, 0, none⟩ = some (.bool ia) := K3.out.2.2.1.b0.cell 0
      have k01 : v3.cell? ⟨M, 1, none⟩ = some (.slice a1 n1 c1) := K3.out.2.2.1.b0.cell 1
      have k10 : v3.cell? ⟨M + 1, 0, none⟩ = some (.bool ib) := K3.out.2.2.1.b1.cell 0
      have k11 : v3.cell? ⟨M + 1, 1, none⟩ = some (.slice a2 n2 c2) := K3.out.2.2.1.b1.cell 1
      have k20 : v3.cell? ⟨M + 1 + 1, 0, none⟩ = some (.bool ic) := K3.out.2.2.1.b2.cell 0
      have k21 : v3.cell? ⟨M + 1 + 1, 1, none⟩ = some (.slice a3 n3 c3) := K3.out.2.2.1.b2.cell 1
      have kl0 := K3.out.2.2.1.b0.lt
      have kl1 := K3.out.2.2.1.b1.lt
      have kl2 := K3.out.2.2.1.b2.lt
      have kj0 : v3.cell? ⟨Jb, 0, none⟩ = some (.bool ij) := K3.out.2.2.2.cell 0
      have kj1 : v3.cell? ⟨Jb, 1, none⟩ = some (.slice aj nj cj) := K3.out.2.2.2.cell 1
      have kjl := K3.out.2.2.2.lt
      go_wp2_with fail
      clear k00 k01 k10 k11 k20 k21 kl0 kl1 kl2 kj0 kj1 kjl s3
      refine (sub_any (HI2.out K3.out.1).2.1 (HI2.out K3.out.1).2.2.2.1 (HI2.out K3.out.1).1 HN.out.1 HN.out.2.2).mono ?_; rintro e v4 ⟨rfl, t4⟩
      have K4 : Hid (Still w2 v4 ∧ Still w v4 ∧ Box3 v4 M ia a1 n1 c1 ib a2 n2 c2 ic a3 n3 c3 ∧ Blk v4 Jb 24 #[.bool ij, .slice aj nj cj]) := ⟨K3.out.1.trans t4, W2.out.1.trans (K3.out.1.trans t4), W2.out.2.1.still (K3.out.1.trans t4), (K3.out.1.trans t4).blk W2.out.2.2⟩
      have s4 := hac
      clear t4
      have k00 : v4.cell? ⟨M, 0, none⟩ = some (.bool ia) := K4.out.2.2.1.b0.cell 0
      have k01 : v4.cell? ⟨M, 1, none⟩ = some (.slice a1 n1 c1) := K4.out.2.2.1.b0.cell 1
      have k10 : v4.cell? ⟨M + 1, 0, none⟩ = some (.bool ib) := K4.out.2.2.1.b1.cell 0
      have k11 : v4.cell? ⟨M + 1, 1, none⟩ = some (.slice a2 n2 c2) := K4.out.2.2.1.b1.cell 1
      have k20 : v4.cell? ⟨M + 1 + 1, 0, none⟩ = some (.bool ic) := K4.out.2.2.1.b2.cell 0
      have k21 : v4.cell? ⟨M + 1 + 1, 1, none⟩ = some (.slice a3 n3 c3) := K4.out.2.2.1.b2.cell 1
      have kl0 := K4.out.2.2.1.b0.lt
      have kl1 := K4.out.2.2.1.b1.lt
      have kl2 := K4.out.2.2.1.b2.lt
      have kj0 : v4.cell? ⟨Jb, 0, none⟩ = some (.bool ij) := K4.out.2.2.2.cell 0
      have kj1 : v4.cell? ⟨Jb, 1, none⟩ = some (.slice aj nj cj) := K4.out.2.2.2.cell 1
      have kjl := K4.out.2.2.2.lt
      go_wp2_with fail
      clear k00 k01 k10 k11 k20 k21 kl0 kl1 kl2 kj0 kj1 kjl s4
      refine (sub_any (HI2.out K4.out.1).2.2.1 (HI2.out K4.out.1).2.2.2.1 (HI2.out K4.out.1).1 HN.out.2.1 HN.out.2.2).mono ?_; rintro e v5 ⟨rfl, t5⟩
      have K5 : Hid (Still w2 v5 ∧ Still w v5 ∧ Box3 v5 M ia a1 n1 c1 ib a2 n2 c2 ic a3 n3 c3 ∧ Blk v5 Jb 24 #[.bool ij, .slice aj nj cj]) := ⟨K4.out.1.trans t5, W2.out.1.trans (K4.out.1.trans t5), W2.out.2.1.still (K4.out.1.trans t5), (K4.out.1.trans t5).blk W2.out.2.2⟩
      have s5 := hbc
      clear t5
      have k00 : v5.cell? ⟨M, 0, none⟩ = some (.bool ia) := K5.out.2.2.1.b0.cell 0
      have k01 : v5.cell? ⟨M, 1, none⟩ = some (.slice a1 n1 c1) := K5.out.2.2.1.b0.cell 1
      have k10 : v5.cell? ⟨M + 1, 0, none⟩ = some (.bool ib) := K5.out.2.2.1.b1.cell 0
      have k11 : v5.cell? ⟨M + 1, 1, none⟩ = some (.slice a2 n2 c2) := K5.out.2.2.1.b1.cell 1
      have k20 : v5.cell? ⟨M + 1 + 1, 0, none⟩ = some (.bool ic) := K5.out.2.2.1.b2.cell 0
      have k21 : v5.cell? ⟨M + 1 + 1, 1, none⟩ = some (.slice a3 n3 c3) := K5.out.2.2.1.b2.cell 1
      have kl0 := K5.out.2.2.1.b0.lt
      have kl1 := K5.out.2.2.1.b1.lt
      have kl2 := K5.out.2.2.1.b2.lt
      have kj0 : v5.cell? ⟨Jb, 0, none⟩ = some (.bool ij) := K5.out.2.2.2.cell 0
      have kj1 : v5.cell? ⟨Jb, 1, none⟩ = some (.slice aj nj cj) := K5.out.2.2.2.cell 1
      have kjl := K5.out.2.2.2.lt
      go_wp2_with fail
      clear k00 k01 k10 k11 k20 k21 kl0 kl1 kl2 kj0 kj1 kjl s5
      refine (sub_any (HI2.out K5.out.1).2.2.2.2 (HI2.out K5.out.1).2.2.2.1 (HI2.out K5.out.1).1 HNJ.out HN.out.2.2).mono ?_; rintro e v6 ⟨rfl, t6⟩
      have K6 : Hid (Still w2 v6 ∧ Still w v6 ∧ Box3 v6 M ia a1 n1 c1 ib a2 n2 c2 ic a3 n3 c3 ∧ Blk v6 Jb 24 #[.bool ij, .slice aj nj cj]) := ⟨K5.out.1.trans t6, W2.out.1.trans (K5.out.1.trans t6), W2.out.2.1.still (K5.out.1.trans t6), (K5.out.1.trans t6).blk W2.out.2.2⟩
      have s6 := HF.out.2.2.2.1 hac hbc
      clear t6
      have k00 : v6.cell? ⟨M, 0, none⟩ = some (.bool ia) := K6.out.2.2.1.b0.cell 0
      have k01 : v6.cell? ⟨M, 1, none⟩ = some (.slice a1 n1 c1) := K6.out.2.2.1.b0.cell 1
      have k10 : v6.cell? ⟨M + 1, 0, none⟩ = some (.bool ib) := K6.out.2.2.1.b1.cell 0
      have k11 : v6.cell? ⟨M + 1, 1, none⟩ = some (.slice a2 n2 c2) := K6.out.2.2.1.b1.cell 1
      have k20 : v6.cell? ⟨M + 1 + 1, 0, none⟩ = some (.bool ic) := K6.out.2.2.1.b2.cell 0
      have k21 : v6.cell? ⟨M + 1 + 1, 1, none⟩ = some (.slice a3 n3 c3) := K6.out.2.2.1.b2.cell 1
      have kl0 := K6.out.2.2.1.b0.lt
      have kl1 := K6.out.2.2.1.b1.lt
      have kl2 := K6.out.2.2.1.b2.lt
      have kj0 : v6.cell? ⟨Jb, 0, none⟩ = some (.bool ij) := K6.out.2.2.2.cell 0
      have kj1 : v6.cell? ⟨Jb, 1, none⟩ = some (.slice aj nj cj) := K6.out.2.2.2.cell 1
      have kjl := K6.out.2.2.2.lt
      go_wp2_with fail
      clear k00 k01 k10 k11 k20 k21 kl0 kl1 kl2 kj0 kj1 kjl s6
      refine (join_any (HI2.out K6.out.1).2.2.1 (HI2.out K6.out.1).2.1 (HI2.out K6.out.1).1 HN.out.2.1 HN.out.1).mono ?_; rintro e wk ⟨ak, nk, ck, rfl, hik, tk⟩
      rw [HF.out.2.2.2.2.2.1] at hik
      rw [HF.out.2.2.2.2.2.2]
      have WK : Hid (Still w2 (wk.alloc (.cells #[.bool ij, .slice ak nk ck] 24)) ∧ Still w (wk.alloc (.cells #[.bool ij, .slice ak nk ck] 24)) ∧ Box3 (wk.alloc (.cells #[.bool ij, .slice ak nk ck] 24)) M ia a1 n1 c1 ib a2 n2 c2 ic a3 n3 c3 ∧ Blk (wk.alloc (.cells #[.bool ij, .slice ak nk ck] 24)) Jb 24 #[.bool ij, .slice aj nj cj]) := ⟨(K6.out.1.trans tk).alloc _, (K6.out.2.1.trans tk).alloc _, (K6.out.2.2.1.still (tk.alloc _)), (tk.alloc _).blk K6.out.2.2.2⟩
      have BK := Blk.new wk 24 #[.bool ij, .slice ak nk ck]
      have z0 := BK.cell 0
      have z1 := BK.cell 1
      have zl := BK.lt
      have HAL := Lib.hid (alike_same (c := ck) (c' := cj) (hik.keep (Still.below ((Still.refl wk).alloc (.cells #[.bool ij, .slice ak nk ck] 24))) (Nat.le_refl _)) ((HI2.out WK.out.1).2.2.2.2.up (by have := (HI2.out (K6.out.1.trans tk)).1; exact this)) (by simp) (by have h1 := hik.len; have h2 := (HI2.out WK.out.1).2.2.2.2.len; have h3 := HNJ.out; omega))
      have hbb : (ij == ij) = true := by simp
      clear hik tk BK
      have k00 : (wk.alloc (.cells #[.bool ij, .slice ak nk ck] 24)).cell? ⟨M, 0, none⟩ = some (.bool ia) := WK.out.2.2.1.b0.cell 0
      have k01 : (wk.alloc (.cells #[.bool ij, .slice ak nk ck] 24)).cell? ⟨M, 1, none⟩ = some (.slice a1 n1 c1) := WK.out.2.2.1.b0.cell 1
      have k10 : (wk.alloc (.cells #[.bool ij, .slice ak nk ck] 24)).cell? ⟨M + 1, 0, none⟩ = some (.bool ib) := WK.out.2.2.1.b1.cell 0
      have k11 : (wk.alloc (.cells #[.bool ij, .slice ak nk ck] 24)).cell? ⟨M + 1, 1, none⟩ = some (.slice a2 n2 c2) := WK.out.2.2.1.b1.cell 1
      have k20 : (wk.alloc (.cells #[.bool ij, .slice ak nk ck] 24)).cell? ⟨M + 1 + 1, 0, none⟩ = some (.bool ic) := WK.out.2.2.1.b2.cell 0
      have k21 : (wk.alloc (.cells #[.bool ij, .slice ak nk ck] 24)).cell? ⟨M + 1 + 1, 1, none⟩ = some (.slice a3 n3 c3) := WK.out.2.2.1.b2.cell 1
      have kl0 := WK.out.2.2.1.b0.lt
      have kl1 := WK.out.2.2.1.b1.lt
      have kl2 := WK.out.2.2.1.b2.lt
      have kj0 : (wk.alloc (.cells #[.bool ij, .slice ak nk ck] 24)).cell? ⟨Jb, 0, none⟩ = some (.bool ij) := WK.out.2.2.2.cell 0
      have kj1 : (wk.alloc (.cells #[.bool ij, .slice ak nk ck] 24)).cell? ⟨Jb, 1, none⟩ = some (.slice aj nj cj) := WK.out.2.2.2.cell 1
      have kjl := WK.out.2.2.2.lt
      go_wp2_with fail
      refine HAL.out.mono ?_; rintro e wl ⟨rfl, tl⟩
      have TL : Hid (Still w wl) := WK.out.2.1.trans tl
      clear tl z0 z1 zl
      clear k00 k01 k10 k11 k20 k21 kl0 kl1 kl2 kj0 kj1 kjl
      go_wp2_with fail
      refine (lives_any wl).mono ?_; rintro e wm ⟨rfl, tm⟩
      have TM : Hid (Still w wm) := TL.out.trans tm
      clear tm
      go_wp2_with fail
      go_ret
      exact ⟨rfl, TM.out⟩
    · refine (sub_any (HI2.out KK.out.1).2.1 (HI2.out KK.out.1).2.1 (HI2.out KK.out.1).1 HN.out.1 HN.out.1).mono ?_; rintro e v0 ⟨rfl, t0⟩
      have K0 : Hid (Still w2 v0 ∧ Still w v0 ∧ Box3 v0 M ia a1 n1 c1 ib a2 n2 c2 ic a3 n3 c3 ∧ Blk v0 Jb 24 #[.bool ij, .slice aj nj cj]) := ⟨KK.out.1.trans t0, W2.out.1.trans (KK.out.1.trans t0), W2.out.2.1.still (KK.out.1.trans t0), (KK.out.1.trans t0).blk W2.out.2.2⟩
      have s0 := HF.out.1
      clear t0
      have k00 : v0.cell? ⟨M, 0, none⟩ = some (.bool ia) := K0.out.2.2.1.b0.cell 0
      have k01 : v0.cell? ⟨M, 1, none⟩ = some (.slice a1 n1 c1) := K0.out.2.2.1.b0.cell 1
      have k10 : v0.cell? ⟨M + 1, 0, none⟩ = some (.bool ib) := K0.out.2.2.1.b1.cell 0
      have k11 : v0.cell? ⟨M + 1, 1, none⟩ = some (.slice a2 n2 c2) := K0.out.2.2.1.b1.cell 1
      have k20 : v0.cell? ⟨M + 1 + 1, 0, none⟩ = some (.bool ic) := K0.out.2.2.1.b2.cell 0
      have k21 : v0.cell? ⟨M + 1 + 1, 1, none⟩ = some (.slice a3 n3 c3) := K0.out.2.2.1.b2.cell 1
      have kl0 := K0.out.2.2.1.b0.lt
      have kl1 := K0.out.2.2.1.b1.lt
      have kl2 := K0.out.2.2.1.b2.lt
      have kj0 : v0.cell? ⟨Jb, 0, none⟩ = some (.bool ij) := K0.out.2.2.2.cell 0
      have kj1 : v0.cell? ⟨Jb, 1, none⟩ = some (.slice aj nj cj) := K0.out.2.2.2.cell 1
      have kjl := K0.out.2.2.2.lt
      go_wp2_with fail
      clear k00 k01 k10 k11 k20 k21 kl0 kl1 kl2 kj0 kj1 kjl s0
      refine (sub_any (HI2.out K0.out.1).2.1 (HI2.out K0.out.1).2.2.1 (HI2.out K0.out.1).1 HN.out.1 HN.out.2.1).mono ?_; rintro e v1 ⟨rfl, t1⟩
      have K1 : Hid (Still w2 v1 ∧ Still w v1 ∧ Box3 v1 M ia a1 n1 c1 ib a2 n2 c2 ic a3 n3 c3 ∧ Blk v1 Jb 24 #[.bool ij, .slice aj nj cj]) := ⟨K0.out.1.trans t1, W2.out.1.trans (K0.out.1.trans t1), W2.out.2.1.still (K0.out.1.trans t1), (K0.out.1.trans t1).blk W2.out.2.2⟩
      have s1 := hab
      clear t1
      have k00 : v1.cell? ⟨M, 0, none⟩ = some (.bool ia) := K1.out.2.2.1.b0.cell 0
      have k01 : v1.cell? ⟨M, 1, none⟩ = some (.slice a1 n1 c1) := K1.out.2.2.1.b0.cell 1
      have k10 : v1.cell? ⟨M + 1, 0, none⟩ = some (.bool ib) := K1.out.2.2.1.b1.cell 0
      have k11 : v1.cell? ⟨M + 1, 1, none⟩ = some (.slice a2 n2 c2) := K1.out.2.2.1.b1.cell 1
      have k20 : v1.cell? ⟨M + 1 + 1, 0, none⟩ = some (.bool ic) := K1.out.2.2.1.b2.cell 0
      have k21 : v1.cell? ⟨M + 1 + 1, 1, none⟩ = some (.slice a3 n3 c3) := K1.out.2.2.1.b2.cell 1
      have kl0 := K1.out.2.2.1.b0.lt
      have kl1 := K1.out.2.2.1.b1.lt
      have kl2 := K1.out.2.2.1.b2.lt
      have kj0 : v1.cell? ⟨Jb, 0, none⟩ = some (.bool ij) := K1.out.2.2.2.cell 0
      have kj1 : v1.cell? ⟨Jb, 1, none⟩ = some (.slice aj nj cj) := K1.out.2.2.2.cell 1
      have kjl := K1.out.2.2.2.lt
      go_wp2_with fail
      clear k00 k01 k10 k11 k20 k21 kl0 kl1 kl2 kj0 kj1 kjl s1
      refine (sub_any (HI2.out K1.out.1).2.2.1 (HI2.out K1.out.1).2.2.2.1 (HI2.out K1.out.1).1 HN.out.2.1 HN.out.2.2).mono ?_; rintro e v2 ⟨rfl, t2⟩
      have K2 : Hid (Still w2 v2 ∧ Still w v2 ∧ Box3 v2 M ia a1 n1 c1 ib a2 n2 c2 ic a3 n3 c3 ∧ Blk v2 Jb 24 #[.bool ij, .slice aj nj cj]) := ⟨K1.out.1.trans t2, W2.out.1.trans (K1.out.1.trans t2), W2.out.2.1.still (K1.out.1.trans t2), (K1.out.1.trans t2).blk W2.out.2.2⟩
      have s2 := hbc
      clear t2
      have k00 : v2.cell? ⟨M, 0, none⟩ = some (.bool ia) := K2.out.2.2.1.b0.cell 0
      have k01 : v2.cell? ⟨M, 1, none⟩ = some (.slice a1 n1 c1) := K2.out.2.2.1.b0.cell 1
      have k10 : v2.cell? ⟨M + 1, 0, none⟩ = some (.bool ib) := K2.out.2.2.1.b1.cell 0
      have k11 : v2.cell? ⟨M + 1, 1, none⟩ = some (.slice a2 n2 c2) := K2.out.2.2.1.b1.cell 1
      have k20 : v2.cell? ⟨M + 1 + 1, 0, none⟩ = some (.bool ic) := K2.out.2.2.1.b2.cell 0
      have k21 : v2.cell? ⟨M + 1 + 1, 1, none⟩ = some (.slice a3 n3 c3) := K2.out.2.2.1.b2.cell 1
      have kl0 := K2.out.2.2.1.b0.lt
      have kl1 := K2.out.2.2.1.b1.lt
      have kl2 := K2.out.2.2.1.b2.lt
      have kj0 : v2.cell? ⟨Jb, 0, none⟩ = some (.bool ij) := K2.out.2.2.2.cell 0
      have kj1 : v2.cell? ⟨Jb, 1, none⟩ = some (.slice aj nj cj) := K2.out.2.2.2.cell 1
      have kjl := K2.out.2.2.2.lt
      go_wp2_with fail
      clear k00 k01 k10 k11 k20 k21 kl0 kl1 kl2 kj0 kj1 kjl s2
      refine (sub_any (HI2.out K2.out.1).2.1 (HI2.out K2.out.1).2.2.2.2 (HI2.out K2.out.1).1 HN.out.1 HNJ.out).mono ?_; rintro e v3 ⟨rfl, t3⟩
      have K3 : Hid (Still w2 v3 ∧ Still w v3 ∧ Box3 v3 M ia a1 n1 c1 ib a2 n2 c2 ic a3 n3 c3 ∧ Blk v3 Jb 24 #[.bool ij, .slice aj nj cj]) := ⟨K2.out.1.trans t3, W2.out.1.trans (K2.out.1.trans t3), W2.out.2.1.still (K2.out.1.trans t3), (K2.out.1.trans t3).blk W2.out.2.2⟩
      have s3 := HF.out.2.1
      clear t3
      have k00 : v3.cell? ⟨M, 0, none⟩ = some (.bool ia) := K3.out.2.2.1.b0.cell 0
      have k01 : v3.cell? ⟨M, 1, none⟩ = some (.slice a1 n1 c1) := K3.out.2.2.1.b0.cell 1
      have k10 : v3.cell? ⟨M + 1, 0, none⟩ = some (.bool ib) := K3.out.2.2.1.b1.cell 0
      have k11 : v3.cell? ⟨M + 1, 1, none⟩ = some (.slice a2 n2 c2) := K3.out.2.2.1.b1.cell 1
      have k20 : v3.cell? ⟨M + 1 + 1, 0, none⟩ = some (.bool ic) := K3.out.2.2.1.b2.cell 0
      have k21 : v3.cell? ⟨M + 1 + 1, 1, none⟩ = some (.slice a3 n3 c3) := K3.out.2.2.1.b2.cell 1
      have kl0 := K3.out.2.2.1.b0.lt
      have kl1 := K3.out.2.2.1.b1.lt
      have kl2 := K3.out.2.2.1.b2.lt
      have kj0 : v3.cell? ⟨Jb, 0, none⟩ = some (.bool ij) := K3.out.2.2.2.cell 0
      have kj1 : v3.cell? ⟨Jb, 1, none⟩ = some (.slice aj nj cj) := K3.out.2.2.2.cell 1
      have kjl := K3.out.2.2.2.lt
      go_wp2_with fail
      clear k00 k01 k10 k11 k20 k21 kl0 kl1 kl2 kj0 kj1 kjl s3
      refine (sub_any (HI2.out K3.out.1).2.2.1 (HI2.out K3.out.1).2.2.2.2 (HI2.out K3.out.1).1 HN.out.2.1 HNJ.out).mono ?_; rintro e v4 ⟨rfl, t4⟩
      have K4 : Hid (Still w2 v4 ∧ Still w v4 ∧ Box3 v4 M ia a1 n1 c1 ib a2 n2 c2 ic a3 n3 c3 ∧ Blk v4 Jb 24 #[.bool ij, .slice aj nj cj]) := ⟨K3.out.1.trans t4, W2.out.1.trans (K3.out.1.trans t4), W2.out.2.1.still (K3.out.1.trans t4), (K3.out.1.trans t4).blk W2.out.2.2⟩
      have s4 := HF.out.2.2.1
      clear t4
      have k00 : v4.cell? ⟨M, 0, none⟩ = some (.bool ia) := K4.out.2.2.1.b0.cell 0
      have k01 : v4.cell? ⟨M, 1, none⟩ = some (.slice a1 n1 c1) := K4.out.2.2.1.b0.cell 1
      have k10 : v4.cell? ⟨M + 1, 0, none⟩ = some (.bool ib) := K4.out.2.2.1.b1.cell 0
      have k11 : v4.cell? ⟨M + 1, 1, none⟩ = some (.slice a2 n2 c2) := K4.out.2.2.1.b1.cell 1
      have k20 : v4.cell? ⟨M + 1 + 1, 0, none⟩ = some (.bool ic) := K4.out.2.2.1.b2.cell 0
      have k21 : v4.cell? ⟨M + 1 + 1, 1, none⟩ = some (.slice a3 n3 c3) := K4.out.2.2.1.b2.cell 1
      have kl0 := K4.out.2.2.1.b0.lt
      have kl1 := K4.out.2.2.1.b1.lt
      have kl2 := K4.out.2.2.1.b2.lt
      have kj0 : v4.cell? ⟨Jb, 0, none⟩ = some (.bool ij) := K4.out.2.2.2.cell 0
      have kj1 : v4.cell? ⟨Jb, 1, none⟩ = some (.slice aj nj cj) := K4.out.2.2.2.cell 1
      have kjl := K4.out.2.2.2.lt
      go_wp2_with fail
      clear k00 k01 k10 k11 k20 k21 kl0 kl1 kl2 kj0 kj1 kjl s4
      refine (sub_any (HI2.out K4.out.1).2.1 (HI2.out K4.out.1).2.2.2.1 (HI2.out K4.out.1).1 HN.out.1 HN.out.2.2).mono ?_; rintro e v5 ⟨rfl, t5⟩
      have K5 : Hid (Still w2 v5 ∧ Still w v5 ∧ Box3 v5 M ia a1 n1 c1 ib a2 n2 c2 ic a3 n3 c3 ∧ Blk v5 Jb 24 #[.bool ij, .slice aj nj cj]) := ⟨K4.out.1.trans t5, W2.out.1.trans (K4.out.1.trans t5), W2.out.2.1.still (K4.out.1.trans t5), (K4.out.1.trans t5).blk W2.out.2.2⟩
      have s5 := hac
      clear t5
      have k00 : v5.cell? ⟨M, 0, none⟩ = some (.bool ia) := K5.out.2.2.1.b0.cell 0
      have k01 : v5.cell? ⟨M, 1, none⟩ = some (.slice a1 n1 c1) := K5.out.2.2.1.b0.cell 1
      have k10 : v5.cell? ⟨M + 1, 0, none⟩ = some (.bool ib) := K5.out.2.2.1.b1.cell 0
      have k11 : v5.cell? ⟨M + 1, 1, none⟩ = some (.slice a2 n2 c2) := K5.out.2.2.1.b1.cell 1
      have k20 : v5.cell? ⟨M + 1 + 1, 0, none⟩ = some (.bool ic) := K5.out.2.2.1.b2.cell 0
      have k21 : v5.cell? ⟨M + 1 + 1, 1, none⟩ = some (.slice a3 n3 c3) := K5.out.2.2.1.b2.cell 1
      have kl0 := K5.out.2.2.1.b0.lt
      have kl1 := K5.out.2.2.1.b1.lt
      have kl2 := K5.out.2.2.1.b2.lt
      have kj0 : v5.cell? ⟨Jb, 0, none⟩ = some (.bool ij) := K5.out.2.2.2.cell 0
      have kj1 : v5.cell? ⟨Jb, 1, none⟩ = some (.slice aj nj cj) := K5.out.2.2.2.cell 1
      have kjl := K5.out.2.2.2.lt
      go_wp2_with fail
      clear k00 k01 k10 k11 k20 k21 kl0 kl1 kl2 kj0 kj1 kjl s5
      refine (join_any (HI2.out K5.out.1).2.2.1 (HI2.out K5.out.1).2.1 (HI2.out K5.out.1).1 HN.out.2.1 HN.out.1).mono ?_; rintro e wk ⟨ak, nk, ck, rfl, hik, tk⟩
      rw [HF.out.2.2.2.2.2.1] at hik
      rw [HF.out.2.2.2.2.2.2]
      have WK : Hid (Still w2 (wk.alloc (.cells #[.bool ij, .slice ak nk ck] 24)) ∧ Still w (wk.alloc (.cells #[.bool ij, .slice ak nk ck] 24)) ∧ Box3 (wk.alloc (.cells #[.bool ij, .slice ak nk ck] 24)) M ia a1 n1 c1 ib a2 n2 c2 ic a3 n3 c3 ∧ Blk (wk.alloc (.cells #[.bool ij, .slice ak nk ck] 24)) Jb 24 #[.bool ij, .slice aj nj cj]) := ⟨(K5.out.1.trans tk).alloc _, (K5.out.2.1.trans tk).alloc _, (K5.out.2.2.1.still (tk.alloc _)), (tk.alloc _).blk K5.out.2.2.2⟩
      have BK := Blk.new wk 24 #[.bool ij, .slice ak nk ck]
      have z0 := BK.cell 0
      have z1 := BK.cell 1
      have zl := BK.lt
      have HAL := Lib.hid (alike_same (c := ck) (c' := cj) (hik.keep (Still.below ((Still.refl wk).alloc (.cells #[.bool ij, .slice ak nk ck] 24))) (Nat.le_refl _)) ((HI2.out WK.out.1).2.2.2.2.up (by have := (HI2.out (K5.out.1.trans tk)).1; exact this)) (by simp) (by have h1 := hik.len; have h2 := (HI2.out WK.out.1).2.2.2.2.len; have h3 := HNJ.out; omega))
      have hbb : (ij == ij) = true := by simp
      clear hik tk BK
      have k00 : (wk.alloc (.cells #[.bool ij, .slice ak nk ck] 24)).cell? ⟨M, 0, none⟩ = some (.bool ia) := WK.out.2.2.1.b0.cell 0
      have k01 : (wk.alloc (.cells #[.bool ij, .slice ak nk ck] 24)).cell? ⟨M, 1, none⟩ = some (.slice a1 n1 c1) := WK.out.2.2.1.b0.cell 1
      have k10 : (wk.alloc (.cells #[.bool ij, .slice ak nk ck] 24)).cell? ⟨M + 1, 0, none⟩ = some (.bool ib) := WK.out.2.2.1.b1.cell 0
      have k11 : (wk.alloc (.cells #[.bool ij, .slice ak nk ck] 24)).cell? ⟨M + 1, 1, none⟩ = some (.slice a2 n2 c2) := WK.out.2.2.1.b1.cell 1
      have k20 : (wk.alloc (.cells #[.bool ij, .slice ak nk ck] 24)).cell? ⟨M + 1 + 1, 0, none⟩ = some (.bool ic) := WK.out.2.2.1.b2.cell 0
      have k21 : (wk.alloc (.cells #[.bool ij, .slice ak nk ck] 24)).cell? ⟨M + 1 + 1, 1, none⟩ = some (.slice a3 n3 c3) := WK.out.2.2.1.b2.cell 1
      have kl0 := WK.out.2.2.1.b0.lt
      have kl1 := WK.out.2.2.1.b1.lt
      have kl2 := WK.out.2.2.1.b2.lt
      have kj0 : (wk.alloc (.cells #[.bool ij, .slice ak nk ck] 24)).cell? ⟨Jb, 0, none⟩ = some (.bool ij) := WK.out.2.2.2.cell 0
      have kj1 : (wk.alloc (.cells #[.bool ij, .slice ak nk ck] 24)).cell? ⟨Jb, 1, none⟩ = some (.slice aj nj cj) := WK.out.2.2.2.cell 1
      have kjl := WK.out.2.2.2.lt
      go_wp2_with fail
      refine HAL.out.mono ?_; rintro e wl ⟨rfl, tl⟩
      have TL : Hid (Still w wl) := WK.out.2.1.trans tl
      clear tl z0 z1 zl
      clear k00 k01 k10 k11 k20 k21 kl0 kl1 kl2 kj0 kj1 kjl
      go_wp2_with fail
      refine (lives_any wl).mono ?_; rintro e wm ⟨rfl, tm⟩
      have TM : Hid (Still w wm) := TL.out.trans tm
      clear tm
      go_wp2_with fail
      go_ret
      exact ⟨rfl, TM.out⟩
    · refine (sub_any (HI2.out KK.out.1).2.1 (HI2.out KK.out.1).2.1 (HI2.out KK.out.1).1 HN.out.1 HN.out.1).mono ?_; rintro e v0 ⟨rfl, t0⟩
      have K0 : Hid (Still w2 v0 ∧ Still w v0 ∧ Box3 v0 M ia a1 n1 c1 ib a2 n2 c2 ic a3 n3 c3 ∧ Blk v0 Jb 24 #[.bool ij, .slice aj nj cj]) := ⟨KK.out.1.trans t0, W2.out.1.trans (KK.out.1.trans t0), W2.out.2.1.still (KK.out.1.trans t0), (KK.out.1.trans t0).blk W2.out.2.2⟩
      have s0 := HF.out.1
      clear t0
      have k00 : v0.cell? ⟨M, 0, none⟩ = some (.bool ia) := K0.out.2.2.1.b0.cell 0
      have k01 : v0.cell? ⟨M, 1, none⟩ = some (.slice a1 n1 c1) := K0.out.2.2.1.b0.cell 1
      have k10 : v0.cell? ⟨M + 1, 0, none⟩ = some (.bool ib) := K0.out.2.2.1.b1.cell 0
      have k11 : v0.cell? ⟨M + 1, 1, none⟩ = some (.slice a2 n2 c2) := K0.out.2.2.1.b1.cell 1
      have k20 : v0.cell? ⟨M + 1 + 1, 0, none⟩ = some (.bool ic) := K0.out.2.2.1.b2.cell 0
      have k21 : v0.cell? ⟨M + 1 + 1, 1, none⟩ = some (.slice a3 n3 c3) := K0.out.2.2.1.b2.cell 1
      have kl0 := K0.out.2.2.1.b0.lt
      have kl1 := K0.out.2.2.1.b1.lt
      have kl2 := K0.out.2.2.1.b2.lt
      have kj0 : v0.cell? ⟨Jb, 0, none⟩ = some (.bool ij) := K0.out.2.2.2.cell 0
      have kj1 : v0.cell? ⟨Jb, 1, none⟩ = some (.slice aj nj cj) := K0.out.2.2.2.cell 1
      have kjl := K0.out.2.2.2.lt
      go_wp2_with fail
      clear k00 k01 k10 k11 k20 k21 kl0 kl1 kl2 kj0 kj1 kjl s0
      refine (sub_any (HI2.out K0.out.1).2.1 (HI2.out K0.out.1).2.2.1 (HI2.out K0.out.1).1 HN.out.1 HN.out.2.1).mono ?_; rintro e v1 ⟨rfl, t1⟩
      have K1 : Hid (Still w2 v1 ∧ Still w v1 ∧ Box3 v1 M ia a1 n1 c1 ib a2 n2 c2 ic a3 n3 c3 ∧ Blk v1 Jb 24 #[.bool ij, .slice aj nj cj]) := ⟨K0.out.1.trans t1, W2.out.1.trans (K0.out.1.trans t1), W2.out.2.1.still (K0.out.1.trans t1), (K0.out.1.trans t1).blk W2.out.2.2⟩
      have s1 := hab
      clear t1
      have k00 : v1.cell? ⟨M, 0, none⟩ = some (.bool ia) := K1.out.2.2.1.b0.cell 0
      have k01 : v1.cell? ⟨M, 1, none⟩ = some (.slice a1 n1 c1) := K1.out.2.2.1.b0.cell 1
      have k10 : v1.cell? ⟨M + 1, 0, none⟩ = some (.bool ib) := K1.out.2.2.1.b1.cell 0
      have k11 : v1.cell? ⟨M + 1, 1, none⟩ = some (.slice a2 n2 c2) := K1.out.2.2.1.b1.cell 1
      have k20 : v1.cell? ⟨M + 1 + 1, 0, none⟩ = some (.bool ic) := K1.out.2.2.1.b2.cell 0
      have k21 : v1.cell? ⟨M + 1 + 1, 1, none⟩ = some (.slice a3 n3 c3) := K1.out.2.2.1.b2.cell 1
      have kl0 := K1.out.2.2.1.b0.lt
      have kl1 := K1.out.2.2.1.b1.lt
      have kl2 := K1.out.2.2.1.b2.lt
      have kj0 : v1.cell? ⟨Jb, 0, none⟩ = some (.bool ij) := K1.out.2.2.2.cell 0
      have kj1 : v1.cell? ⟨Jb, 1, none⟩ = some (.slice aj nj cj) := K1.out.2.2.2.cell 1
      have kjl := K1.out.2.2.2.lt
      go_wp2_with fail
      clear k00 k01 k10 k11 k20 k21 kl0 kl1 kl2 kj0 kj1 kjl s1
      refine (sub_any (HI2.out K1.out.1).2.2.1 (HI2.out K1.out.1).2.2.2.1 (HI2.out K1.out.1).1 HN.out.2.1 HN.out.2.2).mono ?_; rintro e v2 ⟨rfl, t2⟩
      have K2 : Hid (Still w2 v2 ∧ Still w v2 ∧ Box3 v2 M ia a1 n1 c1 ib a2 n2 c2 ic a3 n3 c3 ∧ Blk v2 Jb 24 #[.bool ij, .slice aj nj cj]) := ⟨K1.out.1.trans t2, W2.out.1.trans (K1.out.1.trans t2), W2.out.2.1.still (K1.out.1.trans t2), (K1.out.1.trans t2).blk W2.out.2.2⟩
      have s2 := hbc
      clear t2
      have k00 : v2.cell? ⟨M, 0, none⟩ = some (.bool ia) := K2.out.2.2.1.b0.cell 0
      have k01 : v2.cell? ⟨M, 1, none⟩ = some (.slice a1 n1 c1) := K2.out.2.2.1.b0.cell 1
      have k10 : v2.cell? ⟨M + 1, 0, none⟩ = some (.bool ib) := K2.out.2.2.1.b1.cell 0
      have k11 : v2.cell? ⟨M + 1, 1, none⟩ = some (.slice a2 n2 c2) := K2.out.2.2.1.b1.cell 1
      have k20 : v2.cell? ⟨M + 1 + 1, 0, none⟩ = some (.bool ic) := K2.out.2.2.1.b2.cell 0
      have k21 : v2.cell? ⟨M + 1 + 1, 1, none⟩ = some (.slice a3 n3 c3) := K2.out.2.2.1.b2.cell 1
      have kl0 := K2.out.2.2.1.b0.lt
      have kl1 := K2.out.2.2.1.b1.lt
      have kl2 := K2.out.2.2.1.b2.lt
      have kj0 : v2.cell? ⟨Jb, 0, none⟩ = some (.bool ij) := K2.out.2.2.2.cell 0
      have kj1 : v2.cell? ⟨Jb, 1, none⟩ = some (.slice aj nj cj) := K2.out.2.2.2.cell 1
      have kjl := K2.out.2.2.2.lt
      go_wp2_with fail
      clear k00 k01 k10 k11 k20 k21 kl0 kl1 kl2 kj0 kj1 kjl s2
      refine (sub_any (HI2.out K2.out.1).2.1 (HI2.out K2.out.1).2.2.2.2 (HI2.out K2.out.1).1 HN.out.1 HNJ.out).mono ?_; rintro e v3 ⟨rfl, t3⟩
      have K3 : Hid (Still w2 v3 ∧ Still w v3 ∧ Box3 v3 M ia a1 n1 c1 ib a2 n2 c2 ic a3 n3 c3 ∧ Blk v3 Jb 24 #[.bool ij, .slice aj nj cj]) := ⟨K2.out.1.trans t3, W2.out.1.trans (K2.out.1.trans t3), W2.out.2.1.still (K2.out.1.trans t3), (K2.out.1.trans t3).blk W2.out.2.2⟩
      have s3 := HF.out.2.1
      clear t3
      have k00 : v3.cell? ⟨M, 0, none⟩ = some (.bool ia) := K3.out.2.2.1.b0.cell 0
      have k01 : v3.cell? ⟨M, 1, none⟩ = some (.slice a1 n1 c1) := K3.out.2.2.1.b0.cell 1
      have k10 : v3.cell? ⟨M + 1, 0, none⟩ = some (.bool ib) := K3.out.2.2.1.b1.cell 0
      have k11 : v3.cell? ⟨M + 1, 1, none⟩ = some (.slice a2 n2 c2) := K3.out.2.2.1.b1.cell 1
      have k20 : v3.cell? ⟨M + 1 + 1, 0, none⟩ = some (.bool ic) := K3.out.2.2.1.b2.cell 0
      have k21 : v3.cell? ⟨M + 1 + 1, 1, none⟩ = some (.slice a3 n3 c3) := K3.out.2.2.1.b2.cell 1
      have kl0 := K3.out.2.2.1.b0.lt
      have kl1 := K3.out.2.2.1.b1.lt
      have kl2 := K3.out.2.2.1.b2.lt
      have kj0 : v3.cell? ⟨Jb, 0, none⟩ = some (.bool ij) := K3.out.2.2.2.cell 0
      have kj1 : v3.cell? ⟨Jb, 1, none⟩ = some (.slice aj nj cj) := K3.out.2.2.2.cell 1
      have kjl := K3.out.2.2.2.lt
      go_wp2_with fail
      clear k00 k01 k10 k11 k20 k21 kl0 kl1 kl2 kj0 kj1 kjl s3
      refine (sub_any (HI2.out K3.out.1).2.2.1 (HI2.out K3.out.1).2.2.2.2 (HI2.out K3.out.1).1 HN.out.2.1 HNJ.out).mono ?_; rintro e v4 ⟨rfl, t4⟩
      have K4 : Hid (Still w2 v4 ∧ Still w v4 ∧ Box3 v4 M ia a1 n1 c1 ib a2 n2 c2 ic a3 n3 c3 ∧ Blk v4 Jb 24 #[.bool ij, .slice aj nj cj]) := ⟨K3.out.1.trans t4, W2.out.1.trans (K3.out.1.trans t4), W2.out.2.1.still (K3.out.1.trans t4), (K3.out.1.trans t4).blk W2.out.2.2⟩
      have s4 := HF.out.2.2.1
      clear t4
      have k00 : v4.cell? ⟨M, 0, none⟩ = some (.bool ia) := K4.out.2.2.1.b0.cell 0
      have k01 : v4.cell? ⟨M, 1, none⟩ = some (.slice a1 n1 c1) := K4.out.2.2.1.b0.cell 1
      have k10 : v4.cell? ⟨M + 1, 0, none⟩ = some (.bool ib) := K4.out.2.2.1.b1.cell 0
      have k11 : v4.cell? ⟨M + 1, 1, none⟩ = some (.slice a2 n2 c2) := K4.out.2.2.1.b1.cell 1
      have k20 : v4.cell? ⟨M + 1 + 1, 0, none⟩ = some (.bool ic) := K4.out.2.2.1.b2.cell 0
      have k21 : v4.cell? ⟨M + 1 + 1, 1, none⟩ = some (.slice a3 n3 c3) := K4.out.2.2.1.b2.cell 1
      have kl0 := K4.out.2.2.1.b0.lt
      have kl1 := K4.out.2.2.1.b1.lt
      have kl2 := K4.out.2.2.1.b2.lt
      have kj0 : v4.cell? ⟨Jb, 0, none⟩ = some (.bool ij) := K4.out.2.2.2.cell 0
      have kj1 : v4.cell? ⟨Jb, 1, none⟩ = some (.slice aj nj cj) := K4.out.2.2.2.cell 1
      have kjl := K4.out.2.2.2.lt
      go_wp2_with fail
      clear k00 k01 k10 k11 k20 k21 kl0 kl1 kl2 kj0 kj1 kjl s4
      refine (sub_any (HI2.out K4.out.1).2.1 (HI2.out K4.out.1).2.2.2.1 (HI2.out K4.out.1).1 HN.out.1 HN.out.2.2).mono ?_; rintro e v5 ⟨rfl, t5⟩
      have K5 : Hid (Still w2 v5 ∧ Still w v5 ∧ Box3 v5 M ia a1 n1 c1 ib a2 n2 c2 ic a3 n3 c3 ∧ Blk v5 Jb 24 #[.bool ij, .slice aj nj cj]) := ⟨K4.out.1.trans t5, W2.out.1.trans (K4.out.1.trans t5), W2.out.2.1.still (K4.out.1.trans t5), (K4.out.1.trans t5).blk W2.out.2.2⟩
      have s5 := hac
      clear t5
      have k00 : v5.cell? ⟨M, 0, none⟩ = some (.bool ia) := K5.out.2.2.1.b0.cell 0
      have k01 : v5.cell? ⟨M, 1, none⟩ = some (.slice a1 n1 c1) := K5.out.2.2.1.b0.cell 1
      have k10 : v5.cell? ⟨M + 1, 0, none⟩ = some (.bool ib) := K5.out.2.2.1.b1.cell 0
      have k11 : v5.cell? ⟨M + 1, 1, none⟩ = some (.slice a2 n2 c2) := K5.out.2.2.1.b1.cell 1
      have k20 : v5.cell? ⟨M + 1 + 1, 0, none⟩ = some (.bool ic) := K5.out.2.2.1.b2.cell 0
      have k21 : v5.cell? ⟨M + 1 + 1, 1, none⟩ = some (.slice a3 n3 c3) := K5.out.2.2.1.b2.cell 1
      have kl0 := K5.out.2.2.1.b0.lt
      have kl1 := K5.out.2.2.1.b1.lt
      have kl2 := K5.out.2.2.1.b2.lt
      have kj0 : v5.cell? ⟨Jb, 0, none⟩ = some (.bool ij) := K5.out.2.2.2.cell 0
      have kj1 : v5.cell? ⟨Jb, 1, none⟩ = some (.slice aj nj cj) := K5.out.2.2.2.cell 1
      have kjl := K5.out.2.2.2.lt
      go_wp2_with fail
      clear k00 k01 k10 k11 k20 k21 kl0 kl1 kl2 kj0 kj1 kjl s5
      refine (sub_any (HI2.out K5.out.1).2.2.1 (HI2.out K5.out.1).2.2.2.1 (HI2.out K5.out.1).1 HN.out.2.1 HN.out.2.2).mono ?_; rintro e v6 ⟨rfl, t6⟩
      have K6 : Hid (Still w2 v6 ∧ Still w v6 ∧ Box3 v6 M ia a1 n1 c1 ib a2 n2 c2 ic a3 n3 c3 ∧ Blk v6 Jb 24 #[.bool ij, .slice aj nj cj]) := ⟨K5.out.1.trans t6, W2.out.1.trans (K5.out.1.trans t6), W2.out.2.1.still (K5.out.1.trans t6), (K5.out.1.trans t6).blk W2.out.2.2⟩
      have s6 := hbc
      clear t6
      have k00 : v6.cell? ⟨M, 0, none⟩ = some (.bool ia) := K6.out.2.2.1.b0.cell 0
      have k01 : v6.cell? ⟨M, 1, none⟩ = some (.slice a1 n1 c1) := K6.out.2.2.1.b0.cell 1
      have k10 : v6.cell? ⟨M + 1, 0, none⟩ = some (.bool ib) := K6.out.2.2.1.b1.cell 0
      have k11 : v6.cell? ⟨M + 1, 1, none⟩ = some (.slice a2 n2 c2) := K6.out.2.2.1.b1.cell 1
      have k20 : v6.cell? ⟨M + 1 + 1, 0, none⟩ = some (.bool ic) := K6.out.2.2.1.b2.cell 0
      have k21 : v6.cell? ⟨M + 1 + 1, 1, none⟩ = some (.slice a3 n3 c3) := K6.out.2.2.1.b2.cell 1
      have kl0 := K6.out.2.2.1.b0.lt
      have kl1 := K6.out.2.2.1.b1.lt
      have kl2 := K6.out.2.2.1.b2.lt
      have kj0 : v6.cell? ⟨Jb, 0, none⟩ = some (.bool ij) := K6.out.2.2.2.cell 0
      have kj1 : v6.cell? ⟨Jb, 1, none⟩ = some (.slice aj nj cj) := K6.out.2.2.2.cell 1
      have kjl := K6.out.2.2.2.lt
      go_wp2_with fail
      clear k00 k01 k10 k11 k20 k21 kl0 kl1 kl2 kj0 kj1 kjl s6
      refine (join_any (HI2.out K6.out.1).2.2.1 (HI2.out K6.out.1).2.1 (HI2.out K6.out.1).1 HN.out.2.1 HN.out.1).mono ?_; rintro e wk ⟨ak, nk, ck, rfl, hik, tk⟩
      rw [HF.out.2.2.2.2.2.1] at hik
      rw [HF.out.2.2.2.2.2.2]
      have WK : Hid (Still w2 (wk.alloc (.cells #[.bool ij, .slice ak nk ck] 24)) ∧ Still w (wk.alloc (.cells #[.bool ij, .slice ak nk ck] 24)) ∧ Box3 (wk.alloc (.cells #[.bool ij, .slice ak nk ck] 24)) M ia a1 n1 c1 ib a2 n2 c2 ic a3 n3 c3 ∧ Blk (wk.alloc (.cells #[.bool ij, .slice ak nk ck] 24)) Jb 24 #[.bool ij, .slice aj nj cj]) := ⟨(K6.out.1.trans tk).alloc _, (K6.out.2.1.trans tk).alloc _, (K6.out.2.2.1.still (tk.alloc _)), (tk.alloc _).blk K6.out.2.2.2⟩
      have BK := Blk.new wk 24 #[.bool ij, .slice ak nk ck]
      have z0 := BK.cell 0
      have z1 := BK.cell 1
      have zl := BK.lt
      have HAL := Lib.hid (alike_same (c := ck) (c' := cj) (hik.keep (Still.below ((Still.refl wk).alloc (.cells #[.bool ij, .slice ak nk ck] 24))) (Nat.le_refl _)) ((HI2.out WK.out.1).2.2.2.2.up (by have := (HI2.out (K6.out.1.trans tk)).1; exact this)) (by simp) (by have h1 := hik.len; have h2 := (HI2.out WK.out.1).2.2.2.2.len; have h3 := HNJ.out; omega))
      have hbb : (ij == ij) = true := by simp
      clear hik tk BK
      have k00 : (wk.alloc (.cells #[.bool ij, .slice ak nk ck] 24)).cell? ⟨M, 0, none⟩ = some (.bool ia) := WK.out.2.2.1.b0.cell 0
      have k01 : (wk.alloc (.cells #[.bool ij, .slice ak nk ck] 24)).cell? ⟨M, 1, none⟩ = some (.slice a1 n1 c1) := WK.out.2.2.1.b0.cell 1
      have k10 : (wk.alloc (.cells #[.bool ij, .slice ak nk ck] 24)).cell? ⟨M + 1, 0, none⟩ = some (.bool ib) := WK.out.2.2.1.b1.cell 0
      have k11 : (wk.alloc (.cells #[.bool ij, .slice ak nk ck] 24)).cell? ⟨M + 1, 1, none⟩ = some (.slice a2 n2 c2) := WK.out.2.2.1.b1.cell 1
      have k20 : (wk.alloc (.cells #[.bool ij, .slice ak nk ck] 24)).cell? ⟨M + 1 + 1, 0, none⟩ = some (.bool ic) := WK.out.2.2.1.b2.cell 0
      have k21 : (wk.alloc (.cells #[.bool ij, .slice ak nk ck] 24)).cell? ⟨M + 1 + 1, 1, none⟩ = some (.slice a3 n3 c3) := WK.out.2.2.1.b2.cell 1
      have kl0 := WK.out.2.2.1.b0.lt
      have kl1 := WK.out.2.2.1.b1.lt
      have kl2 := WK.out.2.2.1.b2.lt
      have kj0 : (wk.alloc (.cells #[.bool ij, .slice ak nk ck] 24)).cell? ⟨Jb, 0, none⟩ = some (.bool ij) := WK.out.2.2.2.cell 0
      have kj1 : (wk.alloc (.cells #[.bool ij, .slice ak nk ck] 24)).cell? ⟨Jb, 1, none⟩ = some (.slice aj nj cj) := WK.out.2.2.2.cell 1
      have kjl := WK.out.2.2.2.lt
      go_wp2_with fail
      refine HAL.out.mono ?_; rintro e wl ⟨rfl, tl⟩
      have TL : Hid (Still w wl) := WK.out.2.1.trans tl
      clear tl z0 z1 zl
      clear k00 k01 k10 k11 k20 k21 kl0 kl1 kl2 kj0 kj1 kjl
      go_wp2_with fail
      refine (lives_any wl).mono ?_; rintro e wm ⟨rfl, tm⟩
      have TM : Hid (Still w wm) := TL.out.trans tm
      clear tm
      go_wp2_with fail
      go_ret
      exact ⟨rfl, TM.out⟩
    · exact absurd ((HF.out.2.2.2.2.1 hab hbc).symm.trans hac) (by decide)
    · refine (sub_any (HI2.out KK.out.1).2.1 (HI2.out KK.out.1).2.1 (HI2.out KK.out.1).1 HN.out.1 HN.out.1).mono ?_; rintro e v0 ⟨rfl, t0⟩
      have K0 : Hid (Still w2 v0 ∧ Still w v0 ∧ Box3 v0 M ia a1 n1 c1 ib a2 n2 c2 ic a3 n3 c3 ∧ Blk v0 Jb 24 #[.bool ij, .slice aj nj cj]) := ⟨KK.out.1.trans t0, W2.out.1.trans (KK.out.1.trans t0), W2.out.2.1.still (KK.out.1.trans t0), (KK.out.1.trans t0).blk W2.out.2.2⟩
      have s0 := HF.out.1
      clear t0
      have k00 : v0.cell? ⟨M, 0, none⟩ = some (.bool ia) := K0.out.2.2.1.b0.cell 0
      have k01 : v0.cell? ⟨M, 1, none⟩ = some (.slice a1 n1 c1) := K0.out.2.2.1.b0.cell 1
      have k10 : v0.cell? ⟨M + 1, 0, none⟩ = some (.bool ib) := K0.out.2.2.1.b1.cell 0
      have k11 : v0.cell? ⟨M + 1, 1, none⟩ = some (.slice a2 n2 c2) := K0.out.2.2.1.b1.cell 1
      have k20 : v0.cell? ⟨M + 1 + 1, 0, none⟩ = some (.bool ic) := K0.out.2.2.1.b2.cell 0
      have k21 : v0.cell? ⟨M + 1 + 1, 1, none⟩ = some (.slice a3 n3 c3) := K0.out.2.2.1.b2.cell 1
      have kl0 := K0.out.2.2.1.b0.lt
      have kl1 := K0.out.2.2.1.b1.lt
      have kl2 := K0.out.2.2.1.b2.lt
      have kj0 : v0.cell? ⟨Jb, 0, none⟩ = some (.bool ij) := K0.out.2.2.2.cell 0
      have kj1 : v0.cell? ⟨Jb, 1, none⟩ = some (.slice aj nj cj) := K0.out.2.2.2.cell 1
      have kjl := K0.out.2.2.2.lt
      go_wp2_with fail
      clear k00 k01 k10 k11 k20 k21 kl0 kl1 kl2 kj0 kj1 kjl s0
      refine (sub_any (HI2.out K0.out.1).2.1 (HI2.out K0.out.1).2.2.1 (HI2.out K0.out.1).1 HN.out.1 HN.out.2.1).mono ?_; rintro e v1 ⟨rfl, t1⟩
      have K1 : Hid (Still w2 v1 ∧ Still w v1 ∧ Box3 v1 M ia a1 n1 c1 ib a2 n2 c2 ic a3 n3 c3 ∧ Blk v1 Jb 24 #[.bool ij, .slice aj nj cj]) := ⟨K0.out.1.trans t1, W2.out.1.trans (K0.out.1.trans t1), W2.out.2.1.still (K0.out.1.trans t1), (K0.out.1.trans t1).blk W2.out.2.2⟩
      have s1 := hab
      clear t1
      have k00 : v1.cell? ⟨M, 0, none⟩ = some (.bool ia) := K1.out.2.2.1.b0.cell 0
      have k01 : v1.cell? ⟨M, 1, none⟩ = some (.slice a1 n1 c1) := K1.out.2.2.1.b0.cell 1
      have k10 : v1.cell? ⟨M + 1, 0, none⟩ = some (.bool ib) := K1.out.2.2.1.b1.cell 0
      have k11 : v1.cell? ⟨M + 1, 1, none⟩ = some (.slice a2 n2 c2) := K1.out.2.2.1.b1.cell 1
      have k20 : v1.cell? ⟨M + 1 + 1, 0, none⟩ = some (.bool ic) := K1.out.2.2.1.b2.cell 0
      have k21 : v1.cell? ⟨M + 1 + 1, 1, none⟩ = some (.slice a3 n3 c3) := K1.out.2.2.1.b2.cell 1
      have kl0 := K1.out.2.2.1.b0.lt
      have kl1 := K1.out.2.2.1.b1.lt
      have kl2 := K1.out.2.2.1.b2.lt
      have kj0 : v1.cell? ⟨Jb, 0, none⟩ = some (.bool ij) := K1.out.2.2.2.cell 0
      have kj1 : v1.cell? ⟨Jb, 1, none⟩ = some (.slice aj nj cj) := K1.out.2.2.2.cell 1
      have kjl := K1.out.2.2.2.lt
      go_wp2_with fail
      clear k00 k01 k10 k11 k20 k21 kl0 kl1 kl2 kj0 kj1 kjl s1
      refine (sub_any (HI2.out K1.out.1).2.2.1 (HI2.out K1.out.1).2.2.2.1 (HI2.out K1.out.1).1 HN.out.2.1 HN.out.2.2).mono ?_; rintro e v2 ⟨rfl, t2⟩
      have K2 : Hid (Still w2 v2 ∧ Still w v2 ∧ Box3 v2 M ia a1 n1 c1 ib a2 n2 c2 ic a3 n3 c3 ∧ Blk v2 Jb 24 #[.bool ij, .slice aj nj cj]) := ⟨K1.out.1.trans t2, W2.out.1.trans (K1.out.1.trans t2), W2.out.2.1.still (K1.out.1.trans t2), (K1.out.1.trans t2).blk W2.out.2.2⟩
      have s2 := hbc
      clear t2
      have k00 : v2.cell? ⟨M, 0, none⟩ = some (.bool ia) := K2.out.2.2.1.b0.cell 0
      have k01 : v2.cell? ⟨M, 1, none⟩ = some (.slice a1 n1 c1) := K2.out.2.2.1.b0.cell 1
      have k10 : v2.cell? ⟨M + 1, 0, none⟩ = some (.bool ib) := K2.out.2.2.1.b1.cell 0
      have k11 : v2.cell? ⟨M + 1, 1, none⟩ = some (.slice a2 n2 c2) := K2.out.2.2.1.b1.cell 1
      have k20 : v2.cell? ⟨M + 1 + 1, 0, none⟩ = some (.bool ic) := K2.out.2.2.1.b2.cell 0
      have k21 : v2.cell? ⟨M + 1 + 1, 1, none⟩ = some (.slice a3 n3 c3) := K2.out.2.2.1.b2.cell 1
      have kl0 := K2.out.2.2.1.b0.lt
      have kl1 := K2.out.2.2.1.b1.lt
      have kl2 := K2.out.2.2.1.b2.lt
      have kj0 : v2.cell? ⟨Jb, 0, none⟩ = some (.bool ij) := K2.out.2.2.2.cell 0
      have kj1 : v2.cell? ⟨Jb, 1, none⟩ = some (.slice aj nj cj) := K2.out.2.2.2.cell 1
      have kjl := K2.out.2.2.2.lt
      go_wp2_with fail
      clear k00 k01 k10 k11 k20 k21 kl0 kl1 kl2 kj0 kj1 kjl s2
      refine (sub_any (HI2.out K2.out.1).2.1 (HI2.out K2.out.1).2.2.2.1 (HI2.out K2.out.1).1 HN.out.1 HN.out.2.2).mono ?_; rintro e v3 ⟨rfl, t3⟩
      have K3 : Hid (Still w2 v3 ∧ Still w v3 ∧ Box3 v3 M ia a1 n1 c1 ib a2 n2 c2 ic a3 n3 c3 ∧ Blk v3 Jb 24 #[.bool ij, .slice aj nj cj]) := ⟨K2.out.1.trans t3, W2.out.1.trans (K2.out.1.trans t3), W2.out.2.1.still (K2.out.1.trans t3), (K2.out.1.trans t3).blk W2.out.2.2⟩
      have s3 := hac
      clear t3
      have k00 : v3.cell? ⟨M, 0, none⟩ = some (.bool ia) := K3.out.2.2.1.b0.cell 0
      have k01 : v3.cell? ⟨M, 1, none⟩ = some (.slice a1 n1 c1) := K3.out.2.2.1.b0.cell 1
      have k10 : v3.cell? ⟨M + 1, 0, none⟩ = some (.bool ib) := K3.out.2.2.1.b1.cell 0
      have k11 : v3.cell? ⟨M + 1, 1, none⟩ = some (.slice a2 n2 c2) := K3.out.2.2.1.b1.cell 1
      have k20 : v3.cell? ⟨M + 1 + 1, 0, none⟩ = some (.bool ic) := K3.out.2.2.1.b2.cell 0
      have k21 : v3.cell? ⟨M + 1 + 1, 1, none⟩ = some (.slice a3 n3 c3) := K3.out.2.2.1.b2.cell 1
      have kl0 := K3.out.2.2.1.b0.lt
      have kl1 := K3.out.2.2.1.b1.lt
      have kl2 := K3.out.2.2.1.b2.lt
      have kj0 : v3.cell? ⟨Jb, 0, none⟩ = some (.bool ij) := K3.out.2.2.2.cell 0
      have kj1 : v3.cell? ⟨Jb, 1, none⟩ = some (.slice aj nj cj) := K3.out.2.2.2.cell 1
      have kjl := K3.out.2.2.2.lt
      go_wp2_with fail
      clear k00 k01 k10 k11 k20 k21 kl0 kl1 kl2 kj0 kj1 kjl s3
      refine (sub_any (HI2.out K3.out.1).2.1 (HI2.out K3.out.1).2.2.2.2 (HI2.out K3.out.1).1 HN.out.1 HNJ.out).mono ?_; rintro e v4 ⟨rfl, t4⟩
      have K4 : Hid (Still w2 v4 ∧ Still w v4 ∧ Box3 v4 M ia a1 n1 c1 ib a2 n2 c2 ic a3 n3 c3 ∧ Blk v4 Jb 24 #[.bool ij, .slice aj nj cj]) := ⟨K3.out.1.trans t4, W2.out.1.trans (K3.out.1.trans t4), W2.out.2.1.still (K3.out.1.trans t4), (K3.out.1.trans t4).blk W2.out.2.2⟩
      have s4 := HF.out.2.1
      clear t4
      have k00 : v4.cell? ⟨M, 0, none⟩ = some (.bool ia) := K4.out.2.2.1.b0.cell 0
      have k01 : v4.cell? ⟨M, 1, none⟩ = some (.slice a1 n1 c1) := K4.out.2.2.1.b0.cell 1
      have k10 : v4.cell? ⟨M + 1, 0, none⟩ = some (.bool ib) := K4.out.2.2.1.b1.cell 0
      have k11 : v4.cell? ⟨M + 1, 1, none⟩ = some (.slice a2 n2 c2) := K4.out.2.2.1.b1.cell 1
      have k20 : v4.cell? ⟨M + 1 + 1, 0, none⟩ = some (.bool ic) := K4.out.2.2.1.b2.cell 0
      have k21 : v4.cell? ⟨M + 1 + 1, 1, none⟩ = some (.slice a3 n3 c3) := K4.out.2.2.1.b2.cell 1
      have kl0 := K4.out.2.2.1.b0.lt
      have kl1 := K4.out.2.2.1.b1.lt
      have kl2 := K4.out.2.2.1.b2.lt
      have kj0 : v4.cell? ⟨Jb, 0, none⟩ = some (.bool ij) := K4.out.2.2.2.cell 0
      have kj1 : v4.cell? ⟨Jb, 1, none⟩ = some (.slice aj nj cj) := K4.out.2.2.2.cell 1
      have kjl := K4.out.2.2.2.lt
      go_wp2_with fail
      clear k00 k01 k10 k11 k20 k21 kl0 kl1 kl2 kj0 kj1 kjl s4
      refine (sub_any (HI2.out K4.out.1).2.2.1 (HI2.out K4.out.1).2.2.2.2 (HI2.out K4.out.1).1 HN.out.2.1 HNJ.out).mono ?_; rintro e v5 ⟨rfl, t5⟩
      have K5 : Hid (Still w2 v5 ∧ Still w v5 ∧ Box3 v5 M ia a1 n1 c1 ib a2 n2 c2 ic a3 n3 c3 ∧ Blk v5 Jb 24 #[.bool ij, .slice aj nj cj]) := ⟨K4.out.1.trans t5, W2.out.1.trans (K4.out.1.trans t5), W2.out.2.1.still (K4.out.1.trans t5), (K4.out.1.trans t5).blk W2.out.2.2⟩
      have s5 := HF.out.2.2.1
      clear t5
      have k00 : v5.cell? ⟨M, 0, none⟩ = some (.bool ia) := K5.out.2.2.1.b0.cell 0
      have k01 : v5.cell? ⟨M, 1, none⟩ = some (.slice a1 n1 c1) := K5.out.2.2.1.b0.cell 1
      have k10 : v5.cell? ⟨M + 1, 0, none⟩ = some (.bool ib) := K5.out.2.2.1.b1.cell 0
      have k11 : v5.cell? ⟨M + 1, 1, none⟩ = some (.slice a2 n2 c2) := K5.out.2.2.1.b1.cell 1
      have k20 : v5.cell? ⟨M + 1 + 1, 0, none⟩ = some (.bool ic) := K5.out.2.2.1.b2.cell 0
      have k21 : v5.cell? ⟨M + 1 + 1, 1, none⟩ = some (.slice a3 n3 c3) := K5.out.2.2.1.b2.cell 1
      have kl0 := K5.out.2.2.1.b0.lt
      have kl1 := K5.out.2.2.1.b1.lt
      have kl2 := K5.out.2.2.1.b2.lt
      have kj0 : v5.cell? ⟨Jb, 0, none⟩ = some (.bool ij) := K5.out.2.2.2.cell 0
      have kj1 : v5.cell? ⟨Jb, 1, none⟩ = some (.slice aj nj cj) := K5.out.2.2.2.cell 1
      have kjl := K5.out.2.2.2.lt
      go_wp2_with fail
      clear k00 k01 k10 k11 k20 k21 kl0 kl1 kl2 kj0 kj1 kjl s5
      refine (sub_any (HI2.out K5.out.1).2.1 (HI2.out K5.out.1).2.2.2.1 (HI2.out K5.out.1).1 HN.out.1 HN.out.2.2).mono ?_; rintro e v6 ⟨rfl, t6⟩
      have K6 : Hid (Still w2 v6 ∧ Still w v6 ∧ Box3 v6 M ia a1 n1 c1 ib a2 n2 c2 ic a3 n3 c3 ∧ Blk v6 Jb 24 #[.bool ij, .slice aj nj cj]) := ⟨K5.out.1.trans t6, W2.out.1.trans (K5.out.1.trans t6), W2.out.2.1.still (K5.out.1.trans t6), (K5.out.1.trans t6).blk W2.out.2.2⟩
      have s6 := hac
      clear t6
      have k00 : v6.cell? ⟨M, 0, none⟩ = some (.bool ia) := K6.out.2.2.1.b0.cell 0
      have k01 : v6.cell? ⟨M, 1, none⟩ = some (.slice a1 n1 c1) := K6.out.2.2.1.b0.cell 1
      have k10 : v6.cell? ⟨M + 1, 0, none⟩ = some (.bool ib) := K6.out.2.2.1.b1.cell 0
      have k11 : v6.cell? ⟨M + 1, 1, none⟩ = some (.slice a2 n2 c2) := K6.out.2.2.1.b1.cell 1
      have k20 : v6.cell? ⟨M + 1 + 1, 0, none⟩ = some (.bool ic) := K6.out.2.2.1.b2.cell 0
      have k21 : v6.cell? ⟨M + 1 + 1, 1, none⟩ = some (.slice a3 n3 c3) := K6.out.2.2.1.b2.cell 1
      have kl0 := K6.out.2.2.1.b0.lt
      have kl1 := K6.out.2.2.1.b1.lt
      have kl2 := K6.out.2.2.1.b2.lt
      have kj0 : v6.cell? ⟨Jb, 0, none⟩ = some (.bool ij) := K6.out.2.2.2.cell 0
      have kj1 : v6.cell? ⟨Jb, 1, none⟩ = some (.slice aj nj cj) := K6.out.2.2.2.cell 1
      have kjl := K6.out.2.2.2.lt
      go_wp2_with fail
      clear k00 k01 k10 k11 k20 k21 kl0 kl1 kl2 kj0 kj1 kjl s6
      refine (sub_any (HI2.out K6.out.1).2.2.1 (HI2.out K6.out.1).2.2.2.1 (HI2.out K6.out.1).1 HN.out.2.1 HN.out.2.2).mono ?_; rintro e v7 ⟨rfl, t7⟩
      have K7 : Hid (Still w2 v7 ∧ Still w v7 ∧ Box3 v7 M ia a1 n1 c1 ib a2 n2 c2 ic a3 n3 c3 ∧ Blk v7 Jb 24 #[.bool ij, .slice aj nj cj]) := ⟨K6.out.1.trans t7, W2.out.1.trans (K6.out.1.trans t7), W2.out.2.1.still (K6.out.1.trans t7), (K6.out.1.trans t7).blk W2.out.2.2⟩
      have s7 := hbc
      clear t7
      have k00 : v7.cell? ⟨M, 0, none⟩ = some (.bool ia) := K7.out.2.2.1.b0.cell 0
      have k01 : v7.cell? ⟨M, 1, none⟩ = some (.slice a1 n1 c1) := K7.out.2.2.1.b0.cell 1
      have k10 : v7.cell? ⟨M + 1, 0, none⟩ = some (.bool ib) := K7.out.2.2.1.b1.cell 0
      have k11 : v7.cell? ⟨M + 1, 1, none⟩ = some (.slice a2 n2 c2) := K7.out.2.2.1.b1.cell 1
      have k20 : v7.cell? ⟨M + 1 + 1, 0, none⟩ = some (.bool ic) := K7.out.2.2.1.b2.cell 0
      have k21 : v7.cell? ⟨M + 1 + 1, 1, none⟩ = some (.slice a3 n3 c3) := K7.out.2.2.1.b2.cell 1
      have kl0 := K7.out.2.2.1.b0.lt
      have kl1 := K7.out.2.2.1.b1.lt
      have kl2 := K7.out.2.2.1.b2.lt
      have kj0 : v7.cell? ⟨Jb, 0, none⟩ = some (.bool ij) := K7.out.2.2.2.cell 0
      have kj1 : v7.cell? ⟨Jb, 1, none⟩ = some (.slice aj nj cj) := K7.out.2.2.2.cell 1
      have kjl := K7.out.2.2.2.lt
      go_wp2_with fail
      clear k00 k01 k10 k11 k20 k21 kl0 kl1 kl2 kj0 kj1 kjl s7
      refine (sub_any (HI2.out K7.out.1).2.2.2.2 (HI2.out K7.out.1).2.2.2.1 (HI2.out K7.out.1).1 HNJ.out HN.out.2.2).mono ?_; rintro e v8 ⟨rfl, t8⟩
      have K8 : Hid (Still w2 v8 ∧ Still w v8 ∧ Box3 v8 M ia a1 n1 c1 ib a2 n2 c2 ic a3 n3 c3 ∧ Blk v8 Jb 24 #[.bool ij, .slice aj nj cj]) := ⟨K7.out.1.trans t8, W2.out.1.trans (K7.out.1.trans t8), W2.out.2.1.still (K7.out.1.trans t8), (K7.out.1.trans t8).blk W2.out.2.2⟩
      have s8 := HF.out.2.2.2.1 hac hbc
      clear t8
      have k00 : v8.cell? ⟨M, 0, none⟩ = some (.bool ia) := K8.out.2.2.1.b0.cell 0
      have k01 : v8.cell? ⟨M, 1, none⟩ = some (.slice a1 n1 c1) := K8.out.2.2.1.b0.cell 1
      have k10 : v8.cell? ⟨M + 1, 0, none⟩ = some (.bool ib) := K8.out.2.2.1.b1.cell 0
      have k11 : v8.cell? ⟨M + 1, 1, none⟩ = some (.slice a2 n2 c2) := K8.out.2.2.1.b1.cell 1
      have k20 : v8.cell? ⟨M + 1 + 1, 0, none⟩ = some (.bool ic) := K8.out.2.2.1.b2.cell 0
      have k21 : v8.cell? ⟨M + 1 + 1, 1, none⟩ = some (.slice a3 n3 c3) := K8.out.2.2.1.b2.cell 1
      have kl0 := K8.out.2.2.1.b0.lt
      have kl1 := K8.out.2.2.1.b1.lt
      have kl2 := K8.out.2.2.1.b2.lt
      have kj0 : v8.cell? ⟨Jb, 0, none⟩ = some (.bool ij) := K8.out.2.2.2.cell 0
      have kj1 : v8.cell? ⟨Jb, 1, none⟩ = some (.slice aj nj cj) := K8.out.2.2.2.cell 1
      have kjl := K8.out.2.2.2.lt
      go_wp2_with fail
      clear k00 k01 k10 k11 k20 k21 kl0 kl1 kl2 kj0 kj1 kjl s8
      refine (join_any (HI2.out K8.out.1).2.2.1 (HI2.out K8.out.1).2.1 (HI2.out K8.out.1).1 HN.out.2.1 HN.out.1).mono ?_; rintro e wk ⟨ak, nk, ck, rfl, hik, tk⟩
      rw [HF.out.2.2.2.2.2.1] at hik
      rw [HF.out.2.2.2.2.2.2]
      have WK : Hid (Still w2 (wk.alloc (.cells #[.bool ij, .slice ak nk ck] 24)) ∧ Still w (wk.alloc (.cells #[.bool ij, .slice ak nk ck] 24)) ∧ Box3 (wk.alloc (.cells #[.bool ij, .slice ak nk ck] 24)) M ia a1 n1 c1 ib a2 n2 c2 ic a3 n3 c3 ∧ Blk (wk.alloc (.cells #[.bool ij, .slice ak nk ck] 24)) Jb 24 #[.bool ij, .slice aj nj cj]) := ⟨(K8.out.1.trans tk).alloc _, (K8.out.2.1.trans tk).alloc _, (K8.out.2.2.1.still (tk.alloc _)), (tk.alloc _).blk K8.out.2.2.2⟩
      have BK := Blk.new wk 24 #[.bool ij, .slice ak nk ck]
      have z0 := BK.cell 0
      have z1 := BK.cell 1
      have zl := BK.lt
      have HAL := Lib.hid (alike_same (c := ck) (c' := cj) (hik.keep (Still.below ((Still.refl wk).alloc (.cells #[.bool ij, .slice ak nk ck] 24))) (Nat.le_refl _)) ((HI2.out WK.out.1).2.2.2.2.up (by have := (HI2.out (K8.out.1.trans tk)).1; exact this)) (by simp) (by have h1 := hik.len; have h2 := (HI2.out WK.out.1).2.2.2.2.len; have h3 := HNJ.out; omega))
      have hbb : (ij == ij) = true := by simp
      clear hik tk BK
      have k00 : (wk.alloc (.cells #[.bool ij, .slice ak nk ck] 24)).cell? ⟨M, 0, none⟩ = some (.bool ia) := WK.out.2.2.1.b0.cell 0
      have k01 : (wk.alloc (.cells #[.bool ij, .slice ak nk ck] 24)).cell? ⟨M, 1, none⟩ = some (.slice a1 n1 c1) := WK.out.2.2.1.b0.cell 1
      have k10 : (wk.alloc (.cells #[.bool ij, .slice ak nk ck] 24)).cell? ⟨M + 1, 0, none⟩ = some (.bool ib) := WK.out.2.2.1.b1.cell 0
      have k11 : (wk.alloc (.cells #[.bool ij, .slice ak nk ck] 24)).cell? ⟨M + 1, 1, none⟩ = some (.slice a2 n2 c2) := WK.out.2.2.1.b1.cell 1
      have k20 : (wk.alloc (.cells #[.bool ij, .slice ak nk ck] 24)).cell? ⟨M + 1 + 1, 0, none⟩ = some (.bool ic) := WK.out.2.2.1.b2.cell 0
      have k21 : (wk.alloc (.cells #[.bool ij, .slice ak nk ck] 24)).cell? ⟨M + 1 + 1, 1, none⟩ = some (.slice a3 n3 c3) := WK.out.2.2.1.b2.cell 1
      have kl0 := WK.out.2.2.1.b0.lt
      have kl1 := WK.out.2.2.1.b1.lt
      have kl2 := WK.out.2.2.1.b2.lt
      have kj0 : (wk.alloc (.cells #[.bool ij, .slice ak nk ck] 24)).cell? ⟨Jb, 0, none⟩ = some (.bool ij) := WK.out.2.2.2.cell 0
      have kj1 : (wk.alloc (.cells #[.bool ij, .slice ak nk ck] 24)).cell? ⟨Jb, 1, none⟩ = some (.slice aj nj cj) := WK.out.2.2.2.cell 1
      have kjl := WK.out.2.2.2.lt
      go_wp2_with fail
      refine HAL.out.mono ?_; rintro e wl ⟨rfl, tl⟩
      have TL : Hid (Still w wl) := WK.out.2.1.trans tl
      clear tl z0 z1 zl
      clear k00 k01 k10 k11 k20 k21 kl0 kl1 kl2 kj0 kj1 kjl
      go_wp2_with fail
      refine (lives_any wl).mono ?_; rintro e wm ⟨rfl, tm⟩
      have TM : Hid (Still w wm) := TL.out.trans tm
      clear tm
      go_wp2_with fail
      go_ret
      exact ⟨rfl, TM.out⟩
end Go.Proofs.YtilfmnlbnfhkpaaGreatDoor
