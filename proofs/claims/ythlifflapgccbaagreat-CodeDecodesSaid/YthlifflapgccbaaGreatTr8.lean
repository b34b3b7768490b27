/- The document's Decode. -/
import Derived.Test.YthlifflapgccbaaGreatL18
import Derived.Test.YthlifflapgccbaaGreatL16
import Derived.Test.YthlifflapgccbaaGreatL14
import Derived.Test.YthlifflapgccbaaGreatRefBytes
import Derived.Test.YthlifflapgccbaaGreatRefCheck
import Derived.Test.YthlifflapgccbaaGreatRefSame
import Derived.Test.YthlifflapgccbaaGreatL15
import Derived.Deep.RegionLaw
import Derived.Deep.CutBlock
namespace Go.Proofs.YthlifflapgccbaaGreat
set_option linter.unusedVariables false
set_option linter.unusedSimpArgs false
open Go.ChangeShapes Go.WideShapes Go.ChangeAt Go.RowKit
open M (W)
def TxT : InMem ByteArray := fun _ _ cs x => TxIs cs x
theorem TyT.keep : ∀ Q R w w' cs x, TyQ Q w cs x → Kept Q R w w' → TyQ R w' cs x := fun _ _ _ _ _ _ h k => h.keep k
theorem ShT.keep : ∀ Q R w w' cs x, ShQ Q w cs x → Kept Q R w w' → ShQ R w' cs x := fun _ _ _ _ _ _ h k => h.keep k
theorem TxT.keep : ∀ Q R w w' cs x, TxT Q w cs x → Kept Q R w w' → TxT R w' cs x := fun _ _ _ _ _ _ h k => h
theorem FnT.keep : ∀ Q R w w' cs x, FnQ Q w cs x → Kept Q R w w' → FnQ R w' cs x := fun _ _ _ _ _ _ h k => h.keep k
/-- A list of the image's while it is read, and when it is read. -/
structure InL {α : Type} (q : RP) (p : M.Pr α) (E : TypeId) (K : Nat) (P : InMem α) (w0 wl : World) (z : Nat) (ZV : Array Value) (k : Nat) (bad : Bool) (vs : List (List Value)) (a : Option Addr) (i c : Nat) (cells : Array Value) (wr : World) (k1 : Nat) (b1 : Bool) : Prop where
  tk : TkT q p E K P (fun b => b = w0.heap.size) w0 wl k bad vs a i c wr k1 b1
  box : Blk wr w0.heap.size 28 cells
  res : Blk wr z 28 ZV
structure GotL {α : Type} (q : RP) (p : M.Pr α) (K : Nat) (P : InMem α) (w0 wl : World) (z : Nat) (ZV : Array Value) (k : Nat) (bad : Bool) (a : Option Addr) (i c : Nat) (cells : Array Value) (wc : World) (k1 : Nat) (b1 : Bool) : Prop where
  small : i ≤ 100000000
  step : StepT q (M.qList p) (fun l => LiesQ (FreshD (fun b => b = w0.heap.size) wl wc) wc K (P (FreshD (fun b => b = w0.heap.size) wl wc) wc) a i l) w0 wc k bad k1 b1
  fr : Turn (fun j => j = q.g ∨ j = w0.heap.size) wl wc
  ge : w0.heap.size ≤ wl.heap.size
  box : Blk wc w0.heap.size 28 cells
  res : Blk wc z 28 ZV
theorem InL.got {α : Type} {q : RP} {p : M.Pr α} {E : TypeId} {K : Nat} {P : InMem α} (hP : ∀ Q R w w' cs x, P Q w cs x → Kept Q R w w' → P R w' cs x) {w0 wl : World} {z : Nat} {ZV : Array Value} {k kp n : Nat} {bad bp : Bool} {vs : List (List Value)} {a : Option Addr} {i c : Nat} {cells : Array Value} {wr wa wb : World} {k1 : Nat} {b1 : Bool} (h : InL q p E K P w0 wl z ZV k bad vs a i c cells wr k1 b1)
    (s : StepT q M.qLen (fun x => x = n) wa wb kp bp k bad) (hi : i ≤ n) (hd : b1 = true ∨ i = n) (hn : n ≤ 100000000) : GotL q p K P w0 wl z ZV kp bp a i c cells wr k1 b1 :=
  ⟨by omega, tlist_done s h.tk.step hi hd fun _ l hl => h.tk.lies hP hl.1 hl.2, h.tk.fr, h.tk.ge, h.box, h.res⟩
theorem kept_got {w0 wl we wF : World} {g : Nat} (ge : w0.heap.size ≤ wl.heap.size) (hg : g < w0.heap.size) (F : Turn (fun j => j = g ∨ j = w0.heap.size) we wF) : Kept (FreshD (fun b => b = w0.heap.size) wl we) (FreshD (fun b => b = w0.heap.size) w0 wF) we wF :=
  ⟨fun b hb => F.block b hb.2.1 (fun e => by have := hb.1; rcases e with e | e; omega; exact hb.2.2 e), fun b hb => ⟨Nat.le_trans ge hb.1, Nat.lt_of_lt_of_le hb.2.1 F.size, hb.2.2⟩⟩
theorem below4 {w w0 wF wD w9 : World} {g z : Nat} (SW : Still w w0) (TW : Turn (fun i => i = g) w0 wF) (SD : Below wF.heap.size wF wD) (ht : Turn (fun i => i = z) wD w9) (hg : w.heap.size ≤ g) (hz : w.heap.size ≤ z) : Below w.heap.size w w9 := by
  have h0 := SW.size
  have h1 := TW.size
  have h2 := SD.size
  exact SW.below.trans ((TW.below (by omega) (fun k e => by omega)).trans ((SD.mono (by omega)).trans (ht.below (by omega) (fun k e => by omega))))
theorem cond_cases {i n : Nat} {b : Bool} (hi : i ≤ n) (h : ¬ (i < n ∧ b = false)) : (b = true ∨ i = n) ∧ ((b = true ∧ decide ((i : Int) < n) = true ∧ decide (i < n) = true ∧ i < n) ∨ (decide ((i : Int) < n) = false ∧ decide (i < n) = false ∧ ¬ (i : Int) < n)) := by
  by_cases hj : i < n
  · cases b with
    | true => exact ⟨.inl rfl, .inl ⟨rfl, decide_eq_true (by omega), decide_eq_true hj, hj⟩⟩
    | false => exact absurd ⟨hj, rfl⟩ h
  · exact ⟨.inr (by omega), .inr ⟨decide_eq_false (by omega), decide_eq_false hj, by omega⟩⟩

set_option maxRecDepth 100000 in
set_option maxHeartbeats 16000000 in
theorem refDecode_in {w : World} {r zo c : Nat} {L : List Int} (h : Raw w r zo c L) (hb : M.Bytes L) (hl : L.length ≤ 100000) (h4 : 4 ≤ L.length) :
    Calls Tryz.prog 5 #[.slice (some ⟨r, zo, none⟩) L.length c] w fun e w' => Below w.heap.size w w' ∧ ((∃ (v : ImgV) (m : M.Img), e = .returned (.tuple #[.agg v.cells, .int .i64 0]) ∧ ImgQ (Fresh w w') w' v m ∧ M.Good L m) ∨ (e = .returned (.tuple #[.agg #[.slice none 0 0, .slice none 0 0, .slice none 0 0, .slice none 0 0, .slice none 0 0, .int .i64 0, .int .i64 0], .int .i64 20]) ∧ ∀ m, ¬ M.Good L m)) := by
  obtain ⟨z, hz⟩ : ∃ z, w.heap.size = z := ⟨_, rfl⟩
  obtain ⟨q, hqd⟩ : ∃ q : RP, q = ⟨w.heap.size + 1, r, zo, c, L⟩ := ⟨_, rfl⟩
  have s0 : Still w (w.alloc (.cells #[.slice none 0 0, .slice none 0 0, .slice none 0 0, .slice none 0 0, .slice none 0 0, .int .i64 0, .int .i64 0] 28)) := (Still.refl w).alloc _
  have s1 : Still w ((w.alloc (.cells #[.slice none 0 0, .slice none 0 0, .slice none 0 0, .slice none 0 0, .slice none 0 0, .int .i64 0, .int .i64 0] 28)).alloc (.cells #[.slice (some ⟨r, zo, none⟩) L.length c, .int .i64 4, .bool false] 43)) := s0.alloc _
  have hsz : ((w.alloc (.cells #[.slice none 0 0, .slice none 0 0, .slice none 0 0, .slice none 0 0, .slice none 0 0, .int .i64 0, .int .i64 0] 28)).alloc (.cells #[.slice (some ⟨r, zo, none⟩) L.length c, .int .i64 4, .bool false] 43)).heap.size = w.heap.size + 2 := by simp
  have T0 : Hid (Td q ((w.alloc (.cells #[.slice none 0 0, .slice none 0 0, .slice none 0 0, .slice none 0 0, .slice none 0 0, .int .i64 0, .int .i64 0] 28)).alloc (.cells #[.slice (some ⟨r, zo, none⟩) L.length c, .int .i64 4, .bool false] 43)) 4 false) := by
    subst hqd
    refine ⟨?_, by have := h.lt; show r ≠ w.heap.size + 1; omega, by show r < _; have := h.lt; omega, fun j hj => (h.still s1).cells j hj, h4⟩
    have := Blk.new (w.alloc (.cells #[.slice none 0 0, .slice none 0 0, .slice none 0 0, .slice none 0 0, .slice none 0 0, .int .i64 0, .int .i64 0] 28)) 43 #[.slice (some ⟨r, zo, none⟩) L.length c, .int .i64 4, .bool false]
    rwa [show (w.alloc (.cells #[.slice none 0 0, .slice none 0 0, .slice none 0 0, .slice none 0 0, .slice none 0 0, .int .i64 0, .int .i64 0] 28)).heap.size = w.heap.size + 1 by simp] at this
  have HQ : Hid q.ok := by
    subst hqd
    exact ⟨hb, by show L.length ≤ _; omega, h.le⟩
  have HSM : Hid (q.L.length ≤ 100000000) := HQ.out.small
  have BZ : Hid (Blk ((w.alloc (.cells #[.slice none 0 0, .slice none 0 0, .slice none 0 0, .slice none 0 0, .slice none 0 0, .int .i64 0, .int .i64 0] 28)).alloc (.cells #[.slice (some ⟨r, zo, none⟩) L.length c, .int .i64 4, .bool false] 43)) z 28 #[.slice none 0 0, .slice none 0 0, .slice none 0 0, .slice none 0 0, .slice none 0 0, .int .i64 0, .int .i64 0]) := by subst hz; exact (Blk.new w _ _).alloc _
  have RW : Hid (Raw ((w.alloc (.cells #[.slice none 0 0, .slice none 0 0, .slice none 0 0, .slice none 0 0, .slice none 0 0, .int .i64 0, .int .i64 0] 28)).alloc (.cells #[.slice (some ⟨r, zo, none⟩) L.length c, .int .i64 4, .bool false] 43)) r zo c L ∧ q.L = L ∧ L.length ≤ 100000 ∧ M.Bytes L ∧ 4 ≤ L.length ∧ q = ⟨w.heap.size + 1, r, zo, c, L⟩) := ⟨h.still s1, by rw [hqd], hl, hb, h4, hqd⟩
  have SW := Lib.hid s1
  have HGP : Hid (q.g = w.heap.size + 1 ∧ q.b = r ∧ r < w.heap.size) := ⟨by rw [hqd], by rw [hqd], h.lt⟩
  have hlen : ¬ (L.length : Int) < 4 := by omega
  have hlen2 : decide ((L.length : Int) < 4) = false := decide_eq_false hlen
  clear s0 s1 h hb
  go_enter Tryz.func5, Tryz.ntmps5
  go_wp2_with (fail)
  have HZW := Lib.hid (show z = w.heap.size from hz.symm)
  rw [hz] at hsz HGP RW
  clear hz
  generalize ((w.alloc (.cells #[.slice none 0 0, .slice none 0 0, .slice none 0 0, .slice none 0 0, .slice none 0 0, .int .i64 0, .int .i64 0] 28)).alloc (.cells #[.slice (some ⟨r, zo, none⟩) L.length c, .int .i64 4, .bool false] 43)) = w0 at *
  have e1 : z + 1 = q.g := by have := HGP.out.1; omega
  have e2 : z + 2 = w0.heap.size := hsz.symm
  rw [e1, e2]
  have G0 : Hid (q.g < w0.heap.size ∧ q.b < w0.heap.size ∧ z < w0.heap.size ∧ z ≠ q.g) := by have h1 := HGP.out; exact ⟨by omega, by omega, by omega, by omega⟩
  have P0 : Hid (Td q (w0.alloc (.cells #[.slice none 0 0, .slice none 0 0, .slice none 0 0, .slice none 0 0, .slice none 0 0, .int .i64 0, .int .i64 0] 28)) 4 false ∧ Turn (fun i => i = q.g) w0 (w0.alloc (.cells #[.slice none 0 0, .slice none 0 0, .slice none 0 0, .slice none 0 0, .slice none 0 0, .int .i64 0, .int .i64 0] 28)) ∧ Blk (w0.alloc (.cells #[.slice none 0 0, .slice none 0 0, .slice none 0 0, .slice none 0 0, .slice none 0 0, .int .i64 0, .int .i64 0] 28)) w0.heap.size 28 #[.slice none 0 0, .slice none 0 0, .slice none 0 0, .slice none 0 0, .slice none 0 0, .int .i64 0, .int .i64 0] ∧ Blk (w0.alloc (.cells #[.slice none 0 0, .slice none 0 0, .slice none 0 0, .slice none 0 0, .slice none 0 0, .int .i64 0, .int .i64 0] 28)) z 28 #[.slice none 0 0, .slice none 0 0, .slice none 0 0, .slice none 0 0, .slice none 0 0, .int .i64 0, .int .i64 0]) := ⟨T0.out.still ((Still.refl w0).alloc _), (Turn.refl _ w0).alloc _, Blk.new w0 _ _, BZ.out.alloc _⟩
  clear e1 e2 hsz hqd hlen hlen2 hl h4
  generalize w0.alloc (.cells #[.slice none 0 0, .slice none 0 0, .slice none 0 0, .slice none 0 0, .slice none 0 0, .int .i64 0, .int .i64 0] 28) = w1 at P0 ⊢
  refine (tcount_any HQ.out P0.out.1).mono ?_; rintro e wl0 ⟨n0, kc0, bc0, rfl, hn, hs⟩
  have S0 := Lib.hid (And.intro hn hs)
  have NB0 : Hid (n0 ≤ 100000000) := by show _ ≤ _; have := HSM.out; omega
  have GE0 : Hid (w0.heap.size < wl0.heap.size) := by show _ < _; have := hs.turn.size; have := P0.out.2.2.1.lt; omega
  have A0 : Hid (InL q M.qTy 49 2 TyQ w0 wl0 z #[.slice none 0 0, .slice none 0 0, .slice none 0 0, .slice none 0 0, .slice none 0 0, .int .i64 0, .int .i64 0] kc0 bc0 [] none 0 0 #[.slice none 0 0, .slice none 0 0, .slice none 0 0, .slice none 0 0, .slice none 0 0, .int .i64 0, .int .i64 0] wl0 kc0 bc0) := ⟨TkT.none hs.rd (P0.out.2.1.trans hs.turn) (Nat.le_of_lt GE0.out) (Turn.refl _ _), P0.out.2.2.1.keep hs.turn (by have := G0.out; omega), P0.out.2.2.2.keep hs.turn (by have := G0.out; omega)⟩
  clear hn hs
  go_upto_block 0 with fail
  go_cut [7] from 13 (fun _ wc => ∃ (a : Option Addr) (i c k : Nat) (b : Bool), GotL q M.qTy 2 TyQ w0 wl0 z #[.slice none 0 0, .slice none 0 0, .slice none 0 0, .slice none 0 0, .slice none 0 0, .int .i64 0, .int .i64 0] 4 false a i c #[.slice a i c, .slice none 0 0, .slice none 0 0, .slice none 0 0, .slice none 0 0, .int .i64 0, .int .i64 0] wc k b)
  case first =>
    go_wp2_with fail
    go_loopw [7] (fun z7 wr => ∃ (i : Nat) (vs : List (List Value)) (a : Option Addr) (c k5 : Nat) (b5 : Bool), z7 = .int .i64 i ∧ i ≤ n0 ∧ InL q M.qTy 49 2 TyQ w0 wl0 z #[.slice none 0 0, .slice none 0 0, .slice none 0 0, .slice none 0 0, .slice none 0 0, .int .i64 0, .int .i64 0] kc0 bc0 vs a i c #[.slice a i c, .slice none 0 0, .slice none 0 0, .slice none 0 0, .slice none 0 0, .int .i64 0, .int .i64 0] wr k5 b5) (fun z7 _ => n0 - (intOf z7).toNat)
    case atStart => exact ⟨0, [], none, 0, kc0, bc0, rfl, Nat.zero_le _, A0.out⟩
    case round =>
      obtain ⟨i, vs, a, c, k5, b5, rfl, hi, hI⟩ := hrel
      have HI := Lib.hid (And.intro hi hI)
      obtain ⟨hl5, hc5⟩ := hI.tk.step.rd.lens
      by_cases hgo : i < n0 ∧ b5 = false
      · obtain ⟨hlt, rfl⟩ := hgo
        have x1 : decide ((i : Int) < n0) = true := decide_eq_true (by omega)
        have HLT := Lib.hid hlt
        have HLW : Hid (w0.heap.size < wr.heap.size) := hI.box.lt
        have hnb0 := NB0.out
        have d1 : wr.drew.cell? ⟨w0.heap.size, 0, none⟩ = some (.slice a i c) := hI.box.cell 0
        have dl : w0.heap.size < wr.drew.heap.size := hI.box.lt
        have SD : Hid (Still wr wr.drew) := (Still.refl wr).drew
        have HC := Lib.hid (tnum_any HQ.out (hI.tk.step.rd.still SD.out))
        clear hI hi
        go_wp2_with fail
        go_region_law (first
          | (go_simp; go_at_call 13; (with_reducible refine HC.out.mono ?_); rintro e w8 ⟨y, k8, b8, rfl, hy, hu⟩; have HU8 := Lib.hid (And.intro hy hu); have hb8 := HI.out.2.box.keep (SD.out.turn.trans hu.turn) (by have := G0.out; omega); have d8 := hb8.cell 0; have l8 := hb8.lt; have HC2 := Lib.hid (tnums_any HQ.out hu.rd); obtain ⟨bb, hbb⟩ : ∃ bb, (y == 1) = bb := ⟨_, rfl⟩; have HBB := Lib.hid hbb; clear hu hy hb8)
          | (go_simp; go_at_call 14; (with_reducible refine HC2.out.mono ?_); rintro e w9 ⟨ya, yn, yc, kz, bz, rfl, hyn, hu⟩; have HT := Lib.hid ((SD.out.turn.trans HU8.out.2.turn).trans hu.turn); have hbx := HI.out.2.box.keep HT.out (by have := G0.out; omega); have HBX := Lib.hid hbx; have HRX := Lib.hid (HI.out.2.res.keep HT.out (by have := G0.out; omega)); have d9 := hbx.cell 0; have l9 := hbx.lt; have HGW : Hid (wl0.heap.size ≤ w9.heap.size) := Nat.le_trans HI.out.2.tk.fr.size HT.out.size; have HO := Lib.hid (own_keep HI.out.2.tk.own HT.out (fun b e1 e2 => by have := (HI.out.2.tk.own.lt b e1).1; have := G0.out; have := GE0.out; omega)); clear hbx; have HU := Lib.hid (And.intro hyn hu); clear hu hyn)
          | (refine step_append_form rfl (.tmp 36) (.tmp 43) 23 rfl wl0.heap.size 49 2 32 _ Tryz.underlying23 infoTTy rfl (by decide) a i c vs.flatten (by simp [Act.eval]) (HO.out.alloc _) ⟨w9.heap.size, 0, none⟩ 1 1 [.bool bb, .slice ya yn yc] (by simp [Act.eval]) rfl (fun jj u hj => by rw [Addr.add_lit, Nat.zero_add, (Blk.new w9 49 #[.bool bb, .slice ya yn yc]).cell jj]; simpa using hj) (by simp [Value.oneCell']) (by decide) (by have := HLT.out; have := NB0.out; unfold maxLen; omega) (by have := HLT.out; have := NB0.out; omega) (by simp; have := HGW.out; omega) ?_
             intro g4 c4 w4 hr4 ht4 hn4
             have hb4 := (((Still.refl w9).alloc (.cells #[.bool bb, .slice ya yn yc] 49)).blk HBX.out).keep ht4.out (fun e => HI.out.2.tk.row _ e rfl)
             have HB4 := Lib.hid hb4
             have HR4 := Lib.hid ((((Still.refl w9).alloc (.cells #[.bool bb, .slice ya yn yc] 49)).blk HRX.out).keep ht4.out (fun e => by have := (HO.out.lt _ e).1; have := G0.out; have := GE0.out; omega))
             have q3 := hb4.cell 0
             have q3f := hb4.frozen 0
             have l4 := hb4.lt
             clear hb4))
        all_goals
          go_wp2_with fail
          go_roundw
          case rel =>
            have US : Hid (StepT q M.qTy (fun x => TyQ (Fresh w8 w9) w9 [.bool bb, .slice ya yn yc] x) wr.drew w9 k5 false kz bz) := by
              show StepT q (M.qThen M.qNum (M.qList M.qNum) fun n l => (⟨decide (n = 1), l⟩ : M.Ty)) _ _ _ _ _ _ _
              refine HU8.out.2.pair (Z := fun x => TyQ (Fresh w8 w9) w9 [.bool bb, .slice ya yn yc] x) HU.out.2 HU.out.2.rd (HU8.out.2.turn.trans HU.out.2.turn) fun x l hx hl => ⟨ya, yn, yc, ?_, by have := HU.out.1; have := HSM.out; unfold maxLen; omega, hl⟩
              rw [← HBB.out, hx]
              rfl
            have TS8 : Hid (Turn (fun i => i = q.g) wr w8) := SD.out.turn.trans HU8.out.2.turn
            have hlt := HLT.out
            have hnb := NB0.out
            have hlw := HLW.out
            have hg0 := G0.out
            have TF := (Turn.refl (fun b => b = w0.heap.size) w4).setCell (p := ⟨w0.heap.size, 0, none⟩) (fun _ => rfl) (.slice (some ⟨g4, 0, none⟩) (i + 1) c4)
            refine ⟨i + 1, vs ++ [[.bool bb, .slice ya yn yc]], some ⟨g4, 0, none⟩, c4, kz, bz, by go_num, by omega, ⟨TkT.next (P := TyQ) TyT.keep HI.out.2.tk (by omega) (by omega) (fun b e => by subst e; exact ⟨Nat.le_refl _, hlw⟩) US.out HT.out (fun b hb => ⟨Nat.le_trans TS8.out.size hb.1, hb.2⟩) rfl ((Turn.refl _ w9).alloc _) (HO.out.alloc _) ht4.out hr4.out ?_ TF, by have := HB4.out.set 0 (.slice (some ⟨g4, 0, none⟩) (i + 1) c4); simpa using this, HR4.out.keep TF (by omega)⟩⟩
            rcases hn4.out with e | e
            · exact .inl (by rw [e]; rfl)
            · exact .inr fun j hj => by
                have : g4 = j := by simpa [Value.ownBlock] using hj
                rw [← this]; exact e
          case measure =>
            have hlt := HLT.out
            have hnb := NB0.out
            simp only [intOf]
            omega
      · obtain ⟨hd, hx2⟩ := cond_cases hi hgo
        clear hl5
        have FIN := Lib.hid (InL.got TyT.keep hI S0.out.2 hi hd NB0.out)
        clear hI hi hd hgo
        rcases hx2 with ⟨rfl, x2, x3, x4⟩ | ⟨x2, x3, x4⟩
        all_goals
          go_wp2_with fail
          go_meet
          case rel => exact ⟨a, i, c, k5, _, FIN.out⟩
  obtain ⟨a0, i0, c0, kp1, bp1, hG⟩ := hcut
  obtain ⟨we0, hwe⟩ : ∃ x, x = wc := ⟨_, rfl⟩
  subst hwe
  have E0 := Lib.hid hG
  have P1 : Hid (Td q we0 kp1 bp1 ∧ Turn (fun i => i = q.g) w0 we0 ∧ Blk we0 w0.heap.size 28 #[.slice a0 i0 c0, .slice none 0 0, .slice none 0 0, .slice none 0 0, .slice none 0 0, .int .i64 0, .int .i64 0] ∧ Blk we0 z 28 #[.slice none 0 0, .slice none 0 0, .slice none 0 0, .slice none 0 0, .slice none 0 0, .int .i64 0, .int .i64 0]) := ⟨hG.step.rd, hG.step.turn, hG.box, hG.res⟩
  clear hG
  go_wp2_with fail
  refine (tcount_any HQ.out P1.out.1).mono ?_; rintro e wl1 ⟨n1, kc1, bc1, rfl, hn, hs⟩
  have S1 := Lib.hid (And.intro hn hs)
  have NB1 : Hid (n1 ≤ 100000000) := by show _ ≤ _; have := HSM.out; omega
  have GE1 : Hid (w0.heap.size < wl1.heap.size) := by show _ < _; have := hs.turn.size; have := P1.out.2.2.1.lt; omega
  have A1 : Hid (InL q M.qSh 51 3 ShQ w0 wl1 z #[.slice none 0 0, .slice none 0 0, .slice none 0 0, .slice none 0 0, .slice none 0 0, .int .i64 0, .int .i64 0] kc1 bc1 [] none 0 0 #[.slice a0 i0 c0, .slice none 0 0, .slice none 0 0, .slice none 0 0, .slice none 0 0, .int .i64 0, .int .i64 0] wl1 kc1 bc1) := ⟨TkT.none hs.rd (P1.out.2.1.trans hs.turn) (Nat.le_of_lt GE1.out) (Turn.refl _ _), P1.out.2.2.1.keep hs.turn (by have := G0.out; omega), P1.out.2.2.2.keep hs.turn (by have := G0.out; omega)⟩
  clear hn hs
  go_upto_block 2 with fail
  go_cut [8, 9] from 13 (fun _ _ wc => ∃ (a : Option Addr) (i c k : Nat) (b : Bool), GotL q M.qSh 3 ShQ w0 wl1 z #[.slice none 0 0, .slice none 0 0, .slice none 0 0, .slice none 0 0, .slice none 0 0, .int .i64 0, .int .i64 0] kp1 bp1 a i c #[.slice a0 i0 c0, .slice a i c, .slice none 0 0, .slice none 0 0, .slice none 0 0, .int .i64 0, .int .i64 0] wc k b)
  case first =>
    go_wp2_with fail
    go_loopw [8, 9] (fun z8 z9 wr => ∃ (i : Nat) (vs : List (List Value)) (a : Option Addr) (c k5 : Nat) (b5 : Bool), z8 = .int .i64 i ∧ i ≤ n1 ∧ InL q M.qSh 51 3 ShQ w0 wl1 z #[.slice none 0 0, .slice none 0 0, .slice none 0 0, .slice none 0 0, .slice none 0 0, .int .i64 0, .int .i64 0] kc1 bc1 vs a i c #[.slice a0 i0 c0, .slice a i c, .slice none 0 0, .slice none 0 0, .slice none 0 0, .int .i64 0, .int .i64 0] wr k5 b5) (fun z8 z9 _ => n1 - (intOf z8).toNat)
    case atStart => exact ⟨0, [], none, 0, kc1, bc1, rfl, Nat.zero_le _, A1.out⟩
    case round =>
      obtain ⟨i, vs, a, c, k5, b5, rfl, hi, hI⟩ := hrel
      have HI := Lib.hid (And.intro hi hI)
      obtain ⟨hl5, hc5⟩ := hI.tk.step.rd.lens
      by_cases hgo : i < n1 ∧ b5 = false
      · obtain ⟨hlt, rfl⟩ := hgo
        have x1 : decide ((i : Int) < n1) = true := decide_eq_true (by omega)
        have HLT := Lib.hid hlt
        have HLW : Hid (w0.heap.size < wr.heap.size) := hI.box.lt
        have hnb1 := NB1.out
        have HC := Lib.hid (tnum_any HQ.out hI.tk.step.rd)
        have hwr := hI.tk.step.turn.size
        clear hI hi
        go_wp2_with fail
        refine HC.out.mono ?_; rintro e w8 ⟨y, k8, b8, rfl, hy, u8⟩
        have HU8 := Lib.hid (And.intro hy u8)
        have h8 := u8.turn.size
        clear hy u8 HC hl5 hc5
        go_wp2_with fail
        have A8 : Hid (Td q (w8.alloc (.cells #[.int .i64 y, .slice none 0 0, .string ⟨#[]⟩] 51)) k8 b8 ∧ Still w8 (w8.alloc (.cells #[.int .i64 y, .slice none 0 0, .string ⟨#[]⟩] 51)) ∧ Blk (w8.alloc (.cells #[.int .i64 y, .slice none 0 0, .string ⟨#[]⟩] 51)) w8.heap.size 51 #[.int .i64 y, .slice none 0 0, .string ⟨#[]⟩]) := ⟨HU8.out.2.rd.still ((Still.refl w8).alloc _), (Still.refl w8).alloc _, Blk.new w8 _ _⟩
        generalize w8.alloc (.cells #[.int .i64 y, .slice none 0 0, .string ⟨#[]⟩] 51) = w9 at A8 ⊢
        refine (tnums_any HQ.out A8.out.1).mono ?_; rintro e w10 ⟨ya, yn, yc, k10, b10, rfl, hyn, u10⟩
        have HU10 := Lib.hid (And.intro hyn u10)
        have hb10 := A8.out.2.2.keep u10.turn (by have := G0.out; have := HLW.out; omega)
        have f10 := hb10.frozen 1
        have c10 := hb10.cell 1
        have l10 := hb10.lt
        have TS10 : Turn (fun b => b = w8.heap.size) w10 (w10.setCell ⟨w8.heap.size, 1, none⟩ (.slice ya yn yc)) := (Turn.refl (fun b => b = w8.heap.size) w10).setCell (p := ⟨w8.heap.size, 1, none⟩) (fun _ => rfl) _
        have A10 : Hid (Td q (w10.setCell ⟨w8.heap.size, 1, none⟩ (.slice ya yn yc)) k10 b10 ∧ Turn (fun b => b = w8.heap.size) w10 (w10.setCell ⟨w8.heap.size, 1, none⟩ (.slice ya yn yc)) ∧ Blk (w10.setCell ⟨w8.heap.size, 1, none⟩ (.slice ya yn yc)) w8.heap.size 51 #[.int .i64 y, .slice ya yn yc, .string ⟨#[]⟩]) := ⟨u10.rd.turn TS10 (by have := G0.out; have := HLW.out; omega) (by have := G0.out; have := HLW.out; omega), TS10, by have := hb10.set 1 (.slice ya yn yc); simpa using this⟩
        clear hyn u10 hb10 TS10
        go_wp2_with fail
        clear f10 c10 l10
        generalize w10.setCell ⟨w8.heap.size, 1, none⟩ (.slice ya yn yc) = w11 at A10 ⊢
        refine (ttext_any HQ.out A10.out.1).mono ?_; rintro e w12 ⟨s, kz, bz, rfl, hss, u12⟩
        have HU12 := Lib.hid (And.intro hss u12)
        have hb12 := A10.out.2.2.keep u12.turn (by have := G0.out; have := HLW.out; omega)
        have f12 := hb12.frozen 2
        have c12 := hb12.cell 2
        have l12 := hb12.lt
        have TS12 : Turn (fun b => b = w8.heap.size) w12 (w12.setCell ⟨w8.heap.size, 2, none⟩ (.string s)) := (Turn.refl (fun b => b = w8.heap.size) w12).setCell (p := ⟨w8.heap.size, 2, none⟩) (fun _ => rfl) _
        have hb13 : Blk (w12.setCell ⟨w8.heap.size, 2, none⟩ (.string s)) w8.heap.size 51 #[.int .i64 y, .slice ya yn yc, .string s] := by have := hb12.set 2 (.string s); simpa using this
        have A12 : Hid (Td q (w12.setCell ⟨w8.heap.size, 2, none⟩ (.string s)) kz bz ∧ Turn (fun b => b = w8.heap.size) w12 (w12.setCell ⟨w8.heap.size, 2, none⟩ (.string s)) ∧ Blk (w12.setCell ⟨w8.heap.size, 2, none⟩ (.string s)) w8.heap.size 51 #[.int .i64 y, .slice ya yn yc, .string s]) := ⟨u12.rd.turn TS12 (by have := G0.out; have := HLW.out; omega) (by have := G0.out; have := HLW.out; omega), TS12, hb13⟩
        clear hss u12 hb12 TS12 hb13
        go_upto_region 17 with fail
        clear f12 c12 l12
        generalize w12.setCell ⟨w8.heap.size, 2, none⟩ (.string s) = w13 at A12 ⊢
        have TX : Hid (Turn (fun b => b = q.g ∨ b = w8.heap.size) w8 w13) := (((((Turn.mono A8.out.2.1 fun _ _ e => e.elim).trans (HU10.out.2.turn.mono fun _ _ e => .inl e)).trans (A10.out.2.1.mono fun _ _ e => .inr e)).trans (HU12.out.2.turn.mono fun _ _ e => .inl e)).trans (A12.out.2.1.mono fun _ _ e => .inr e))
        have TX0 : Turn (fun i => i = q.g) wr w13 := ((HU8.out.2.turn.mono (T := fun b => b = q.g ∨ b = w8.heap.size) fun _ _ e => .inl e).trans TX.out).mono fun j hj e => e.elim id fun e => by omega
        have HT := Lib.hid (TX0)
        have hbx := HI.out.2.box.keep HT.out (by have := G0.out; omega)
        have HBX := Lib.hid hbx
        have HRX := Lib.hid (HI.out.2.res.keep HT.out (by have := G0.out; omega))
        have d9 := hbx.cell 1
        have l9 := hbx.lt
        have HGW : Hid (wl1.heap.size ≤ w13.heap.size) := Nat.le_trans HI.out.2.tk.fr.size HT.out.size
        have HO := Lib.hid (own_keep HI.out.2.tk.own HT.out (fun b e1 e2 => by have := (HI.out.2.tk.own.lt b e1).1; have := G0.out; have := GE1.out; omega))
        clear hbx
        clear TX0
        have e0 := A12.out.2.2.cell 0
        have e1 := A12.out.2.2.cell 1
        have e2 := A12.out.2.2.cell 2
        have eL := A12.out.2.2.lt
        have US : Hid (StepT q M.qSh (fun x => ShQ (FreshD (fun b => b = w8.heap.size) w8 w13) w13 [.int .i64 y, .slice ya yn yc, .string s] x) wr w13 k5 false kz bz) := by
          have hs1 := A8.out.2.1.size
          have hs2 := HU10.out.2.turn.size
          have hs3 := A10.out.2.1.size
          have hs4 := HU12.out.2.turn.size
          have hs5 := A12.out.2.1.size
          have hL8 := A8.out.2.2.lt
          have hg0 := G0.out
          have hlw := HLW.out
          refine HU8.out.2.pair (Z := fun x => ShQ (FreshD (fun b => b = w8.heap.size) w8 w13) w13 [.int .i64 y, .slice ya yn yc, .string s] x) (HU10.out.2.pair (Z := fun p => IntsQ (FreshD (fun b => b = w8.heap.size) w8 w13) w13 ya yn p.1 ∧ s = p.2) HU12.out.2 HU12.out.2.rd HU12.out.2.turn fun l t hl ht => ⟨?_, ht⟩) A12.out.1 HT.out fun x p hx hp => ?_
          · refine IntsQ.keep hl ⟨fun b hb => ?_, fun b hb => ⟨by have := hb.1; omega, by have := hb.2; omega, by have := hb.1; omega⟩⟩
            have h1 := hb.1
            have h2 := hb.2
            exact (A12.out.2.1.block b (by omega) (by omega)).trans ((HU12.out.2.turn.block b (by omega) (by omega)).trans (A10.out.2.1.block b h2 (by omega)))
          · obtain ⟨x1, x2⟩ := p
            obtain ⟨h1, h2⟩ := hp
            dsimp only at h1 h2
            have hsl : x2.size ≤ q.L.length := h2 ▸ HU12.out.1
            have hyl : In64 x := hx ▸ HU8.out.1
            exact ⟨ya, yn, yc, by rw [hx, h2], by have := HU10.out.1; have := HSM.out; unfold maxLen; omega, hyl, by show x2.size ≤ maxLen; have := HSM.out; unfold maxLen; omega, h1⟩
        have H8 : Hid (wr.heap.size ≤ w8.heap.size) := h8
        go_wp2_with (at_builtin; refine wpList_append_form rfl (.tmp 70) (.tmp 72) 24 rfl wl1.heap.size 51 3 48 _ Tryz.underlying24 infoTSh rfl (by decide) a i c vs.flatten rfl (HO.out.alloc _) ⟨w13.heap.size, 0, none⟩ 1 1 [.int .i64 y, .slice ya yn yc, .string s] rfl rfl (fun jj u hj => by rw [Addr.add_lit, Nat.zero_add, (Blk.new w13 51 #[.int .i64 y, .slice ya yn yc, .string s]).cell jj]; simpa using hj) (by simp [Value.oneCell']) (by decide) (by have := HLT.out; have := NB1.out; unfold maxLen; omega) (by have := HLT.out; have := NB1.out; omega) (by simp; have := HGW.out; omega) ?_; intro g4 c4 w4 hr4 ht4 hn4; have hb4 := (((Still.refl w13).alloc (.cells #[.int .i64 y, .slice ya yn yc, .string s] 51)).blk HBX.out).keep ht4.out (fun e => HI.out.2.tk.row _ e rfl); have HB4 := Lib.hid hb4; have HR4 := Lib.hid ((((Still.refl w13).alloc (.cells #[.int .i64 y, .slice ya yn yc, .string s] 51)).blk HRX.out).keep ht4.out (fun e => by have := (HO.out.lt _ e).1; have := G0.out; have := GE1.out; omega)); have q3 := hb4.cell 1; have q3f := hb4.frozen 1; have l4 := hb4.lt; clear hb4)
        all_goals
          have hlt := HLT.out
          have hnb := NB1.out
          have hlw := HLW.out
          have hg0 := G0.out
          have TF := (Turn.refl (fun b => b = w0.heap.size) w4).setCell (p := ⟨w0.heap.size, 1, none⟩) (fun _ => rfl) (.slice (some ⟨g4, 0, none⟩) (i + 1) c4)
          refine ⟨?_, by simp [intOf]; omega⟩
          refine ⟨i + 1, vs ++ [[.int .i64 y, .slice ya yn yc, .string s]], some ⟨g4, 0, none⟩, c4, kz, bz, by go_num, by omega, ⟨TkT.next (P := ShQ) ShT.keep HI.out.2.tk (by omega) (by omega) (fun b e => by subst e; exact ⟨Nat.le_refl _, hlw⟩) US.out HT.out (fun b hb => ⟨Nat.le_trans H8.out hb.1, hb.2.1⟩) rfl ((Turn.refl _ w13).alloc _) (HO.out.alloc _) ht4.out hr4.out ?_ TF, by have := HB4.out.set 1 (.slice (some ⟨g4, 0, none⟩) (i + 1) c4); simpa using this, HR4.out.keep TF (by omega)⟩⟩
          rcases hn4.out with e | e
          · exact .inl (by rw [e]; rfl)
          · exact .inr fun j hj => by
              have : g4 = j := by simpa [Value.ownBlock] using hj
              rw [← this]; exact e
      · obtain ⟨hd, hx2⟩ := cond_cases hi hgo
        clear hl5
        have FIN := Lib.hid (InL.got ShT.keep hI S1.out.2 hi hd NB1.out)
        clear hI hi hd hgo
        rcases hx2 with ⟨rfl, x2, x3, x4⟩ | ⟨x2, x3, x4⟩
        all_goals
          go_wp2_with fail
          go_meet
          case rel => exact ⟨a, i, c, k5, _, FIN.out⟩
  obtain ⟨a1, i1, c1, kp2, bp2, hG⟩ := hcut
  obtain ⟨we1, hwe⟩ : ∃ x, x = wc := ⟨_, rfl⟩
  subst hwe
  have E1 := Lib.hid hG
  have P2 : Hid (Td q we1 kp2 bp2 ∧ Turn (fun i => i = q.g) w0 we1 ∧ Blk we1 w0.heap.size 28 #[.slice a0 i0 c0, .slice a1 i1 c1, .slice none 0 0, .slice none 0 0, .slice none 0 0, .int .i64 0, .int .i64 0] ∧ Blk we1 z 28 #[.slice none 0 0, .slice none 0 0, .slice none 0 0, .slice none 0 0, .slice none 0 0, .int .i64 0, .int .i64 0]) := ⟨hG.step.rd, hG.step.turn, hG.box, hG.res⟩
  clear hG
  go_wp2_with fail
  refine (tcount_any HQ.out P2.out.1).mono ?_; rintro e wl2 ⟨n2, kc2, bc2, rfl, hn, hs⟩
  have S2 := Lib.hid (And.intro hn hs)
  have NB2 : Hid (n2 ≤ 100000000) := by show _ ≤ _; have := HSM.out; omega
  have GE2 : Hid (w0.heap.size < wl2.heap.size) := by show _ < _; have := hs.turn.size; have := P2.out.2.2.1.lt; omega
  have A2 : Hid (InL q M.qText 9 1 TxT w0 wl2 z #[.slice none 0 0, .slice none 0 0, .slice none 0 0, .slice none 0 0, .slice none 0 0, .int .i64 0, .int .i64 0] kc2 bc2 [] none 0 0 #[.slice a0 i0 c0, .slice a1 i1 c1, .slice none 0 0, .slice none 0 0, .slice none 0 0, .int .i64 0, .int .i64 0] wl2 kc2 bc2) := ⟨TkT.none hs.rd (P2.out.2.1.trans hs.turn) (Nat.le_of_lt GE2.out) (Turn.refl _ _), P2.out.2.2.1.keep hs.turn (by have := G0.out; omega), P2.out.2.2.2.keep hs.turn (by have := G0.out; omega)⟩
  clear hn hs
  go_upto_block 4 with fail
  go_cut [10] from 13 (fun _ wc => ∃ (a : Option Addr) (i c k : Nat) (b : Bool), GotL q M.qText 1 TxT w0 wl2 z #[.slice none 0 0, .slice none 0 0, .slice none 0 0, .slice none 0 0, .slice none 0 0, .int .i64 0, .int .i64 0] kp2 bp2 a i c #[.slice a0 i0 c0, .slice a1 i1 c1, .slice a i c, .slice none 0 0, .slice none 0 0, .int .i64 0, .int .i64 0] wc k b)
  case first =>
    go_wp2_with fail
    go_loopw [10] (fun z10 wr => ∃ (i : Nat) (vs : List (List Value)) (a : Option Addr) (c k5 : Nat) (b5 : Bool), z10 = .int .i64 i ∧ i ≤ n2 ∧ InL q M.qText 9 1 TxT w0 wl2 z #[.slice none 0 0, .slice none 0 0, .slice none 0 0, .slice none 0 0, .slice none 0 0, .int .i64 0, .int .i64 0] kc2 bc2 vs a i c #[.slice a0 i0 c0, .slice a1 i1 c1, .slice a i c, .slice none 0 0, .slice none 0 0, .int .i64 0, .int .i64 0] wr k5 b5) (fun z10 _ => n2 - (intOf z10).toNat)
    case atStart => exact ⟨0, [], none, 0, kc2, bc2, rfl, Nat.zero_le _, A2.out⟩
    case round =>
      obtain ⟨i, vs, a, c, k5, b5, rfl, hi, hI⟩ := hrel
      have HI := Lib.hid (And.intro hi hI)
      obtain ⟨hl5, hc5⟩ := hI.tk.step.rd.lens
      by_cases hgo : i < n2 ∧ b5 = false
      · obtain ⟨hlt, rfl⟩ := hgo
        have x1 : decide ((i : Int) < n2) = true := decide_eq_true (by omega)
        have HLT := Lib.hid hlt
        have HLW : Hid (w0.heap.size < wr.heap.size) := hI.box.lt
        have hnb2 := NB2.out
        have d1 : wr.drew.cell? ⟨w0.heap.size, 2, none⟩ = some (.slice a i c) := hI.box.cell 2
        have dl : w0.heap.size < wr.drew.heap.size := hI.box.lt
        have SD : Hid (Still wr wr.drew) := (Still.refl wr).drew
        have HC := Lib.hid (ttext_any HQ.out (hI.tk.step.rd.still SD.out))
        clear hI hi
        go_wp2_with fail
        go_region_law (first
          | (go_simp; go_at_call 15; (with_reducible refine HC.out.mono ?_); rintro e w9 ⟨s, kz, bz, rfl, hss, hu⟩; have HT := Lib.hid (SD.out.turn.trans hu.turn); have hbx := HI.out.2.box.keep HT.out (by have := G0.out; omega); have HBX := Lib.hid hbx; have HRX := Lib.hid (HI.out.2.res.keep HT.out (by have := G0.out; omega)); have d9 := hbx.cell 2; have l9 := hbx.lt; have HGW : Hid (wl2.heap.size ≤ w9.heap.size) := Nat.le_trans HI.out.2.tk.fr.size HT.out.size; have HO := Lib.hid (own_keep HI.out.2.tk.own HT.out (fun b e1 e2 => by have := (HI.out.2.tk.own.lt b e1).1; have := G0.out; have := GE2.out; omega)); clear hbx; have HU := Lib.hid (And.intro hss hu); clear hu hss)
          | (refine step_append_form rfl (.tmp 90) (.tmp 93) 25 rfl wl2.heap.size 9 1 16 _ Tryz.underlying25 infoTTx rfl (by decide) a i c vs.flatten (by simp [Act.eval]) (HO.out.alloc _) ⟨w9.heap.size, 0, none⟩ 1 1 [.string s] (by simp [Act.eval]) rfl (fun jj u hj => by rw [Addr.add_lit, Nat.zero_add, (Blk.new w9 9 #[.string s]).cell jj]; simpa using hj) (by simp [Value.oneCell']) (by decide) (by have := HLT.out; have := NB2.out; unfold maxLen; omega) (by have := HLT.out; have := NB2.out; omega) (by simp; have := HGW.out; omega) ?_
             intro g4 c4 w4 hr4 ht4 hn4
             have hb4 := (((Still.refl w9).alloc (.cells #[.string s] 9)).blk HBX.out).keep ht4.out (fun e => HI.out.2.tk.row _ e rfl)
             have HB4 := Lib.hid hb4
             have HR4 := Lib.hid ((((Still.refl w9).alloc (.cells #[.string s] 9)).blk HRX.out).keep ht4.out (fun e => by have := (HO.out.lt _ e).1; have := G0.out; have := GE2.out; omega))
             have q3 := hb4.cell 2
             have q3f := hb4.frozen 2
             have l4 := hb4.lt
             clear hb4))
        all_goals
          go_wp2_with fail
          go_roundw
          case rel =>
            have hlt := HLT.out
            have hnb := NB2.out
            have hlw := HLW.out
            have hg0 := G0.out
            have TF := (Turn.refl (fun b => b = w0.heap.size) w4).setCell (p := ⟨w0.heap.size, 2, none⟩) (fun _ => rfl) (.slice (some ⟨g4, 0, none⟩) (i + 1) c4)
            refine ⟨i + 1, vs ++ [[.string s]], some ⟨g4, 0, none⟩, c4, kz, bz, by go_num, by omega, ⟨TkT.next (P := TxT) TxT.keep HI.out.2.tk (by omega) (by omega) (fun b e => by subst e; exact ⟨Nat.le_refl _, hlw⟩) (HU.out.2.into HU.out.2.rd HU.out.2.turn (V' := fun x => TxT (fun _ => False) w9 [.string s] x) fun x hx => ⟨by rw [hx], by have h1 := HU.out.1; rw [hx] at h1; have := HSM.out; unfold maxLen; omega⟩) HT.out (fun b hb => hb.elim) rfl ((Turn.refl _ w9).alloc _) (HO.out.alloc _) ht4.out hr4.out ?_ TF, by have := HB4.out.set 2 (.slice (some ⟨g4, 0, none⟩) (i + 1) c4); simpa using this, HR4.out.keep TF (by omega)⟩⟩
            rcases hn4.out with e | e
            · exact .inl (by rw [e]; rfl)
            · exact .inr fun j hj => by
                have : g4 = j := by simpa [Value.ownBlock] using hj
                rw [← this]; exact e
          case measure =>
            have hlt := HLT.out
            have hnb := NB2.out
            simp only [intOf]
            omega
      · obtain ⟨hd, hx2⟩ := cond_cases hi hgo
        clear hl5
        have FIN := Lib.hid (InL.got TxT.keep hI S2.out.2 hi hd NB2.out)
        clear hI hi hd hgo
        rcases hx2 with ⟨rfl, x2, x3, x4⟩ | ⟨x2, x3, x4⟩
        all_goals
          go_wp2_with fail
          go_meet
          case rel => exact ⟨a, i, c, k5, _, FIN.out⟩
  obtain ⟨a2, i2, c2, kp3, bp3, hG⟩ := hcut
  obtain ⟨we2, hwe⟩ : ∃ x, x = wc := ⟨_, rfl⟩
  subst hwe
  have E2 := Lib.hid hG
  have P3 : Hid (Td q we2 kp3 bp3 ∧ Turn (fun i => i = q.g) w0 we2 ∧ Blk we2 w0.heap.size 28 #[.slice a0 i0 c0, .slice a1 i1 c1, .slice a2 i2 c2, .slice none 0 0, .slice none 0 0, .int .i64 0, .int .i64 0] ∧ Blk we2 z 28 #[.slice none 0 0, .slice none 0 0, .slice none 0 0, .slice none 0 0, .slice none 0 0, .int .i64 0, .int .i64 0]) := ⟨hG.step.rd, hG.step.turn, hG.box, hG.res⟩
  clear hG
  go_wp2_with fail
  refine (tcount_any HQ.out P3.out.1).mono ?_; rintro e wl3 ⟨n3, kc3, bc3, rfl, hn, hs⟩
  have S3 := Lib.hid (And.intro hn hs)
  have NB3 : Hid (n3 ≤ 100000000) := by show _ ≤ _; have := HSM.out; omega
  have GE3 : Hid (w0.heap.size < wl3.heap.size) := by show _ < _; have := hs.turn.size; have := P3.out.2.2.1.lt; omega
  have A3 : Hid (InL q M.qText 9 1 TxT w0 wl3 z #[.slice none 0 0, .slice none 0 0, .slice none 0 0, .slice none 0 0, .slice none 0 0, .int .i64 0, .int .i64 0] kc3 bc3 [] none 0 0 #[.slice a0 i0 c0, .slice a1 i1 c1, .slice a2 i2 c2, .slice none 0 0, .slice none 0 0, .int .i64 0, .int .i64 0] wl3 kc3 bc3) := ⟨TkT.none hs.rd (P3.out.2.1.trans hs.turn) (Nat.le_of_lt GE3.out) (Turn.refl _ _), P3.out.2.2.1.keep hs.turn (by have := G0.out; omega), P3.out.2.2.2.keep hs.turn (by have := G0.out; omega)⟩
  clear hn hs
  go_upto_block 6 with fail
  go_cut [11] from 13 (fun _ wc => ∃ (a : Option Addr) (i c k : Nat) (b : Bool), GotL q M.qText 1 TxT w0 wl3 z #[.slice none 0 0, .slice none 0 0, .slice none 0 0, .slice none 0 0, .slice none 0 0, .int .i64 0, .int .i64 0] kp3 bp3 a i c #[.slice a0 i0 c0, .slice a1 i1 c1, .slice a2 i2 c2, .slice a i c, .slice none 0 0, .int .i64 0, .int .i64 0] wc k b)
  case first =>
    go_wp2_with fail
    go_loopw [11] (fun z11 wr => ∃ (i : Nat) (vs : List (List Value)) (a : Option Addr) (c k5 : Nat) (b5 : Bool), z11 = .int .i64 i ∧ i ≤ n3 ∧ InL q M.qText 9 1 TxT w0 wl3 z #[.slice none 0 0, .slice none 0 0, .slice none 0 0, .slice none 0 0, .slice none 0 0, .int .i64 0, .int .i64 0] kc3 bc3 vs a i c #[.slice a0 i0 c0, .slice a1 i1 c1, .slice a2 i2 c2, .slice a i c, .slice none 0 0, .int .i64 0, .int .i64 0] wr k5 b5) (fun z11 _ => n3 - (intOf z11).toNat)
    case atStart => exact ⟨0, [], none, 0, kc3, bc3, rfl, Nat.zero_le _, A3.out⟩
    case round =>
      obtain ⟨i, vs, a, c, k5, b5, rfl, hi, hI⟩ := hrel
      have HI := Lib.hid (And.intro hi hI)
      obtain ⟨hl5, hc5⟩ := hI.tk.step.rd.lens
      by_cases hgo : i < n3 ∧ b5 = false
      · obtain ⟨hlt, rfl⟩ := hgo
        have x1 : decide ((i : Int) < n3) = true := decide_eq_true (by omega)
        have HLT := Lib.hid hlt
        have HLW : Hid (w0.heap.size < wr.heap.size) := hI.box.lt
        have hnb3 := NB3.out
        have d1 : wr.drew.cell? ⟨w0.heap.size, 3, none⟩ = some (.slice a i c) := hI.box.cell 3
        have dl : w0.heap.size < wr.drew.heap.size := hI.box.lt
        have SD : Hid (Still wr wr.drew) := (Still.refl wr).drew
        have HC := Lib.hid (ttext_any HQ.out (hI.tk.step.rd.still SD.out))
        clear hI hi
        go_wp2_with fail
        go_region_law (first
          | (go_simp; go_at_call 15; (with_reducible refine HC.out.mono ?_); rintro e w9 ⟨s, kz, bz, rfl, hss, hu⟩; have HT := Lib.hid (SD.out.turn.trans hu.turn); have hbx := HI.out.2.box.keep HT.out (by have := G0.out; omega); have HBX := Lib.hid hbx; have HRX := Lib.hid (HI.out.2.res.keep HT.out (by have := G0.out; omega)); have d9 := hbx.cell 3; have l9 := hbx.lt; have HGW : Hid (wl3.heap.size ≤ w9.heap.size) := Nat.le_trans HI.out.2.tk.fr.size HT.out.size; have HO := Lib.hid (own_keep HI.out.2.tk.own HT.out (fun b e1 e2 => by have := (HI.out.2.tk.own.lt b e1).1; have := G0.out; have := GE3.out; omega)); clear hbx; have HU := Lib.hid (And.intro hss hu); clear hu hss)
          | (refine step_append_form rfl (.tmp 111) (.tmp 114) 25 rfl wl3.heap.size 9 1 16 _ Tryz.underlying25 infoTTx rfl (by decide) a i c vs.flatten (by simp [Act.eval]) (HO.out.alloc _) ⟨w9.heap.size, 0, none⟩ 1 1 [.string s] (by simp [Act.eval]) rfl (fun jj u hj => by rw [Addr.add_lit, Nat.zero_add, (Blk.new w9 9 #[.string s]).cell jj]; simpa using hj) (by simp [Value.oneCell']) (by decide) (by have := HLT.out; have := NB3.out; unfold maxLen; omega) (by have := HLT.out; have := NB3.out; omega) (by simp; have := HGW.out; omega) ?_
             intro g4 c4 w4 hr4 ht4 hn4
             have hb4 := (((Still.refl w9).alloc (.cells #[.string s] 9)).blk HBX.out).keep ht4.out (fun e => HI.out.2.tk.row _ e rfl)
             have HB4 := Lib.hid hb4
             have HR4 := Lib.hid ((((Still.refl w9).alloc (.cells #[.string s] 9)).blk HRX.out).keep ht4.out (fun e => by have := (HO.out.lt _ e).1; have := G0.out; have := GE3.out; omega))
             have q3 := hb4.cell 3
             have q3f := hb4.frozen 3
             have l4 := hb4.lt
             clear hb4))
        all_goals
          go_wp2_with fail
          go_roundw
          case rel =>
            have hlt := HLT.out
            have hnb := NB3.out
            have hlw := HLW.out
            have hg0 := G0.out
            have TF := (Turn.refl (fun b => b = w0.heap.size) w4).setCell (p := ⟨w0.heap.size, 3, none⟩) (fun _ => rfl) (.slice (some ⟨g4, 0, none⟩) (i + 1) c4)
            refine ⟨i + 1, vs ++ [[.string s]], some ⟨g4, 0, none⟩, c4, kz, bz, by go_num, by omega, ⟨TkT.next (P := TxT) TxT.keep HI.out.2.tk (by omega) (by omega) (fun b e => by subst e; exact ⟨Nat.le_refl _, hlw⟩) (HU.out.2.into HU.out.2.rd HU.out.2.turn (V' := fun x => TxT (fun _ => False) w9 [.string s] x) fun x hx => ⟨by rw [hx], by have h1 := HU.out.1; rw [hx] at h1; have := HSM.out; unfold maxLen; omega⟩) HT.out (fun b hb => hb.elim) rfl ((Turn.refl _ w9).alloc _) (HO.out.alloc _) ht4.out hr4.out ?_ TF, by have := HB4.out.set 3 (.slice (some ⟨g4, 0, none⟩) (i + 1) c4); simpa using this, HR4.out.keep TF (by omega)⟩⟩
            rcases hn4.out with e | e
            · exact .inl (by rw [e]; rfl)
            · exact .inr fun j hj => by
                have : g4 = j := by simpa [Value.ownBlock] using hj
                rw [← this]; exact e
          case measure =>
            have hlt := HLT.out
            have hnb := NB3.out
            simp only [intOf]
            omega
      · obtain ⟨hd, hx2⟩ := cond_cases hi hgo
        clear hl5
        have FIN := Lib.hid (InL.got TxT.keep hI S3.out.2 hi hd NB3.out)
        clear hI hi hd hgo
        rcases hx2 with ⟨rfl, x2, x3, x4⟩ | ⟨x2, x3, x4⟩
        all_goals
          go_wp2_with fail
          go_meet
          case rel => exact ⟨a, i, c, k5, _, FIN.out⟩
  obtain ⟨a3, i3, c3, kp4, bp4, hG⟩ := hcut
  obtain ⟨we3, hwe⟩ : ∃ x, x = wc := ⟨_, rfl⟩
  subst hwe
  have E3 := Lib.hid hG
  have P4 : Hid (Td q we3 kp4 bp4 ∧ Turn (fun i => i = q.g) w0 we3 ∧ Blk we3 w0.heap.size 28 #[.slice a0 i0 c0, .slice a1 i1 c1, .slice a2 i2 c2, .slice a3 i3 c3, .slice none 0 0, .int .i64 0, .int .i64 0] ∧ Blk we3 z 28 #[.slice none 0 0, .slice none 0 0, .slice none 0 0, .slice none 0 0, .slice none 0 0, .int .i64 0, .int .i64 0]) := ⟨hG.step.rd, hG.step.turn, hG.box, hG.res⟩
  clear hG
  go_wp2_with fail
  refine (tcount_any HQ.out P4.out.1).mono ?_; rintro e wl4 ⟨n4, kc4, bc4, rfl, hn, hs⟩
  have S4 := Lib.hid (And.intro hn hs)
  have NB4 : Hid (n4 ≤ 100000000) := by show _ ≤ _; have := HSM.out; omega
  have GE4 : Hid (w0.heap.size < wl4.heap.size) := by show _ < _; have := hs.turn.size; have := P4.out.2.2.1.lt; omega
  have A4 : Hid (InL q M.qFn 55 4 FnQ w0 wl4 z #[.slice none 0 0, .slice none 0 0, .slice none 0 0, .slice none 0 0, .slice none 0 0, .int .i64 0, .int .i64 0] kc4 bc4 [] none 0 0 #[.slice a0 i0 c0, .slice a1 i1 c1, .slice a2 i2 c2, .slice a3 i3 c3, .slice none 0 0, .int .i64 0, .int .i64 0] wl4 kc4 bc4) := ⟨TkT.none hs.rd (P4.out.2.1.trans hs.turn) (Nat.le_of_lt GE4.out) (Turn.refl _ _), P4.out.2.2.1.keep hs.turn (by have := G0.out; omega), P4.out.2.2.2.keep hs.turn (by have := G0.out; omega)⟩
  clear hn hs
  go_upto_block 8 with fail
  go_cut [12] from 13 (fun _ wc => ∃ (a : Option Addr) (i c k : Nat) (b : Bool), GotL q M.qFn 4 FnQ w0 wl4 z #[.slice none 0 0, .slice none 0 0, .slice none 0 0, .slice none 0 0, .slice none 0 0, .int .i64 0, .int .i64 0] kp4 bp4 a i c #[.slice a0 i0 c0, .slice a1 i1 c1, .slice a2 i2 c2, .slice a3 i3 c3, .slice a i c, .int .i64 0, .int .i64 0] wc k b)
  case first =>
    go_wp2_with fail
    go_loopw [12] (fun z12 wr => ∃ (i : Nat) (vs : List (List Value)) (a : Option Addr) (c k5 : Nat) (b5 : Bool), z12 = .int .i64 i ∧ i ≤ n4 ∧ InL q M.qFn 55 4 FnQ w0 wl4 z #[.slice none 0 0, .slice none 0 0, .slice none 0 0, .slice none 0 0, .slice none 0 0, .int .i64 0, .int .i64 0] kc4 bc4 vs a i c #[.slice a0 i0 c0, .slice a1 i1 c1, .slice a2 i2 c2, .slice a3 i3 c3, .slice a i c, .int .i64 0, .int .i64 0] wr k5 b5) (fun z12 _ => n4 - (intOf z12).toNat)
    case atStart => exact ⟨0, [], none, 0, kc4, bc4, rfl, Nat.zero_le _, A4.out⟩
    case round =>
      obtain ⟨i, vs, a, c, k5, b5, rfl, hi, hI⟩ := hrel
      have HI := Lib.hid (And.intro hi hI)
      obtain ⟨hl5, hc5⟩ := hI.tk.step.rd.lens
      by_cases hgo : i < n4 ∧ b5 = false
      · obtain ⟨hlt, rfl⟩ := hgo
        have x1 : decide ((i : Int) < n4) = true := decide_eq_true (by omega)
        have HLT := Lib.hid hlt
        have HLW : Hid (w0.heap.size < wr.heap.size) := hI.box.lt
        have hnb4 := NB4.out
        have d1 : wr.drew.cell? ⟨w0.heap.size, 4, none⟩ = some (.slice a i c) := hI.box.cell 4
        have dl : w0.heap.size < wr.drew.heap.size := hI.box.lt
        have SD : Hid (Still wr wr.drew) := (Still.refl wr).drew
        have HC := Lib.hid (tfunction_any HQ.out (hI.tk.step.rd.still SD.out))
        clear hI hi
        go_wp2_with fail
        go_region_law (first
          | (go_simp; go_at_call 16; (with_reducible refine HC.out.mono ?_); rintro e w9 ⟨pa, pn, pc, v0, v1, fa, fn, fc, kz, bz, rfl, hu⟩; have HT := Lib.hid (SD.out.turn.trans hu.turn); have hbx := HI.out.2.box.keep HT.out (by have := G0.out; omega); have HBX := Lib.hid hbx; have HRX := Lib.hid (HI.out.2.res.keep HT.out (by have := G0.out; omega)); have d9 := hbx.cell 4; have l9 := hbx.lt; have HGW : Hid (wl4.heap.size ≤ w9.heap.size) := Nat.le_trans HI.out.2.tk.fr.size HT.out.size; have HO := Lib.hid (own_keep HI.out.2.tk.own HT.out (fun b e1 e2 => by have := (HI.out.2.tk.own.lt b e1).1; have := G0.out; have := GE4.out; omega)); clear hbx; have HU := Lib.hid hu; clear hu)
          | (refine step_append_form rfl (.tmp 132) (.tmp 135) 26 rfl wl4.heap.size 55 4 64 _ Tryz.underlying26 infoTFn rfl (by decide) a i c vs.flatten (by simp [Act.eval]) (HO.out.alloc _) ⟨w9.heap.size, 0, none⟩ 1 1 [.slice pa pn pc, .int .i64 v0, .int .i64 v1, .slice fa fn fc] (by simp [Act.eval]) rfl (fun jj u hj => by rw [Addr.add_lit, Nat.zero_add, (Blk.new w9 55 #[.slice pa pn pc, .int .i64 v0, .int .i64 v1, .slice fa fn fc]).cell jj]; simpa using hj) (by simp [Value.oneCell']) (by decide) (by have := HLT.out; have := NB4.out; unfold maxLen; omega) (by have := HLT.out; have := NB4.out; omega) (by simp; have := HGW.out; omega) ?_
             intro g4 c4 w4 hr4 ht4 hn4
             have hb4 := (((Still.refl w9).alloc (.cells #[.slice pa pn pc, .int .i64 v0, .int .i64 v1, .slice fa fn fc] 55)).blk HBX.out).keep ht4.out (fun e => HI.out.2.tk.row _ e rfl)
             have HB4 := Lib.hid hb4
             have HR4 := Lib.hid ((((Still.refl w9).alloc (.cells #[.slice pa pn pc, .int .i64 v0, .int .i64 v1, .slice fa fn fc] 55)).blk HRX.out).keep ht4.out (fun e => by have := (HO.out.lt _ e).1; have := G0.out; have := GE4.out; omega))
             have q3 := hb4.cell 4
             have q3f := hb4.frozen 4
             have l4 := hb4.lt
             clear hb4))
        all_goals
          go_wp2_with fail
          go_roundw
          case rel =>
            have hlt := HLT.out
            have hnb := NB4.out
            have hlw := HLW.out
            have hg0 := G0.out
            have TF := (Turn.refl (fun b => b = w0.heap.size) w4).setCell (p := ⟨w0.heap.size, 4, none⟩) (fun _ => rfl) (.slice (some ⟨g4, 0, none⟩) (i + 1) c4)
            refine ⟨i + 1, vs ++ [[.slice pa pn pc, .int .i64 v0, .int .i64 v1, .slice fa fn fc]], some ⟨g4, 0, none⟩, c4, kz, bz, by go_num, by omega, ⟨TkT.next (P := FnQ) FnT.keep HI.out.2.tk (by omega) (by omega) (fun b e => by subst e; exact ⟨Nat.le_refl _, hlw⟩) HU.out HT.out (fun b hb => hb) rfl ((Turn.refl _ w9).alloc _) (HO.out.alloc _) ht4.out hr4.out ?_ TF, by have := HB4.out.set 4 (.slice (some ⟨g4, 0, none⟩) (i + 1) c4); simpa using this, HR4.out.keep TF (by omega)⟩⟩
            rcases hn4.out with e | e
            · exact .inl (by rw [e]; rfl)
            · exact .inr fun j hj => by
                have : g4 = j := by simpa [Value.ownBlock] using hj
                rw [← this]; exact e
          case measure =>
            have hlt := HLT.out
            have hnb := NB4.out
            simp only [intOf]
            omega
      · obtain ⟨hd, hx2⟩ := cond_cases hi hgo
        clear hl5
        have FIN := Lib.hid (InL.got FnT.keep hI S4.out.2 hi hd NB4.out)
        clear hI hi hd hgo
        rcases hx2 with ⟨rfl, x2, x3, x4⟩ | ⟨x2, x3, x4⟩
        all_goals
          go_wp2_with fail
          go_meet
          case rel => exact ⟨a, i, c, k5, _, FIN.out⟩
  obtain ⟨a4, i4, c4, kp5, bp5, hG⟩ := hcut
  obtain ⟨we4, hwe⟩ : ∃ x, x = wc := ⟨_, rfl⟩
  subst hwe
  have E4 := Lib.hid hG
  have P5 : Hid (Td q we4 kp5 bp5 ∧ Turn (fun i => i = q.g) w0 we4 ∧ Blk we4 w0.heap.size 28 #[.slice a0 i0 c0, .slice a1 i1 c1, .slice a2 i2 c2, .slice a3 i3 c3, .slice a4 i4 c4, .int .i64 0, .int .i64 0] ∧ Blk we4 z 28 #[.slice none 0 0, .slice none 0 0, .slice none 0 0, .slice none 0 0, .slice none 0 0, .int .i64 0, .int .i64 0]) := ⟨hG.step.rd, hG.step.turn, hG.box, hG.res⟩
  clear hG
  go_wp2_with fail
  refine (tnum_any HQ.out P5.out.1).mono ?_; rintro e wm ⟨mi, k6, b6, rfl, hmi, u6⟩
  have U6 := Lib.hid (And.intro hmi u6)
  have hbx := P5.out.2.2.1.keep u6.turn (by have := G0.out; omega)
  have hrx := P5.out.2.2.2.keep u6.turn (by have := G0.out; omega)
  have y5 := hbx.cell 5
  have f5 := hbx.frozen 5
  have l5 := hbx.lt
  have TS : Turn (fun b => b = w0.heap.size) wm (wm.setCell ⟨w0.heap.size, 5, none⟩ (.int .i64 mi)) := (Turn.refl (fun b => b = w0.heap.size) wm).setCell (p := ⟨w0.heap.size, 5, none⟩) (fun _ => rfl) _
  have A6 : Hid (Td q (wm.setCell ⟨w0.heap.size, 5, none⟩ (.int .i64 mi)) k6 b6 ∧ Turn (fun b => b = w0.heap.size) wm (wm.setCell ⟨w0.heap.size, 5, none⟩ (.int .i64 mi)) ∧ Blk (wm.setCell ⟨w0.heap.size, 5, none⟩ (.int .i64 mi)) w0.heap.size 28 #[.slice a0 i0 c0, .slice a1 i1 c1, .slice a2 i2 c2, .slice a3 i3 c3, .slice a4 i4 c4, .int .i64 mi, .int .i64 0] ∧ Blk (wm.setCell ⟨w0.heap.size, 5, none⟩ (.int .i64 mi)) z 28 #[.slice none 0 0, .slice none 0 0, .slice none 0 0, .slice none 0 0, .slice none 0 0, .int .i64 0, .int .i64 0]) := ⟨u6.rd.turn TS (by have := G0.out; omega) (by have := G0.out; omega), TS, by have := hbx.set 5 (.int .i64 mi); simpa using this, hrx.keep TS (by have := G0.out; omega)⟩
  clear hmi u6 hbx hrx TS
  go_wp2_with fail
  clear y5 f5 l5
  generalize wm.setCell ⟨w0.heap.size, 5, none⟩ (.int .i64 mi) = wm2 at A6 ⊢
  refine (tnum_any HQ.out A6.out.1).mono ?_; rintro e wn ⟨ei, k7, b7, rfl, hei, u7⟩
  have U7 := Lib.hid (And.intro hei u7)
  have hbx := A6.out.2.2.1.keep u7.turn (by have := G0.out; omega)
  have hrx := A6.out.2.2.2.keep u7.turn (by have := G0.out; omega)
  have y5 := hbx.cell 6
  have f5 := hbx.frozen 6
  have l5 := hbx.lt
  have TS : Turn (fun b => b = w0.heap.size) wn (wn.setCell ⟨w0.heap.size, 6, none⟩ (.int .i64 ei)) := (Turn.refl (fun b => b = w0.heap.size) wn).setCell (p := ⟨w0.heap.size, 6, none⟩) (fun _ => rfl) _
  have A7 : Hid (Td q (wn.setCell ⟨w0.heap.size, 6, none⟩ (.int .i64 ei)) k7 b7 ∧ Turn (fun b => b = w0.heap.size) wn (wn.setCell ⟨w0.heap.size, 6, none⟩ (.int .i64 ei)) ∧ Blk (wn.setCell ⟨w0.heap.size, 6, none⟩ (.int .i64 ei)) w0.heap.size 28 #[.slice a0 i0 c0, .slice a1 i1 c1, .slice a2 i2 c2, .slice a3 i3 c3, .slice a4 i4 c4, .int .i64 mi, .int .i64 ei] ∧ Blk (wn.setCell ⟨w0.heap.size, 6, none⟩ (.int .i64 ei)) z 28 #[.slice none 0 0, .slice none 0 0, .slice none 0 0, .slice none 0 0, .slice none 0 0, .int .i64 0, .int .i64 0]) := ⟨u7.rd.turn TS (by have := G0.out; omega) (by have := G0.out; omega), TS, by have := hbx.set 6 (.int .i64 ei); simpa using this, hrx.keep TS (by have := G0.out; omega)⟩
  clear hei u7 hbx hrx TS
  go_upto_region 35 with fail
  clear y5 f5 l5
  generalize wn.setCell ⟨w0.heap.size, 6, none⟩ (.int .i64 ei) = wF at A7 ⊢
  have gx : ∀ (j : Nat), j = q.g → (fun j => j = q.g ∨ j = w0.heap.size) j := fun j e => .inl e
  have F4 : Hid (Turn (fun j => j = q.g ∨ j = w0.heap.size) we4 wF) := (((U6.out.2.turn.mono fun _ _ e => .inl e).trans (A6.out.2.1.mono fun _ _ e => .inr e)).trans (U7.out.2.turn.mono fun _ _ e => .inl e)).trans (A7.out.2.1.mono fun _ _ e => .inr e)
  have F3 : Hid (Turn (fun j => j = q.g ∨ j = w0.heap.size) we3 wF) := ((S4.out.2.turn.mono fun _ _ e => .inl e).trans E4.out.fr).trans F4.out
  have F2 : Hid (Turn (fun j => j = q.g ∨ j = w0.heap.size) we2 wF) := ((S3.out.2.turn.mono fun _ _ e => .inl e).trans E3.out.fr).trans F3.out
  have F1 : Hid (Turn (fun j => j = q.g ∨ j = w0.heap.size) we1 wF) := ((S2.out.2.turn.mono fun _ _ e => .inl e).trans E2.out.fr).trans F2.out
  have F0 : Hid (Turn (fun j => j = q.g ∨ j = w0.heap.size) we0 wF) := ((S1.out.2.turn.mono fun _ _ e => .inl e).trans E1.out.fr).trans F1.out
  have TW : Hid (Turn (fun i => i = q.g) w0 wF) := ((((P5.out.2.1.trans U6.out.2.turn).mono fun _ _ e => .inl e).trans (A6.out.2.1.mono fun _ _ e => .inr e)).trans ((U7.out.2.turn.mono fun _ _ e => .inl e).trans (A7.out.2.1.mono fun _ _ e => .inr e)) : Turn (fun j => j = q.g ∨ j = w0.heap.size) w0 wF).mono fun j hj e => e.elim id fun e => by omega
  have IMG : Hid (StepT q M.qImg (fun m => ImgQ (FreshD (fun b => b = w0.heap.size) w0 wF) wF ⟨a0, i0, c0, a1, i1, c1, a2, i2, c2, a3, i3, c3, a4, i4, c4, mi, ei⟩ m) w0 wF 4 false k7 b7) := by
    have hg := G0.out.1
    have td := A7.out.1
    have tw := TW.out
    have K0 := kept_got E0.out.ge hg F0.out
    have K1 := kept_got E1.out.ge hg F1.out
    have K2 := kept_got E2.out.ge hg F2.out
    have K3 := kept_got E3.out.ge hg F3.out
    have K4 := kept_got E4.out.ge hg F4.out
    have X6 := U6.out.2.pair (f := Prod.mk) (Z := fun x => mi = x.1 ∧ ei = x.2) U7.out.2 td tw (fun x y hx hy => ⟨hx, hy⟩)
    have X5 := E4.out.step.pair (f := Prod.mk) (Z := fun x => LiesQ (FreshD (fun b => b = w0.heap.size) wl4 we4) we4 4 (FnQ (FreshD (fun b => b = w0.heap.size) wl4 we4) we4) a4 i4 x.1 ∧ mi = x.2.1 ∧ ei = x.2.2) X6 td tw (fun x y hx hy => ⟨hx, hy⟩)
    have X4 := E3.out.step.pair (f := Prod.mk) (Z := fun x => LiesQ (FreshD (fun b => b = w0.heap.size) wl3 we3) we3 1 (TxT (FreshD (fun b => b = w0.heap.size) wl3 we3) we3) a3 i3 x.1 ∧ LiesQ (FreshD (fun b => b = w0.heap.size) wl4 we4) we4 4 (FnQ (FreshD (fun b => b = w0.heap.size) wl4 we4) we4) a4 i4 x.2.1 ∧ mi = x.2.2.1 ∧ ei = x.2.2.2) X5 td tw (fun x y hx hy => ⟨hx, hy⟩)
    have X3 := E2.out.step.pair (f := Prod.mk) (Z := fun x => LiesQ (FreshD (fun b => b = w0.heap.size) wl2 we2) we2 1 (TxT (FreshD (fun b => b = w0.heap.size) wl2 we2) we2) a2 i2 x.1 ∧ LiesQ (FreshD (fun b => b = w0.heap.size) wl3 we3) we3 1 (TxT (FreshD (fun b => b = w0.heap.size) wl3 we3) we3) a3 i3 x.2.1 ∧ LiesQ (FreshD (fun b => b = w0.heap.size) wl4 we4) we4 4 (FnQ (FreshD (fun b => b = w0.heap.size) wl4 we4) we4) a4 i4 x.2.2.1 ∧ mi = x.2.2.2.1 ∧ ei = x.2.2.2.2) X4 td tw (fun x y hx hy => ⟨hx, hy⟩)
    have X2 := E1.out.step.pair (f := Prod.mk) (Z := fun x => LiesQ (FreshD (fun b => b = w0.heap.size) wl1 we1) we1 3 (ShQ (FreshD (fun b => b = w0.heap.size) wl1 we1) we1) a1 i1 x.1 ∧ LiesQ (FreshD (fun b => b = w0.heap.size) wl2 we2) we2 1 (TxT (FreshD (fun b => b = w0.heap.size) wl2 we2) we2) a2 i2 x.2.1 ∧ LiesQ (FreshD (fun b => b = w0.heap.size) wl3 we3) we3 1 (TxT (FreshD (fun b => b = w0.heap.size) wl3 we3) we3) a3 i3 x.2.2.1 ∧ LiesQ (FreshD (fun b => b = w0.heap.size) wl4 we4) we4 4 (FnQ (FreshD (fun b => b = w0.heap.size) wl4 we4) we4) a4 i4 x.2.2.2.1 ∧ mi = x.2.2.2.2.1 ∧ ei = x.2.2.2.2.2) X3 td tw (fun x y hx hy => ⟨hx, hy⟩)
    refine E0.out.step.pair (Z := fun m => ImgQ (FreshD (fun b => b = w0.heap.size) w0 wF) wF ⟨a0, i0, c0, a1, i1, c1, a2, i2, c2, a3, i3, c3, a4, i4, c4, mi, ei⟩ m) X2 td tw fun x y hx hy => ?_
    obtain ⟨y1, y2, y3, y4, y5, y6⟩ := y
    obtain ⟨h1, h2, h3, h4, h5, h6⟩ := hy
    dsimp only at h1 h2 h3 h4 h5 h6
    have m0 := E0.out.small
    have m1 := E1.out.small
    have m2 := E2.out.small
    have m3 := E3.out.small
    have m4 := E4.out.small
    have hmi := U6.out.1
    have hei := U7.out.1
    subst h5
    subst h6
    exact ⟨rfl, rfl, hmi, hei, ⟨by show i0 ≤ maxLen; unfold maxLen; omega, by show i1 ≤ maxLen; unfold maxLen; omega, by show i2 ≤ maxLen; unfold maxLen; omega, by show i3 ≤ maxLen; unfold maxLen; omega, by show i4 ≤ maxLen; unfold maxLen; omega⟩, LiesQ.keep hx K0 fun _ _ h => h.keep K0, LiesQ.keep h1 K1 fun _ _ h => h.keep K1, LiesQ.keep h2 K2 fun _ _ h => h, LiesQ.keep h3 K3 fun _ _ h => h, LiesQ.keep h4 K4 fun _ _ h => h.keep K4⟩
  have BADC : Hid (b7 = true → ∀ m, ¬ M.Good L m) := fun hb m hm => by
    have := IMG.out.yes rfl m [] (by rw [RW.out.2.1]; exact M.good_reads hm)
    rw [hb] at this
    exact absurd this.1 (by simp)
  have GOODC : Hid (b7 = false → ∃ m, ImgQ (FreshD (fun b => b = w0.heap.size) w0 wF) wF ⟨a0, i0, c0, a1, i1, c1, a2, i2, c2, a3, i3, c3, a4, i4, c4, mi, ei⟩ m ∧ M.wImg m ≤ 100000 ∧ ∀ m', M.Good L m' → m' = m) := fun hb => by
    cases hp : M.qImg (q.L.drop 4) with
    | none => exact absurd (IMG.out.no rfl hp) (by rw [hb]; simp)
    | some y =>
      obtain ⟨m, R1⟩ := y
      have hw := M.wt_Img _ _ _ hp
      have hle := RW.out.2.2.1
      rw [List.length_drop, RW.out.2.1] at hw
      refine ⟨m, (IMG.out.yes rfl m R1 hp).2.2, by omega, fun m' hm' => ?_⟩
      have h2 := M.good_reads hm'
      rw [← RW.out.2.1, hp] at h2
      simp only [Option.some.injEq, Prod.mk.injEq] at h2
      exact h2.1.symm
  obtain ⟨lg, g0', g1', cb7, g2', g3'⟩ := td_cells A7.out.1
  clear g0' g1' g2' g3'
  by_cases hb7 : b7 = true
  · subst hb7
    have BD := Lib.hid (BADC.out rfl)
    clear BADC GOODC IMG
    obtain ⟨wD, hwD⟩ : ∃ wD, wF.drew = wD := ⟨_, rfl⟩
    have SD : Hid (Still wF wD) := by rw [← hwD]; exact (Still.refl wF).drew
    have ZR : Hid (Blk wD z 28 #[.slice none 0 0, .slice none 0 0, .slice none 0 0, .slice none 0 0, .slice none 0 0, .int .i64 0, .int .i64 0]) := SD.out.blk A7.out.2.2.2
    have cbd : wD.cell? ⟨q.g, 2, none⟩ = some (.bool true) := (SD.out.cell (p := ⟨q.g, 2, none⟩) lg).trans cb7
    have lgd : q.g < wD.heap.size := Nat.lt_of_lt_of_le lg SD.out.size
    refine wp_region_any (by kernel_rfl) ?_
    change wpAny _ _ _ _ _ _ _ (World.drew _)
    rw [hwD]
    clear hwD
    refine wpAny_take (i := 0) (v := ?_) rfl (by kernel_rfl) (by kernel_rfl) (by kernel_rfl) (fun _ _ _ h => h) (Or.inl ⟨by rfl, ?_⟩) ?_
    rotate_left
    · intro w; go_simp; try with_reducible rfl
    go_simp
    refine wpAny_take (i := 1) (v := ?_) rfl (by kernel_rfl) (by kernel_rfl) (by kernel_rfl) (fun _ _ _ h => h) (Or.inl ⟨by rfl, ?_⟩) ?_
    rotate_left
    · intro w; go_simp; try with_reducible rfl
    go_simp
    refine wpAny_take (i := 2) (v := ?_) rfl (by kernel_rfl) (by kernel_rfl) (by kernel_rfl) (fun _ _ _ h => h) (Or.inl ⟨by rfl, ?_⟩) ?_
    rotate_left
    · intro w; go_simp; try with_reducible rfl
    go_simp
    refine wpAny_ready (rs := [3]) (by kernel_rfl) (by simp) ?_
    refine AllReady.cons rfl (fun K hK => ?_) AllReady.nil
    go_simp
    refine hK _ _ ?_; clear hK K
    refine wpAny_take (i := 4) (v := ?_) rfl (by kernel_rfl) (by kernel_rfl) (by kernel_rfl) (fun _ _ _ h => h) (Or.inl ⟨by rfl, ?_⟩) ?_
    rotate_left
    · intro w; go_simp; try with_reducible rfl
    go_simp
    refine wpAny_take (i := 5) (v := undef) rfl (by kernel_rfl) (by kernel_rfl) (by kernel_rfl) (fun _ _ _ h => h) (Or.inr ⟨by rfl, rfl⟩) ?_
    go_simp
    refine wpAny_take (i := 6) (v := undef) rfl (by kernel_rfl) (by kernel_rfl) (by kernel_rfl) (fun _ _ _ h => h) (Or.inr ⟨by rfl, rfl⟩) ?_
    go_simp
    refine wpAny_take (i := 7) (v := undef) rfl (by kernel_rfl) (by kernel_rfl) (by kernel_rfl) (fun _ _ _ h => h) (Or.inr ⟨by rfl, rfl⟩) ?_
    go_simp
    refine wpAny_take (i := 8) (v := ?_) rfl (by kernel_rfl) (by kernel_rfl) (by kernel_rfl) (fun _ _ _ h => h) (Or.inl ⟨by rfl, ?_⟩) ?_
    rotate_left
    · intro w; go_simp; try with_reducible rfl
    go_simp
    refine wpAny_take (i := 9) (v := ?_) rfl (by kernel_rfl) (by kernel_rfl) (by kernel_rfl) (fun _ _ _ h => h) (Or.inl ⟨by rfl, ?_⟩) ?_
    rotate_left
    · intro w; go_simp; try with_reducible rfl
    go_simp
    refine wpAny_take (i := 10) (v := undef) rfl (by kernel_rfl) (by kernel_rfl) (by kernel_rfl) (fun _ _ _ h => h) (Or.inr ⟨by rfl, rfl⟩) ?_
    go_simp
    refine wpAny_take (i := 11) (v := undef) rfl (by kernel_rfl) (by kernel_rfl) (by kernel_rfl) (fun _ _ _ h => h) (Or.inr ⟨by rfl, rfl⟩) ?_
    go_simp
    refine wpAny_take (i := 12) (v := undef) rfl (by kernel_rfl) (by kernel_rfl) (by kernel_rfl) (fun _ _ _ h => h) (Or.inr ⟨by rfl, rfl⟩) ?_
    go_simp
    refine wpAny_take (i := 13) (v := undef) rfl (by kernel_rfl) (by kernel_rfl) (by kernel_rfl) (fun _ _ _ h => h) (Or.inr ⟨by rfl, rfl⟩) ?_
    go_simp
    refine wpAny_take (i := 14) (v := undef) rfl (by kernel_rfl) (by kernel_rfl) (by kernel_rfl) (fun _ _ _ h => h) (Or.inr ⟨by rfl, rfl⟩) ?_
    go_simp
    refine wpAny_take (i := 15) (v := undef) rfl (by kernel_rfl) (by kernel_rfl) (by kernel_rfl) (fun _ _ _ h => h) (Or.inr ⟨by rfl, rfl⟩) ?_
    go_simp
    refine wpAny_take (i := 16) (v := ?_) rfl (by kernel_rfl) (by kernel_rfl) (by kernel_rfl) (fun _ _ _ h => h) (Or.inl ⟨by rfl, ?_⟩) ?_
    rotate_left
    · intro w; go_simp; try with_reducible rfl
    go_simp
    refine wpAny_done (by kernel_rfl) ?_ _
    obtain ⟨zl, z0, z1, z2, z3, z4, z5, z6⟩ := imgBox7 ZR.out
    have v0 := ZR.out.frozen 0
    have v1 := ZR.out.frozen 1
    have v2 := ZR.out.frozen 2
    have v3 := ZR.out.frozen 3
    have v4 := ZR.out.frozen 4
    have v5 := ZR.out.frozen 5
    have v6 := ZR.out.frozen 6
    go_wp2_with fail
    have hb := sets7_blk ZR.out (.slice none 0 0) (.slice none 0 0) (.slice none 0 0) (.slice none 0 0) (.slice none 0 0) (.int .i64 0) (.int .i64 0)
    have ht := sets7_turn wD z (.slice none 0 0) (.slice none 0 0) (.slice none 0 0) (.slice none 0 0) (.slice none 0 0) (.int .i64 0) (.int .i64 0)
    refine bodyPost_ret (results_row_tmp rfl _ _ z 28 #[.slice none 0 0, .slice none 0 0, .slice none 0 0, .slice none 0 0, .slice none 0 0, .int .i64 0, .int .i64 0] (0, 0) _ rfl hb Tryz.underlying28 rfl (by kernel_rfl)) rfl ?_
    generalize (((((((wD.setCell ⟨z, 0, none⟩ (.slice none 0 0)).setCell ⟨z, 1, none⟩ (.slice none 0 0)).setCell ⟨z, 2, none⟩ (.slice none 0 0)).setCell ⟨z, 3, none⟩ (.slice none 0 0)).setCell ⟨z, 4, none⟩ (.slice none 0 0)).setCell ⟨z, 5, none⟩ (.int .i64 0)).setCell ⟨z, 6, none⟩ (.int .i64 0)) = w9 at ht ⊢
    have hzw := HZW.out
    have hgp := HGP.out
    exact ⟨below4 SW.out TW.out SD.out.below ht (by omega) (by omega), .inr ⟨rfl, BD.out⟩⟩
  · obtain rfl : b7 = false := by simpa using hb7
    clear hb7
    obtain ⟨m, hm, hw, huniq⟩ := GOODC.out rfl
    have HM := Lib.hid hm
    have HU := Lib.hid huniq
    have HW := Lib.hid hw
    clear BADC GOODC IMG hm huniq hw
    obtain ⟨wD, hwD⟩ : ∃ wD, wF.drew = wD := ⟨_, rfl⟩
    have SD : Hid (Still wF wD) := by rw [← hwD]; exact (Still.refl wF).drew
    have ZD : Hid (Blk wD z 28 #[.slice none 0 0, .slice none 0 0, .slice none 0 0, .slice none 0 0, .slice none 0 0, .int .i64 0, .int .i64 0]) := SD.out.blk A7.out.2.2.2
    have XD : Hid (Blk wD w0.heap.size 28 #[.slice a0 i0 c0, .slice a1 i1 c1, .slice a2 i2 c2, .slice a3 i3 c3, .slice a4 i4 c4, .int .i64 mi, .int .i64 ei]) := SD.out.blk A7.out.2.2.1
    have HIS : Hid (∀ W, Still wD W → ImgIs W.heap.size W ⟨a0, i0, c0, a1, i1, c1, a2, i2, c2, a3, i3, c3, a4, i4, c4, mi, ei⟩ m) := fun W hW => (HM.out.is (fun b hb => hb.2.1)).later (SD.out.trans hW).below
    have HCK : Hid (Calls Tryz.prog 17 #[.agg #[.slice a0 i0 c0, .slice a1 i1 c1, .slice a2 i2 c2, .slice a3 i3 c3, .slice a4 i4 c4, .int .i64 mi, .int .i64 ei]] wD fun e w' => e = .returned (.int .i64 (M.check m)) ∧ Still wD w') := by
      have hsz : M.size m ≤ 1000000000 := by have := size_le m; have := HW.out; omega
      have := refCheck_any (B := wD.heap.size) (w := wD) (v := ⟨a0, i0, c0, a1, i1, c1, a2, i2, c2, a3, i3, c3, a4, i4, c4, mi, ei⟩) (m := m) (Nat.le_refl _) (HIS.out wD (Still.refl _)) hsz
      exact this
    have cbd : wD.cell? ⟨q.g, 2, none⟩ = some (.bool false) := (SD.out.cell (p := ⟨q.g, 2, none⟩) lg).trans cb7
    have lgd : q.g < wD.heap.size := Nat.lt_of_lt_of_le lg SD.out.size
    obtain ⟨xl, x0, x1, x2, x3, x4, x5, x6⟩ := imgBox7 XD.out
    clear cb7 lg
    by_cases hck : M.check m = 0
    rotate_left
    · have HCN := Lib.hid hck
      have xk : (M.check m == 0) = false := beq_eq_false_iff_ne.2 hck
      refine wp_region_any (by kernel_rfl) ?_
      change wpAny _ _ _ _ _ _ _ (World.drew _)
      rw [hwD]
      clear hwD
      refine wpAny_take (i := 0) (v := ?_) rfl (by kernel_rfl) (by kernel_rfl) (by kernel_rfl) (fun _ _ _ h => h) (Or.inl ⟨by rfl, ?_⟩) ?_
      rotate_left
      · intro w; go_simp; try with_reducible rfl
      go_simp
      refine wpAny_take (i := 1) (v := ?_) rfl (by kernel_rfl) (by kernel_rfl) (by kernel_rfl) (fun _ _ _ h => h) (Or.inl ⟨by rfl, ?_⟩) ?_
      rotate_left
      · intro w; go_simp; try with_reducible rfl
      go_simp
      refine wpAny_take (i := 2) (v := ?_) rfl (by kernel_rfl) (by kernel_rfl) (by kernel_rfl) (fun _ _ _ h => h) (Or.inl ⟨by rfl, ?_⟩) ?_
      rotate_left
      · intro w; go_simp; try with_reducible rfl
      go_simp
      refine wpAny_ready (rs := [3]) (by kernel_rfl) (by simp) ?_
      refine AllReady.cons rfl (fun K hK => ?_) AllReady.nil
      go_simp
      refine hK _ _ ?_; clear hK K
      refine wpAny_take (i := 4) (v := ?_) rfl (by kernel_rfl) (by kernel_rfl) (by kernel_rfl) (fun _ _ _ h => h) (Or.inl ⟨by rfl, ?_⟩) ?_
      rotate_left
      · intro w; go_simp; try with_reducible rfl
      go_simp
      refine wpAny_ready (rs := [5]) (by kernel_rfl) (by simp) ?_
      refine AllReady.cons rfl (fun K hK => ?_) AllReady.nil
      go_simp
      refine hK _ _ ?_; clear hK K
      refine wpAny_ready (rs := [6]) (by kernel_rfl) (by simp) ?_
      refine AllReady.cons rfl (fun K hK => ?_) AllReady.nil
      go_simp
      refine HCK.out.mono ?_; rintro e w2 ⟨rfl, t2⟩
      have S2 := Lib.hid t2
      clear t2
      refine hK _ _ ?_; clear hK K
      refine wpAny_take (i := 7) (v := .bool true) rfl (by kernel_rfl) (by kernel_rfl) (by kernel_rfl) (fun _ _ _ h => h) (Or.inl ⟨by rfl, ?_⟩) ?_
      · intro w; go_simp; try with_reducible rfl
      go_simp
      refine wpAny_take (i := 8) (v := .bool true) rfl (by kernel_rfl) (by kernel_rfl) (by kernel_rfl) (fun _ _ _ h => h) (Or.inl ⟨by rfl, ?_⟩) ?_
      · intro w; go_simp; try with_reducible rfl
      go_simp
      refine wpAny_take (i := 9) (v := ?_) rfl (by kernel_rfl) (by kernel_rfl) (by kernel_rfl) (fun _ _ _ h => h) (Or.inl ⟨by rfl, ?_⟩) ?_
      rotate_left
      · intro w; go_simp; try with_reducible rfl
      go_simp
      refine wpAny_take (i := 10) (v := undef) rfl (by kernel_rfl) (by kernel_rfl) (by kernel_rfl) (fun _ _ _ h => h) (Or.inr ⟨by rfl, rfl⟩) ?_
      go_simp
      refine wpAny_take (i := 11) (v := undef) rfl (by kernel_rfl) (by kernel_rfl) (by kernel_rfl) (fun _ _ _ h => h) (Or.inr ⟨by rfl, rfl⟩) ?_
      go_simp
      refine wpAny_take (i := 12) (v := undef) rfl (by kernel_rfl) (by kernel_rfl) (by kernel_rfl) (fun _ _ _ h => h) (Or.inr ⟨by rfl, rfl⟩) ?_
      go_simp
      refine wpAny_take (i := 13) (v := undef) rfl (by kernel_rfl) (by kernel_rfl) (by kernel_rfl) (fun _ _ _ h => h) (Or.inr ⟨by rfl, rfl⟩) ?_
      go_simp
      refine wpAny_take (i := 14) (v := undef) rfl (by kernel_rfl) (by kernel_rfl) (by kernel_rfl) (fun _ _ _ h => h) (Or.inr ⟨by rfl, rfl⟩) ?_
      go_simp
      refine wpAny_take (i := 15) (v := undef) rfl (by kernel_rfl) (by kernel_rfl) (by kernel_rfl) (fun _ _ _ h => h) (Or.inr ⟨by rfl, rfl⟩) ?_
      go_simp
      refine wpAny_take (i := 16) (v := ?_) rfl (by kernel_rfl) (by kernel_rfl) (by kernel_rfl) (fun _ _ _ h => h) (Or.inl ⟨by rfl, ?_⟩) ?_
      rotate_left
      · intro w; go_simp; try with_reducible rfl
      go_simp
      refine wpAny_done (by kernel_rfl) ?_ _
      have ZR : Hid (Blk w2 z 28 #[.slice none 0 0, .slice none 0 0, .slice none 0 0, .slice none 0 0, .slice none 0 0, .int .i64 0, .int .i64 0]) := S2.out.blk ZD.out
      obtain ⟨zl, z0, z1, z2, z3, z4, z5, z6⟩ := imgBox7 ZR.out
      have v0 := ZR.out.frozen 0
      have v1 := ZR.out.frozen 1
      have v2 := ZR.out.frozen 2
      have v3 := ZR.out.frozen 3
      have v4 := ZR.out.frozen 4
      have v5 := ZR.out.frozen 5
      have v6 := ZR.out.frozen 6
      go_wp2_with fail
      have hb := sets7_blk ZR.out (.slice none 0 0) (.slice none 0 0) (.slice none 0 0) (.slice none 0 0) (.slice none 0 0) (.int .i64 0) (.int .i64 0)
      have ht := sets7_turn w2 z (.slice none 0 0) (.slice none 0 0) (.slice none 0 0) (.slice none 0 0) (.slice none 0 0) (.int .i64 0) (.int .i64 0)
      refine bodyPost_ret (results_row_tmp rfl _ _ z 28 #[.slice none 0 0, .slice none 0 0, .slice none 0 0, .slice none 0 0, .slice none 0 0, .int .i64 0, .int .i64 0] (0, 0) _ rfl hb Tryz.underlying28 rfl (by kernel_rfl)) rfl ?_
      generalize (((((((w2.setCell ⟨z, 0, none⟩ (.slice none 0 0)).setCell ⟨z, 1, none⟩ (.slice none 0 0)).setCell ⟨z, 2, none⟩ (.slice none 0 0)).setCell ⟨z, 3, none⟩ (.slice none 0 0)).setCell ⟨z, 4, none⟩ (.slice none 0 0)).setCell ⟨z, 5, none⟩ (.int .i64 0)).setCell ⟨z, 6, none⟩ (.int .i64 0)) = w9 at ht ⊢
      have hzw := HZW.out
      have hgp := HGP.out
      exact ⟨below4 SW.out TW.out (SD.out.trans S2.out).below ht (by omega) (by omega), .inr ⟨rfl, fun m' h' => by have e := HU.out m' h'; subst e; exact HCN.out h'.2.2⟩⟩
    · have HCZ := Lib.hid hck
      rw [hck] at HCK
      have hlw := HW.out
      have HLEN : Hid ((M.bImg m).length ≤ 100000000) := by
        have := (HIS.out wD (Still.refl _)).len
        show _ ≤ _
        omega
      obtain ⟨XB, hXB⟩ : ∃ XB, M.bel4 ++ M.bImg m = XB := ⟨_, rfl⟩
      have HXB := Lib.hid hXB
      clear hXB
      have HBY : Hid (∀ W, Still wD W → Calls Tryz.prog 18 #[.agg #[.slice a0 i0 c0, .slice a1 i1 c1, .slice a2 i2 c2, .slice a3 i3 c3, .slice a4 i4 c4, .int .i64 mi, .int .i64 ei]] W fun e w' => ∃ zz, e = .returned zz ∧ Holds8 W.heap.size w' zz XB ∧ Below W.heap.size W w') := fun W hW => by
        rw [← HXB.out]
        have := bytes_any (B := W.heap.size) (w := W) (v := ⟨a0, i0, c0, a1, i1, c1, a2, i2, c2, a3, i3, c3, a4, i4, c4, mi, ei⟩) (m := m) (Nat.le_refl _) (HIS.out W hW) HLEN.out
        exact this
      obtain ⟨SL, hSL⟩ : ∃ SL, strOfNums L = SL := ⟨_, rfl⟩
      obtain ⟨SB, hSB⟩ : ∃ SB, strOfNums XB = SB := ⟨_, rfl⟩
      have HSS := Lib.hid (And.intro hSL hSB)
      have HCV : Hid (∀ W, Below wF.heap.size wF W → (convert 22 9 (.slice (some ⟨r, zo, none⟩) L.length c)).run Tryz.prog W = .ok (.string SL) W) := fun W hW => by
        have hrw : Raw wF r zo c L := ⟨Nat.lt_of_lt_of_le RW.out.1.lt TW.out.size, RW.out.1.le, fun j hj => (TW.out.cell (p := ⟨r, zo + j, none⟩) RW.out.1.lt (by have := HGP.out; show r ≠ q.g; omega)).trans (RW.out.1.cells j hj)⟩
        have hrw2 : Raw W r zo c L := ⟨Nat.lt_of_lt_of_le hrw.lt hW.size, hrw.le, fun j hj => (hW.cell (p := ⟨r, zo + j, none⟩) hrw.lt).trans (hrw.cells j hj)⟩
        have := raw_conv hrw2 L.length c (Nat.le_refl _)
        rwa [List.take_length, hSL] at this
      have cvd := HCV.out wD SD.out.below
      clear hSL hck
      refine wp_region_held_drew (S := fun W => W.cell? ⟨q.g, 2, none⟩ = some (.bool false) ∧ W.cell? ⟨w0.heap.size, 0, none⟩ = some (.slice a0 i0 c0) ∧ W.cell? ⟨w0.heap.size, 1, none⟩ = some (.slice a1 i1 c1) ∧ W.cell? ⟨w0.heap.size, 2, none⟩ = some (.slice a2 i2 c2) ∧ W.cell? ⟨w0.heap.size, 3, none⟩ = some (.slice a3 i3 c3) ∧ W.cell? ⟨w0.heap.size, 4, none⟩ = some (.slice a4 i4 c4) ∧ W.cell? ⟨w0.heap.size, 5, none⟩ = some (.int .i64 mi) ∧ W.cell? ⟨w0.heap.size, 6, none⟩ = some (.int .i64 ei) ∧ (convert 22 9 (.slice (some ⟨r, zo, none⟩) L.length c)).run Tryz.prog W = .ok (.string SL) W) (by kernel_rfl) ?_ (fun hHeld => ?_)
      · rw [hwD]; exact ⟨cbd, x0, x1, x2, x3, x4, x5, x6, cvd⟩
      rw [hwD] at hHeld ⊢
      clear hwD
      try simp only [Act.put, List.getElem_toArray, List.getElem_cons_succ, List.getElem_cons_zero, List.setIfInBounds_toArray, List.set_cons_zero, List.set_cons_succ]
      refine wpAnyH_take (i := 0) (v := ?_) rfl (by kernel_rfl) (by kernel_rfl) (by kernel_rfl) (fun _ _ _ h => h) (Or.inl ⟨by rfl, ?_⟩) (by assumption) ?_
      rotate_left
      · intro w hSw; (try dsimp only at hSw); go_simp; try with_reducible rfl
      try simp only [Act.put, List.getElem_toArray, List.getElem_cons_succ, List.getElem_cons_zero, List.setIfInBounds_toArray, List.set_cons_zero, List.set_cons_succ]
      refine wpAnyH_take (i := 1) (v := ?_) rfl (by kernel_rfl) (by kernel_rfl) (by kernel_rfl) (fun _ _ _ h => h) (Or.inl ⟨by rfl, ?_⟩) (by assumption) ?_
      rotate_left
      · intro w hSw; (try dsimp only at hSw); go_simp; try with_reducible rfl
      try simp only [Act.put, List.getElem_toArray, List.getElem_cons_succ, List.getElem_cons_zero, List.setIfInBounds_toArray, List.set_cons_zero, List.set_cons_succ]
      refine wpAnyH_take (i := 2) (v := ?_) rfl (by kernel_rfl) (by kernel_rfl) (by kernel_rfl) (fun _ _ _ h => h) (Or.inl ⟨by rfl, ?_⟩) (by assumption) ?_
      rotate_left
      · intro w hSw; (try dsimp only at hSw); go_simp; try with_reducible rfl
      try simp only [Act.put, List.getElem_toArray, List.getElem_cons_succ, List.getElem_cons_zero, List.setIfInBounds_toArray, List.set_cons_zero, List.set_cons_succ]
      refine wpAnyH_take (i := 3) (v := ?_) rfl (by kernel_rfl) (by kernel_rfl) (by kernel_rfl) (fun _ _ _ h => h) (Or.inl ⟨by rfl, ?_⟩) (by assumption) ?_
      rotate_left
      · intro w hSw; (try dsimp only at hSw); go_simp; try with_reducible rfl
      try simp only [Act.put, List.getElem_toArray, List.getElem_cons_succ, List.getElem_cons_zero, List.setIfInBounds_toArray, List.set_cons_zero, List.set_cons_succ]
      refine wpAnyH_take (i := 4) (v := ?_) rfl (by kernel_rfl) (by kernel_rfl) (by kernel_rfl) (fun _ _ _ h => h) (Or.inl ⟨by rfl, ?_⟩) (by assumption) ?_
      rotate_left
      · intro w hSw; (try dsimp only at hSw); go_simp; try with_reducible rfl
      try simp only [Act.put, List.getElem_toArray, List.getElem_cons_succ, List.getElem_cons_zero, List.setIfInBounds_toArray, List.set_cons_zero, List.set_cons_succ]
      refine wpAnyH_take (i := 5) (v := ?_) rfl (by kernel_rfl) (by kernel_rfl) (by kernel_rfl) (fun _ _ _ h => h) (Or.inl ⟨by rfl, ?_⟩) (by assumption) ?_
      rotate_left
      · intro w hSw; (try dsimp only at hSw); go_simp; try with_reducible rfl
      try simp only [Act.put, List.getElem_toArray, List.getElem_cons_succ, List.getElem_cons_zero, List.setIfInBounds_toArray, List.set_cons_zero, List.set_cons_succ]
      refine wpAnyH_ready (rs := [6]) (by kernel_rfl) (by simp) ?_
      refine AllReadyH.cons rfl (fun K hK => ?_) AllReadyH.nil
      go_simp
      refine HCK.out.mono ?_; rintro e w2 ⟨rfl, t2⟩
      have S2 := Lib.hid t2
      have hb2 := t2.blk XD.out
      obtain ⟨xl', x0', x1', x2', x3', x4', x5', x6'⟩ := imgBox7 hb2
      have cbd2 : w2.cell? ⟨q.g, 2, none⟩ = some (.bool false) := (t2.cell (p := ⟨q.g, 2, none⟩) lgd).trans cbd
      have cv2 := HCV.out w2 (SD.out.trans t2).below
      clear t2 hb2 hHeld
      refine hK.out _ _ ⟨cbd2, x0', x1', x2', x3', x4', x5', x6', cv2⟩ (fun hHeld => ?_)
      clear hK K
      refine wpAnyH_take (i := 7) (v := ?_) rfl (by kernel_rfl) (by kernel_rfl) (by kernel_rfl) (fun _ _ _ h => h) (Or.inl ⟨by rfl, ?_⟩) (by assumption) ?_
      rotate_left
      · intro w hSw; (try dsimp only at hSw); go_simp; try with_reducible rfl
      try simp only [Act.put, List.getElem_toArray, List.getElem_cons_succ, List.getElem_cons_zero, List.setIfInBounds_toArray, List.set_cons_zero, List.set_cons_succ]
      refine wpAnyH_take (i := 8) (v := ?_) rfl (by kernel_rfl) (by kernel_rfl) (by kernel_rfl) (fun _ _ _ h => h) (Or.inl ⟨by rfl, ?_⟩) (by assumption) ?_
      rotate_left
      · intro w hSw; (try dsimp only at hSw); go_simp; try with_reducible rfl
      try simp only [Act.put, List.getElem_toArray, List.getElem_cons_succ, List.getElem_cons_zero, List.setIfInBounds_toArray, List.set_cons_zero, List.set_cons_succ]
      refine wpAnyH_take (i := 9) (v := ?_) rfl (by kernel_rfl) (by kernel_rfl) (by kernel_rfl) (fun _ _ _ h => h) (Or.inl ⟨by rfl, ?_⟩) (by assumption) ?_
      rotate_left
      · intro w hSw; (try dsimp only at hSw); go_simp; try with_reducible rfl
      try simp only [Act.put, List.getElem_toArray, List.getElem_cons_succ, List.getElem_cons_zero, List.setIfInBounds_toArray, List.set_cons_zero, List.set_cons_succ]
      refine wpAnyH_take (i := 10) (v := ?_) rfl (by kernel_rfl) (by kernel_rfl) (by kernel_rfl) (fun _ _ _ h => h) (Or.inl ⟨by rfl, ?_⟩) (by assumption) ?_
      rotate_left
      · intro w hSw; (try dsimp only at hSw); go_simp; try with_reducible rfl
      try simp only [Act.put, List.getElem_toArray, List.getElem_cons_succ, List.getElem_cons_zero, List.setIfInBounds_toArray, List.set_cons_zero, List.set_cons_succ]
      refine wpAnyH_take (i := 13) (v := ?_) rfl (by kernel_rfl) (by kernel_rfl) (by kernel_rfl) (fun _ _ _ h => h) (Or.inl ⟨by rfl, ?_⟩) (by assumption) ?_
      rotate_left
      · intro w hSw; (try dsimp only at hSw); go_simp; try with_reducible rfl
      try simp only [Act.put, List.getElem_toArray, List.getElem_cons_succ, List.getElem_cons_zero, List.setIfInBounds_toArray, List.set_cons_zero, List.set_cons_succ]
      refine wpAnyH_take (i := 14) (v := ?_) rfl (by kernel_rfl) (by kernel_rfl) (by kernel_rfl) (fun _ _ _ h => h) (Or.inl ⟨by rfl, ?_⟩) (by assumption) ?_
      rotate_left
      · intro w hSw; (try dsimp only at hSw); go_simp; try with_reducible rfl
      try simp only [Act.put, List.getElem_toArray, List.getElem_cons_succ, List.getElem_cons_zero, List.setIfInBounds_toArray, List.set_cons_zero, List.set_cons_succ]
      refine wpAnyH_ready (rs := [11]) (by kernel_rfl) (by simp) ?_
      refine AllReadyH.cons rfl (fun K hK => ?_) AllReadyH.nil
      go_simp
      refine (HBY.out w2 S2.out).mono ?_; rintro e w3 ⟨zz, rfl, ⟨az, cz, rfl, hoz⟩, t3⟩
      have S3 := Lib.hid t3
      have lg2 : q.g < w2.heap.size := Nat.lt_of_lt_of_le lgd S2.out.size
      have hb3 := Below.blk t3 (S2.out.blk XD.out)
      obtain ⟨xl3, x03, x13, x23, x33, x43, x53, x63⟩ := imgBox7 hb3
      have cbd3 : w3.cell? ⟨q.g, 2, none⟩ = some (.bool false) := (t3.cell (p := ⟨q.g, 2, none⟩) lg2).trans cbd2
      have cv3 := HCV.out w3 (below_next (SD.out.trans S2.out).below t3)
      have cvz := own_string hoz
      rw [hSB] at cvz
      clear t3 hb3 hHeld hoz
      refine hK.out _ _ ⟨cbd3, x03, x13, x23, x33, x43, x53, x63, cv3⟩ (fun hHeld => ?_)
      clear hK K
      refine wpAnyH_ready (rs := [12]) (by kernel_rfl) (by simp) ?_
      refine AllReadyH.cons rfl (fun K hK => ?_) AllReadyH.nil
      go_simp
      refine hK.out _ _ hHeld (fun hHeld => ?_)
      clear hK K
      obtain ⟨cb, hcb⟩ : ∃ cb, (SB.toList == SL.toList) = cb := ⟨_, rfl⟩
      have HCB := Lib.hid hcb
      refine wpAnyH_take (i := 15) (v := ?_) rfl (by kernel_rfl) (by kernel_rfl) (by kernel_rfl) (fun _ _ _ h => h) (Or.inl ⟨by rfl, ?_⟩) (by assumption) ?_
      rotate_left
      · intro w hSw; (try dsimp only at hSw); go_simp; try with_reducible rfl
      try simp only [Act.put, List.getElem_toArray, List.getElem_cons_succ, List.getElem_cons_zero, List.setIfInBounds_toArray, List.set_cons_zero, List.set_cons_succ]
      refine wpAnyH_take (i := 16) (v := ?_) rfl (by kernel_rfl) (by kernel_rfl) (by kernel_rfl) (fun _ _ _ h => h) (Or.inl ⟨by rfl, ?_⟩) (by assumption) ?_
      rotate_left
      · intro w hSw; (try dsimp only at hSw); go_simp; try with_reducible rfl
      try simp only [Act.put, List.getElem_toArray, List.getElem_cons_succ, List.getElem_cons_zero, List.setIfInBounds_toArray, List.set_cons_zero, List.set_cons_succ]
      refine wpAnyH_done (by kernel_rfl) ?_ _
      clear hHeld cvz cv3 cv2 cvd
      have ZR : Hid (Blk w3 z 28 #[.slice none 0 0, .slice none 0 0, .slice none 0 0, .slice none 0 0, .slice none 0 0, .int .i64 0, .int .i64 0]) := Below.blk S3.out (S2.out.blk ZD.out)
      have BW : Hid (Below wF.heap.size wF w3) := below_next (SD.out.trans S2.out).below S3.out
      cases cb with
      | false =>
        obtain ⟨zl, z0, z1, z2, z3, z4, z5, z6⟩ := imgBox7 ZR.out
        have v0 := ZR.out.frozen 0
        have v1 := ZR.out.frozen 1
        have v2 := ZR.out.frozen 2
        have v3 := ZR.out.frozen 3
        have v4 := ZR.out.frozen 4
        have v5 := ZR.out.frozen 5
        have v6 := ZR.out.frozen 6
        go_wp2_with fail
        have hb := sets7_blk ZR.out (.slice none 0 0) (.slice none 0 0) (.slice none 0 0) (.slice none 0 0) (.slice none 0 0) (.int .i64 0) (.int .i64 0)
        have ht := sets7_turn w3 z (.slice none 0 0) (.slice none 0 0) (.slice none 0 0) (.slice none 0 0) (.slice none 0 0) (.int .i64 0) (.int .i64 0)
        refine bodyPost_ret (results_row_tmp rfl _ _ z 28 #[.slice none 0 0, .slice none 0 0, .slice none 0 0, .slice none 0 0, .slice none 0 0, .int .i64 0, .int .i64 0] (0, 0) _ rfl hb Tryz.underlying28 rfl (by kernel_rfl)) rfl ?_
        generalize (((((((w3.setCell ⟨z, 0, none⟩ (.slice none 0 0)).setCell ⟨z, 1, none⟩ (.slice none 0 0)).setCell ⟨z, 2, none⟩ (.slice none 0 0)).setCell ⟨z, 3, none⟩ (.slice none 0 0)).setCell ⟨z, 4, none⟩ (.slice none 0 0)).setCell ⟨z, 5, none⟩ (.int .i64 0)).setCell ⟨z, 6, none⟩ (.int .i64 0)) = w9 at ht ⊢
        have hzw := HZW.out
        have hgp := HGP.out
        exact ⟨below4 SW.out TW.out BW.out ht (by omega) (by omega), .inr ⟨rfl, fun m' h' => by have e := HU.out m' h'; subst e; have e2 := h'.1; have h3 := HCB.out; rw [← HSS.out.1, ← HSS.out.2, ← HXB.out, ← e2] at h3; simp at h3⟩⟩
      | true =>
        obtain ⟨zl, z0, z1, z2, z3, z4, z5, z6⟩ := imgBox7 ZR.out
        have v0 := ZR.out.frozen 0
        have v1 := ZR.out.frozen 1
        have v2 := ZR.out.frozen 2
        have v3 := ZR.out.frozen 3
        have v4 := ZR.out.frozen 4
        have v5 := ZR.out.frozen 5
        have v6 := ZR.out.frozen 6
        go_wp2_with fail
        have hb := sets7_blk ZR.out (.slice a0 i0 c0) (.slice a1 i1 c1) (.slice a2 i2 c2) (.slice a3 i3 c3) (.slice a4 i4 c4) (.int .i64 mi) (.int .i64 ei)
        have ht := sets7_turn w3 z (.slice a0 i0 c0) (.slice a1 i1 c1) (.slice a2 i2 c2) (.slice a3 i3 c3) (.slice a4 i4 c4) (.int .i64 mi) (.int .i64 ei)
        refine bodyPost_ret (results_row_tmp rfl _ _ z 28 #[.slice a0 i0 c0, .slice a1 i1 c1, .slice a2 i2 c2, .slice a3 i3 c3, .slice a4 i4 c4, .int .i64 mi, .int .i64 ei] (0, 0) _ rfl hb Tryz.underlying28 rfl (by kernel_rfl)) rfl ?_
        generalize (((((((w3.setCell ⟨z, 0, none⟩ (.slice a0 i0 c0)).setCell ⟨z, 1, none⟩ (.slice a1 i1 c1)).setCell ⟨z, 2, none⟩ (.slice a2 i2 c2)).setCell ⟨z, 3, none⟩ (.slice a3 i3 c3)).setCell ⟨z, 4, none⟩ (.slice a4 i4 c4)).setCell ⟨z, 5, none⟩ (.int .i64 mi)).setCell ⟨z, 6, none⟩ (.int .i64 ei)) = w9 at ht ⊢
        have hzw := HZW.out
        have hgp := HGP.out
        have hg0 := G0.out
        have hs1 := SW.out.size
        have hs2 := BW.out.size
        have hs3 := ht.size
        refine ⟨below4 SW.out TW.out BW.out ht (by omega) (by omega), .inl ⟨⟨a0, i0, c0, a1, i1, c1, a2, i2, c2, a3, i3, c3, a4, i4, c4, mi, ei⟩, rfl, m, HM.out.keep ⟨fun b hb => (ht.block b (by have := hb.2.1; omega) (by have := hb.1; omega)).trans (BW.out.block b hb.2.1), fun b hb => ⟨by have := hb.1; omega, by have := hb.2.1; omega⟩⟩, ?_, (HIS.out wD (Still.refl _)).ok (M.check_zero HCZ.out).2, HCZ.out⟩⟩
        have h3 : SB.toList = SL.toList := beq_iff_eq.1 HCB.out
        rw [ByteArray.toList_eq, ByteArray.toList_eq] at h3
        have h4 : SB.data = SL.data := Array.toList_inj.1 h3
        have h5 : strOfNums L = strOfNums (M.bel4 ++ M.bImg m) := by
          rw [HSS.out.1, HXB.out, HSS.out.2]
          exact (ByteArray.ext h4).symm
        exact M.bytes_inj RW.out.2.2.2.1 (M.Bd.app (by intro c hc; simp [M.bel4] at hc; omega) (M.bd_Img m)) h5
end Go.Proofs.YthlifflapgccbaaGreat
