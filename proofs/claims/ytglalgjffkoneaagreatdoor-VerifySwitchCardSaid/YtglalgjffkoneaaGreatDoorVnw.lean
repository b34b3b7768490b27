/- newWalk. -/
import Derived.Test.YtglalgjffkoneaaGreatDoorV3
import Derived.Test.YtglalgjffkoneaaGreatDoorV1
import Derived.Deep.RegionLaw
namespace Go.Proofs.YtglalgjffkoneaaGreatDoor
set_option linter.unusedVariables false
set_option linter.unusedSimpArgs false
open Go.ChangeShapes Go.WideShapes Go.ChangeAt Go.RowKit
/-- While the words are made: the walk's box, the image's; nothing else of old changes. -/
structure NW (w1 wr : World) (X M0 : Nat) (im cs : Array Value) : Prop where
  box : Blk wr X 67 cs
  img : Blk wr M0 27 im
  fr : Turn (fun k => k = X) w1 wr
theorem NW.still {w1 wr w2 : World} {X M0 : Nat} {im cs : Array Value} (h : NW w1 wr X M0 im cs) (t : Still wr w2) : NW w1 w2 X M0 im cs := ⟨t.blk h.box, t.blk h.img, h.fr.trans t.turn⟩
theorem NW.own {w1 wr w2 : World} {X M0 : Nat} {im cs : Array Value} (h : NW w1 wr X M0 im cs) {S : Nat → Prop} (t : Turn S wr w2) (hS : ∀ k, S k → w1.heap.size ≤ k) (hX : X < w1.heap.size) (hM : M0 < w1.heap.size) : NW w1 w2 X M0 im cs :=
  ⟨h.box.keep t fun e => (by have := hS _ e; omega), h.img.keep t fun e => (by have := hS _ e; omega), by
    have t1 : Turn (fun k => k = X ∨ w1.heap.size ≤ k) w1 w2 := (h.fr.mono fun _ _ e => .inl e).trans (t.mono fun k _ e => .inr (hS k e))
    exact t1.mono fun k hk e => e.elim id fun e => by omega⟩
theorem NW.put {w1 wr : World} {X M0 : Nat} {im cs : Array Value} (h : NW w1 wr X M0 im cs) (hM : M0 ≠ X) (i : Nat) (x : Value) : NW w1 (wr.setCell ⟨X, i, none⟩ x) X M0 im (cs.setIfInBounds i x) :=
  have t : Turn (fun k => k = X) wr (wr.setCell ⟨X, i, none⟩ x) := (Turn.refl (fun k => k = X) wr).setCell (p := ⟨X, i, none⟩) (fun _ => rfl) _
  ⟨h.box.set i x, h.img.keep t hM, h.fr.trans t⟩
/-- Where a walk stands when it is new. -/
def walkC (v : ImgV) (ta : Option Addr) (tn tc : Nat) (aa : Option Addr) (an ac : Nat) (nu tx : Value) : Array Value := #[.slice v.ta v.tn v.tc, .slice v.sa v.sn v.sc, .slice v.xa v.xn v.xc, .slice v.na v.nn v.nc, .slice v.fa v.fn v.fc, .int .i64 v.main, .int .i64 v.exn, .slice ta tn tc, .slice aa an ac, nu, tx, .slice none 0 0, .int .i64 0, .int .i64 0, .slice none 0 0, .int .i64 0, .int .i64 0, .int .i64 0, .nilFunc, .nilFunc, .nilFunc, .nilFunc, .nilFunc]
/-- Of each shape, the type of it alone. -/
def alones (n : Nat) : List M.Ty := (List.range n).map fun (s : Nat) => Vf.oneT (s : Int)
theorem alones_take {n j : Nat} (h : j ≤ n) : (alones n).take j = alones j := by
  unfold alones
  rw [← List.map_take, List.take_range, Nat.min_eq_left h]
theorem alones_succ (j : Nat) : alones (j + 1) = alones j ++ [Vf.oneT (j : Int)] := by
  unfold alones
  rw [List.range_succ, List.map_append]
  rfl
def NewR (v : ImgV) (m : M.Img) (w : World) (e : Ending) (w' : World) : Prop := ∃ X ra rc aa ac bs cs b0 c0 base1 base2, (X < base1 ∧ X < base2) ∧ e = .returned (.pointer (some ⟨X, 0, none⟩)) ∧ w.heap.size < X ∧ Blk w' X 67 (walkC v ra v.tn rc aa v.sn ac (.pointer (some ⟨b0, 0, none⟩)) (.pointer (some ⟨c0, 0, none⟩))) ∧ Bag base1 w' ra v.tn rc bs m.types ∧ Bag base2 w' aa v.sn ac cs (alones v.sn) ∧ bs[0]? = some b0 ∧ cs[0]? = some c0 ∧ Still w w'
set_option maxRecDepth 100000 in
set_option maxHeartbeats 8000000 in
theorem newWalk_any {B : Nat} {w : World} {v : ImgV} {m : M.Img} (hp : ImgIs B w v m) (hB : B ≤ w.heap.size) (hin : ∀ t ∈ m.types, ∀ s ∈ t.shapes, 0 ≤ s ∧ s < 512) (ht0 : 0 < v.tn) (hs0 : 0 < v.sn) (ht1 : v.tn ≤ 1024) (hs1 : v.sn ≤ 512) :
    Calls Tryz.prog 18 #[.agg #[.slice v.ta v.tn v.tc, .slice v.sa v.sn v.sc, .slice v.xa v.xn v.xc, .slice v.na v.nn v.nc, .slice v.fa v.fn v.fc, .int .i64 v.main, .int .i64 v.exn]] w (NewR v m w) := by
  have HTN : Hid (m.types.length = v.tn) := hp.types.len
  have HB := Lib.hid hB
  have HIN := Lib.hid hin
  have HSM := Lib.hid (And.intro ht0 (And.intro hs0 (And.intro ht1 hs1)))
  have HK : Hid (∀ {W : World}, Still w W → B ≤ W.heap.size ∧ Lies B W 2 (TyIs B W) v.ta v.tn m.types) := fun {W} hW => ⟨Nat.le_trans hB hW.size, (hp.keep ((Still.below hW).mono hB) hB).types⟩
  obtain ⟨vv, hvv⟩ : ∃ vv, vv = v := ⟨_, rfl⟩
  have HV := Lib.hid hvv
  obtain ⟨ta, tn, tc, sa, sn, sc, xa, xn, xc, na, nn, nc, fa, fn, fc, mi, ei⟩ := v
  dsimp only at HTN HSM HK ht0 hs0 ht1 hs1 ⊢
  clear hp hB hin hvv
  go_enter Tryz.func18, Tryz.ntmps18
  go_wp2_with fail
  have G : Hid (NW ((w.alloc (.cells #[.slice ta tn tc, .slice sa sn sc, .slice xa xn xc, .slice na nn nc, .slice fa fn fc, .int .i64 mi, .int .i64 ei] 27)).alloc (.cells #[.slice ta tn tc, .slice sa sn sc, .slice xa xn xc, .slice na nn nc, .slice fa fn fc, .int .i64 mi, .int .i64 ei, .slice none 0 0, .slice none 0 0, .pointer none, .pointer none, .slice none 0 0, .int .i64 0, .int .i64 0, .slice none 0 0, .int .i64 0, .int .i64 0, .int .i64 0, .nilFunc, .nilFunc, .nilFunc, .nilFunc, .nilFunc] 67)) ((w.alloc (.cells #[.slice ta tn tc, .slice sa sn sc, .slice xa xn xc, .slice na nn nc, .slice fa fn fc, .int .i64 mi, .int .i64 ei] 27)).alloc (.cells #[.slice ta tn tc, .slice sa sn sc, .slice xa xn xc, .slice na nn nc, .slice fa fn fc, .int .i64 mi, .int .i64 ei, .slice none 0 0, .slice none 0 0, .pointer none, .pointer none, .slice none 0 0, .int .i64 0, .int .i64 0, .slice none 0 0, .int .i64 0, .int .i64 0, .int .i64 0, .nilFunc, .nilFunc, .nilFunc, .nilFunc, .nilFunc] 67)) (w.heap.size + 1) w.heap.size #[.slice ta tn tc, .slice sa sn sc, .slice xa xn xc, .slice na nn nc, .slice fa fn fc, .int .i64 mi, .int .i64 ei] #[.slice ta tn tc, .slice sa sn sc, .slice xa xn xc, .slice na nn nc, .slice fa fn fc, .int .i64 mi, .int .i64 ei, .slice none 0 0, .slice none 0 0, .pointer none, .pointer none, .slice none 0 0, .int .i64 0, .int .i64 0, .slice none 0 0, .int .i64 0, .int .i64 0, .int .i64 0, .nilFunc, .nilFunc, .nilFunc, .nilFunc, .nilFunc] ∧ Still w ((w.alloc (.cells #[.slice ta tn tc, .slice sa sn sc, .slice xa xn xc, .slice na nn nc, .slice fa fn fc, .int .i64 mi, .int .i64 ei] 27)).alloc (.cells #[.slice ta tn tc, .slice sa sn sc, .slice xa xn xc, .slice na nn nc, .slice fa fn fc, .int .i64 mi, .int .i64 ei, .slice none 0 0, .slice none 0 0, .pointer none, .pointer none, .slice none 0 0, .int .i64 0, .int .i64 0, .slice none 0 0, .int .i64 0, .int .i64 0, .int .i64 0, .nilFunc, .nilFunc, .nilFunc, .nilFunc, .nilFunc] 67)) ∧ ((w.alloc (.cells #[.slice ta tn tc, .slice sa sn sc, .slice xa xn xc, .slice na nn nc, .slice fa fn fc, .int .i64 mi, .int .i64 ei] 27)).alloc (.cells #[.slice ta tn tc, .slice sa sn sc, .slice xa xn xc, .slice na nn nc, .slice fa fn fc, .int .i64 mi, .int .i64 ei, .slice none 0 0, .slice none 0 0, .pointer none, .pointer none, .slice none 0 0, .int .i64 0, .int .i64 0, .slice none 0 0, .int .i64 0, .int .i64 0, .int .i64 0, .nilFunc, .nilFunc, .nilFunc, .nilFunc, .nilFunc] 67)).heap.size = w.heap.size + 2) := by
    refine ⟨⟨?_, Blk.alloc (Blk.new w _ _) _, Turn.refl _ _⟩, ((Still.refl w).alloc _).alloc _, by simp⟩
    have := Blk.new (w.alloc (.cells #[.slice ta tn tc, .slice sa sn sc, .slice xa xn xc, .slice na nn nc, .slice fa fn fc, .int .i64 mi, .int .i64 ei] 27)) 67 #[.slice ta tn tc, .slice sa sn sc, .slice xa xn xc, .slice na nn nc, .slice fa fn fc, .int .i64 mi, .int .i64 ei, .slice none 0 0, .slice none 0 0, .pointer none, .pointer none, .slice none 0 0, .int .i64 0, .int .i64 0, .slice none 0 0, .int .i64 0, .int .i64 0, .int .i64 0, .nilFunc, .nilFunc, .nilFunc, .nilFunc, .nilFunc]
    rwa [show (w.alloc (.cells #[.slice ta tn tc, .slice sa sn sc, .slice xa xn xc, .slice na nn nc, .slice fa fn fc, .int .i64 mi, .int .i64 ei] 27)).heap.size = w.heap.size + 1 by simp] at this
  generalize (w.alloc (.cells #[.slice ta tn tc, .slice sa sn sc, .slice xa xn xc, .slice na nn nc, .slice fa fn fc, .int .i64 mi, .int .i64 ei] 27)).alloc (.cells #[.slice ta tn tc, .slice sa sn sc, .slice xa xn xc, .slice na nn nc, .slice fa fn fc, .int .i64 mi, .int .i64 ei, .slice none 0 0, .slice none 0 0, .pointer none, .pointer none, .slice none 0 0, .int .i64 0, .int .i64 0, .slice none 0 0, .int .i64 0, .int .i64 0, .int .i64 0, .nilFunc, .nilFunc, .nilFunc, .nilFunc, .nilFunc] 67) = w1 at G ⊢
  obtain ⟨X, hX⟩ : ∃ X, w.heap.size + 1 = X := ⟨_, rfl⟩
  obtain ⟨M0, hM0⟩ : ∃ M0, w.heap.size = M0 := ⟨_, rfl⟩
  have HNUM : Hid (w.heap.size = M0 ∧ X = M0 + 1 ∧ w1.heap.size = M0 + 2) := ⟨hM0, by omega, by rw [G.out.2.2, hM0]⟩
  rw [hX] at G
  rw [hM0] at G
  rw [hX, hM0]
  clear hX hM0
  go_loopw [5, 13] (fun _ z wr => ∃ j bs a c, z = .int .i64 (j : Nat) ∧ j ≤ tn ∧ Bag w1.heap.size wr a j c bs (m.types.take j) ∧ NW w1 wr X M0 #[.slice ta tn tc, .slice sa sn sc, .slice xa xn xc, .slice na nn nc, .slice fa fn fc, .int .i64 mi, .int .i64 ei] #[.slice ta tn tc, .slice sa sn sc, .slice xa xn xc, .slice na nn nc, .slice fa fn fc, .int .i64 mi, .int .i64 ei, .slice a j c, .slice none 0 0, .pointer none, .pointer none, .slice none 0 0, .int .i64 0, .int .i64 0, .slice none 0 0, .int .i64 0, .int .i64 0, .int .i64 0, .nilFunc, .nilFunc, .nilFunc, .nilFunc, .nilFunc]) (fun _ z _ => tn - (intOf z).toNat)
  case atStart => exact ⟨0, [], none, 0, rfl, Nat.zero_le _, Bag.nil _ _, G.out.1⟩
  case round =>
    obtain ⟨j, bs, a, c, rfl, hj, hbag, hnw⟩ := hrel
    have HBG := Lib.hid hbag
    have HNW := Lib.hid hnw
    have SW : Hid (Still w wr) := (G.out.2.1.turn.trans hnw.fr).mono fun k hk e => by have := HNUM.out; omega
    by_cases hlt : j < tn
    · obtain ⟨b1, off, x, cs, rfl, hbB, hxi, hcl, hPx, hcell⟩ := (HK.out SW.out).2.here hlt
      obtain ⟨a2, n2, c2, rfl, hn2, hi2⟩ := hPx
      have d0 : wr.cell? ⟨b1, off + j * 2, none⟩ = some (.bool x.imm) := by simpa using hcell 0 (by decide)
      have d1 : wr.cell? ⟨b1, off + j * 2 + 1, none⟩ = some (.slice a2 n2 c2) := by simpa using hcell 1 (by decide)
      have hbl : b1 < wr.heap.size := World.block_lt_of_cell? _ _ d0
      have hji : (j : Int) < tn := by omega
      have HLT := Lib.hid hlt
      have hxl := HIN.out x (List.mem_of_getElem? hxi)
      have HTK : Hid (m.types.take (j + 1) = m.types.take j ++ [x]) := by show _ = _; rw [List.take_add_one, hxi]; rfl
      have HI2 := Lib.hid (And.intro hi2 (And.intro hn2 hxl))
      have s5 : Still wr (wr.alloc (.cells #[.bool x.imm, .slice a2 n2 c2] 51)) := (Still.refl wr).alloc _
      have G5 : Hid (Still wr (wr.alloc (.cells #[.bool x.imm, .slice a2 n2 c2] 51)) ∧ Blk (wr.alloc (.cells #[.bool x.imm, .slice a2 n2 c2] 51)) wr.heap.size 51 #[.bool x.imm, .slice a2 n2 c2]) := ⟨s5, Blk.new wr _ _⟩
      clear hcell hcl hxi hi2 hn2 hxl hbag hnw s5
      go_wp2_with fail
      clear d0 d1
      generalize wr.alloc (.cells #[.bool x.imm, .slice a2 n2 c2] 51) = w5 at G5 ⊢
      obtain ⟨T5, hT5⟩ : ∃ T5, wr.heap.size = T5 := ⟨_, rfl⟩
      rw [hT5] at G5 hbl
      rw [hT5]
      have HT5 := Lib.hid hT5
      clear hT5
      have SD : Hid (Still w5 w5.drew) := (Still.refl w5).drew
      have SW5 : Hid (Still wr w5.drew) := G5.out.1.trans SD.out
      have e0 : w5.drew.cell? ⟨T5, 0, none⟩ = some (.bool x.imm) := (SD.out.blk G5.out.2).cell 0
      have e1 : w5.drew.cell? ⟨T5, 1, none⟩ = some (.slice a2 n2 c2) := (SD.out.blk G5.out.2).cell 1
      have eX : w5.drew.cell? ⟨X, 7, none⟩ = some (.slice a j c) := (HNW.out.still SW5.out).box.cell 7
      have lT : T5 < w5.drew.heap.size := (SD.out.blk G5.out.2).lt
      have lX : X < w5.drew.heap.size := (HNW.out.still SW5.out).box.lt
      have HC2 := Lib.hid (wordsOf_any (im := x.imm) (c := c2) (HI2.out.1.keep ((Still.below SW5.out).mono (HK.out SW.out).1) (HK.out SW.out).1) HI2.out.2.1 (Nat.le_trans (HK.out SW.out).1 SW5.out.size) HI2.out.2.2)
      go_region_law (first
        | (go_simp; go_at_call 32; (with_reducible refine HC2.out.mono ?_); rintro e w9 ⟨b, rfl, hwd, hge, t9⟩; have T9 := Lib.hid (SW5.out.trans t9); have HWD := Lib.hid hwd; have eX9 : w9.cell? ⟨X, 7, none⟩ = some (.slice a j c) := (HNW.out.still T9.out).box.cell 7; have lX9 : X < w9.heap.size := (HNW.out.still T9.out).box.lt; have HO9 := Lib.hid (HBG.out.still T9.out).own; have HL9 : Hid (w1.heap.size ≤ w9.heap.size) := (Nat.le_trans HNW.out.fr.size T9.out.size); clear hwd hge t9)
        | (refine step_append_form rfl (.tmp 21) (.tmp 24) 58 rfl w1.heap.size 59 1 8 _ Tryz.underlying58 infoTPtr rfl (by decide) a j c (ptrs bs) (by simp [Act.eval]) (HO9.out.alloc _) ⟨w9.heap.size, 0, none⟩ 1 1 [.pointer (some ⟨b, 0, none⟩)] (by simp [Act.eval]) rfl (fun j u hj => by rw [Addr.add_lit, Nat.zero_add, (Blk.new w9 59 #[.pointer (some ⟨b, 0, none⟩)]).cell j]; simpa using hj) (by simp [Value.oneCell']) (by decide) (by have := HLT.out; have := HSM.out; unfold maxLen; omega) (by have := HLT.out; have := HSM.out; omega) (by simp; have := HL9.out; omega) ?_
           intro g4 c4 w4 hr4 ht4 hn4
           have ST4 : Hid (Still wr (w9.alloc (.cells #[.pointer (some ⟨b, 0, none⟩)] 59))) := T9.out.alloc _
           have NW4 := Lib.hid ((HNW.out.still ST4.out).own ht4.out (fun k e => (HO9.out.lt k e).1) (by have := HNUM.out; omega) (by have := HNUM.out; omega))
           have eX4 : w4.cell? ⟨X, 7, none⟩ = some (.slice a j c) := NW4.out.box.cell 7
           have fX4 := NW4.out.box.frozen 7
           have lX4 : X < w4.heap.size := NW4.out.box.lt))
      all_goals
        go_wp2_with fail
        go_roundw
        case rel =>
          refine ⟨j + 1, bs ++ [b], some ⟨g4, 0, none⟩, c4, by go_num, by have := HLT.out; omega, ?_, ?_⟩
          · rw [HTK.out]
            refine Bag.box (Bag.snoc (HBG.out.still ST4.out) (WordsAt.still HWD.out ((Still.refl w9).alloc _)) ht4.out hr4.out) NW4.out.box (by decide) (by have := HNUM.out; omega) ((Turn.refl (fun k => k = X) w4).setCell (p := ⟨X, 7, none⟩) (fun _ => rfl) _)
          · have := NW4.out.put (by have := HNUM.out; omega) 7 (.slice (some ⟨g4, 0, none⟩) (j + 1) c4)
            simpa using this
        case measure => have := HLT.out; simp [intOf]; omega
    · obtain rfl : tn = j := by omega
      have x6 : decide ((tn : Int) < tn) = false := decide_eq_false (by omega)
      have x6' : decide (tn < tn) = false := decide_eq_false (by omega)
      have BG : Hid (Bag w1.heap.size wr a tn c bs m.types) := by
        have := hbag
        rwa [List.take_of_length_le (by rw [HTN.out]; exact Nat.le_refl _)] at this
      have m1 := hnw.img.cell 1
      have lM := hnw.img.lt
      clear hlt hbag hnw
      go_wp2_with fail
      clear m1 lM
      obtain ⟨wl, hwl⟩ : ∃ wl, wl = wr := ⟨_, rfl⟩
      subst hwl
      have HLB : Hid (w1.heap.size ≤ wl.heap.size) := HNW.out.fr.size
      go_loopw [6, 32] (fun _ z wr => ∃ i cs a' c', z = .int .i64 (i : Nat) ∧ i ≤ sn ∧ Bag wl.heap.size wr a' i c' cs (alones i) ∧ Bag w1.heap.size wr a tn c bs m.types ∧ (∀ g, (Value.slice a tn c).ownBlock = some g → g < wl.heap.size) ∧ NW w1 wr X M0 #[.slice ta tn tc, .slice sa sn sc, .slice xa xn xc, .slice na nn nc, .slice fa fn fc, .int .i64 mi, .int .i64 ei] #[.slice ta tn tc, .slice sa sn sc, .slice xa xn xc, .slice na nn nc, .slice fa fn fc, .int .i64 mi, .int .i64 ei, .slice a tn c, .slice a' i c', .pointer none, .pointer none, .slice none 0 0, .int .i64 0, .int .i64 0, .slice none 0 0, .int .i64 0, .int .i64 0, .int .i64 0, .nilFunc, .nilFunc, .nilFunc, .nilFunc, .nilFunc] ∧ wl.heap.size ≤ wr.heap.size) (fun _ z _ => sn - (intOf z).toNat)
      case atStart => exact ⟨0, [], none, 0, rfl, Nat.zero_le _, Bag.nil _ _, BG.out, fun g hg => (BG.out.own.lt g hg).2, HNW.out, Nat.le_refl _⟩
      case round =>
        obtain ⟨i, cs, a', c', rfl, hi, hbag, hbt, hob, hnw, hle⟩ := hrel
        have HBG2 := Lib.hid hbag
        have HBT := Lib.hid hbt
        have HOB := Lib.hid hob
        have HNW2 := Lib.hid hnw
        have HLE := Lib.hid hle
        have SW2 : Hid (Still w wr) := (G.out.2.1.turn.trans hnw.fr).mono fun k hk e => by have := HNUM.out; omega
        clear SW
        by_cases hlt : i < sn
        · have hii : (i : Int) < sn := by omega
          have HLT := Lib.hid hlt
          have SD : Hid (Still wr wr.drew) := (Still.refl wr).drew
          have S5 : Hid (Still wr ((wr.alloc (.cells #[.int .i64 (i : Int)] 3)).drew)) := ((Still.refl wr).alloc _).drew
          have hi512 : i < 512 := by have := HSM.out; omega
          have HINT : Hid (Ints (wr.heap.size + 1) ((wr.alloc (.cells #[.int .i64 (i : Int)] 3)).drew) (some ⟨wr.heap.size, 0, none⟩) 1 [(i : Int)]) := ⟨rfl, fun _ => ⟨wr.heap.size, 0, rfl, by omega, fun k x hk => by
            have : k = 0 := by
              have := (List.getElem?_eq_some_iff.1 hk).1
              simpa using this
            subst this
            simp at hk
            subst hk
            refine ⟨[.int .i64 (i : Int)], rfl, ⟨rfl, by unfold In64; omega⟩, fun j hj => ?_⟩
            have : j = 0 := by omega
            subst this
            exact (Still.blk (show Still (wr.alloc (.cells #[.int .i64 (i : Int)] 3)) _ from (Still.refl _).drew) (Blk.new wr 3 #[.int .i64 (i : Int)])).cell 0⟩⟩
          have HC2 := Lib.hid (wordsOf_any (im := false) (c := 1) HINT.out (by decide) (by simp) (fun x hx => by rw [List.mem_singleton.1 hx]; omega))
          have eX0 : wr.drew.cell? ⟨X, 8, none⟩ = some (.slice a' i c') := (hnw.still SD.out).box.cell 8
          have lX0 : X < wr.drew.heap.size := (hnw.still SD.out).box.lt
          have eX : ((wr.alloc (.cells #[.int .i64 (i : Int)] 3)).drew).cell? ⟨X, 8, none⟩ = some (.slice a' i c') := (hnw.still S5.out).box.cell 8
          have lX : X < ((wr.alloc (.cells #[.int .i64 (i : Int)] 3)).drew).heap.size := (hnw.still S5.out).box.lt
          clear hbag hbt hob hnw hlt hle
          go_wp2_with fail
          go_region_law (first
            | (go_simp; go_at_call 32; (with_reducible refine HC2.out.mono ?_); rintro e w9 ⟨b, rfl, hwd, hge, t9⟩; have T9 := Lib.hid (S5.out.trans t9); have HWD := Lib.hid hwd; have eX9 : w9.cell? ⟨X, 8, none⟩ = some (.slice a' i c') := (HNW2.out.still T9.out).box.cell 8; have lX9 : X < w9.heap.size := (HNW2.out.still T9.out).box.lt; have HO9 := Lib.hid (HBG2.out.still T9.out).own; have HL9 : Hid (wl.heap.size ≤ w9.heap.size) := (Nat.le_trans HLE.out T9.out.size); clear hwd hge t9)
            | (refine step_append_form rfl (.tmp 39) (.tmp 44) 58 rfl wl.heap.size 59 1 8 _ Tryz.underlying58 infoTPtr rfl (by decide) a' i c' (ptrs cs) (by simp [Act.eval]) (HO9.out.alloc _) ⟨w9.heap.size, 0, none⟩ 1 1 [.pointer (some ⟨b, 0, none⟩)] (by simp [Act.eval]) rfl (fun j u hj => by rw [Addr.add_lit, Nat.zero_add, (Blk.new w9 59 #[.pointer (some ⟨b, 0, none⟩)]).cell j]; simpa using hj) (by simp [Value.oneCell']) (by decide) (by have := HLT.out; have := HSM.out; unfold maxLen; omega) (by have := HLT.out; have := HSM.out; omega) (by simp; have := HL9.out; omega) ?_
               intro g4 c4 w4 hr4 ht4 hn4
               have ST4 : Hid (Still wr (w9.alloc (.cells #[.pointer (some ⟨b, 0, none⟩)] 59))) := T9.out.alloc _
               have NW4 := Lib.hid ((HNW2.out.still ST4.out).own ht4.out (fun k e => Nat.le_trans HLB.out (HO9.out.lt k e).1) (by have := HNUM.out; omega) (by have := HNUM.out; omega))
               have eX4 : w4.cell? ⟨X, 8, none⟩ = some (.slice a' i c') := NW4.out.box.cell 8
               have fX4 := NW4.out.box.frozen 8
               have lX4 : X < w4.heap.size := NW4.out.box.lt))
          all_goals
            go_wp2_with fail
            go_roundw
            case rel =>
              have TX : Turn (fun k => k = X) w4 (w4.setCell ⟨X, 8, none⟩ (.slice (some ⟨g4, 0, none⟩) (i + 1) c4)) := (Turn.refl (fun k => k = X) w4).setCell (p := ⟨X, 8, none⟩) (fun _ => rfl) _
              refine ⟨i + 1, cs ++ [b], some ⟨g4, 0, none⟩, c4, by go_num, by have := HLT.out; omega, ?_, ?_, HOB.out, ?_, ?_⟩
              · rw [alones_succ]
                refine Bag.box (Bag.snoc (HBG2.out.still ST4.out) ?_ ht4.out hr4.out) NW4.out.box (by decide) (by have := HNUM.out; have := HLB.out; omega) TX
                exact WordsAt.still HWD.out ((Still.refl w9).alloc _)
              · refine Bag.box ((HBT.out.still ST4.out).keep ht4.out (fun g hg e => ?_) (fun b' im R hb e => ?_)) NW4.out.box (by decide) (by have := HNUM.out; omega) TX
                · have h1 := HOB.out g hg
                  have h2 := (HO9.out.lt g e).1
                  omega
                · obtain ⟨_, cs', hg⟩ := own_row_blk (HO9.out.alloc _) e
                  exact words_ne hb hg (by decide) rfl
              · have := NW4.out.put (by have := HNUM.out; omega) 8 (.slice (some ⟨g4, 0, none⟩) (i + 1) c4)
                simpa using this
              · have h1 := HL9.out
                have h2 := TX.size
                have h3 := ht4.out.size
                have h4 : w9.heap.size ≤ (w9.alloc (.cells #[.pointer (some ⟨b, 0, none⟩)] 59)).heap.size := by simp
                omega
            case measure => have := HLT.out; simp [intOf]; omega
        · obtain rfl : sn = i := by omega
          have x6 : decide ((sn : Int) < sn) = false := decide_eq_false (by omega)
          have x6' : decide (sn < sn) = false := decide_eq_false (by omega)
          clear hlt hbag hbt hob hnw hle
          go_wp2_with fail
          have SD : Hid (Still wr wr.drew) := (Still.refl wr).drew
          have B1 := HBT.out.still SD.out
          have B2 := HBG2.out.still SD.out
          have N1 := HNW2.out.still SD.out
          obtain ⟨g1, rfl, hg1, hg1l, ⟨gc1, hgb1⟩, hc1⟩ := B1.head HSM.out.1
          obtain ⟨g2, rfl, hg2, hg2l, ⟨gc2, hgb2⟩, hc2⟩ := B2.head HSM.out.2.1
          obtain ⟨b0, hb0⟩ : ∃ b0, bs[0]? = some b0 := ⟨_, List.getElem?_eq_getElem (by rw [B1.len]; exact HSM.out.1)⟩
          obtain ⟨c0, hc0⟩ : ∃ c0, cs[0]? = some c0 := ⟨_, List.getElem?_eq_getElem (by rw [B2.len]; exact HSM.out.2.1)⟩
          have r1 : wr.drew.cell? ⟨g1, 0, none⟩ = some (.pointer (some ⟨b0, 0, none⟩)) := hc1 0 b0 hb0
          have r2 : wr.drew.cell? ⟨g2, 0, none⟩ = some (.pointer (some ⟨c0, 0, none⟩)) := hc2 0 c0 hc0
          have x7 : wr.drew.cell? ⟨X, 7, none⟩ = some (.slice (some ⟨g1, 0, none⟩) tn c) := N1.box.cell 7
          have x8 : wr.drew.cell? ⟨X, 8, none⟩ = some (.slice (some ⟨g2, 0, none⟩) sn c') := N1.box.cell 8
          have x9 : wr.drew.cell? ⟨X, 9, none⟩ = some (.pointer none) := N1.box.cell 9
          have x10 : wr.drew.cell? ⟨X, 10, none⟩ = some (.pointer none) := N1.box.cell 10
          have f9 := N1.box.frozen 9
          have f10 := N1.box.frozen 10
          have lX := N1.box.lt
          have n1 : g1 ≠ X := by have := HNUM.out; omega
          have n2 : g2 ≠ X := by have := HNUM.out; have := HLB.out; omega
          have n1' : X ≠ g1 := n1.symm
          have n2' : X ≠ g2 := n2.symm
          have HB0 := Lib.hid (And.intro hb0 hc0)
          have BB := Lib.hid (And.intro B1 (And.intro B2 N1))
          have htn0 : (0 : Int) < tn := by have := HSM.out.1; omega
          have hsn0 : (0 : Int) < sn := by have := HSM.out.2.1; omega
          have htn1 : 0 < tn := HSM.out.1
          have hsn1 : 0 < sn := HSM.out.2.1
          clear hb0 hc0 hc1 hc2 B1 B2 N1 hgb1 hgb2 ht0 hs0 ht1 hs1
          have y7 : wr.cell? ⟨X, 7, none⟩ = some (.slice (some ⟨g1, 0, none⟩) tn c) := HNW2.out.box.cell 7
          have y8 : wr.cell? ⟨X, 8, none⟩ = some (.slice (some ⟨g2, 0, none⟩) sn c') := HNW2.out.box.cell 8
          have y9 : wr.cell? ⟨X, 9, none⟩ = some (.pointer none) := HNW2.out.box.cell 9
          have y10 : wr.cell? ⟨X, 10, none⟩ = some (.pointer none) := HNW2.out.box.cell 10
          have z9 := HNW2.out.box.frozen 9
          have z10 := HNW2.out.box.frozen 10
          have zX := HNW2.out.box.lt
          have q1 : wr.cell? ⟨g1, 0, none⟩ = some (.pointer (some ⟨b0, 0, none⟩)) := r1
          have q2 : wr.cell? ⟨g2, 0, none⟩ = some (.pointer (some ⟨c0, 0, none⟩)) := r2
          go_region
          all_goals
            go_wp2_with fail
            go_ret
            have hMX : M0 ≠ X := by have := HNUM.out; omega
            have N5 := ((HNW2.out.put hMX 9 (.pointer (some ⟨b0, 0, none⟩))).put hMX 10 (.pointer (some ⟨c0, 0, none⟩))).still ((Still.refl _).drew)
            have T5 : Turn (fun k => k = X) wr ((wr.setCell ⟨X, 9, none⟩ (.pointer (some ⟨b0, 0, none⟩))).setCell ⟨X, 10, none⟩ (.pointer (some ⟨c0, 0, none⟩))).drew := (((Turn.refl (fun k => k = X) wr).setCell (p := ⟨X, 9, none⟩) (fun _ => rfl) _).setCell (p := ⟨X, 10, none⟩) (fun _ => rfl) _).drew
            clear y7 y8 y9 y10 z9 z10 zX q1 q2 r1 r2 x7 x8 x9 x10 f9 f10 lX
            generalize ((wr.setCell ⟨X, 9, none⟩ (.pointer (some ⟨b0, 0, none⟩))).setCell ⟨X, 10, none⟩ (.pointer (some ⟨c0, 0, none⟩))).drew = wz at N5 T5 ⊢
            refine ⟨X, some ⟨g1, 0, none⟩, c, some ⟨g2, 0, none⟩, c', bs, cs, b0, c0, w1.heap.size, wl.heap.size, ⟨by have := HNUM.out; omega, by have := HNUM.out; have := HLB.out; omega⟩, rfl, by have := HNUM.out; omega, ?_, Bag.box HBT.out HNW2.out.box (by decide) (by have := HNUM.out; omega) T5, Bag.box HBG2.out HNW2.out.box (by decide) (by have := HNUM.out; have := HLB.out; omega) T5, HB0.out.1, HB0.out.2, ?_⟩
            · simpa [walkC] using N5.box
            · exact (G.out.2.1.turn.trans N5.fr).mono fun k hk e => by have := HNUM.out; omega
end Go.Proofs.YtglalgjffkoneaaGreatDoor
