/- The reader of lex in memory: what it skips. -/
import Derived.Test.YtpccfimjkffkfaaDoorLxRd
namespace Go.Proofs.YtpccfimjkffkfaaDoor
set_option linter.unusedVariables false
set_option linter.unusedSimpArgs false
open Go.ChangeShapes Go.WideShapes Go.ChangeAt Go.RowKit
/-- Only the reader itself may have turned. -/
abbrev At (g : Nat) (w w' : World) : Prop := Turn (fun i => i = g) w w'
theorem At.set {g : Nat} {w w' : World} (h : At g w w') (j : Nat) (v : Value) : At g w (w'.setCell ⟨g, j, none⟩ v) := h.setCell (p := ⟨g, j, none⟩) (fun _ => rfl) _
theorem sees_open {s : ByteArray} {k : Nat} : (Lx.bs ⟨#[40, 42]⟩).isPrefixOf ((Lx.bs s).drop k) = true ↔ ∃ L, (Lx.bs s).drop k = 40 :: 42 :: L := by
  rw [List.isPrefixOf_iff_prefix]
  constructor
  · rintro ⟨t, ht⟩; exact ⟨t, ht.symm⟩
  · rintro ⟨t, ht⟩; exact ⟨t, ht.symm⟩
theorem sees_shut {s : ByteArray} {k : Nat} : (Lx.bs ⟨#[42, 41]⟩).isPrefixOf ((Lx.bs s).drop k) = true ↔ ∃ L, (Lx.bs s).drop k = 42 :: 41 :: L := by
  rw [List.isPrefixOf_iff_prefix]
  constructor
  · rintro ⟨t, ht⟩; exact ⟨t, ht.symm⟩
  · rintro ⟨t, ht⟩; exact ⟨t, ht.symm⟩
/-- What the reader saw so far of a remark, and what is still to come. -/
structure Rem (w wr : World) (g : Nat) (s : ByteArray) (k0 mb : Nat) (k : Nat) (d : Int) (D : Nat) : Prop where
  rd : Rdr wr g s k mb
  turn : At g w wr
  dd : d = (D : Int)
  le : k0 ≤ k ∧ D ≤ k
  pos : D = 0 → k = k0
  eq : 0 < D → Lx.closes 1 ((Lx.bs s).drop (k0 + 2)) = (Lx.closes D ((Lx.bs s).drop k)).map (· + (k - (k0 + 2)))
  in_ : 0 < D → k0 + 2 ≤ k
def place (w : World) (g : Nat) : Nat := match w.cell? ⟨g, 1, none⟩ with
  | some (.int _ z) => z.toNat
  | _ => 0
theorem Rdr.place {w : World} {g : Nat} {s : ByteArray} {k mb : Nat} (h : Rdr w g s k mb) : place w g = k := by
  unfold Go.Proofs.YtpccfimjkffkfaaDoor.place
  rw [h.box.2.2.1]
  simp
theorem atEnd_is {w : World} {g : Nat} {s : ByteArray} {k mb : Nat} (h : Rdr w g s k mb) {b : Bool} (hb : decide (k = s.size) = b) :
    Calls Tryd.prog 23 #[.pointer (some ⟨g, 0, none⟩)] w fun e w' => e = .returned (.bool b) ∧ Still w w' ∧ Rdr w' g s k mb :=
  (atEnd_any h).mono fun e w' ⟨h1, n, h2⟩ => by subst h2; exact ⟨by rw [h1, hb], drewN_still n, h.still (drewN_still n)⟩
theorem sees_is {w : World} {g : Nat} {s : ByteArray} {k mb : Nat} (h : Rdr w g s k mb) (p : ByteArray) {b : Bool} (hb : (Lx.bs p).isPrefixOf ((Lx.bs s).drop k) = b) :
    Calls Tryd.prog 44 #[.pointer (some ⟨g, 0, none⟩), .string p] w fun e w' => e = .returned (.bool b) ∧ Still w w' ∧ Rdr w' g s k mb :=
  (sees_any h p).mono fun e w' ⟨h1, n, h2⟩ => by subst h2; exact ⟨by rw [h1, hb], drewN_still n, h.still (drewN_still n)⟩
theorem next_is {w : World} {g : Nat} {s : ByteArray} {k mb : Nat} (h : Rdr w g s k mb) (p : Nat → Bool) (fid : FuncId) (hfid : ∀ args W, (callFunc fid args).run Tryd.prog W = .ok (.enter fid args) W)
    (hp : ∀ (c : Nat) (W : World), Calls Tryd.prog fid #[.int .u8 c] W fun e w' => e = .returned (.bool (p c)) ∧ w' = W) {b : Bool} (hb : ((Lx.bs s).drop k).head?.any p = b) :
    Calls Tryd.prog 58 #[.pointer (some ⟨g, 0, none⟩), .func (.func fid) #[] #[]] w fun e w' => e = .returned (.bool b) ∧ Still w w' ∧ Rdr w' g s k mb :=
  (next_any h p fid hfid hp).mono fun e w' ⟨h1, n, h2⟩ => by subst h2; exact ⟨by rw [h1, hb], drewN_still n, h.still (drewN_still n)⟩
theorem Rem.step {w wr w1 : World} {g : Nat} {s : ByteArray} {k0 mb k : Nat} {d : Int} {D : Nat} (h : Rem w wr g s k0 mb k d D) (t : At g wr w1) {k' : Nat} {D' : Nat} (hr : Rdr w1 g s k' mb) (hk : k < k') (hD : D' ≤ k') (h0 : 0 < D') (hk2 : k0 + 2 ≤ k')
    (he : 0 < D → Lx.closes D ((Lx.bs s).drop k) = (Lx.closes D' ((Lx.bs s).drop k')).map (· + (k' - k))) (he0 : D = 0 → D' = 1 ∧ k' = k0 + 2) : Rem w w1 g s k0 mb k' (D' : Int) D' := by
  refine ⟨hr, h.turn.trans t, rfl, ⟨by have := h.le; omega, hD⟩, fun e => by omega, fun _ => ?_, fun _ => hk2⟩
  by_cases hd : 0 < D
  · rw [h.eq hd, he hd]
    have := h.in_ hd
    cases Lx.closes D' ((Lx.bs s).drop k') with
    | none => rfl
    | some n => simp only [Option.map_some, Option.some.injEq]; omega
  · obtain ⟨rfl, rfl⟩ := he0 (by omega)
    rw [Nat.sub_self]
    cases Lx.closes 1 ((Lx.bs s).drop (k0 + 2)) <;> rfl
theorem len_of {s : ByteArray} {k : Nat} {L : List Nat} (h : (Lx.bs s).drop k = L) (hL : L ≠ []) : k + L.length = s.size := by
  have := congrArg List.length h
  rw [List.length_drop, Lx.bs_len] at this
  have h2 : 0 < L.length := List.length_pos_iff.2 hL
  omega
theorem drop_next {s : ByteArray} {k : Nat} {a b : Nat} {L : List Nat} (h : (Lx.bs s).drop k = a :: b :: L) : (Lx.bs s).drop (k + 2) = L := by
  rw [← List.drop_drop, h]; rfl
theorem drop_tail {s : ByteArray} {k : Nat} {a : Nat} {L : List Nat} (h : (Lx.bs s).drop k = a :: L) : (Lx.bs s).drop (k + 1) = L := by
  rw [← List.drop_drop, h]; rfl
set_option maxHeartbeats 4000000 in
theorem remark_any {w : World} {g : Nat} {s : ByteArray} {k mb : Nat} (h : Rdr w g s k mb) {L : List Nat} (hL : (Lx.bs s).drop k = 40 :: 42 :: L) :
    Calls Tryd.prog 45 #[.pointer (some ⟨g, 0, none⟩)] w fun e w' => At g w w' ∧ ((∃ n, Lx.closes 1 L = some n ∧ e = .returned (.bool true) ∧ Rdr w' g s (k + 2 + n) mb) ∨ (Lx.closes 1 L = none ∧ e = .returned (.bool false) ∧ Rdr w' g s k mb)) := by
  have HR := Lib.hid h
  have hk2 := len_of hL (by simp)
  simp only [List.length_cons] at hk2
  have hL2 := drop_next hL
  have HL := Lib.hid (And.intro hL hL2)
  have HK := Lib.hid hk2
  have hf := h.few
  obtain ⟨b0, b1, b2, b3, b4⟩ := h.box
  clear h hL hL2 hk2
  go_enter Tryd.func45, Tryd.ntmps45
  go_wp2_with fail
  go_loopw [4] (fun v wr => ∃ (d : Int) (D kk : Nat), v = .int .i64 d ∧ Rem w wr g s k mb kk d D) (fun v wr => s.size - place wr g)
  case atStart => exact ⟨0, 0, k, rfl, HR.out, Turn.refl _ _, rfl, ⟨Nat.le_refl _, Nat.zero_le _⟩, fun _ => rfl, fun h => absurd h (Nat.lt_irrefl _), fun h => absurd h (Nat.lt_irrefl _)⟩
  case round =>
    obtain ⟨d, D, kk, rfl, hm⟩ := hrel
    obtain rfl := hm.dd
    have hrd := hm.rd
    have hle := hrd.le
    have hDk := hm.le.2
    have hf := hrd.few
    have HM := Lib.hid hm
    clear b0 b1 b2 b3 b4 hm
    by_cases hk : kk = s.size
    · have hD0 : 0 < D := Nat.pos_of_ne_zero fun e => by have := HM.out.pos e; have := HK.out; omega
      have hno : Lx.closes 1 L = none := by
        have := HM.out.eq hD0
        rw [HL.out.2, Lx.drop_ge (by omega)] at this
        rw [this]
        obtain ⟨d', rfl⟩ : ∃ d', D = d' + 1 := ⟨D - 1, by omega⟩
        rw [Lx.closes_nil]; rfl
      have HNO := Lib.hid hno
      have HD := Lib.hid hD0
      clear hno hD0
      go_wp2_with fail
      refine (atEnd_is hrd (b := true) (decide_eq_true hk)).mono ?_; rintro e w1 ⟨rfl, t1, r1⟩
      obtain ⟨b0, b1, b2, b3, b4⟩ := r1.box
      have R1 := Lib.hid r1
      have T1 := Lib.hid t1
      clear r1 t1 hrd
      go_wp2_with fail
      go_ret
      exact ⟨At.set (HM.out.turn.trans T1.out.turn) 1 _, .inr ⟨HNO.out, rfl, R1.out.set HR.out.le⟩⟩
    · go_wp2_with fail
      refine (atEnd_is hrd (b := false) (decide_eq_false hk)).mono ?_; rintro e w1 ⟨rfl, t1, r1⟩
      have hlt : kk < s.size := by omega
      cases ho : (Lx.bs ⟨#[40, 42]⟩).isPrefixOf ((Lx.bs s).drop kk) with
      | true =>
        obtain ⟨L', hL'⟩ := sees_open.1 ho
        have hl2 := len_of hL' (by simp)
        simp only [List.length_cons] at hl2
        have HL2 := Lib.hid (And.intro hL' (drop_next hL'))
        have T1 := Lib.hid t1
        have hkk2 : kk + 2 ≤ s.size := by omega
        have h00 : D = 0 → kk = k := HM.out.pos
        have H00 := Lib.hid h00
        clear hrd t1 h00 hL' hk
        go_wp2_with fail
        refine (sees_is r1 _ ho).mono ?_; rintro e w2 ⟨rfl, t2, r2⟩
        have T2 := Lib.hid t2
        obtain ⟨b0, b1, b2, b3, b4⟩ := r2.box
        have R2 := Lib.hid r2
        clear r1 t2 r2 ho
        have x0 : (((D : Int) + 1) == 0) = false := beq_eq_false_iff_ne.2 (by omega)
        have e1 : wrap64 ((D : Int) + 1) = ((D + 1 : Nat) : Int) := by unfold wrap64; omega
        have e2 : wrap64 ((kk : Int) + 2) = ((kk + 2 : Nat) : Int) := by unfold wrap64; omega
        go_wp2_with fail
        have R3 := Lib.hid (R2.out.set (k' := kk + 2) hkk2)
        have M3 : Hid (Rem w (w2.setCell ⟨g, 1, none⟩ (.int .i64 ((kk : Int) + 2))) g s k mb (kk + 2) ((D + 1 : Nat) : Int) (D + 1)) :=
          HM.out.step (At.set ((T1.out.turn).trans T2.out.turn) 1 _) R3.out (by omega) (by omega) (by omega) (by have := HM.out.le; omega) (fun hd => by
            obtain ⟨d', rfl⟩ : ∃ d', D = d' + 1 := ⟨D - 1, by omega⟩
            rw [HL2.out.1, HL2.out.2, Lx.closes_open, show kk + 2 - kk = 2 by omega]) (fun e => ⟨by omega, by rw [H00.out e]⟩)
        have hpl : place (w2.setCell ⟨g, 1, none⟩ (.int .i64 ((kk : Int) + 2))) g = kk + 2 := R3.out.place
        have hpl0 : place wr g = kk := HM.out.rd.place
        refine ⟨⟨_, D + 1, kk + 2, rfl, M3.out⟩, by omega⟩
      | false =>
        have hno : ¬ ∃ L, (Lx.bs s).drop kk = 40 :: 42 :: L := fun e => by rw [sees_open.2 e] at ho; cases ho
        have hD0 : 0 < D := Nat.pos_of_ne_zero fun e => by have := HM.out.pos e; subst this; exact hno ⟨_, HL.out.1⟩
        cases hs : (Lx.bs ⟨#[42, 41]⟩).isPrefixOf ((Lx.bs s).drop kk) with
        | true =>
          obtain ⟨L', hL'⟩ := sees_shut.1 hs
          have hl2 := len_of hL' (by simp)
          simp only [List.length_cons] at hl2
          have HL2 := Lib.hid (And.intro hL' (drop_next hL'))
          have T1 := Lib.hid t1
          have hkk2 : kk + 2 ≤ s.size := by omega
          have HN := Lib.hid hno
          clear hrd t1 hL' hk hno
          obtain ⟨d', rfl⟩ : ∃ d', D = d' + 1 := ⟨D - 1, by omega⟩
          by_cases hd : d' = 0
          · subst hd
            go_wp2_with fail
            refine (sees_is r1 _ ho).mono ?_; rintro e w2 ⟨rfl, t2, r2⟩
            have T2 := Lib.hid t2
            clear r1 t2 ho
            go_wp2_with fail
            refine (sees_is r2 _ hs).mono ?_; rintro e w3 ⟨rfl, t3, r3⟩
            have T3 := Lib.hid t3
            obtain ⟨b0, b1, b2, b3, b4⟩ := r3.box
            have R3 := Lib.hid r3
            clear r2 t3 r3 hs
            go_wp2_with fail
            go_ret
            have hq := HM.out.eq (by omega)
            have hin := HM.out.in_ (by omega)
            rw [HL.out.2, HL2.out.1, Lx.closes_shut, Lx.closes_zero] at hq
            simp only [Option.map_some, Nat.zero_add] at hq
            refine ⟨At.set (((HM.out.turn.trans T1.out.turn).trans T2.out.turn).trans T3.out.turn) 1 _, .inl ⟨_, hq, rfl, ?_⟩⟩
            have he : k + 2 + (2 + (kk - (k + 2))) = kk + 2 := by omega
            rw [he]
            exact R3.out.set (k' := kk + 2) hkk2
          · have x0 : ((((d' + 1 : Nat) : Int) - 1) == 0) = false := beq_eq_false_iff_ne.2 (by omega)
            have x1 : ((d' : Int) == 0) = false := beq_eq_false_iff_ne.2 (by omega)
            go_wp2_with fail
            refine (sees_is r1 _ ho).mono ?_; rintro e w2 ⟨rfl, t2, r2⟩
            have T2 := Lib.hid t2
            clear r1 t2 ho
            go_wp2_with fail
            refine (sees_is r2 _ hs).mono ?_; rintro e w3 ⟨rfl, t3, r3⟩
            have T3 := Lib.hid t3
            obtain ⟨b0, b1, b2, b3, b4⟩ := r3.box
            have R3 := Lib.hid (r3.set (k' := kk + 2) hkk2)
            clear r2 t3 r3 hs
            go_wp2_with fail
            have M3 : Hid (Rem w (w3.setCell ⟨g, 1, none⟩ (.int .i64 ((kk : Int) + 2))) g s k mb (kk + 2) ((d' : Nat) : Int) d') :=
              HM.out.step (At.set (((T1.out.turn).trans T2.out.turn).trans T3.out.turn) 1 _) R3.out (by omega) (by omega) (by omega) (by have := HM.out.in_ (by omega); omega) (fun _ => by
                rw [HL2.out.1, HL2.out.2, Lx.closes_shut, show kk + 2 - kk = 2 by omega]) (fun e => by omega)
            have hpl : place (w3.setCell ⟨g, 1, none⟩ (.int .i64 ((kk : Int) + 2))) g = kk + 2 := R3.out.place
            have hpl0 : place wr g = kk := HM.out.rd.place
            refine ⟨⟨_, d', kk + 2, ?_, M3.out⟩, by omega⟩
            go_num
        | false =>
          have hno2 : ¬ ∃ L, (Lx.bs s).drop kk = 42 :: 41 :: L := fun e => by rw [sees_shut.2 e] at hs; cases hs
          have hc := Lx.drop_lt hlt
          obtain ⟨d', rfl⟩ : ∃ d', D = d' + 1 := ⟨D - 1, by omega⟩
          have hcl : Lx.closes (d' + 1) ((Lx.bs s).drop kk) = (Lx.closes (d' + 1) ((Lx.bs s).drop (kk + 1))).map (· + 1) := by
            rw [hc]
            have hh : ∀ (a b : Nat), (a :: (Lx.bs s).drop (kk + 1)) = (Lx.bs s).drop kk → ((Lx.bs s).drop (kk + 1)).head? = some b → ∃ L, (Lx.bs s).drop kk = a :: b :: L := fun a b e1 e2 => by
              cases hq : (Lx.bs s).drop (kk + 1) with
              | nil => rw [hq] at e2; cases e2
              | cons x y => rw [hq] at e2; cases e2; exact ⟨y, by rw [← e1, hq]⟩
            exact Lx.closes_other _ (fun e => hno (hh 40 42 (by rw [hc, e.1]) e.2)) (fun e => hno2 (hh 42 41 (by rw [hc, e.1]) e.2))
          have HCL := Lib.hid hcl
          have T1 := Lib.hid t1
          have hkk2 : kk + 1 ≤ s.size := by omega
          have x0 : (((d' + 1 : Nat) : Int) == 0) = false := beq_eq_false_iff_ne.2 (by omega)
          clear hrd t1 hk hno hno2 hc hcl
          go_wp2_with fail
          refine (sees_is r1 _ ho).mono ?_; rintro e w2 ⟨rfl, t2, r2⟩
          have T2 := Lib.hid t2
          clear r1 t2 ho
          go_wp2_with fail
          refine (sees_is r2 _ hs).mono ?_; rintro e w3 ⟨rfl, t3, r3⟩
          have T3 := Lib.hid t3
          obtain ⟨b0, b1, b2, b3, b4⟩ := r3.box
          have R3 := Lib.hid (r3.set (k' := kk + 1) hkk2)
          clear r2 t3 r3 hs
          go_wp2_with fail
          have M3 : Hid (Rem w (w3.setCell ⟨g, 1, none⟩ (.int .i64 ((kk : Int) + 1))) g s k mb (kk + 1) ((d' + 1 : Nat) : Int) (d' + 1)) :=
            HM.out.step (At.set (((T1.out.turn).trans T2.out.turn).trans T3.out.turn) 1 _) R3.out (by omega) (by omega) (by omega) (by have := HM.out.in_ (by omega); omega) (fun _ => by
              rw [HCL.out, show kk + 1 - kk = 1 by omega]) (fun e => by omega)
          have hpl : place (w3.setCell ⟨g, 1, none⟩ (.int .i64 ((kk : Int) + 1))) g = kk + 1 := R3.out.place
          have hpl0 : place wr g = kk := HM.out.rd.place
          refine ⟨⟨_, d' + 1, kk + 1, ?_, M3.out⟩, by omega⟩
          go_num
end Go.Proofs.YtpccfimjkffkfaaDoor
