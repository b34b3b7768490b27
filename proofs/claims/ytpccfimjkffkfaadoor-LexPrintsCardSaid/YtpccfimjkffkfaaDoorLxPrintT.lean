/- Print, of tokens whose numbers are small. -/
import Derived.Test.YtpccfimjkffkfaaDoorLxQuote
namespace Go.Proofs.YtpccfimjkffkfaaDoor
set_option linter.unusedVariables false
set_option linter.unusedSimpArgs false
open Go.ChangeShapes Go.WideShapes Go.ChangeAt Go.RowKit
/-- A token as it is printed. -/
def pieceT (t : Lx.Tok) : List UInt8 := if t.kind = 1 then Lib.decDigits t.n else if t.kind = 2 then u8l (34 :: (Lx.qbs t.text ++ [34])) else t.text.map UInt8.ofNat
/-- The first i tokens as they are printed. -/
def prT (ts : List (Lx.Tok × Nat)) : Nat → List UInt8
  | 0 => []
  | i + 1 => prT ts i ++ ((if i = 0 then [] else [32]) ++ match ts[i]? with | some x => pieceT x.1 | none => [])
theorem prT_le (ts : List (Lx.Tok × Nat)) : ∀ i j, i ≤ j → (prT ts i).length ≤ (prT ts j).length
  | i, 0, h => by cases Nat.le_zero.1 h; exact Nat.le_refl _
  | i, j + 1, h => by
    by_cases e : i = j + 1
    · rw [e]; exact Nat.le_refl _
    · refine Nat.le_trans (prT_le ts i j (by omega)) ?_
      rw [prT, List.length_append]; omega
/-- A small number, or a text that is not too long. -/
def EasyT (t : Lx.Tok) : Prop := (t.kind = 2 → t.text.length ≤ 3000 ∧ ∀ c ∈ t.text, c < 256) ∧ (t.kind = 1 → t.n < 100)
set_option maxHeartbeats 4000000 in
theorem printT_any {w : World} {B n c : Nat} {a : Option Addr} {ts : List (Lx.Tok × Nat)} (h : TokRow w B a n c ts) (hn : n = ts.length) (he : ∀ x ∈ ts, EasyT x.1) (hlen : (prT ts n).length ≤ 100000) (hcap : n ≤ 1000000) :
    Calls Tryd.prog 17 #[.slice a n c] w fun e w' => e = .returned (.string ⟨(prT ts n).toArray⟩) ∧ Still w w' := by
  have H := Lib.hid (And.intro h (And.intro hn (And.intro he hlen)))
  clear h hn he hlen
  go_enter Tryd.func17, Tryd.ntmps17
  go_wp2_with fail
  obtain ⟨b, hb⟩ : ∃ b, w.heap.size = b := ⟨_, rfl⟩
  obtain ⟨w1, hw1⟩ : ∃ w1, w.alloc (.cells #[.pointer none, .slice none 0 0] 52) = w1 := ⟨_, rfl⟩
  rw [hw1, hb]
  have hbl : Bld b b (Lib.byteCells []) w1 := by rw [← hw1, ← hb]; exact Lib.fresh_isBuilder _ _ _
  have hrow : TokRow w1 B a n c ts := by rw [← hw1]; exact H.out.1.alloc _
  have hnb : (Value.slice a n c).ownBlock ≠ some b := fun e => by have := H.out.1.lt b e; omega
  have hb1 : b < w1.heap.size := by rw [← hw1, ← hb]; simp
  have hfin : ∀ wr, Below b w1 wr → Still w wr := fun wr hbw => by
    have hbw2 : Below b w wr := (hw1 ▸ (Below.refl b w).alloc (by omega) _ : Below b w w1).trans hbw
    exact Turn.of_below hbw2 fun k hk e => by omega
  have H1 := Lib.hid (And.intro (Bs.mk hbl (Below.refl _ _) (Lib.OthersKept.refl _ _ _) hb1) (And.intro hrow (And.intro hnb hfin)))
  clear hbl hrow hnb hb1 hfin hw1 hb
  go_loopw [8] (fun v wr => ∃ i : Nat, v = .int .i64 i ∧ i ≤ n ∧ Bs b (prT ts i) w1 wr) (fun v _ => n - (intOf v).toNat)
  case atStart => exact ⟨0, rfl, Nat.zero_le _, H1.out.1⟩
  case round =>
    obtain ⟨i, rfl, hi, hbs⟩ := hrel
    have HB := Lib.hid hbs
    clear hbs
    by_cases hlt : i < n
    · obtain ⟨g, x, rfl, hx, g0, g1, g2, g3, g4⟩ := tokRow_cells (own_oth H1.out.2.1 HB.out.oth H1.out.2.2.1) H.out.2.1 hlt
      have hstep : prT ts (i + 1) = prT ts i ++ ((if i = 0 then [] else [32]) ++ pieceT x.1) := by rw [prT, hx]
      have hmuch : (prT ts (i + 1)).length ≤ 100000 := Nat.le_trans (prT_le ts (i + 1) n hlt) H.out.2.2.2
      have heasy : EasyT x.1 := H.out.2.2.1 x (List.mem_of_getElem? hx)
      have HX := Lib.hid (And.intro hstep (And.intro hmuch heasy))
      have HLT := Lib.hid hlt
      have x1 : decide ((i : Int) < n) = true := decide_eq_true (by omega)
      have HBX := Lib.hid (Blk.new wr 31 #[.int .i64 (x.1.kind : Int), .int .i64 (x.2 : Int), .string (Lx.str x.1.text), .int .i64 (x.1.n : Int)])
      have HBA := Lib.hid (HB.out.alloc (.cells #[.int .i64 (x.1.kind : Int), .int .i64 (x.2 : Int), .string (Lx.str x.1.text), .int .i64 (x.1.n : Int)] 31))
      have hblt := HB.out.lt
      obtain ⟨nb, hnb⟩ : ∃ nb, wr.heap.size = nb := ⟨_, rfl⟩
      obtain ⟨wA, hwA⟩ : ∃ wA, wr.alloc (.cells #[.int .i64 (x.1.kind : Int), .int .i64 (x.2 : Int), .string (Lx.str x.1.text), .int .i64 (x.1.n : Int)] 31) = wA := ⟨_, rfl⟩
      rw [hwA] at HBX HBA
      rw [hnb] at HBX
      have HWA := Lib.hid hwA
      have HNB := Lib.hid hnb
      have hbn : b ≠ nb := by omega
      have HBN := Lib.hid hbn
      clear hx hstep hmuch heasy hwA hnb hbn hblt
      by_cases hz : i = 0
      · have x2 : decide (0 < i) = false := decide_eq_false (by omega)
        have x3 : ¬0 < i := by omega
        have HZ := Lib.hid hz
        clear hz
        by_cases hk : x.1.kind = 1
        · have xk : ((x.1.kind : Int) == 1) = true := beq_iff_eq.2 (by omega)
          have HK := Lib.hid hk
          clear hk
          go_wp2_with fail
          refine (Tryd.strconv_FormatInt_10_small x.1.n (HX.out.2.2.2 HK.out) _).mono ?_; rintro e w3 ⟨rfl, rfl⟩
          have hpc : pieceT x.1 = Lib.decDigits x.1.n := by unfold pieceT; rw [if_pos HK.out]
          have HPC := Lib.hid hpc
          have HS := Lib.hid (HBA.out.string (Lib.decDigits x.1.n) (by have h1 := HX.out.1; have h2 := HX.out.2.1; rw [h1, hpc] at h2; simp only [List.length_append] at h2 ⊢; first | omega | (simp only [List.length_cons, List.length_nil] at h2 ⊢; omega)))
          clear hpc
          go_wp2_with fail
          rw [HWA.out]
          refine HS.out.mono ?_; rintro e w4 ⟨⟨z, rfl⟩, b4, o4⟩
          have B4 := Lib.hid b4
          clear b4 o4 HS
          go_wp2_with fail
          refine ⟨⟨i + 1, by go_num, HLT.out, ?_⟩, by simp [intOf]; have := HLT.out; omega⟩
          rw [HX.out.1, HPC.out, if_pos HZ.out]
          exact B4.out
        · have xk : ((x.1.kind : Int) == 1) = false := beq_eq_false_iff_ne.2 (by omega)
          by_cases hk2 : x.1.kind = 2
          · have xk2 : ((x.1.kind : Int) == 2) = true := beq_iff_eq.2 (by omega)
            have HK2 := Lib.hid hk2
            clear hk2
            have HK := Lib.hid hk
            clear hk
            go_wp2_with fail
            have hpc : pieceT x.1 = u8l (34 :: (Lx.qbs x.1.text ++ [34])) := by unfold pieceT; rw [if_neg HK.out, if_pos HK2.out]
            have HPC := Lib.hid hpc
            have hsz : (Lx.str x.1.text).size = x.1.text.length := by rw [← Lx.bs_len, Lx.bs_str (HX.out.2.2.1 HK2.out).2]
            have HS := Lib.hid (quote_any HBA.out (Lx.str x.1.text) (by rw [hsz]; exact (HX.out.2.2.1 HK2.out).1) (by have h1 := HX.out.1; have h2 := HX.out.2.1; rw [h1] at h2; simp only [List.length_append, List.length_cons, List.length_nil] at h2 ⊢; omega))
            rw [Lx.bs_str (HX.out.2.2.1 HK2.out).2] at HS
            clear hpc
            rw [HWA.out]
            refine HS.out.mono ?_; rintro e w4 ⟨⟨v, rfl⟩, b4, o4⟩
            have B4 := Lib.hid b4
            clear b4 o4 HS
            go_wp2_with fail
            refine ⟨⟨i + 1, by go_num, HLT.out, ?_⟩, by simp [intOf]; have := HLT.out; omega⟩
            rw [HX.out.1, HPC.out, if_pos HZ.out]
            exact B4.out
          · have xk2 : ((x.1.kind : Int) == 2) = false := beq_eq_false_iff_ne.2 (by omega)
            have HK2 := Lib.hid hk2
            clear hk2
            have HK := Lib.hid hk
            clear hk
            go_wp2_with fail
            have hpc : pieceT x.1 = x.1.text.map UInt8.ofNat := by unfold pieceT; rw [if_neg HK.out, if_neg HK2.out]
            have HPC := Lib.hid hpc
            have HS := Lib.hid (HBA.out.string (x.1.text.map UInt8.ofNat) (by have h1 := HX.out.1; have h2 := HX.out.2.1; rw [h1, hpc] at h2; simp only [List.length_append] at h2 ⊢; first | omega | (simp only [List.length_cons, List.length_nil] at h2 ⊢; omega)))
            clear hpc
            rw [HWA.out]
            refine HS.out.mono ?_; rintro e w4 ⟨⟨z, rfl⟩, b4, o4⟩
            have B4 := Lib.hid b4
            clear b4 o4 HS
            go_wp2_with fail
            refine ⟨⟨i + 1, by go_num, HLT.out, ?_⟩, by simp [intOf]; have := HLT.out; omega⟩
            rw [HX.out.1, HPC.out, if_pos HZ.out]
            exact B4.out
      · have x2 : decide (0 < i) = true := decide_eq_true (by omega)
        have x3 : 0 < i := by omega
        have HZ := Lib.hid hz
        clear hz
        by_cases hk : x.1.kind = 1
        · have xk : ((x.1.kind : Int) == 1) = true := beq_iff_eq.2 (by omega)
          have HK := Lib.hid hk
          clear hk
          have HC := Lib.hid (HBA.out.byte 32 (by have h1 := HX.out.1; have h2 := HX.out.2.1; rw [h1] at h2; simp only [List.length_append] at h2; omega))
          go_wp2_with fail
          rw [HWA.out, HNB.out]
          refine HC.out.mono ?_; rintro e w2 ⟨rfl, b2, o2⟩
          have B2 := Lib.hid b2
          have K2 := Lib.hid (show Blk w2 nb 31 #[.int .i64 (x.1.kind : Int), .int .i64 (x.2 : Int), .string (Lx.str x.1.text), .int .i64 (x.1.n : Int)] from o2 nb _ HBX.out (fun e => HBN.out (Option.some.inj e).symm) (fun c fz e => by cases e))
          obtain ⟨c0, c1, c2, c3, c4, c5, c6, c7, c8⟩ := tokBox K2.out
          clear b2 o2 HC
          go_wp2_with fail
          refine (Tryd.strconv_FormatInt_10_small x.1.n (HX.out.2.2.2 HK.out) _).mono ?_; rintro e w3 ⟨rfl, rfl⟩
          have hpc : pieceT x.1 = Lib.decDigits x.1.n := by unfold pieceT; rw [if_pos HK.out]
          have HPC := Lib.hid hpc
          have HS := Lib.hid (B2.out.string (Lib.decDigits x.1.n) (by have h1 := HX.out.1; have h2 := HX.out.2.1; rw [h1, hpc] at h2; simp only [List.length_append] at h2 ⊢; first | omega | (simp only [List.length_cons, List.length_nil] at h2 ⊢; omega)))
          clear hpc
          go_wp2_with fail
          refine HS.out.mono ?_; rintro e w4 ⟨⟨z, rfl⟩, b4, o4⟩
          have B4 := Lib.hid b4
          clear b4 o4 HS
          go_wp2_with fail
          refine ⟨⟨i + 1, by go_num, HLT.out, ?_⟩, by simp [intOf]; have := HLT.out; omega⟩
          rw [HX.out.1, HPC.out, if_neg HZ.out]
          exact (by rw [← List.append_assoc]; exact B4.out)
        · have xk : ((x.1.kind : Int) == 1) = false := beq_eq_false_iff_ne.2 (by omega)
          by_cases hk2 : x.1.kind = 2
          · have xk2 : ((x.1.kind : Int) == 2) = true := beq_iff_eq.2 (by omega)
            have HK2 := Lib.hid hk2
            clear hk2
            have HK := Lib.hid hk
            clear hk
            have HC := Lib.hid (HBA.out.byte 32 (by have h1 := HX.out.1; have h2 := HX.out.2.1; rw [h1] at h2; simp only [List.length_append] at h2; omega))
            go_wp2_with fail
            rw [HWA.out, HNB.out]
            refine HC.out.mono ?_; rintro e w2 ⟨rfl, b2, o2⟩
            have B2 := Lib.hid b2
            have K2 := Lib.hid (show Blk w2 nb 31 #[.int .i64 (x.1.kind : Int), .int .i64 (x.2 : Int), .string (Lx.str x.1.text), .int .i64 (x.1.n : Int)] from o2 nb _ HBX.out (fun e => HBN.out (Option.some.inj e).symm) (fun c fz e => by cases e))
            obtain ⟨c0, c1, c2, c3, c4, c5, c6, c7, c8⟩ := tokBox K2.out
            clear b2 o2 HC
            go_wp2_with fail
            have hpc : pieceT x.1 = u8l (34 :: (Lx.qbs x.1.text ++ [34])) := by unfold pieceT; rw [if_neg HK.out, if_pos HK2.out]
            have HPC := Lib.hid hpc
            have hsz : (Lx.str x.1.text).size = x.1.text.length := by rw [← Lx.bs_len, Lx.bs_str (HX.out.2.2.1 HK2.out).2]
            have HS := Lib.hid (quote_any B2.out (Lx.str x.1.text) (by rw [hsz]; exact (HX.out.2.2.1 HK2.out).1) (by have h1 := HX.out.1; have h2 := HX.out.2.1; rw [h1] at h2; simp only [List.length_append, List.length_cons, List.length_nil] at h2 ⊢; omega))
            rw [Lx.bs_str (HX.out.2.2.1 HK2.out).2] at HS
            clear hpc
            refine HS.out.mono ?_; rintro e w4 ⟨⟨v, rfl⟩, b4, o4⟩
            have B4 := Lib.hid b4
            clear b4 o4 HS
            go_wp2_with fail
            refine ⟨⟨i + 1, by go_num, HLT.out, ?_⟩, by simp [intOf]; have := HLT.out; omega⟩
            rw [HX.out.1, HPC.out, if_neg HZ.out]
            exact (by rw [← List.append_assoc]; exact B4.out)
          · have xk2 : ((x.1.kind : Int) == 2) = false := beq_eq_false_iff_ne.2 (by omega)
            have HK2 := Lib.hid hk2
            clear hk2
            have HK := Lib.hid hk
            clear hk
            have HC := Lib.hid (HBA.out.byte 32 (by have h1 := HX.out.1; have h2 := HX.out.2.1; rw [h1] at h2; simp only [List.length_append] at h2; omega))
            go_wp2_with fail
            rw [HWA.out, HNB.out]
            refine HC.out.mono ?_; rintro e w2 ⟨rfl, b2, o2⟩
            have B2 := Lib.hid b2
            have K2 := Lib.hid (show Blk w2 nb 31 #[.int .i64 (x.1.kind : Int), .int .i64 (x.2 : Int), .string (Lx.str x.1.text), .int .i64 (x.1.n : Int)] from o2 nb _ HBX.out (fun e => HBN.out (Option.some.inj e).symm) (fun c fz e => by cases e))
            obtain ⟨c0, c1, c2, c3, c4, c5, c6, c7, c8⟩ := tokBox K2.out
            clear b2 o2 HC
            go_wp2_with fail
            have hpc : pieceT x.1 = x.1.text.map UInt8.ofNat := by unfold pieceT; rw [if_neg HK.out, if_neg HK2.out]
            have HPC := Lib.hid hpc
            have HS := Lib.hid (B2.out.string (x.1.text.map UInt8.ofNat) (by have h1 := HX.out.1; have h2 := HX.out.2.1; rw [h1, hpc] at h2; simp only [List.length_append] at h2 ⊢; first | omega | (simp only [List.length_cons, List.length_nil] at h2 ⊢; omega)))
            clear hpc
            refine HS.out.mono ?_; rintro e w4 ⟨⟨z, rfl⟩, b4, o4⟩
            have B4 := Lib.hid b4
            clear b4 o4 HS
            go_wp2_with fail
            refine ⟨⟨i + 1, by go_num, HLT.out, ?_⟩, by simp [intOf]; have := HLT.out; omega⟩
            rw [HX.out.1, HPC.out, if_neg HZ.out]
            exact (by rw [← List.append_assoc]; exact B4.out)
    · obtain rfl : i = n := by omega
      have x1 : decide ((i : Int) < i) = false := decide_eq_false (by omega)
      have HS := Lib.hid (Tryd.Builder_String_any b b (prT ts i) wr HB.out.bld (by have := HB.out.lt; omega))
      clear hlt
      go_wp2_with fail
      refine HS.out.mono ?_; rintro e w4 ⟨rfl, t4⟩
      go_wp2_with fail
      go_ret
      exact ⟨rfl, H1.out.2.2.2 _ (HB.out.below.trans t4)⟩
end Go.Proofs.YtpccfimjkffkfaaDoor
