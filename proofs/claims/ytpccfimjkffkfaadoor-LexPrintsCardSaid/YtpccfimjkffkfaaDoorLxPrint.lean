/- Print, of tokens that are no texts and whose numbers are small. -/
import Derived.Test.YtpccfimjkffkfaaDoorLxBuild
namespace Go.Proofs.YtpccfimjkffkfaaDoor
set_option linter.unusedVariables false
set_option linter.unusedSimpArgs false
open Go.ChangeShapes Go.WideShapes Go.ChangeAt Go.RowKit
/-- A token as it is printed (no text's token). -/
def piece (t : Lx.Tok) : List UInt8 := if t.kind = 1 then Lib.decDigits t.n else t.text.map UInt8.ofNat
/-- The first i tokens as they are printed. -/
def prN (ts : List (Lx.Tok × Nat)) : Nat → List UInt8
  | 0 => []
  | i + 1 => prN ts i ++ ((if i = 0 then [] else [32]) ++ match ts[i]? with | some x => piece x.1 | none => [])
theorem prN_le (ts : List (Lx.Tok × Nat)) : ∀ i j, i ≤ j → (prN ts i).length ≤ (prN ts j).length
  | i, 0, h => by cases Nat.le_zero.1 h; exact Nat.le_refl _
  | i, j + 1, h => by
    by_cases e : i = j + 1
    · rw [e]; exact Nat.le_refl _
    · refine Nat.le_trans (prN_le ts i j (by omega)) ?_
      rw [prN, List.length_append]; omega
theorem byteCells_str (L : List Nat) : Lib.strCells (Lx.str L) = Lib.byteCells (L.map UInt8.ofNat) := rfl
/-- Tokens in a row that a call owns. -/
abbrev TokRow (w : World) (B : Nat) (a : Option Addr) (n c : Nat) (ts : List (Lx.Tok × Nat)) : Prop := w.ownsRow B 31 4 (.slice a n c) n (ts.flatMap tokV)
theorem own_oth {w w' : World} {B b n : Nat} {v : Value} {xs : List Value} (h : w.ownsRow B 31 4 v n xs) (ho : Oth b w w') (hb : v.ownBlock ≠ some b) : w'.ownsRow B 31 4 v n xs := by
  obtain ⟨h1, h2⟩ := h
  refine ⟨h1, ?_⟩
  rcases h2 with h0 | ⟨g, cap, cur, rfl, hB, hg, r⟩
  · exact .inl h0
  · exact .inr ⟨g, cap, cur, rfl, hB, ho g _ hg (fun e => hb (by rw [← e]; rfl)) (fun c fz e => by cases e), r⟩
theorem flat_at {ts : List (Lx.Tok × Nat)} : ∀ {i : Nat} {x : Lx.Tok × Nat}, ts[i]? = some x → ∀ j, j < 4 → (ts.flatMap tokV)[i * 4 + j]? = (tokV x)[j]? := by
  induction ts with
  | nil => intro i x h; simp at h
  | cons y l ih =>
    intro i x h j hj
    cases i with
    | zero =>
      obtain rfl : y = x := by simpa using h
      rw [List.flatMap_cons, Nat.zero_mul, Nat.zero_add, List.getElem?_append_left (by simp [tokV]; omega)]
    | succ i =>
      rw [List.flatMap_cons, List.getElem?_append_right (by simp [tokV]; omega)]
      rw [show (i + 1) * 4 + j - (tokV y).length = i * 4 + j by simp [tokV]; omega]
      exact ih (by simpa using h) j hj
theorem tokRow_cells {w : World} {B n c : Nat} {a : Option Addr} {ts : List (Lx.Tok × Nat)} (h : TokRow w B a n c ts) (hn : n = ts.length) {i : Nat} (hi : i < n) : ∃ (g : Nat) (x : Lx.Tok × Nat), a = some ⟨g, 0, none⟩ ∧ ts[i]? = some x ∧ g < w.heap.size ∧
    w.cell? ⟨g, i * 4, none⟩ = some (.int .i64 (x.1.kind : Int)) ∧ w.cell? ⟨g, i * 4 + 1, none⟩ = some (.int .i64 (x.2 : Int)) ∧ w.cell? ⟨g, i * 4 + 2, none⟩ = some (.string (Lx.str x.1.text)) ∧ w.cell? ⟨g, i * 4 + 3, none⟩ = some (.int .i64 (x.1.n : Int)) := by
  have hx : ts[i]? = some ts[i] := List.getElem?_eq_getElem (by omega)
  have hh := h
  rcases h.2 with ⟨h1, h2⟩ | ⟨g, cap, cur, h1, hb, hg, hle, hm, _⟩
  · omega
  · injection h1 with h1 h2 h3
    subst h1 h3
    have hl := hh.1
    refine ⟨g, ts[i], rfl, hx, (Array.getElem?_eq_some_iff.1 hg).1, ?_, ?_, ?_, ?_⟩
    · have := hh.cellAt (i * 4) (by omega); rw [this]; exact flat_at hx 0 (by omega)
    · have := hh.cellAt (i * 4 + 1) (by omega); rw [this]; exact flat_at hx 1 (by omega)
    · have := hh.cellAt (i * 4 + 2) (by omega); rw [this]; exact flat_at hx 2 (by omega)
    · have := hh.cellAt (i * 4 + 3) (by omega); rw [this]; exact flat_at hx 3 (by omega)
/-- No text, and no great number. -/
def Easy (t : Lx.Tok) : Prop := t.kind ≠ 2 ∧ (t.kind = 1 → t.n < 100)
theorem bld_alloc {B b : Nat} {l : List Value} {w : World} (h : Bld B b l w) (o : Obj) : Bld B b l (w.alloc o) := by
  rcases h with ⟨hB, v, hb, ho, hn⟩ | ⟨hB, v, hb, ho, hn⟩
  · exact .inl ⟨hB, v, (Lib.alloc_old w o b (Array.getElem?_eq_some_iff.1 hb).1).trans hb, ho.alloc o, hn⟩
  · exact .inr ⟨hB, v, (Lib.alloc_old w o b (Array.getElem?_eq_some_iff.1 hb).1).trans hb, ho.alloc o, hn⟩
/-- A builder at b that holds L; of what was there when it was made nothing has turned but it and its rows. -/
structure Bs (b : Nat) (L : List UInt8) (w0 w : World) : Prop where
  bld : Bld b b (Lib.byteCells L) w
  below : Below b w0 w
  oth : Oth b w0 w
  low : b < w0.heap.size
theorem Bs.alloc {b : Nat} {L : List UInt8} {w0 w : World} (h : Bs b L w0 w) (o : Obj) : Bs b L w0 (w.alloc o) :=
  ⟨bld_alloc h.bld o, h.below.alloc (by have := h.below.size; have := h.low; omega) o, h.oth.alloc o, h.low⟩
theorem Bs.lt {b : Nat} {L : List UInt8} {w0 w : World} (h : Bs b L w0 w) : b < w.heap.size := by have := h.below.size; have := h.low; omega
theorem Bs.byte {b : Nat} {L : List UInt8} {w0 w : World} (h : Bs b L w0 w) (c : UInt8) (hl : L.length ≤ 100000000) :
    Calls Tryd.prog 26 #[.pointer (some ⟨b, 0, none⟩), .int .u8 (c.toNat : Int)] w fun e w' => e = .returned .nilIface ∧ Bs b (L ++ [c]) w0 w' ∧ Oth b w w' :=
  (writeByte_any (c.toNat : Int) h.bld (by rw [Lib.byteCells_length]; omega) (by have := h.lt; omega)).mono fun e w' ⟨h1, h2, h3, h4⟩ =>
    ⟨h1, ⟨.inr (by rw [Lib.byteCells_append]; exact h2), h.below.trans h3, h.oth.trans h4, h.low⟩, h4⟩
theorem Bs.string {b : Nat} {L : List UInt8} {w0 w : World} (h : Bs b L w0 w) (D : List UInt8) (hl : L.length + D.length ≤ 100000000) :
    Calls Tryd.prog 27 #[.pointer (some ⟨b, 0, none⟩), .string ⟨D.toArray⟩] w fun e w' => (∃ z : Int, e = .returned (.tuple #[.int .i64 z, .nilIface])) ∧ Bs b (L ++ D) w0 w' ∧ Oth b w w' :=
  (writeString_any ⟨D.toArray⟩ h.bld (by rw [Lib.byteCells_length]; show L.length + D.toArray.size ≤ _; rw [List.size_toArray]; omega) (by have := h.lt; omega)).mono fun e w' ⟨h1, h2, h3, h4⟩ =>
    ⟨⟨_, h1⟩, ⟨.inr (by rw [Lib.byteCells_append]; exact h2), h.below.trans h3, h.oth.trans h4, h.low⟩, h4⟩
set_option maxHeartbeats 4000000 in
theorem printEasy_any {w : World} {B n c : Nat} {a : Option Addr} {ts : List (Lx.Tok × Nat)} (h : TokRow w B a n c ts) (hn : n = ts.length) (he : ∀ x ∈ ts, Easy x.1) (hlen : (prN ts n).length ≤ 100000) (hcap : n ≤ 100000000) :
    Calls Tryd.prog 17 #[.slice a n c] w fun e w' => e = .returned (.string ⟨(prN ts n).toArray⟩) ∧ Still w w' := by
  have H := Lib.hid (And.intro h (And.intro hn (And.intro he hlen)))
  clear h hn he hlen
  go_enter Tryd.func17, Tryd.ntmps17
  go_wp2_with fail
  obtain ⟨b, hb⟩ : ∃ b, w.heap.size = b := ⟨_, rfl⟩
  obtain ⟨w1, hw1⟩ : ∃ w1, w.alloc (.cells #[.pointer none, .slice none 0 0] 52) = w1 := ⟨_, rfl⟩
  rw [hw1, hb]
  have hbl : Bld b b (Lib.byteCells []) w1 := by rw [← hw1, ← hb]; exact Lib.fresh_isBuilder _ _ _
  have hrow : TokRow w1 B a n c ts := by rw [← hw1]; exact H.out.1.alloc _
  have hnb : (Value.slice a n c).ownBlock ≠ some b := fun e => by have := H.out.1.lt b e; omega
  have hb1 : b < w1.heap.size := by rw [← hw1, ← hb]; simp
  have hfin : ∀ wr, Below b w1 wr → Still w wr := fun wr hbw => by
    have hbw2 : Below b w wr := (hw1 ▸ (Below.refl b w).alloc (by omega) _ : Below b w w1).trans hbw
    exact Turn.of_below hbw2 fun k hk e => by omega
  have H1 := Lib.hid (And.intro (Bs.mk hbl (Below.refl _ _) (Lib.OthersKept.refl _ _ _) hb1) (And.intro hrow (And.intro hnb hfin)))
  clear hbl hrow hnb hb1 hfin hw1 hb
  go_loopw [8] (fun v wr => ∃ i : Nat, v = .int .i64 i ∧ i ≤ n ∧ Bs b (prN ts i) w1 wr) (fun v _ => n - (intOf v).toNat)
  case atStart => exact ⟨0, rfl, Nat.zero_le _, H1.out.1⟩
  case round =>
    obtain ⟨i, rfl, hi, hbs⟩ := hrel
    have HB := Lib.hid hbs
    clear hbs
    by_cases hlt : i < n
    · obtain ⟨g, x, rfl, hx, g0, g1, g2, g3, g4⟩ := tokRow_cells (own_oth H1.out.2.1 HB.out.oth H1.out.2.2.1) H.out.2.1 hlt
      have hstep : prN ts (i + 1) = prN ts i ++ ((if i = 0 then [] else [32]) ++ piece x.1) := by rw [prN, hx]
      have hmuch : (prN ts (i + 1)).length ≤ 100000 := Nat.le_trans (prN_le ts (i + 1) n hlt) H.out.2.2.2
      have heasy : Easy x.1 := H.out.2.2.1 x (List.mem_of_getElem? hx)
      have HX := Lib.hid (And.intro hstep (And.intro hmuch heasy))
      have HLT := Lib.hid hlt
      have x1 : decide ((i : Int) < n) = true := decide_eq_true (by omega)
      have xk2 : ((x.1.kind : Int) == 2) = false := beq_eq_false_iff_ne.2 (by have := heasy.1; omega)
      have HBX := Lib.hid (Blk.new wr 31 #[.int .i64 (x.1.kind : Int), .int .i64 (x.2 : Int), .string (Lx.str x.1.text), .int .i64 (x.1.n : Int)])
      have HBA := Lib.hid (HB.out.alloc (.cells #[.int .i64 (x.1.kind : Int), .int .i64 (x.2 : Int), .string (Lx.str x.1.text), .int .i64 (x.1.n : Int)] 31))
      have hblt := HB.out.lt
      obtain ⟨nb, hnb⟩ : ∃ nb, wr.heap.size = nb := ⟨_, rfl⟩
      obtain ⟨wA, hwA⟩ : ∃ wA, wr.alloc (.cells #[.int .i64 (x.1.kind : Int), .int .i64 (x.2 : Int), .string (Lx.str x.1.text), .int .i64 (x.1.n : Int)] 31) = wA := ⟨_, rfl⟩
      rw [hwA] at HBX HBA
      rw [hnb] at HBX
      have HWA := Lib.hid hwA
      have HNB := Lib.hid hnb
      have hbn : b ≠ nb := by omega
      have HBN := Lib.hid hbn
      clear hx hstep hmuch heasy hwA hnb hbn hblt
      by_cases hz : i = 0
      · have x2 : decide (0 < i) = false := decide_eq_false (by omega)
        have x3 : ¬0 < i := by omega
        have HZ := Lib.hid hz
        clear hz
        by_cases hk : x.1.kind = 1
        · have xk : ((x.1.kind : Int) == 1) = true := beq_iff_eq.2 (by omega)
          have HK := Lib.hid hk
          clear hk
          go_wp2_with fail
          refine (Tryd.strconv_FormatInt_10_small x.1.n (HX.out.2.2.2 HK.out) _).mono ?_; rintro e w3 ⟨rfl, rfl⟩
          have hpc : piece x.1 = Lib.decDigits x.1.n := by unfold piece; rw [if_pos HK.out]
          have HPC := Lib.hid hpc
          have HS := Lib.hid (HBA.out.string (Lib.decDigits x.1.n) (by have h1 := HX.out.1; have h2 := HX.out.2.1; rw [h1, hpc] at h2; simp only [List.length_append] at h2 ⊢; first | omega | (simp only [List.length_cons, List.length_nil] at h2 ⊢; omega)))
          clear hpc
          go_wp2_with fail
          rw [HWA.out]
          refine HS.out.mono ?_; rintro e w4 ⟨⟨z, rfl⟩, b4, o4⟩
          have B4 := Lib.hid b4
          clear b4 o4 HS
          go_wp2_with fail
          refine ⟨⟨i + 1, by go_num, HLT.out, ?_⟩, by simp [intOf]; have := HLT.out; omega⟩
          rw [HX.out.1, HPC.out, if_pos HZ.out]
          exact B4.out
        · have xk : ((x.1.kind : Int) == 1) = false := beq_eq_false_iff_ne.2 (by omega)
          have HK := Lib.hid hk
          clear hk
          go_wp2_with fail
          have hpc : piece x.1 = x.1.text.map UInt8.ofNat := by unfold piece; rw [if_neg HK.out]
          have HPC := Lib.hid hpc
          have HS := Lib.hid (HBA.out.string (x.1.text.map UInt8.ofNat) (by have h1 := HX.out.1; have h2 := HX.out.2.1; rw [h1, hpc] at h2; simp only [List.length_append] at h2 ⊢; first | omega | (simp only [List.length_cons, List.length_nil] at h2 ⊢; omega)))
          clear hpc
          rw [HWA.out]
          refine HS.out.mono ?_; rintro e w4 ⟨⟨z, rfl⟩, b4, o4⟩
          have B4 := Lib.hid b4
          clear b4 o4 HS
          go_wp2_with fail
          refine ⟨⟨i + 1, by go_num, HLT.out, ?_⟩, by simp [intOf]; have := HLT.out; omega⟩
          rw [HX.out.1, HPC.out, if_pos HZ.out]
          exact B4.out
      · have x2 : decide (0 < i) = true := decide_eq_true (by omega)
        have x3 : 0 < i := by omega
        have HZ := Lib.hid hz
        clear hz
        by_cases hk : x.1.kind = 1
        · have xk : ((x.1.kind : Int) == 1) = true := beq_iff_eq.2 (by omega)
          have HK := Lib.hid hk
          clear hk
          have HC := Lib.hid (HBA.out.byte 32 (by have h1 := HX.out.1; have h2 := HX.out.2.1; rw [h1] at h2; simp only [List.length_append] at h2; omega))
          go_wp2_with fail
          rw [HWA.out, HNB.out]
          refine HC.out.mono ?_; rintro e w2 ⟨rfl, b2, o2⟩
          have B2 := Lib.hid b2
          have K2 := Lib.hid (show Blk w2 nb 31 #[.int .i64 (x.1.kind : Int), .int .i64 (x.2 : Int), .string (Lx.str x.1.text), .int .i64 (x.1.n : Int)] from o2 nb _ HBX.out (fun e => HBN.out (Option.some.inj e).symm) (fun c fz e => by cases e))
          obtain ⟨c0, c1, c2, c3, c4, c5, c6, c7, c8⟩ := tokBox K2.out
          clear b2 o2 HC
          go_wp2_with fail
          refine (Tryd.strconv_FormatInt_10_small x.1.n (HX.out.2.2.2 HK.out) _).mono ?_; rintro e w3 ⟨rfl, rfl⟩
          have hpc : piece x.1 = Lib.decDigits x.1.n := by unfold piece; rw [if_pos HK.out]
          have HPC := Lib.hid hpc
          have HS := Lib.hid (B2.out.string (Lib.decDigits x.1.n) (by have h1 := HX.out.1; have h2 := HX.out.2.1; rw [h1, hpc] at h2; simp only [List.length_append] at h2 ⊢; first | omega | (simp only [List.length_cons, List.length_nil] at h2 ⊢; omega)))
          clear hpc
          go_wp2_with fail
          refine HS.out.mono ?_; rintro e w4 ⟨⟨z, rfl⟩, b4, o4⟩
          have B4 := Lib.hid b4
          clear b4 o4 HS
          go_wp2_with fail
          refine ⟨⟨i + 1, by go_num, HLT.out, ?_⟩, by simp [intOf]; have := HLT.out; omega⟩
          rw [HX.out.1, HPC.out, if_neg HZ.out]
          exact (by rw [← List.append_assoc]; exact B4.out)
        · have xk : ((x.1.kind : Int) == 1) = false := beq_eq_false_iff_ne.2 (by omega)
          have HK := Lib.hid hk
          clear hk
          have HC := Lib.hid (HBA.out.byte 32 (by have h1 := HX.out.1; have h2 := HX.out.2.1; rw [h1] at h2; simp only [List.length_append] at h2; omega))
          go_wp2_with fail
          rw [HWA.out, HNB.out]
          refine HC.out.mono ?_; rintro e w2 ⟨rfl, b2, o2⟩
          have B2 := Lib.hid b2
          have K2 := Lib.hid (show Blk w2 nb 31 #[.int .i64 (x.1.kind : Int), .int .i64 (x.2 : Int), .string (Lx.str x.1.text), .int .i64 (x.1.n : Int)] from o2 nb _ HBX.out (fun e => HBN.out (Option.some.inj e).symm) (fun c fz e => by cases e))
          obtain ⟨c0, c1, c2, c3, c4, c5, c6, c7, c8⟩ := tokBox K2.out
          clear b2 o2 HC
          go_wp2_with fail
          have hpc : piece x.1 = x.1.text.map UInt8.ofNat := by unfold piece; rw [if_neg HK.out]
          have HPC := Lib.hid hpc
          have HS := Lib.hid (B2.out.string (x.1.text.map UInt8.ofNat) (by have h1 := HX.out.1; have h2 := HX.out.2.1; rw [h1, hpc] at h2; simp only [List.length_append] at h2 ⊢; first | omega | (simp only [List.length_cons, List.length_nil] at h2 ⊢; omega)))
          clear hpc
          refine HS.out.mono ?_; rintro e w4 ⟨⟨z, rfl⟩, b4, o4⟩
          have B4 := Lib.hid b4
          clear b4 o4 HS
          go_wp2_with fail
          refine ⟨⟨i + 1, by go_num, HLT.out, ?_⟩, by simp [intOf]; have := HLT.out; omega⟩
          rw [HX.out.1, HPC.out, if_neg HZ.out]
          exact (by rw [← List.append_assoc]; exact B4.out)
    · obtain rfl : i = n := by omega
      have x1 : decide ((i : Int) < i) = false := decide_eq_false (by omega)
      have HS := Lib.hid (Tryd.Builder_String_any b b (prN ts i) wr HB.out.bld (by have := HB.out.lt; omega))
      clear hlt
      go_wp2_with fail
      refine HS.out.mono ?_; rintro e w4 ⟨rfl, t4⟩
      go_wp2_with fail
      go_ret
      exact ⟨rfl, H1.out.2.2.2 _ (HB.out.below.trans t4)⟩
end Go.Proofs.YtpccfimjkffkfaaDoor
