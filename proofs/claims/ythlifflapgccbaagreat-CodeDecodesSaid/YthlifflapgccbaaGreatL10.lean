/- Lemmas, put together: RefNum RefText. -/
import Derived.Test.YthlifflapgccbaaGreatL07
import Derived.Test.YthlifflapgccbaaGreatWrText
import Derived.ArgAppend
import Derived.Lib.SmallJoins
/- The document's numbers, lists and texts, one behind the other. -/
namespace Go.Proofs.YthlifflapgccbaaGreat
set_option linter.unusedVariables false
open Go.ChangeShapes Go.WideShapes Go.ChangeAt Go.RowKit
open M (W)
/-- A row of bytes of the call's own. -/
def Holds8 (B : Nat) (w : World) (v : Value) (xs : List Int) : Prop := ∃ a c, v = .slice a xs.length c ∧ w.ownsRow B 5 1 v xs.length (xs.map (Value.int .u8))
/-- From w to w' a row grew, the value v into v'; all else stands. -/
structure Grew (B : Nat) (w w' : World) (v v' : Value) : Prop where
  below : Below B w w'
  turn : Turn (fun k => v.ownBlock = some k) w w'
  own : ∀ b, v'.ownBlock = some b → v.ownBlock = some b ∨ w.heap.size ≤ b
theorem Grew.refl (B : Nat) (w : World) (v : Value) : Grew B w w v v := ⟨Below.refl _ _, Turn.refl _ _, fun b h => .inl h⟩
theorem Grew.trans {B : Nat} {w w1 w2 : World} {v v1 v2 : Value} (h : Grew B w w1 v v1) (k : Grew B w1 w2 v1 v2) : Grew B w w2 v v2 :=
  ⟨h.below.trans k.below, ⟨k.turn.os.trans h.turn.os, k.turn.tape.trans h.turn.tape, k.turn.output.trans h.turn.output, Nat.le_trans h.turn.size k.turn.size, fun b hb hn => by
    have hn1 : ¬ v1.ownBlock = some b := fun e => by
      rcases h.own b e with e | e
      · exact hn e
      · omega
    exact (k.turn.block b (Nat.lt_of_lt_of_le hb h.turn.size) hn1).trans (h.turn.block b hb hn)⟩, fun b hb => by
    rcases k.own b hb with e | e
    · exact h.own b e
    · exact .inr (Nat.le_trans h.turn.size e)⟩
theorem Grew.of_still {B : Nat} {w w' : World} (v : Value) (t : Still w w') (hB : B ≤ w.heap.size) : Grew B w w' v v := ⟨(Still.below t).mono hB, Still.turn t, fun b h => .inl h⟩
theorem Holds8.keep {B : Nat} {w w' : World} {v : Value} {xs : List Int} (h : Holds8 B w v xs) (t : Still w w') : Holds8 B w' v xs := by
  obtain ⟨a, c, rfl, ho⟩ := h
  exact ⟨a, c, rfl, own_keep ho t (fun _ _ e => e)⟩
theorem Holds8.not_blk {B g : Nat} {w : World} {v : Value} {xs : List Int} {t : TypeId} {cs : Array Value} (h : Holds8 B w v xs) (hb : Blk w g t cs) (hne : 5 ≠ t) : ¬ v.ownBlock = some g := by
  obtain ⟨a, c, rfl, ho⟩ := h
  exact own_blk ho hb hne
theorem Grew.blk {B g : Nat} {w w' : World} {v v' : Value} {xs : List Int} {t : TypeId} {cs : Array Value} (k : Grew B w w' v v') (h : Holds8 B w v xs) (hb : Blk w g t cs) (hne : 5 ≠ t) : Blk w' g t cs :=
  hb.keep k.turn (h.not_blk hb hne)
set_option maxRecDepth 100000 in
theorem refNum_any (n : Int) {B : Nat} {v : Value} {xs : List Int} {w : World} (h : Holds8 B w v xs) (hB : B ≤ w.heap.size) (hn : In64 n) (hx : xs.length ≤ 1000000000) :
    Calls Tryz.prog 46 #[v, .int .i64 n] w fun e w' => ∃ v', e = .returned v' ∧ Holds8 B w' v' (xs ++ M.num n) ∧ Grew B w w' v v' := by
  obtain ⟨a, c, rfl, ho⟩ := h
  have HO := Lib.hid ho
  have HB := Lib.hid hB
  have HX := Lib.hid hx
  have HP := Lib.hid (refPut_any n w hn.1 hn.2)
  have HL := Lib.hid (M.num_len hn)
  have HE := Lib.hid (M.enc_pos (M.zig n))
  clear ho hB hx hn
  generalize hk : xs.length = k at *
  have HK := Lib.hid hk
  clear hk
  go_enter Tryz.func46, Tryz.ntmps46
  go_wp2_with fail
  refine HP.out.mono ?_; rintro e wp ⟨vp, rfl, hop, hbp⟩
  obtain ⟨ap, cp, rfl⟩ := own_slice hop
  obtain ⟨gp, rfl, hgp, hgc, hgm, hcell, _⟩ := own_form hop HE.out
  have HOP := Lib.hid (own_later HO.out hbp)
  have HBP := Lib.hid hbp
  have HC := Lib.hid hcell
  clear hop hbp hcell hgc hgm hgp
  go_wp2_with (at_builtin; refine wpList_append_form rfl (.tmp 5) (.tmp 7) 22 rfl B 5 1 1 (.int .u8 0) Tryz.underlying22 infoU8 rfl (by decide) a k c (xs.map (Value.int .u8)) rfl HOP.out ⟨gp, 0, none⟩ (M.enc (M.zig n)).length cp ((M.enc (M.zig n)).map (Value.int .u8)) rfl (by simp) (fun j u hj => by
          have := HC.out j u hj
          rwa [show (⟨gp, j, none⟩ : Addr) = (⟨gp, 0, none⟩ : Addr).add j by by_cases hj0 : j = 0 <;> simp [Addr.add, hj0]] at this) (fun u hu => by obtain ⟨z, _, rfl⟩ := List.mem_map.1 hu; rfl) HE.out (by have := HL.out; have := HX.out; simp only [M.num] at *; unfold maxLen; omega) (by have := HL.out; have := HX.out; simp only [M.num] at *; omega) (by have := HBP.out.size; have := HB.out; omega) ?_; intro g' c' w4 hr4 ht4 hn4)
  go_ret
  have hk : (xs ++ M.num n).length = k + (M.enc (M.zig n)).length := by rw [List.length_append, HK.out]; rfl
  refine ⟨_, rfl, ⟨some ⟨g', 0, none⟩, c', by rw [hk]; rfl, ?_⟩, ?_⟩
  · rw [hk, List.map_append]; exact hr4.out
  · refine ⟨(HBP.out.mono HB.out).trans (ht4.out.below (Nat.le_trans HB.out HBP.out.size) (fun b hb => (HO.out.lt b hb).1)), (Turn.of_below HBP.out (fun k h1 h2 => by omega)).trans ht4.out, fun b hb => ?_⟩
    rcases hn4.out with e | e
    · have : g' = b := by simpa [Value.ownBlock] using hb
      exact .inl (this ▸ e)
    · have : g' = b := by simpa [Value.ownBlock] using hb
      have := HBP.out.size
      exact .inr (by omega)
set_option maxRecDepth 100000 in
theorem refNums_any {B : Nat} {v : Value} {xs l : List Int} {w : World} {a : Option Addr} {n c : Nat} (h : Holds8 B w v xs) (hB : B ≤ w.heap.size) (hl : Ints B w a n l) (hn : n ≤ maxLen) (hx : (xs ++ M.nums l).length ≤ 1000000000) :
    Calls Tryz.prog 47 #[v, .slice a n c] w fun e w' => ∃ v', e = .returned v' ∧ Holds8 B w' v' (xs ++ M.nums l) ∧ Grew B w w' v v' := by
  have HB := Lib.hid hB
  have HL := Lib.hid hl
  have HX := Lib.hid hx
  have HLEN := Lib.hid hl.len
  have hn63 : n ≤ 9223372036854775807 := by unfold maxLen at hn; omega
  have hx' := hx
  simp only [M.nums, M.many, List.length_append] at hx'
  have HN := Lib.hid (refNum_any (n : Int) h hB (M.num_nat hn) (by omega))
  clear h hB hl hx hx' hn
  go_enter Tryz.func47, Tryz.ntmps47
  go_wp2_with fail
  refine HN.out.mono ?_; rintro e w1 ⟨v1, rfl, h1, g1⟩
  have H1 := Lib.hid (And.intro h1 g1)
  clear h1 g1
  go_wp2_with fail
  go_loopw [0, 13] (fun z q wr => ∃ i : Nat, q = .int .i64 i ∧ i ≤ n ∧ Holds8 B wr z (xs ++ M.num n ++ (l.take i).flatMap M.num) ∧ Grew B w wr v z) (fun _ q _ => n - (intOf q).toNat)
  case atStart => exact ⟨0, rfl, by omega, by simpa using H1.out.1, H1.out.2⟩
  case round =>
    obtain ⟨i, rfl, hi, hh, hg⟩ := hrel
    by_cases hlt : i < n
    · obtain ⟨b, off, x, cs, rfl, hbB, hxi, hcl, hPx, hcell⟩ := HL.out.here hlt
      obtain ⟨rfl, hp⟩ := hPx
      have hbl : b < wr.heap.size := Nat.lt_of_lt_of_le (Nat.lt_of_lt_of_le hbB HB.out) hg.below.size
      have d0 : wr.cell? ⟨b, off + i, none⟩ = some (.int .i64 x) := (World.cell?_of_block (w := w) (hg.below.block b hbB)).trans (by simpa using hcell 0 (by decide))
      have htk : l.take (i + 1) = l.take i ++ [x] := by
        rw [List.take_add_one, hxi]; rfl
      have heq : xs ++ M.num n ++ (l.take i).flatMap M.num ++ M.num x = xs ++ M.num n ++ (l.take (i + 1)).flatMap M.num := by
        rw [htk]; simp [List.append_assoc]
      have hall : (xs ++ M.num n ++ (l.take i).flatMap M.num).length ≤ 1000000000 := by
        have h1 : (l.flatMap M.num).length = ((l.take i).flatMap M.num).length + ((l.drop i).flatMap M.num).length := by
          rw [← List.length_append, ← List.flatMap_append, List.take_append_drop]
        have := HX.out
        simp only [M.nums, M.many, List.length_append, HLEN.out] at this ⊢
        omega
      have HC := Lib.hid (refNum_any x hh (Nat.le_trans HB.out hg.below.size) hp hall)
      rw [heq] at HC
      have HG := Lib.hid hg
      clear hh hg hxi hcl hp hcell htk heq hall
      go_wp2_with fail
      refine HC.out.mono ?_; rintro e w2 ⟨v2, rfl, h2, g2⟩
      have H2 := Lib.hid (And.intro h2 (HG.out.trans g2))
      clear h2 g2
      go_wp2_with fail
      go_roundw
      case rel => exact ⟨i + 1, rfl, by omega, H2.out.1, H2.out.2⟩
      case measure => simp [intOf]; omega
    · obtain rfl : i = n := by omega
      have hfin : xs ++ M.num i ++ (l.take i).flatMap M.num = xs ++ M.nums l := by
        rw [← HLEN.out, List.take_length]; unfold M.nums M.many; simp [List.append_assoc]
      rw [hfin] at hh
      have H2 := Lib.hid (And.intro hh hg)
      clear hh hg hfin
      go_wp2_with fail
      go_ret
      exact ⟨_, rfl, H2.out.1, H2.out.2⟩
end Go.Proofs.YthlifflapgccbaaGreat
/- The document's texts. -/
namespace Go.Proofs.YthlifflapgccbaaGreat
set_option linter.unusedVariables false
open Go.ChangeShapes Go.WideShapes Go.ChangeAt Go.RowKit
open M (W)
theorem wpList_append_zero {P : Program} {w : World} {ops : Array Oper} {rest : List Oper} {o : Oper} {act : Act} {Q : Exit → Act → World → Prop} (hgd : o.guard = none) (s x : Operand) (t : TypeId)
    (ho : o.op = .call { callee := .builtin .append, args := #[s, x], argTypes := #[t, t] })
    (e : TypeId) (i : TypeInfo) (ht : P.underlying t = some (.slice e)) (hi : P.info? e = some i)
    (a : Option Addr) (n c : Nat) (hs : act.eval s = .slice a n c) (hnc : n ≤ c) (ad : Option Addr) (c' : Nat) (hx : act.eval x = .slice ad 0 c')
    (h : wpList P ops Q rest (act.put o.dst (.slice a n c)) w) : wpList P ops Q (o :: rest) act w := by
  have hrun := run_append_zero (P := P) w t o.type e i ht hi a n c hnc ad c'
  refine wpList_plain hgd fun K hK => ?_
  unfold Oper.wp
  simp [execOp, ho, resolve, invoke, builtin, hs, hx, hrun, Result.andThen]
  exact hK _ _ h
theorem bytesWorld_still (w : World) (e : TypeId) (s : ByteArray) : Still w (Lib.bytesWorld w e s) := by
  refine ⟨rfl, rfl, rfl, by rw [Lib.bytesWorld_size]; omega, fun k hk _ => Lib.bytesWorld_at_old w e s k hk⟩
theorem bytesWorld_chars (w : World) (e : TypeId) (s : ByteArray) (j : Nat) (u : Value) (h : ((M.chars s).map (Value.int .u8))[j]? = some u) : (Lib.bytesWorld w e s).cell? ⟨w.heap.size, j, none⟩ = some u := by
  have hj : j < s.size := by
    have := (List.getElem?_eq_some_iff.1 h).1
    simpa [M.chars_len] using this
  rw [Lib.bytesWorld_cell w e s j hj, ← h]
  have hj2 : j < s.data.toList.length := by rw [Array.length_toList]; exact hj
  unfold M.chars
  rw [List.map_map, List.getElem?_map, List.getElem?_eq_getElem hj2]
  simp [List.getD, List.getElem?_eq_getElem hj2]
set_option maxRecDepth 100000 in
theorem refText_any (s : ByteArray) {B : Nat} {v : Value} {xs : List Int} {w : World} (h : Holds8 B w v xs) (hB : B ≤ w.heap.size) (hs : s.size ≤ maxLen) (hx : (xs ++ M.text s).length ≤ 1000000000) :
    Calls Tryz.prog 48 #[v, .string s] w fun e w' => ∃ v', e = .returned v' ∧ Holds8 B w' v' (xs ++ M.text s) ∧ Grew B w w' v v' := by
  have HB := Lib.hid hB
  have hx' := hx
  simp only [M.text, List.length_append, M.chars_len] at hx'
  have HN := Lib.hid (refNum_any (s.size : Int) h hB (M.num_nat hs) (by omega))
  have HX : Hid ((xs ++ M.num s.size).length + s.size ≤ 1000000000) := by rw [Hid, List.length_append]; omega
  clear h hB hx hx' hs
  go_enter Tryz.func48, Tryz.ntmps48
  go_wp2_with fail
  refine HN.out.mono ?_; rintro e w1 ⟨v1, rfl, h1, g1⟩
  obtain ⟨a, c, rfl, ho⟩ := h1
  have HCV := Lib.hid (Lib.run_convert_string_bytes (P := Tryz.prog) w1 9 22 5 s Tryz.underlying9 Tryz.underlying22 Tryz.underlying5)
  have HST := Lib.hid (bytesWorld_still w1 5 s)
  have HCH := Lib.hid (bytesWorld_chars w1 5 s)
  have HO := Lib.hid ho
  have HG := Lib.hid g1
  obtain ⟨cb, hcb⟩ : ∃ cb, grownCap w1 s.size 0 5 = cb := ⟨_, rfl⟩
  rw [hcb] at HCV
  clear ho g1 hcb
  generalize Lib.bytesWorld w1 5 s = wb at *
  generalize hk : (xs ++ M.num s.size).length = k at HO HX HG ⊢
  have HK := Lib.hid hk
  clear hk
  have hcv := HCV.out
  by_cases hz : s.size = 0
  · have hle := own_le HO.out
    obtain ⟨i0, hi, _⟩ := Option.map_eq_some_iff.1 infoU8
    have hch : M.chars s = [] := List.eq_nil_of_length_eq_zero (by rw [M.chars_len]; exact hz)
    rw [hz] at hcv
    have HCHN := Lib.hid hch
    clear hz hch
    go_wp2_with (at_builtin; refine wpList_append_zero rfl (.tmp 8) (.tmp 10) 22 rfl 5 i0 Tryz.underlying22 hi a k c rfl hle.1 (some ⟨w1.heap.size, 0, none⟩) cb rfl ?_)
    go_ret
    refine ⟨_, rfl, ⟨a, c, ?_, ?_⟩, HG.out.trans (Grew.of_still _ HST.out (Nat.le_trans HB.out HG.out.below.size))⟩
    · unfold M.text
      rw [HCHN.out, List.append_nil, HK.out]
      rfl
    · unfold M.text
      rw [HCHN.out, List.append_nil, HK.out]
      exact own_keep HO.out HST.out (fun _ _ e => e)
  · have HZ := Lib.hid hz
    clear hz
    go_wp2_with (at_builtin; refine wpList_append_form rfl (.tmp 8) (.tmp 10) 22 rfl B 5 1 1 (.int .u8 0) Tryz.underlying22 infoU8 rfl (by decide) a k c _ rfl (own_keep HO.out HST.out (fun _ _ e => e)) ⟨w1.heap.size, 0, none⟩ s.size cb ((M.chars s).map (Value.int .u8)) rfl (by simp [M.chars_len]) (fun j u hj => by
          have := HCH.out j u hj
          rwa [show (⟨w1.heap.size, j, none⟩ : Addr) = (⟨w1.heap.size, 0, none⟩ : Addr).add j by by_cases hj0 : j = 0 <;> simp [Addr.add, hj0]] at this) (fun u hu => by obtain ⟨z, _, rfl⟩ := List.mem_map.1 hu; rfl) (by have := HZ.out; omega) (by have := HX.out; unfold maxLen; omega) (by have := HX.out; omega) (by have := HST.out.size; have := HG.out.below.size; have := HB.out; omega) ?_; intro g' c' w4 hr4 ht4 hn4)
    go_ret
    have hk : (xs ++ M.text s).length = k + s.size := by unfold M.text; rw [← List.append_assoc, List.length_append, HK.out, M.chars_len]
    have hap : xs ++ M.text s = xs ++ M.num s.size ++ M.chars s := by unfold M.text; rw [List.append_assoc]
    refine ⟨_, rfl, ⟨some ⟨g', 0, none⟩, c', by rw [hk]; rfl, ?_⟩, HG.out.trans ?_⟩
    · rw [hk, hap, List.map_append]; exact hr4.out
    · have hb1 := (Still.below HST.out).mono (Nat.le_trans HB.out HG.out.below.size)
      refine ⟨hb1.trans (ht4.out.below (Nat.le_trans (Nat.le_trans HB.out HG.out.below.size) HST.out.size) (fun b hb => (HO.out.lt b hb).1)), (Still.turn HST.out).trans ht4.out, fun b hb => ?_⟩
      rcases hn4.out with e | e
      · have : g' = b := by simpa [Value.ownBlock] using hb
        exact .inl (this ▸ e)
      · have : g' = b := by simpa [Value.ownBlock] using hb
        have := HST.out.size
        exact .inr (by omega)
end Go.Proofs.YthlifflapgccbaaGreat
