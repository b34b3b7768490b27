/- The reader of lex in memory: words and type variables as tokens. -/
import Derived.Test.YtpccfimjkffkfaaDoorLxWord
namespace Go.Proofs.YtpccfimjkffkfaaDoor
set_option linter.unusedVariables false
set_option linter.unusedSimpArgs false
open Go.ChangeShapes Go.WideShapes Go.ChangeAt Go.RowKit
theorem Words.ne {w : World} {mb g : Nat} {t : TypeId} {cs : Array Value} (h : Words w mb) (hb : Blk w g t cs) : mb ≠ g := fun e => by
  subst e
  obtain ⟨D, ⟨es, clock, h1, _⟩, _⟩ := h
  unfold Blk at hb
  rw [hb] at h1
  cases h1
theorem extract_take {s : ByteArray} {f n : Nat} : s.extract f (f + n) = Lx.str (((Lx.bs s).drop f).take n) := by
  rw [← Lx.str_bs (s.extract f (f + n)), Lx.bs_extract, show f + n - f = n by omega]
theorem takeWhile_take (p : Nat → Bool) (L : List Nat) : L.take (L.takeWhile p).length = L.takeWhile p := (List.prefix_iff_eq_take.1 (List.takeWhile_prefix p)).symm
theorem kind_le (L : List Nat) : Lx.kind L ≤ 6 := by
  unfold Lx.kind
  split
  · decide
  · split
    · decide
    · split <;> decide
/-- What a way to take a token does: as the parser over lists says. -/
def TakeR (w : World) (g : Nat) (s : ByteArray) (k mb : Nat) (e : Ending) (w' : World) : Prop := At g w w' ∧
  match Lx.tok ((Lx.bs s).drop k) with
  | some (t, n) => e = .returned (.tuple #[.agg #[.int .i64 (t.kind : Int), .int .i64 0, .string (Lx.str t.text), .int .i64 (t.n : Int)], .bool true]) ∧ Rdr w' g s (k + n) mb
  | none => e = .returned (.tuple #[.agg #[.int .i64 0, .int .i64 0, .string ByteArray.empty, .int .i64 0], .bool false])
set_option maxHeartbeats 4000000 in
theorem word_any {w : World} {g : Nat} {s : ByteArray} {k mb : Nat} (h : Rdr w g s k mb) (hw : Words w mb) (hlt : k < s.size) (hs : (Lx.small s[k].toNat || Lx.great s[k].toNat) = true) :
    Calls Tryd.prog 52 #[.pointer (some ⟨g, 0, none⟩)] w (TakeR w g s k mb) := by
  have hd := Lx.drop_lt hlt
  have hg := h.blk.lt
  have hn : Lx.inName s[k].toNat = true := by
    unfold Lx.inName
    rw [hs]; rfl
  obtain ⟨W, hW⟩ : ∃ W, ((Lx.bs s).drop k).takeWhile Lx.inName = W := ⟨_, rfl⟩
  have hW0 : 0 < W.length := by rw [← hW, hd, List.takeWhile_cons, hn]; simp
  have hex : s.extract k (k + W.length) = Lx.str W := by rw [extract_take, ← hW, takeWhile_take]
  have hWb : Lx.bs (Lx.str W) = W := Lx.bs_str fun c hc => Lx.byte_lt s c (List.mem_of_mem_drop ((List.takeWhile_prefix Lx.inName).subset (by rw [hW]; exact hc)))
  have htok : Lx.tok ((Lx.bs s).drop k) = some (⟨Lx.kind W, W, 0⟩, W.length) := by
    have h0 : ((Lx.bs s).drop k).headD 0 = s[k].toNat := by rw [hd]; rfl
    have hsm : Lx.dig s[k].toNat = false ∧ s[k].toNat ≠ 34 ∧ s[k].toNat ≠ 39 := by
      simp only [Lx.small, Lx.great, Bool.or_eq_true, Bool.and_eq_true, decide_eq_true_eq] at hs
      refine ⟨?_, by omega, by omega⟩
      simp only [Lx.dig, Bool.and_eq_false_iff, decide_eq_false_iff_not]
      omega
    unfold Lx.tok
    simp only [h0, hsm.1, hsm.2.1, hsm.2.2, if_false, hs, if_true, hW, Bool.false_eq_true]
  have hsz : 0 < (Lx.str W).size := by rw [← Lx.bs_len, hWb]; exact hW0
  have hle : k + W.length ≤ s.size := by
    have := (List.takeWhile_prefix (l := (Lx.bs s).drop k) Lx.inName).length_le
    rw [hW, List.length_drop, Lx.bs_len] at this
    omega
  have hmx : (Lx.str W).size ≤ maxLen := by rw [← Lx.bs_len, hWb]; have := h.few; unfold maxLen; omega
  have hkl := kind_le W
  have HN := Lib.hid (nameFrom_any (h.still ((Still.refl w).alloc (.cells #[.int .i64 0, .int .i64 0, .string ByteArray.empty, .int .i64 0] 31))) (Nat.le_refl k))
  rw [hW, hex] at HN
  have HT := Lib.hid htok
  have HS := Lib.hid (And.intro hsz (And.intro hmx hWb))
  have HW0 : Hid (Words (w.alloc (.cells #[.int .i64 0, .int .i64 0, .string ByteArray.empty, .int .i64 0] 31)) mb) := hw.keep ((Still.refl w).alloc _) (fun e => e)
  have HG := Lib.hid (And.intro hg (hw.ne h.blk))
  obtain ⟨b0, b1, b2, b3, b4⟩ := h.box
  have HBX := Lib.hid (Blk.new w 31 #[.int .i64 0, .int .i64 0, .string ByteArray.empty, .int .i64 0])
  clear h hw hd hs hn hW hex hWb htok hsz hmx hg hW0 hkl
  go_enter Tryd.func52, Tryd.ntmps52
  go_wp2_with fail
  refine HN.out.mono ?_; rintro e w1 ⟨t1, rfl, r1⟩
  have B1 := Lib.hid (HBX.out.keep t1 (fun e => by have := HG.out.1; omega))
  have T1 : Hid (At g w w1) := ((Still.refl w).alloc _).turn.trans t1
  have HK := Lib.hid (kind_any r1 (HW0.out.keep t1 HG.out.2) (Lx.str W) HS.out.1 HS.out.2.1)
  rw [HS.out.2.2] at HK
  have R1 := Lib.hid r1
  obtain ⟨c0, c1, c2, c3, c4, c5, c6, c7, c8⟩ := tokBox B1.out
  clear t1 r1 HN HW0 HBX
  go_wp2_with fail
  refine HK.out.mono ?_; rintro e w2 ⟨rfl, rfl⟩
  go_wp2_with fail
  refine bodyPost_ret (results_row_tmp rfl _ _ w.heap.size 31 #[.int .i64 (Lx.kind W : Nat), .int .i64 0, .string (Lx.str W), .int .i64 0] (0, 0) _ rfl (tokPut B1.out (.int .i64 (Lx.kind W : Nat)) (.int .i64 0) (.string (Lx.str W)) (.int .i64 0)) Tryd.underlying31 rfl tok_size) rfl ?_
  refine ⟨tokTurn T1.out (Nat.le_refl _) _ _ _ _, ?_⟩
  rw [HT.out]
  exact ⟨rfl, tokRdr R1.out (fun e => by have := HG.out.1; omega) _ _ _ _⟩
theorem number_t {w : World} {g : Nat} {s : ByteArray} {k mb : Nat} (h : Rdr w g s k mb) (hlt : k < s.size) (hs : Lx.dig s[k].toNat = true) :
    Calls Tryd.prog 47 #[.pointer (some ⟨g, 0, none⟩)] w (TakeR w g s k mb) :=
  (number_any h).mono fun e w' ⟨h1, h2⟩ => by
    have h0 : ((Lx.bs s).drop k).headD 0 = s[k].toNat := by rw [Lx.drop_lt hlt]; rfl
    refine ⟨h1, ?_⟩
    unfold Lx.tok
    simp only [h0, hs, if_true]
    rcases h2 with ⟨h2, h3, h4⟩ | ⟨h2, h3⟩
    · rw [if_pos h2]; exact ⟨h3, h4⟩
    · rw [if_neg (by omega)]; exact h3
set_option maxHeartbeats 4000000 in
theorem variable_any {w : World} {g : Nat} {s : ByteArray} {k mb : Nat} (h : Rdr w g s k mb) (hlt : k < s.size) (hs : s[k].toNat = 39) :
    Calls Tryd.prog 49 #[.pointer (some ⟨g, 0, none⟩)] w (TakeR w g s k mb) := by
  have hd := Lx.drop_lt hlt
  have hg := h.blk.lt
  have hgn : g ≠ w.heap.size := by omega
  obtain ⟨W, hW⟩ : ∃ W, ((Lx.bs s).drop (k + 1)).takeWhile Lx.inName = W := ⟨_, rfl⟩
  have htok : Lx.tok ((Lx.bs s).drop k) = if W = [] then none else some (⟨5, 39 :: W, 0⟩, W.length + 1) := by
    have h0 : ((Lx.bs s).drop k).headD 0 = 39 := by rw [hd, hs]; rfl
    have ht : ((Lx.bs s).drop k).tail = (Lx.bs s).drop (k + 1) := by rw [hd]; rfl
    unfold Lx.tok
    simp only [h0, ht, hW]
    rw [if_neg (by decide), if_neg (by decide), if_pos trivial]
  have hex : s.extract k (k + 1 + W.length) = Lx.str (39 :: W) := by
    rw [show k + 1 + W.length = k + (W.length + 1) by omega, extract_take, hd, hs, List.take_succ_cons, ← hW, takeWhile_take]
  have hany : ((Lx.bs s).drop (k + 1)).head?.any Lx.inName = !(decide (W = [])) := by
    rw [← hW]
    cases (Lx.bs s).drop (k + 1) with
    | nil => rfl
    | cons a l => cases hq : Lx.inName a <;> simp [List.takeWhile_cons, hq]
  obtain ⟨wB, hwB⟩ : ∃ wB, (w.setCell ⟨g, 1, none⟩ (.int .i64 ((k : Int) + 1))).alloc (.cells #[.int .i64 0, .int .i64 0, .string ByteArray.empty, .int .i64 0] 31) = wB := ⟨_, rfl⟩
  have hws : (w.setCell ⟨g, 1, none⟩ (.int .i64 ((k : Int) + 1))).heap.size = w.heap.size := World.size_setCell _ _ _
  have TB : At g w wB := hwB ▸ (At.set (Turn.refl _ w) 1 _).alloc _
  have BB : Blk wB w.heap.size 31 #[.int .i64 0, .int .i64 0, .string ByteArray.empty, .int .i64 0] := by
    have := Blk.new (w.setCell ⟨g, 1, none⟩ (.int .i64 ((k : Int) + 1))) 31 #[.int .i64 0, .int .i64 0, .string ByteArray.empty, .int .i64 0]
    rw [hws, hwB] at this
    exact this
  have RB : Rdr wB g s (k + 1) mb := hwB ▸ (h.set (k' := k + 1) hlt).still ((Still.refl _).alloc _)
  have HH := Lib.hid (And.intro htok (And.intro hex (And.intro hgn (And.intro BB (And.intro TB RB)))))
  obtain ⟨b0, b1, b2, b3, b4⟩ := h.box
  have HA := Lib.hid hany
  have hf := h.few
  clear htok hex hgn BB TB RB h hd hs hws hany
  by_cases h0 : W = []
  · rw [if_pos h0] at HH
    rw [decide_eq_true h0] at HA
    go_enter Tryd.func49, Tryd.ntmps49
    go_wp2_with fail
    rw [show ({ data := #[] } : ByteArray) = ByteArray.empty from rfl, hwB]
    refine (next_is HH.out.2.2.2.2.2 Lx.inName _ enters_name inName_any HA.out).mono ?_; rintro e w1 ⟨rfl, t1, r1⟩
    have B1 := Lib.hid (t1.blk HH.out.2.2.2.1)
    have T1 := Lib.hid (HH.out.2.2.2.2.1.trans t1.turn)
    obtain ⟨c0, c1, c2, c3, c4, c5, c6, c7, c8⟩ := tokBox B1.out
    clear t1 r1
    go_wp2_with fail
    refine bodyPost_ret (results_row_tmp rfl _ _ w.heap.size 31 #[.int .i64 0, .int .i64 0, .string ByteArray.empty, .int .i64 0] (0, 0) _ rfl (tokPut B1.out (.int .i64 0) (.int .i64 0) (.string ByteArray.empty) (.int .i64 0)) Tryd.underlying31 rfl tok_size) rfl ?_
    refine ⟨tokTurn T1.out (Nat.le_refl _) _ _ _ _, ?_⟩
    rw [HH.out.1]
    rfl
  · rw [if_neg h0] at HH
    rw [decide_eq_false h0] at HA
    have HN := Lib.hid (fun W2 (t : Still wB W2) => nameFrom_any (HH.out.2.2.2.2.2.still t) (show k ≤ k + 1 by omega))
    rw [hW, HH.out.2.1] at HN
    go_enter Tryd.func49, Tryd.ntmps49
    go_wp2_with fail
    rw [show ({ data := #[] } : ByteArray) = ByteArray.empty from rfl, hwB]
    refine (next_is HH.out.2.2.2.2.2 Lx.inName _ enters_name inName_any HA.out).mono ?_; rintro e w1 ⟨rfl, t1, r1⟩
    have B1 := Lib.hid (t1.blk HH.out.2.2.2.1)
    have T1 := Lib.hid (HH.out.2.2.2.2.1.trans t1.turn)
    have HN1 := Lib.hid (HN.out w1 t1)
    clear t1 r1 HN
    go_wp2_with fail
    refine HN1.out.mono ?_; rintro e w2 ⟨t2, rfl, r2⟩
    have B2 := Lib.hid (B1.out.keep t2 (fun e => HH.out.2.2.1 e.symm))
    have T2 := Lib.hid (T1.out.trans t2)
    have R2 := Lib.hid r2
    obtain ⟨c0, c1, c2, c3, c4, c5, c6, c7, c8⟩ := tokBox B2.out
    clear t2 r2 HN1
    go_wp2_with fail
    refine bodyPost_ret (results_row_tmp rfl _ _ w.heap.size 31 #[.int .i64 5, .int .i64 0, .string (Lx.str (39 :: W)), .int .i64 0] (0, 0) _ rfl (tokPut B2.out (.int .i64 5) (.int .i64 0) (.string (Lx.str (39 :: W))) (.int .i64 0)) Tryd.underlying31 rfl tok_size) rfl ?_
    refine ⟨tokTurn T2.out (Nat.le_refl _) _ _ _ _, ?_⟩
    rw [HH.out.1]
    exact ⟨rfl, by rw [show k + (W.length + 1) = k + 1 + W.length by omega]; exact tokRdr R2.out HH.out.2.2.1 _ _ _ _⟩
end Go.Proofs.YtpccfimjkffkfaaDoor
