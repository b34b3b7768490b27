/- Lex: the whole. -/
import Derived.Test.YtpccfimjkffkfaaDoorLxLex
import Derived.Test.YtpccfimjkffkfaaDoorAppendC
namespace Go.Proofs.YtpccfimjkffkfaaDoor
set_option linter.unusedVariables false
set_option linter.unusedSimpArgs false
open Go.ChangeShapes Go.WideShapes Go.ChangeAt Go.RowKit
theorem tok_pos {L : List Nat} {t : Lx.Tok} {n : Nat} (h : Lx.tok L = some (t, n)) : 1 ≤ n := by
  unfold Lx.tok at h
  simp only at h
  split at h
  · rename_i hd
    split at h
    · cases h
      cases L with
      | nil => cases hd
      | cons c L => rw [List.takeWhile_cons, show Lx.dig c = true from hd]; simp
    · cases h
  · split at h
    · obtain ⟨x, hx, e⟩ := Option.map_eq_some_iff.1 h; cases e; omega
    · split at h
      · split at h
        · cases h
        · cases h; omega
      · split at h
        · rename_i hs
          cases h
          cases L with
          | nil => cases hs
          | cons c L =>
            have : Lx.inName c = true := by
              unfold Lx.inName
              rw [show (Lx.small c || Lx.great c) = true from hs]; rfl
            rw [List.takeWhile_cons, this]; simp
        · split at h
          · cases h
          · rename_i h0; cases h; omega
/-- A token's cells. -/
def tokV (x : Lx.Tok × Nat) : List Value := [.int .i64 (x.1.kind : Int), .int .i64 (x.2 : Int), .string (Lx.str x.1.text), .int .i64 (x.1.n : Int)]
def prep (acc : List (Lx.Tok × Nat)) : Except (Nat × Nat) (List (Lx.Tok × Nat)) → Except (Nat × Nat) (List (Lx.Tok × Nat))
  | .ok l => .ok (acc ++ l)
  | .error e => .error e
/-- What was read so far. -/
structure Lxd (w1 wr : World) (g : Nat) (s : ByteArray) (mb : Nat) (R : Except (Nat × Nat) (List (Lx.Tok × Nat))) (k : Nat) (acc : List (Lx.Tok × Nat)) (a : Option Addr) (n c : Nat) : Prop where
  rd : Rdr wr g s k mb
  wd : Words wr mb
  turn : At g w1 wr
  low : g < w1.heap.size ∧ mb < w1.heap.size ∧ mb ≠ g
  len : n = acc.length
  own : wr.ownsRow w1.heap.size 31 4 (.slice a n c) n (acc.flatMap tokV)
  few : n ≤ 4000
  eq : ∃ f, s.size - k < f ∧ R = prep acc (Lx.lexF f n k ((Lx.bs s).drop k))
theorem Lxd.bad {w1 wr : World} {g mb k n c : Nat} {s : ByteArray} {R : Except (Nat × Nat) (List (Lx.Tok × Nat))} {acc : List (Lx.Tok × Nat)} {a : Option Addr} (h : Lxd w1 wr g s mb R k acc a n c) {kk : Nat} (hk : k ≤ kk) (he : Lx.skip ((Lx.bs s).drop k) = .error (kk - k)) : R = .error (10, kk) := by
  obtain ⟨f, hf, e⟩ := h.eq
  obtain ⟨f, rfl⟩ : ∃ f', f = f' + 1 := ⟨f - 1, by omega⟩
  rw [e, Lx.lexF, he]
  simp only [prep]
  rw [show k + (kk - k) = kk by omega]
theorem Lxd.done {w1 wr : World} {g mb k n c : Nat} {s : ByteArray} {R : Except (Nat × Nat) (List (Lx.Tok × Nat))} {acc : List (Lx.Tok × Nat)} {a : Option Addr} (h : Lxd w1 wr g s mb R k acc a n c) {kk : Nat} (hk : k ≤ kk) (he : Lx.skip ((Lx.bs s).drop k) = .ok (kk - k)) (hs : kk = s.size) : R = .ok acc := by
  obtain ⟨f, hf, e⟩ := h.eq
  obtain ⟨f, rfl⟩ : ∃ f', f = f' + 1 := ⟨f - 1, by omega⟩
  rw [e, Lx.lexF, he]
  dsimp only
  rw [List.drop_drop, show k + (kk - k) = kk by omega, if_pos (Lx.drop_ge (by omega))]
  simp [prep]
theorem Lxd.step {w1 wr : World} {g mb k n c : Nat} {s : ByteArray} {R : Except (Nat × Nat) (List (Lx.Tok × Nat))} {acc : List (Lx.Tok × Nat)} {a : Option Addr} (h : Lxd w1 wr g s mb R k acc a n c) {kk : Nat} (hk : k ≤ kk) (he : Lx.skip ((Lx.bs s).drop k) = .ok (kk - k)) (hs : kk < s.size) :
    (Lx.tok ((Lx.bs s).drop kk) = none → R = .error (10, kk)) ∧ (∀ t j, Lx.tok ((Lx.bs s).drop kk) = some (t, j) → (n = 4000 → R = .error (2, kk)) ∧ (n ≠ 4000 → ∃ f, s.size - (kk + j) < f ∧ R = prep (acc ++ [(t, kk)]) (Lx.lexF f (n + 1) (kk + j) ((Lx.bs s).drop (kk + j))))) := by
  obtain ⟨f, hf, e⟩ := h.eq
  obtain ⟨f, rfl⟩ : ∃ f', f = f' + 1 := ⟨f - 1, by omega⟩
  rw [Lx.lexF, he] at e
  dsimp only at e
  rw [List.drop_drop, show k + (kk - k) = kk by omega, if_neg (by rw [Lx.drop_lt hs]; simp)] at e
  refine ⟨fun h1 => ?_, fun t j h1 => ⟨fun h2 => ?_, fun h2 => ?_⟩⟩
  · rw [e, h1]; rfl
  · rw [e, h1]; dsimp only; rw [if_pos h2]; rfl
  · have := tok_pos h1
    refine ⟨f, by omega, ?_⟩
    rw [e, h1]
    dsimp only
    rw [if_neg h2, List.drop_drop]
    cases Lx.lexF f (n + 1) (kk + j) ((Lx.bs s).drop (kk + j)) with
    | ok l => simp [prep]
    | error e => simp [prep]
theorem infoTok : (Tryd.prog.info? 31).map (fun i => (i.zero, i.size, i.bytes)) = some (some (.agg #[.int .i64 0, .int .i64 0, .string ⟨#[]⟩, .int .i64 0]), 4, 40) := by kernel_rfl
/-- What Lex answers. -/
def LexR (w : World) (s : ByteArray) (e : Ending) (w' : World) : Prop := Still w w' ∧
  match Lx.lex (Lx.bs s) with
  | .error (x, k) => e = .returned (.tuple #[.slice none 0 0, .int .i64 (x : Int), .int .i64 (k : Int)])
  | .ok l => ∃ (a : Option Addr) (c : Nat), e = .returned (.tuple #[.slice a l.length c, .int .i64 0, .int .i64 0]) ∧ w'.ownsRow w.heap.size 31 4 (.slice a l.length c) l.length (l.flatMap tokV)
theorem still_at {w w0 wr : World} {g : Nat} {o : Obj} (h0 : Still w w0) (hg : w.heap.size ≤ g) (h : At g (w0.alloc o) wr) : Still w wr :=
  Turn.mono ((h0.alloc o).turn.trans h) fun k hk e => by omega
theorem lexR_err {w w' : World} {s : ByteArray} {x k : Nat} (hs : Still w w') (hR : Lx.lex (Lx.bs s) = .error (x, k)) : LexR w s (.returned (.tuple #[.slice none 0 0, .int .i64 (x : Int), .int .i64 (k : Int)])) w' := ⟨hs, by rw [hR]⟩
theorem own_low {w : World} {base base' : Nat} {e : TypeId} {size : Nat} {v : Value} {n : Nat} {xs : List Value} (h : w.ownsRow base e size v n xs) (hb : base' ≤ base) : w.ownsRow base' e size v n xs := by
  obtain ⟨h1, h2⟩ := h
  refine ⟨h1, ?_⟩
  rcases h2 with h0 | ⟨g, cap, cur, rfl, hg, r⟩
  · exact .inl h0
  · exact .inr ⟨g, cap, cur, rfl, Nat.le_trans hb hg, r⟩
theorem lexR_ok {w w1 w' : World} {s : ByteArray} {l : List (Lx.Tok × Nat)} {a : Option Addr} {n c : Nat} (hs : Still w w') (hR : Lx.lex (Lx.bs s) = .ok l) (hn : n = l.length) (hb : w.heap.size ≤ w1.heap.size) (ho : w'.ownsRow w1.heap.size 31 4 (.slice a n c) n (l.flatMap tokV)) : LexR w s (.returned (.tuple #[.slice a n c, .int .i64 0, .int .i64 0])) w' := ⟨hs, by
  subst hn
  rw [hR]
  exact ⟨a, c, rfl, own_low ho hb⟩⟩
theorem Lxd.own_at {w1 wr w2 : World} {g mb k n c : Nat} {s : ByteArray} {R : Except (Nat × Nat) (List (Lx.Tok × Nat))} {acc : List (Lx.Tok × Nat)} {a : Option Addr} (h : Lxd w1 wr g s mb R k acc a n c) (t : At g wr w2) : w2.ownsRow w1.heap.size 31 4 (.slice a n c) n (acc.flatMap tokV) :=
  own_keep h.own t fun j e e2 => by have := (h.own.lt j e).1; have := h.low; omega
set_option maxHeartbeats 4000000 in
theorem lex_any (w : World) (s : ByteArray) :
    Calls Tryd.prog 13 #[.string s] w (LexR w s) := by
  by_cases hbig : 16384 < s.size
  · have x0 : decide ((16384 : Int) < (s.size : Int)) = true := decide_eq_true (by omega)
    have hR : Lx.lex (Lx.bs s) = .error (2, 0) := by unfold Lx.lex; rw [if_pos (by rw [Lx.bs_len]; exact hbig)]
    have HR := Lib.hid hR
    clear hR
    go_enter Tryd.func13, Tryd.ntmps13
    go_wp2_with fail
    go_ret3
    exact ⟨Still.refl _, by rw [HR.out]; rfl⟩
  · have x0 : decide ((16384 : Int) < (s.size : Int)) = false := decide_eq_false (by omega)
    obtain ⟨R, hR⟩ : ∃ R, Lx.lex (Lx.bs s) = R := ⟨_, rfl⟩
    have hR2 : R = Lx.lexF ((Lx.bs s).length + 1) 0 0 (Lx.bs s) := by rw [← hR]; unfold Lx.lex; rw [if_neg (by rw [Lx.bs_len]; exact hbig)]
    have HR := Lib.hid (And.intro hR (And.intro hR2 (Nat.not_lt.1 hbig)))
    have HW := Lib.hid (words_any w)
    clear hR hR2 hbig
    go_enter Tryd.func13, Tryd.ntmps13
    go_wp2_with fail
    refine HW.out.mono ?_; rintro e w0 ⟨rfl, hst, hwd⟩
    have HST := Lib.hid hst
    have HWD := Lib.hid hwd
    clear HW hst hwd
    go_wp2_with fail
    obtain ⟨g, hg⟩ : ∃ g, w0.heap.size = g := ⟨_, rfl⟩
    obtain ⟨w1, hw1⟩ : ∃ w1, w0.alloc (.cells #[.string s, .int .i64 0, .map (some w.heap.size)] 45) = w1 := ⟨_, rfl⟩
    obtain ⟨mb, hmb⟩ : ∃ mb, w.heap.size = mb := ⟨_, rfl⟩
    have hb1 : Blk w1 g 45 #[.string s, .int .i64 ((0 : Nat) : Int), .map (some mb)] := by rw [← hw1, ← hg, ← hmb]; exact Blk.new _ _ _
    have hwd1 : Words w1 mb := by rw [← hw1, ← hmb]; exact HWD.out.keep ((Still.refl w0).alloc _) (fun e => e)
    have hlow : g < w1.heap.size ∧ mb < w1.heap.size ∧ mb ≠ g := ⟨hb1.lt, hwd1.lt, hwd1.ne hb1⟩
    have hS : ∀ wr, At g w1 wr → Still w wr := fun wr h => by subst hw1; exact still_at HST.out (by rw [← hg]; exact HST.out.size) h
    have hBW : w.heap.size ≤ w1.heap.size := by omega
    have H1 := Lib.hid (And.intro (Rdr.mk hb1 (Nat.zero_le _) HR.out.2.2) (And.intro hwd1 (And.intro hlow (And.intro hS hBW))))
    rw [hw1, hg, hmb]
    clear HWD HST hb1 hwd1 hlow hS hBW hg hw1 hmb
    go_loopw [6] (fun v wr => ∃ (k : Nat) (acc : List (Lx.Tok × Nat)) (a : Option Addr) (n c : Nat), v = .slice a n c ∧ Lxd w1 wr g s mb R k acc a n c) (fun v wr => s.size - place wr g)
    case atStart => exact ⟨0, [], none, 0, 0, rfl, H1.out.1, H1.out.2.1, Turn.refl _ _, H1.out.2.2.1, rfl, ⟨by simp, .inl ⟨rfl, rfl⟩⟩, by omega, (Lx.bs s).length + 1, by rw [Lx.bs_len]; omega, by rw [HR.out.2.1, List.drop_zero]; cases Lx.lexF ((Lx.bs s).length + 1) 0 0 (Lx.bs s) <;> rfl⟩
    case round =>
      obtain ⟨k, acc, a, n, c, rfl, hm⟩ := hrel
      have HSK := Lib.hid (skip_any hm.rd)
      have hpl0 : place wr g = k := hm.rd.place
      have HPL := Lib.hid hpl0
      have HM := Lib.hid hm
      clear hm hpl0
      go_wp2_with fail
      refine HSK.out.mono ?_; rintro e w2 ⟨t2, kk, r2, hk, hres⟩
      have R2 := Lib.hid r2
      have T2 := Lib.hid t2
      have HK := Lib.hid hk
      obtain ⟨b0, b1, b2, b3, b4⟩ := r2.box
      have hf := r2.few
      have hle := r2.le
      clear r2 t2 hk HSK
      rcases hres with ⟨hsk, rfl⟩ | ⟨hsk, rfl⟩
      · have HS := Lib.hid hsk
        clear hsk
        have TT : Hid (At g w1 w2) := HM.out.turn.trans T2.out
        by_cases hend : kk = s.size
        · have HE := Lib.hid (atEnd_is R2.out (b := true) (decide_eq_true hend))
          have HEN := Lib.hid hend
          clear hend
          go_wp2_with fail
          refine HE.out.mono ?_; rintro e w3 ⟨rfl, t3, r3⟩
          have T3 := Lib.hid t3
          clear t3 r3 HE
          go_wp2_with fail
          go_ret3
          exact lexR_ok (H1.out.2.2.2.1 _ (TT.out.trans T3.out.turn)) (HR.out.1.trans (HM.out.done HK.out HS.out HEN.out)) HM.out.len H1.out.2.2.2.2 (HM.out.own_at (T2.out.trans T3.out.turn))
        · have HE := Lib.hid (atEnd_is R2.out (b := false) (decide_eq_false hend))
          have hlt : kk < s.size := by omega
          have HLT := Lib.hid hlt
          clear hend hlt
          go_wp2_with fail
          refine HE.out.mono ?_; rintro e w3 ⟨rfl, t3, r3⟩
          obtain ⟨d0, d1, d2, d3, d4⟩ := r3.box
          have T3 : Hid (At g w1 w3) := TT.out.trans t3.turn
          have HTK := Lib.hid (taker_any r3 HLT.out)
          have t3' := Lib.hid t3
          clear t3 r3 HE
          go_wp2_with fail
          refine HTK.out.mono ?_; rintro e w4 ⟨fid, rfl, t4, r4, hent, hcall⟩
          have T4 : Hid (At g w1 w4) := T3.out.trans t4.turn
          have HC := Lib.hid (hcall w4 r4 (H1.out.2.1.keep T4.out H1.out.2.2.1.2.2))
          have T24 : Hid (At g wr w4) := T2.out.trans (t3'.out.turn.trans t4.turn)
          clear HTK t4 r4 hcall
          go_wp2_with fail
          refine HC.out.mono ?_; rintro e w5 ⟨t5, hres⟩
          have T5 : Hid (At g w1 w5) := T4.out.trans t5
          have T25 : Hid (At g wr w5) := T24.out.trans t5
          have hst := HM.out.step HK.out HS.out HLT.out
          clear HC t5
          cases htok : Lx.tok ((Lx.bs s).drop kk) with
          | none =>
            rw [htok] at hres
            simp only at hres
            subst hres
            have HE := Lib.hid (hst.1 htok)
            clear hst htok hent
            go_wp2_with fail
            go_ret3
            exact lexR_err (H1.out.2.2.2.1 _ (T5.out.alloc _)) (HR.out.1.trans HE.out)
          | some tj =>
            obtain ⟨t, j⟩ := tj
            rw [htok] at hres
            simp only at hres
            obtain ⟨rfl, r5⟩ := hres
            obtain ⟨q1, q2⟩ := hst.2 t j htok
            have R5 := Lib.hid r5
            have Q1 := Lib.hid q1
            have Q2 := Lib.hid q2
            have HJ := Lib.hid (tok_pos htok)
            have hle5 := r5.le
            clear hst htok hent r5 q1 q2
            by_cases hfull : n = 4000
            · have HF := Lib.hid hfull
              subst hfull
              go_wp2_with fail
              go_ret3
              exact lexR_err (H1.out.2.2.2.1 _ (T5.out.alloc _)) (HR.out.1.trans (Q1.out trivial))
            · have xf : ((n : Int) == 4000) = false := beq_eq_false_iff_ne.2 (by omega)
              have HF := Lib.hid hfull
              clear hfull
              have HO := Lib.hid (HM.out.own_at T25.out)
              have hfew := HM.out.few
              have hsz5 : w1.heap.size ≤ w5.heap.size := T5.out.size
              obtain ⟨wA, hwA⟩ : ∃ wA, w5.alloc (.cells #[.int .i64 (t.kind : Int), .int .i64 (kk : Int), .string (Lx.str t.text), .int .i64 (t.n : Int)] 31) = wA := ⟨_, rfl⟩
              have hA : wA.heap.size = w5.heap.size + 1 := by rw [← hwA]; simp
              have TA : Still w5 wA := hwA ▸ (Still.refl w5).alloc _
              have HA := Lib.hid (And.intro hA TA)
              have HWA := Lib.hid hwA
              clear hwA hA TA
              go_wp2_with (at_builtin; rw [HWA.out]; refine wpList_append_form rfl (.tmp 40) (.tmp 42) 23 rfl w1.heap.size 31 4 40 _ Tryd.underlying23 infoTok rfl (by decide) a n c (acc.flatMap tokV) rfl (own_keep HO.out (HA.out.2.alloc _) fun j e e2 => e2) ⟨w5.heap.size + 1, 0, none⟩ 1 1 (tokV (t, kk)) rfl rfl (fun j u hj => by rw [Addr.add_lit, Nat.zero_add, ← HA.out.1, (Blk.new wA 31 #[.int .i64 (t.kind : Int), .int .i64 (kk : Int), .string (Lx.str t.text), .int .i64 (t.n : Int)]).cell j]; simpa [tokV] using hj) (by simp [tokV, Value.oneCell']) (by decide) (by unfold maxLen; omega) (by omega) (by have := HA.out.1; simp; omega) ?_; intro g4 c4 w6 hr6 ht6 hn6)
              have hlowb : ∀ j, (Value.slice a n c).ownBlock = some j → w1.heap.size ≤ j := fun j e => (HO.out.lt j e).1
              have T56 : Turn (fun k => (Value.slice a n c).ownBlock = some k) w5 w6 := (Turn.mono (HA.out.2.alloc _) (fun _ _ e => False.elim e)).trans ht6.out
              have hl := H1.out.2.2.1
              have R6 : Rdr w6 g s (kk + j) mb := ⟨R5.out.blk.keep T56 (fun e => by have := hlowb g e; omega), R5.out.le, R5.out.few⟩
              have T6 : At g w1 w6 := Turn.mono (S := fun i => i = g ∨ w1.heap.size ≤ i) ((Turn.mono T5.out fun i _ e => .inl e).trans (Turn.mono T56 fun i _ e => .inr (hlowb i e))) fun i hi e => by
                rcases e with e | e
                · exact e
                · omega
              have hpl : place w6 g = kk + j := R6.place
              have h1 := HJ.out
              have h2 := HK.out
              have h3 := HLT.out
              have h4 := HPL.out
              refine ⟨⟨kk + j, acc ++ [(t, kk)], _, n + 1, c4, rfl, ⟨R6, H1.out.2.1.keep T6 hl.2.2, T6, hl, by rw [List.length_append, HM.out.len]; rfl, by rw [List.flatMap_append]; simpa using hr6.out, by have := HF.out; omega, Q2.out HF.out⟩⟩, by omega⟩
      · have HS := Lib.hid hsk
        clear hsk
        go_wp2_with fail
        go_quiet (fail)
        go_wp2_with fail
        go_ret3
        exact lexR_err (H1.out.2.2.2.1 _ ((HM.out.turn.trans T2.out).trans (drewN_still nq).turn)) (HR.out.1.trans (HM.out.bad HK.out HS.out))
end Go.Proofs.YtpccfimjkffkfaaDoor
