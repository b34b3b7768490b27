/- The document's own reader: Lex. -/
import Derived.Test.YtpccfimjkffkfaaDoorLxRf7
import Derived.Test.YtpccfimjkffkfaaDoorLxWhole
import Derived.Test.YtpccfimjkffkfaaDoorLxErrN
namespace Go.Proofs.YtpccfimjkffkfaaDoor
set_option linter.unusedVariables false
set_option linter.unusedSimpArgs false
open Go.ChangeShapes Go.WideShapes Go.ChangeAt Go.RowKit
namespace Lx
theorem lexF_skipped {f cnt a m : Nat} {L : List Nat} (h : skip L = sh m (skip (L.drop m))) : lexF (f + 1) cnt a L = lexF (f + 1) cnt (a + m) (L.drop m) := by
  rw [lexF_succ, lexF_succ, h]
  cases hs : skip (L.drop m) with
  | error n => show Except.error (10, a + (m + n)) = Except.error (10, a + m + n); rw [Nat.add_assoc]
  | ok n =>
    show (if L.drop (m + n) = [] then _ else _) = (if (L.drop m).drop n = [] then _ else _)
    rw [List.drop_drop]
    simp only [Nat.add_assoc]
theorem lexF_bad {f cnt a : Nat} {L : List Nat} (h : skip L = .error 0) : lexF (f + 1) cnt a L = .error (10, a) := by
  rw [lexF_succ, h]; rfl
theorem lexF_nil (f cnt a : Nat) : lexF (f + 1) cnt a [] = .ok [] := by rw [lexF_succ, skip_nil]; rfl
theorem lexF_tok {f cnt a : Nat} {c : Nat} {M : List Nat} (h : skip (c :: M) = .ok 0) : lexF (f + 1) cnt a (c :: M) = (match tok (c :: M) with
      | none => .error (10, a)
      | some (t, k) => if cnt = 4000 then .error (2, a) else pre [(t, a)] (lexF f (cnt + 1) (a + k) ((c :: M).drop k))) := by
  rw [lexF_succ, h]
  simp only [List.drop_zero, Nat.add_zero]
  rw [if_neg (by simp)]
  rfl
/-- What Remark says, for skip. -/
theorem rem_cases {c : Nat} {M : List Nat} (hb : blank c = false) : (remI (c :: M) < 0 ∧ skip (c :: M) = .error 0) ∨ (∃ k : Nat, 0 < k ∧ k ≤ (c :: M).length ∧ remI (c :: M) = (k : Int) ∧ skip (c :: M) = sh k (skip ((c :: M).drop k))) ∨ (remI (c :: M) = 0 ∧ skip (c :: M) = .ok 0) := by
  by_cases h2 : c = 40 ∧ M.head? = some 42
  · obtain ⟨rfl, h2⟩ := h2
    obtain ⟨L, rfl⟩ : ∃ L, M = 42 :: L := by cases M with | nil => cases h2 | cons a b => cases h2; exact ⟨b, rfl⟩
    rw [remI_yes rfl]
    cases hc : closes 1 L with
    | none => exact .inl ⟨by decide, by rw [skip_remark, hc]⟩
    | some n =>
      refine .inr (.inl ⟨n + 2, by omega, ?_, rfl, ?_⟩)
      · have := closes_le _ _ L (Nat.le_refl _) n hc
        simp only [List.length_cons]; omega
      · rw [skip_remark_sh hc, Nat.add_comm n 2]
        rw [show (40 :: 42 :: L).drop (2 + n) = L.drop n by rw [Nat.add_comm]; rfl]
  · refine .inr (.inr ⟨?_, skip_here hb h2⟩)
    unfold remI
    rw [if_neg]
    rintro ⟨h3, h4⟩
    exact h2 ⟨by simpa using h3, h4⟩
end Lx
/-- What was read so far. -/
structure Rlx (w wr : World) (s : ByteArray) (R : Except (Nat × Nat) (List (Lx.Tok × Nat))) (k : Nat) (acc : List (Lx.Tok × Nat)) (a : Option Addr) (n c : Nat) : Prop where
  le : k ≤ s.size
  turn : Still w wr
  len : n = acc.length
  own : wr.ownsRow w.heap.size 31 4 (.slice a n c) n (acc.flatMap tokV)
  few : n ≤ 4000
  eq : ∃ f, s.size - k < f ∧ R = prep acc (Lx.lexF f n k ((Lx.bs s).drop k))
theorem Rlx.still {w wr w' : World} {s : ByteArray} {R} {k n c : Nat} {acc : List (Lx.Tok × Nat)} {a : Option Addr} (h : Rlx w wr s R k acc a n c) (t : Still wr w') : Rlx w w' s R k acc a n c :=
  ⟨h.le, h.turn.trans t, h.len, own_keep h.own t fun _ _ e => e, h.few, h.eq⟩
theorem Rlx.skip {w wr : World} {s : ByteArray} {R} {k n c m : Nat} {acc : List (Lx.Tok × Nat)} {a : Option Addr} (h : Rlx w wr s R k acc a n c) (hm : 0 < m) (hle : k + m ≤ s.size) (hs : Lx.skip ((Lx.bs s).drop k) = Lx.sh m (Lx.skip ((Lx.bs s).drop (k + m)))) : Rlx w wr s R (k + m) acc a n c := by
  obtain ⟨f, hf, e⟩ := h.eq
  obtain ⟨f, rfl⟩ : ∃ f', f = f' + 1 := ⟨f - 1, by omega⟩
  refine ⟨hle, h.turn, h.len, h.own, h.few, f + 1, by omega, ?_⟩
  rw [e, Lx.lexF_skipped (m := m) (by rw [List.drop_drop]; exact hs), List.drop_drop]
theorem Rlx.bad {w wr : World} {s : ByteArray} {R} {k n c : Nat} {acc : List (Lx.Tok × Nat)} {a : Option Addr} (h : Rlx w wr s R k acc a n c) (hs : Lx.skip ((Lx.bs s).drop k) = .error 0) : R = .error (10, k) := by
  obtain ⟨f, hf, e⟩ := h.eq
  obtain ⟨f, rfl⟩ : ∃ f', f = f' + 1 := ⟨f - 1, by omega⟩
  rw [e, Lx.lexF_bad hs]; rfl
theorem Rlx.done {w wr : World} {s : ByteArray} {R} {k n c : Nat} {acc : List (Lx.Tok × Nat)} {a : Option Addr} (h : Rlx w wr s R k acc a n c) (hk : ¬ k < s.size) : R = .ok acc := by
  obtain ⟨f, hf, e⟩ := h.eq
  obtain ⟨f, rfl⟩ : ∃ f', f = f' + 1 := ⟨f - 1, by omega⟩
  rw [e, Lx.drop_ge (by omega), Lx.lexF_nil]
  simp [prep]
theorem Rlx.step {w wr : World} {s : ByteArray} {R} {k n c : Nat} {acc : List (Lx.Tok × Nat)} {a : Option Addr} (h : Rlx w wr s R k acc a n c) (hk : k < s.size) (hs : Lx.skip ((Lx.bs s).drop k) = .ok 0) :
    (Lx.tok ((Lx.bs s).drop k) = none → R = .error (10, k)) ∧ (∀ t j, Lx.tok ((Lx.bs s).drop k) = some (t, j) → (n = 4000 → R = .error (2, k)) ∧ (n ≠ 4000 → 1 ≤ j ∧ k + j ≤ s.size ∧ ∃ f, s.size - (k + j) < f ∧ R = prep (acc ++ [(t, k)]) (Lx.lexF f (n + 1) (k + j) ((Lx.bs s).drop (k + j))))) := by
  obtain ⟨f, hf, e⟩ := h.eq
  obtain ⟨f, rfl⟩ : ∃ f', f = f' + 1 := ⟨f - 1, by omega⟩
  rw [Lx.drop_lt hk] at e hs
  rw [Lx.lexF_tok hs, ← Lx.drop_lt hk] at e
  refine ⟨fun h1 => by rw [e, h1]; rfl, fun t j h1 => ⟨fun h2 => by rw [e, h1]; simp only; rw [if_pos h2]; rfl, fun h2 => ?_⟩⟩
  have hp := Lx.tok_pos_le h1
  rw [List.length_drop, Lx.bs_len] at hp
  refine ⟨hp.1, by omega, f, by omega, ?_⟩
  rw [e, h1]
  simp only
  rw [if_neg h2, List.drop_drop]
  cases Lx.lexF f (n + 1) (k + j) ((Lx.bs s).drop (k + j)) with
  | ok l => simp [prep, Lx.pre]
  | error e => simp [prep, Lx.pre]
set_option maxRecDepth 100000 in
set_option maxHeartbeats 8000000 in
theorem lex_ref (w : World) (s : ByteArray) :
    Calls Tryd.prog 14 #[.string s] w (LexR w s) := by
  by_cases hbig : 16384 < s.size
  · have x0 : (16384 : Int) < (s.size : Int) := by omega
    have x1 : decide (16384 < s.size) = true := decide_eq_true hbig
    have hR : Lx.lex (Lx.bs s) = .error (2, 0) := by unfold Lx.lex; rw [if_pos (by rw [Lx.bs_len]; exact hbig)]
    have HR := Lib.hid hR
    clear hR
    go_enter Tryd.func14, Tryd.ntmps14
    go_wp2_with fail
    go_ret3
    exact ⟨Still.refl _, by rw [HR.out]; rfl⟩
  · have x0 : ¬ (16384 : Int) < (s.size : Int) := by omega
    have x1 : decide (16384 < s.size) = false := decide_eq_false hbig
    obtain ⟨R, hR⟩ : ∃ R, Lx.lex (Lx.bs s) = R := ⟨_, rfl⟩
    have hR2 : R = Lx.lexF ((Lx.bs s).length + 1) 0 0 (Lx.bs s) := by rw [← hR]; unfold Lx.lex; rw [if_neg (by rw [Lx.bs_len]; exact hbig)]
    have HR := Lib.hid (And.intro hR (And.intro hR2 (Nat.not_lt.1 hbig)))
    have h16 : s.size ≤ 16384 := Nat.not_lt.1 hbig
    clear hR hR2 hbig
    go_enter Tryd.func14, Tryd.ntmps14
    go_wp2_with fail
    go_loopw [5, 6] (fun v5 v6 wr => ∃ (k : Nat) (acc : List (Lx.Tok × Nat)) (a : Option Addr) (n c : Nat), v5 = .slice a n c ∧ v6 = .int .i64 k ∧ Rlx w wr s R k acc a n c) (fun v5 v6 _ => s.size - (intOf v6).toNat)
    case atStart => exact ⟨0, [], none, 0, 0, rfl, rfl, Nat.zero_le _, Still.refl _, rfl, ⟨rfl, .inl ⟨rfl, rfl⟩⟩, by omega, s.size + 1, by omega, by
      have h := HR.out.2.1
      rw [Lx.bs_len] at h
      rw [h, List.drop_zero]
      cases Lx.lexF (s.size + 1) 0 0 (Lx.bs s) <;> simp [prep]⟩
    case round =>
      obtain ⟨k, acc, a, n, c, rfl, rfl, hx⟩ := hrel
      have HX := Lib.hid hx
      have hk := hx.le
      have hn4 := hx.few
      clear hx
      by_cases hlt : k < s.size
      · have y0 : (k : Int) < (s.size : Int) := by omega
        have y1 : decide (k < s.size) = true := decide_eq_true hlt
        have y2 : (k : Int) ≤ (s.size : Int) := by omega
        have eq1 : s[k]! = s[k] := getElem!_pos s k hlt
        obtain ⟨d, hd⟩ : ∃ d, s[k].toNat = d := ⟨_, rfl⟩
        have hdr := Lx.drop_lt hlt
        rw [hd] at hdr
        cases hb : Lx.blank d with
        | true =>
          have hsk : Lx.skip ((Lx.bs s).drop k) = Lx.sh 1 (Lx.skip ((Lx.bs s).drop (k + 1))) := by rw [hdr, Lx.skip_blank_sh hb]
          have HK := Lib.hid hsk
          have hb' : d = 32 ∨ d = 9 ∨ d = 10 ∨ d = 13 := by simpa [Lx.blank, or_assoc] using hb
          clear hsk hb hdr
          rcases hb' with rfl | rfl | rfl | rfl <;>
          · go_wp2_with fail
            exact ⟨⟨k + 1, acc, a, n, c, rfl, by go_num, HX.out.skip (by omega) (by omega) HK.out⟩, by simp [intOf]; omega⟩
        | false =>
          have hb' : d ≠ 32 ∧ d ≠ 9 ∧ d ≠ 10 ∧ d ≠ 13 := by simpa [Lx.blank, and_assoc] using hb
          have z1 : ((d : Int) == 32) = false := by rw [beq_eq_false_iff_ne]; omega
          have z2 : ((d : Int) == 9) = false := by rw [beq_eq_false_iff_ne]; omega
          have z3 : ((d : Int) == 10) = false := by rw [beq_eq_false_iff_ne]; omega
          have z4 : ((d : Int) == 13) = false := by rw [beq_eq_false_iff_ne]; omega
          have HRM := Lib.hid (fun W => remark_ref (s.extract k s.size) W (by rw [ByteArray.size_extract]; omega))
          rw [bs_from, hdr] at HRM
          have hcs := Lx.rem_cases (M := (Lx.bs s).drop (k + 1)) hb
          clear hb hb'
          rcases hcs with ⟨h1, h2⟩ | ⟨m, hm0, hml, h1, h2⟩ | ⟨h1, h2⟩
          · obtain ⟨r, hr⟩ : ∃ r, Lx.remI (d :: (Lx.bs s).drop (k + 1)) = r := ⟨_, rfl⟩
            rw [hr] at h1 HRM
            rw [← hdr] at h2
            have HE := Lib.hid (HX.out.bad h2)
            have r1 : decide (r < 0) = true := decide_eq_true h1
            clear hr h2 hdr
            go_wp2_with fail
            refine (HRM.out _).mono ?_; rintro e wz ⟨rfl, hz⟩; obtain rfl := hz.symm
            go_wp2_with fail
            go_ret3
            exact lexR_err HX.out.turn (HR.out.1.trans HE.out)
          · rw [h1] at HRM
            rw [← hdr] at h2 hml
            rw [List.length_drop, Lx.bs_len] at hml
            rw [List.drop_drop] at h2
            have HX2 := Lib.hid (HX.out.skip hm0 (by omega) h2)
            have r1 : ¬ (m : Int) < 0 := by omega
            have r2 : decide ((m : Int) < 0) = false := decide_eq_false r1
            have r3 : (0 : Int) < (m : Int) := by omega
            have r4 : decide ((0 : Int) < (m : Int)) = true := decide_eq_true r3
            have hkm : k + m ≤ s.size := by omega
            clear h1 h2 hdr hml
            go_wp2_with fail
            refine (HRM.out _).mono ?_; rintro e wz ⟨rfl, hz⟩; obtain rfl := hz.symm
            go_wp2_with fail
            exact ⟨⟨k + m, acc, a, n, c, rfl, by go_num, HX2.out⟩, by simp [intOf]; omega⟩
          · rw [h1] at HRM
            rw [← hdr] at h2
            have hst := HX.out.step hlt h2
            have HTK := Lib.hid (fun W => token_ref (s.extract k s.size) W (by rw [ByteArray.size_extract]; omega) (by rw [ByteArray.size_extract]; omega))
            rw [bs_from] at HTK
            clear h1 h2 hdr
            go_wp2_with fail
            refine (HRM.out _).mono ?_; rintro e wz ⟨rfl, hz⟩; obtain rfl := hz.symm
            go_wp2_with fail
            refine (HTK.out _).mono ?_; rintro e w5 ⟨t5, hres⟩
            have T5 : Hid (Still w w5) := HX.out.turn.trans t5
            have X5 := Lib.hid (HX.out.still t5)
            clear t5 HTK HRM
            cases htok : Lx.tok ((Lx.bs s).drop k) with
            | none =>
              rw [htok] at hres
              simp only at hres
              subst hres
              have HE := Lib.hid (hst.1 htok)
              clear hst htok
              go_wp2_with fail
              go_ret3
              exact lexR_err (T5.out.alloc _) (HR.out.1.trans HE.out)
            | some tj =>
              obtain ⟨t, j⟩ := tj
              rw [htok] at hres
              simp only at hres
              subst hres
              obtain ⟨q1, q2⟩ := hst.2 t j htok
              have Q1 := Lib.hid q1
              have Q2 := Lib.hid q2
              have hj0 := (Lx.tok_pos_le htok).1
              have hj1 := (Lx.tok_pos_le htok).2
              rw [List.length_drop, Lx.bs_len] at hj1
              have zj : ((j : Int) == 0) = false := by rw [beq_eq_false_iff_ne]; omega
              have hjk : k + j ≤ s.size := by omega
              clear hst htok q1 q2
              by_cases hfull : n = 4000
              · subst hfull
                go_wp2_with fail
                go_ret3
                exact lexR_err (T5.out.alloc _) (HR.out.1.trans (Q1.out trivial))
              · have xf : ¬ (4000 : Int) ≤ (n : Int) := by omega
                have xf2 : decide (4000 ≤ n) = false := decide_eq_false (by omega)
                have HF := Lib.hid hfull
                clear hfull
                have hsz5 : w.heap.size ≤ w5.heap.size := T5.out.size
                obtain ⟨wA, hwA⟩ : ∃ wA, w5.alloc (.cells #[.int .i64 (t.kind : Int), .int .i64 (k : Int), .string (Lx.str t.text), .int .i64 (t.n : Int)] 31) = wA := ⟨_, rfl⟩
                have hA : wA.heap.size = w5.heap.size + 1 := by rw [← hwA]; simp
                have TA : Still w5 wA := hwA ▸ (Still.refl w5).alloc _
                have HA := Lib.hid (And.intro hA TA)
                have HWA := Lib.hid hwA
                clear hwA hA TA
                go_wp2_with (at_builtin; rw [HWA.out]; refine wpList_append_form rfl (.tmp 65) (.tmp 67) 23 rfl w.heap.size 31 4 40 _ Tryd.underlying23 infoTok rfl (by decide) a n c (acc.flatMap tokV) rfl (own_keep X5.out.own (HA.out.2.alloc _) fun j e e2 => e2) ⟨w5.heap.size + 1, 0, none⟩ 1 1 (tokV (t, k)) rfl rfl (fun j u hj => by rw [Addr.add_lit, Nat.zero_add, ← HA.out.1, (Blk.new wA 31 #[.int .i64 (t.kind : Int), .int .i64 (k : Int), .string (Lx.str t.text), .int .i64 (t.n : Int)]).cell j]; simpa [tokV] using hj) (by simp [tokV, Value.oneCell']) (by decide) (by unfold maxLen; omega) (by omega) (by have := HA.out.1; simp; omega) ?_; intro g4 c4 w6 hr6 ht6 hn6)
                have hlowb : ∀ j, (Value.slice a n c).ownBlock = some j → w.heap.size ≤ j := fun j e => (X5.out.own.lt j e).1
                have T56 : Turn (fun k => (Value.slice a n c).ownBlock = some k) w5 w6 := (Turn.mono (HA.out.2.alloc _) (fun _ _ e => False.elim e)).trans ht6.out
                have T6 : Still w w6 := Turn.mono (S := fun i => w.heap.size ≤ i) ((Turn.mono T5.out fun i _ e => False.elim e).trans (Turn.mono T56 fun i _ e => hlowb i e)) fun i hi e => by omega
                refine ⟨⟨k + j, acc ++ [(t, k)], _, n + 1, c4, rfl, by go_num, hjk, T6, by rw [List.length_append, X5.out.len]; rfl, by rw [List.flatMap_append]; simpa using hr6.out, by have := HF.out; omega, (Q2.out HF.out).2.2⟩, by simp [intOf]; omega⟩
      · have y0 : ¬ (k : Int) < (s.size : Int) := by omega
        have y1 : decide (k < s.size) = false := decide_eq_false hlt
        have HE := Lib.hid (HX.out.done hlt)
        clear hlt
        go_wp2_with fail
        go_ret3
        exact lexR_ok HX.out.turn (HR.out.1.trans HE.out) HX.out.len (Nat.le_refl _) HX.out.own
end Go.Proofs.YtpccfimjkffkfaaDoor
