/- LexJoins: its walk. -/
import Derived.Test.YtpccfimjkffkfaaDoorLxJoinP
import Derived.Test.YtpccfimjkffkfaaDoorLxErrN
namespace Go.Proofs.YtpccfimjkffkfaaDoor
set_option linter.unusedVariables false
set_option linter.unusedSimpArgs false
open Go.ChangeShapes Go.WideShapes Go.ChangeAt Go.RowKit
theorem tokV_one {l : List (Lx.Tok × Nat)} : ∀ u ∈ l.flatMap tokV, u.oneCell' = true := fun u hu => by
  obtain ⟨x, _, h⟩ := List.mem_flatMap.1 hu
  simp only [tokV, List.mem_cons, List.not_mem_nil, or_false] at h
  rcases h with rfl | rfl | rfl | rfl <;> rfl
set_option maxRecDepth 100000 in
set_option maxHeartbeats 4000000 in
theorem lexJoins_w (a0 b0 : ByteArray) (w : World) : Calls Tryd.prog 7 #[.string a0, .string b0] w fun e w' => e = .returned (.bool true) ∧ Below w.heap.size w w' := by
  obtain ⟨a1, ha, hcutA⟩ := cut_any a0 w
  obtain ⟨b1, hb, hcutB⟩ := cut_any b0 w
  have HCA := Lib.hid hcutA
  have HCB := Lib.hid hcutB
  obtain ⟨ka, hka⟩ : ∃ ka : Nat, min (a1.size : Int) 1500 = (ka : Int) := ⟨min a1.size 1500, by omega⟩
  obtain ⟨kb, hkb⟩ : ∃ kb : Nat, min (b1.size : Int) 1500 = (kb : Int) := ⟨min b1.size 1500, by omega⟩
  have hka1 : ka ≤ a1.size := by omega
  have hkb1 : kb ≤ b1.size := by omega
  have hka2 : ka ≤ 1500 := by omega
  have hkb2 : kb ≤ 1500 := by omega
  clear hcutA hcutB
  go_enter Tryd.func7, Tryd.ntmps7
  go_wp2_with fail
  refine HCA.out.mono ?_; rintro e w1 ⟨rfl, rfl⟩
  go_wp2_with fail
  refine HCB.out.mono ?_; rintro e w2 ⟨rfl, rfl⟩
  go_wp2_with fail
  go_quiet (fail)
  obtain ⟨A, hA⟩ : ∃ A, a1.extract 0 ka = A := ⟨_, rfl⟩
  obtain ⟨B, hB⟩ : ∃ B, b1.extract 0 kb = B := ⟨_, rfl⟩
  have hAs : A.size ≤ 1500 := by rw [← hA, ByteArray.size_extract]; omega
  have hBs : B.size ≤ 1500 := by rw [← hB, ByteArray.size_extract]; omega
  have TQ : Hid (Still w2 (w2.drewN nq)) := drewN_still nq
  have hj : Lx.bs ((A ++ { data := #[32] }) ++ B) = Lx.bs A ++ 32 :: Lx.bs B := by
    rw [Lx.bs_append, Lx.bs_append, List.append_assoc]; rfl
  have hjl : ∀ l, Lx.lex (Lx.bs A) = .ok l → Lx.lex (Lx.bs ((A ++ { data := #[32] }) ++ B)) = Lx.pre l (Lx.far (A.size + 1) (Lx.lex (Lx.bs B))) := fun l hl => by
    rw [hj, Lx.lex_joint (by rw [Lx.bs_len]; exact hAs) (by rw [Lx.bs_len]; exact hBs) hl, Lx.bs_len]
  have HJ := Lib.hid hjl
  go_wp2_with fail
  rw [hA, hB]
  clear hj hjl hA hB hka hkb hka1 hkb1 hka2 hkb2
  cases hla : Lx.lex (Lx.bs A) with
  | error e0 =>
    obtain ⟨x, k⟩ := e0
    have HL := Lib.hid hla
    rcases lex_code hla with rfl | rfl
    all_goals
      clear hla
      refine (lexNo HL.out).mono ?_; rintro e w3 ⟨t3, rfl⟩
      have T3 := Lib.hid (TQ.out.trans t3)
      clear t3
      go_wp2_with fail
      refine (lexAny B).mono ?_; rintro e w4 ⟨t4, a, n, c, x, k, rfl⟩
      have T4 := Lib.hid (T3.out.trans t4)
      clear t4
      go_wp2_with fail
      refine (lives_any _).mono ?_; rintro e w5 ⟨rfl, t5⟩
      go_wp2_with fail
      go_ret
      exact ⟨rfl, (T4.out.trans t5).below⟩
  | ok l =>
    have HL := Lib.hid hla
    have hjo := HJ.out l hla
    have HLN := Lib.hid (show l.length ≤ 1500 by
      have h := hla
      unfold Lx.lex at h
      rw [if_neg (by rw [Lx.bs_len]; omega)] at h
      have := Lx.lexF_len _ _ _ _ _ h
      rw [Lx.bs_len] at this
      omega)
    clear hla
    refine (lexOk (n := l.length) HL.out rfl).mono ?_; rintro e w3 ⟨t3, a, c, rfl, o3⟩
    have T3 := Lib.hid (TQ.out.trans t3)
    have O3 := Lib.hid o3
    clear t3 o3
    go_wp2_with fail
    cases hlb : Lx.lex (Lx.bs B) with
    | error e0 =>
      obtain ⟨x, k⟩ := e0
      rw [hlb] at hjo
      have HLB := Lib.hid hlb
      obtain ⟨N, hN⟩ : ∃ N, k + (A.size + 1) = N := ⟨_, rfl⟩
      have hjo2 : Lx.lex (Lx.bs ((A ++ { data := #[32] }) ++ B)) = .error (x, N) := by rw [hjo, ← hN]; rfl
      have HJO := Lib.hid hjo2
      have hkB : k ≤ 1500 := by
        have := Lx.lex_err_le hlb
        rw [Lx.bs_len] at this
        omega
      have xN : ((N : Int) == (A.size : Int) + 1 + (k : Int)) = true := by rw [beq_iff_eq]; omega
      have HXN := Lib.hid xN
      clear xN
      rcases lex_code hlb with rfl | rfl
      all_goals
        clear hlb hjo hjo2 hN
        refine (lexNo HLB.out).mono ?_; rintro e w4 ⟨t4, rfl⟩
        have T4 := Lib.hid (T3.out.trans t4)
        clear t4
        go_wp2_with fail
        refine (lexNo HJO.out).mono ?_; rintro e w5 ⟨t5, rfl⟩
        have T5 := Lib.hid (T4.out.trans t5)
        clear t5
        go_wp2_with fail
        any_goals (first | (exfalso; have := beq_iff_eq.1 HXN.out; omega) | skip)
        refine (lives_any _).mono ?_; rintro e w6 ⟨rfl, t6⟩
        go_wp2_with fail
        go_ret
        exact ⟨rfl, (T5.out.trans t6).below⟩
    | ok m =>
      rw [hlb] at hjo
      have HLB := Lib.hid hlb
      have HJO := Lib.hid (show Lx.lex (Lx.bs ((A ++ { data := #[32] }) ++ B)) = .ok (l ++ m.map (shf (A.size + 1))) from hjo)
      clear hlb hjo
      have hm1500 : m.length ≤ 1500 := by
        have h := HLB.out
        unfold Lx.lex at h
        rw [if_neg (by rw [Lx.bs_len]; omega)] at h
        have := Lx.lexF_len _ _ _ _ _ h
        rw [Lx.bs_len] at this
        omega
      refine (lexOk (n := m.length) HLB.out rfl).mono ?_; rintro e w4 ⟨t4, b, d, rfl, o4⟩
      have T4 := Lib.hid (T3.out.trans t4)
      have O4 := Lib.hid o4
      have O34 := Lib.hid (O3.out.still t4)
      have T4s := Lib.hid t4.size
      clear t4 o4
      go_wp2_with fail
      refine (lexOk (n := (l ++ m.map (shf (A.size + 1))).length) HJO.out rfl).mono ?_; rintro e w5 ⟨t5, a5, d5, rfl, o5⟩
      have T5 := Lib.hid (T4.out.trans t5)
      have O5 := Lib.hid o5
      have O45 := Lib.hid (O4.out.still t5)
      have O35 := Lib.hid (O34.out.still t5)
      clear t5 o5
      have HP := Lib.hid (Lx.lex_at_le HLB.out)
      have hml : m.length ≤ 1500 := hm1500
      have hll : l.length ≤ 1500 := HLN.out
      have HFAR := Lib.hid (show (∀ k, (Value.slice a l.length c).ownBlock = some k → ¬ (Value.slice b m.length d).ownBlock = some k) ∧ (∀ k, (Value.slice a5 (l ++ m.map (shf (A.size + 1))).length d5).ownBlock = some k → ¬ (Value.slice b m.length d).ownBlock = some k) from
        ⟨fun k e f => by have h1 := (O3.out.lt k e).2; have h2 := (O4.out.lt k f).1; omega, fun k e f => by have h1 := (O5.out.lt k e).1; have h2 := (O4.out.lt k f).2; omega⟩)
      go_wp2_with fail
      go_loopw [72] (fun v wr => ∃ i : Nat, v = .int .i64 i ∧ i ≤ m.length ∧ TokRow wr w3.heap.size b m.length d (mid (A.size + 1) m i) ∧ Turn (fun k => (Value.slice b m.length d).ownBlock = some k) w5 wr) (fun v wr => m.length - (intOf v).toNat)
      case atStart => exact ⟨0, rfl, Nat.zero_le _, by have := O45.out; simpa [mid] using this, Turn.refl _ _⟩
      case round =>
        obtain ⟨i, rfl, hi, hrow, hturn⟩ := hrel
        by_cases hlt : i < m.length
        · obtain ⟨g, x, hb, hx, g0, g1, g2, g3, g4⟩ := tokRow_cells hrow (by rw [mid_len]) hlt
          subst hb
          obtain ⟨y, hy⟩ : ∃ y, m[i]? = some y := ⟨m[i], List.getElem?_eq_getElem hlt⟩
          obtain ⟨hms, hmx⟩ := mid_step (d := A.size + 1) hy
          obtain rfl : x = y := Option.some.inj (hx.symm.trans hmx)
          have hxle : x.2 ≤ 1500 := by
            have := HP.out x (List.mem_of_getElem? hy)
            rw [Lx.bs_len] at this
            omega
          have hput := own_put hrow (i * 4 + 1) (.int .i64 ((x.2 + (A.size + 1) : Nat) : Int))
          rw [hms] at hput
          have gf : wr.frozen? ⟨g, i * 4 + 1, none⟩ = false := hrow.frozenAt _
          have HPUT := Lib.hid (And.intro hput hturn)
          obtain ⟨xa, hxa⟩ : ∃ xa : Nat, x.2 = xa := ⟨_, rfl⟩
          rw [hxa] at g2 hxle HPUT
          have x0 : (i : Int) < (m.length : Int) := by omega
          have x1 : decide (i < m.length) = true := decide_eq_true hlt
          clear hput hms hmx hx hy hrow hturn hxa
          go_wp2_with fail
          refine ⟨⟨i + 1, by go_num, hlt, ?_, ?_⟩, by simp [intOf]; omega⟩
          · have h9 := HPUT.out.1
            rw [show ((xa + (A.size + 1) : Nat) : Int) = (xa : Int) + ((A.size : Int) + 1) by omega] at h9
            exact h9
          · exact Turn.setCell (p := ⟨g, i * 4 + 1, none⟩) HPUT.out.2 (fun _ => rfl) _
        · obtain rfl : i = m.length := by omega
          have x0 : ¬ (m.length : Int) < (m.length : Int) := by omega
          have x1 : decide (m.length < m.length) = false := decide_eq_false (by omega)
          have hmm : mid (A.size + 1) m m.length = m.map (shf (A.size + 1)) := by simp [mid]
          rw [hmm] at hrow
          have HROW := Lib.hid (And.intro hrow hturn)
          clear hrow hturn hmm hlt
          have hl1 := own_keep O35.out HROW.out.2 (fun k e f => HFAR.out.1 k e f)
          have hn1 := own_keep O5.out HROW.out.2 (fun k e f => HFAR.out.2 k e f)
          have HL1 := Lib.hid hl1
          have HN1 := Lib.hid hn1
          have hszr : (w2.drewN nq).heap.size ≤ wr.heap.size := Nat.le_trans T5.out.below.size HROW.out.2.size
          have HFN := Lib.hid (show ∀ k, (Value.slice a5 (l ++ m.map (shf (A.size + 1))).length d5).ownBlock = some k → ¬ (Value.slice a l.length c).ownBlock = some k from
            fun k e f => by have h1 := (O5.out.lt k e).1; have h2 := (O3.out.lt k f).2; have h3 := T4s.out; omega)
          have HSZ := Lib.hid hszr
          clear hl1 hn1 hszr
          go_wp2_with (at_builtin; refine wpList_append_rowG (by simp [Region.wanted, yielded]) (.tmp 91) (.tmp 92) 23 rfl (w2.drewN nq).heap.size 31 4 40 _ Tryd.underlying23 infoTok rfl (by decide) a l.length c _ rfl HL1.out w3.heap.size b m.length d _ rfl HROW.out.1 tokV_one (by unfold maxLen; omega) (by omega) HSZ.out ?_; intro a6 c6 w6 h6 t6)
          have hrow6 := h6.out
          rw [← List.flatMap_append] at hrow6
          have hn6 := own_keep HN1.out t6.out (fun k e f => HFN.out k e f)
          rw [List.length_append, List.length_map] at hn6
          refine (same_any hn6 hrow6 (by rw [List.length_append, List.length_map]) (by omega)).mono ?_; rintro e w7 ⟨rfl, t7⟩
          go_wp2_with fail
          refine (lives_any _).mono ?_; rintro e w8 ⟨rfl, t8⟩
          go_wp2_with fail
          go_ret
          have z2 := T3.out.size
          have z5 := T5.out.below.size
          have z6 := HROW.out.2.size
          have b1 : Below w2.heap.size w5 wr := HROW.out.2.below z5 (fun k f => by have h1 := (O4.out.lt k f).1; omega)
          have b2 : Below w2.heap.size wr w6 := t6.out.below (by omega) (fun k f => (O3.out.lt k f).1)
          have z7 := t6.out.size
          have b3 : Below w2.heap.size w6 w8 := Turn.below (t7.trans t8) (by omega) (fun _ e => False.elim e)
          exact ⟨rfl, ((T5.out.below.trans b1).trans b2).trans b3⟩
end Go.Proofs.YtpccfimjkffkfaaDoor
