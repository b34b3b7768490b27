/- The document's own reader: Token. -/
import Derived.Test.YtpccfimjkffkfaaDoorLxRf6
namespace Go.Proofs.YtpccfimjkffkfaaDoor
set_option linter.unusedVariables false
set_option linter.unusedSimpArgs false
open Go.ChangeShapes Go.WideShapes Go.ChangeAt Go.RowKit
namespace Lx
theorem takeWhile_mem (p : Nat → Bool) : ∀ (L : List Nat), ∀ d ∈ L.takeWhile p, p d = true := fun L d hd => List.all_eq_true.1 List.all_takeWhile d hd
theorem take_while {p : Nat → Bool} (M : List Nat) : M.take (M.takeWhile p).length = M.takeWhile p := (List.prefix_iff_eq_take.1 (List.takeWhile_prefix p)).symm
theorem unit_small {L : List Nat} (h : ∀ c ∈ L, c < 256) {v k : Nat} (hu : unit L = some (v, k)) : v < 256 := by
  cases L with
  | nil => cases hu
  | cons c L =>
    rw [unit_cons] at hu
    split at hu
    · obtain ⟨⟨a, b⟩, hb, e⟩ := Option.map_eq_some_iff.1 hu
      cases e
      unfold esc at hb
      split at hb
      · cases hb
      · split at hb
        · split at hb
          · split at hb
            · rename_i h3; cases hb; have := h3.2.2; omega
            · cases hb
          · cases hb
        · split at hb
          · cases hb; omega
          · split at hb
            · cases hb; omega
            · split at hb
              · cases hb; omega
              · split at hb
                · cases hb; omega
                · cases hb
    · split at hu
      · cases hu
      · cases hu; exact h _ (List.mem_cons_self ..)
theorem text_small : ∀ (n : Nat) (L : List Nat), L.length ≤ n → (∀ c ∈ L, c < 256) → ∀ x, text L = some x → ∀ c ∈ x.1, c < 256
  | _, [], _, _, x, h => by rw [text_nil] at h; cases h
  | 0, c :: L, hn, _, x, h => by simp at hn
  | n + 1, c :: L, hn, hs, x, h => by
    by_cases hc : c = 34
    · subst hc
      rw [text_end] at h
      cases h
      intro d hd; cases hd
    · rw [text_step hc] at h
      cases hu : unit (c :: L) with
      | none => rw [hu] at h; cases h
      | some y =>
        obtain ⟨v, k⟩ := y
        rw [hu] at h
        obtain ⟨z, hz, rfl⟩ := Option.map_eq_some_iff.1 h
        have hp := unit_pos hu
        intro d hd
        rcases List.mem_cons.1 hd with rfl | hd
        · exact unit_small hs hu
        · exact text_small n _ (by rw [List.length_drop]; simp only [List.length_cons] at hn ⊢; omega) (fun e he => hs e (List.mem_of_mem_drop he)) z hz d hd
theorem great_kind {c : Nat} {M : List Nat} (h : great c = true) : kind (c :: M) = 4 := by
  have h1 : ∀ x ∈ kons ++ kws, great (x.headD 0) = false := by decide
  unfold kind
  split
  · rfl
  · split
    · rename_i h2
      have := h1 _ (List.mem_append_right _ (List.contains_iff_mem.1 h2))
      rw [show (c :: M).headD 0 = c from rfl, h] at this
      cases this
    · rw [if_pos (by exact h)]
theorem kons_kind {L : List Nat} (h : kons.contains L = true) : kind L = 4 := by unfold kind; rw [if_pos h]
theorem kws_kind {L : List Nat} (h1 : kons.contains L = false) (h : kws.contains L = true) : kind L = 6 := by unfold kind; rw [if_neg (by rw [h1]; decide), if_pos h]
theorem name_kind {c : Nat} {M : List Nat} (h1 : kons.contains (c :: M) = false) (h : kws.contains (c :: M) = false) (hg : great c = false) : kind (c :: M) = 3 := by
  unfold kind
  rw [if_neg (by rw [h1]; decide), if_neg (by rw [h]; decide), if_neg (by show ¬ great c = true; rw [hg]; decide)]
end Lx
/-- What Token answers. -/
def TokE (w : World) (T : Option (Lx.Tok × Nat)) (e : Ending) (w' : World) : Prop := Still w w' ∧
  (match T with
  | none => e = .returned (.tuple #[.agg #[.int .i64 0, .int .i64 0, .string ByteArray.empty, .int .i64 0], .int .i64 0])
  | some (t, k) => e = .returned (.tuple #[.agg #[.int .i64 (t.kind : Int), .int .i64 0, .string (Lx.str t.text), .int .i64 (t.n : Int)], .int .i64 (k : Int)]))
theorem tokE_no {w w' : World} {T : Option (Lx.Tok × Nat)} (hT : T = none) (t : Still w w') : TokE w T (.returned (.tuple #[.agg #[.int .i64 0, .int .i64 0, .string ByteArray.empty, .int .i64 0], .int .i64 0])) w' := ⟨t, by rw [hT]⟩
theorem tokE_yes {w w' : World} {T : Option (Lx.Tok × Nat)} {t : Lx.Tok} {k : Nat} {S : ByteArray} (hT : T = some (t, k)) (hS : Lx.bs S = t.text) (tt : Still w w') : TokE w T (.returned (.tuple #[.agg #[.int .i64 (t.kind : Int), .int .i64 0, .string S, .int .i64 (t.n : Int)], .int .i64 (k : Int)])) w' := ⟨tt, by rw [hT]; show _ = Ending.returned (.tuple #[.agg #[_, _, .string (Lx.str t.text), _], _]); rw [← hS, Lx.str_bs]⟩
theorem eq_byte (c k : Nat) : ((c : Int) == (k : Int)) = decide (c = k) := by rw [Bool.eq_iff_iff, beq_iff_eq, decide_eq_true_iff]; omega
set_option maxRecDepth 100000 in
set_option maxHeartbeats 8000000 in
theorem token_ref (s : ByteArray) (w : World) (h0 : 0 < s.size) (hs : s.size ≤ 16384) : Calls Tryd.prog 20 #[.string s] w (TokE w (Lx.tok (Lx.bs s))) := by
  obtain ⟨T, hT⟩ : ∃ T, Lx.tok (Lx.bs s) = T := ⟨_, rfl⟩
  rw [hT]
  obtain ⟨M, hM⟩ : ∃ M, (Lx.bs s).drop 1 = M := ⟨_, rfl⟩
  obtain ⟨c, hc⟩ : ∃ c, s[0].toNat = c := ⟨_, rfl⟩
  have hbs : Lx.bs s = c :: M := by
    have := Lx.drop_lt h0
    rw [List.drop_zero] at this
    rw [this, hc, ← hM]
  have htok := hT
  rw [hbs, Lx.tok_cons] at htok
  have eq0 : s[0]! = s[0] := getElem!_pos s 0 h0
  have x00 : (0 : Int) < (s.size : Int) := by omega
  have HB := Lib.hid (And.intro hbs (And.intro htok (And.intro hM hT)))
  clear hT htok hbs hM
  have BA0 : Blk (w.alloc (.cells #[.int .i64 0, .int .i64 0, .string ByteArray.empty, .int .i64 0] 31)) w.heap.size 31 #[.int .i64 0, .int .i64 0, .string ByteArray.empty, .int .i64 0] := Blk.new w _ _
  have SA0 : Still w (w.alloc (.cells #[.int .i64 0, .int .i64 0, .string ByteArray.empty, .int .i64 0] 31)) := (Still.refl w).alloc _
  have HA := Lib.hid (And.intro BA0 SA0)
  clear BA0 SA0
  go_enter Tryd.func20, Tryd.ntmps20
  go_wp2_with fail
  obtain ⟨wA, hwA⟩ : ∃ wA, w.alloc (.cells #[.int .i64 0, .int .i64 0, .string ByteArray.empty, .int .i64 0] 31) = wA := ⟨_, rfl⟩
  rw [hwA] at HA
  rw [show ({ data := #[] } : ByteArray) = ByteArray.empty from rfl, hwA]
  clear hwA
  go_loopw [4] (fun v wr => ∃ n : Nat, v = .int .i64 n ∧ 1 ≤ n ∧ n ≤ s.size ∧ wr = wA ∧ ∀ j, j < n - 1 → ∃ c, M[j]? = some c ∧ Lx.inName c = true) (fun v _ => s.size - (intOf v).toNat)
  case atStart => exact ⟨1, rfl, by omega, h0, rfl, fun j hj => by omega⟩
  case round =>
    obtain ⟨n, rfl, h1n, hns, hwr, hpre⟩ := hrel
    subst hwr
    have HP := Lib.hid hpre
    clear hpre
    by_cases hgo : ∃ h : n < s.size, Lx.inName s[n].toNat = true
    · obtain ⟨hlt, hin⟩ := hgo
      have x0 : (n : Int) < (s.size : Int) := by omega
      have x1 : decide (n < s.size) = true := decide_eq_true hlt
      have eq1 : s[n]! = s[n] := getElem!_pos s n hlt
      have HL := Lib.hid (rLetter_any s[n].toNat)
      rw [hin] at HL
      have hnext : ∀ j, j < n + 1 - 1 → ∃ c, M[j]? = some c ∧ Lx.inName c = true := fun j hj => by
        by_cases hji : j < n - 1
        · exact HP.out j hji
        · obtain rfl : j = n - 1 := by omega
          refine ⟨s[n].toNat, ?_, hin⟩
          rw [← HB.out.2.2.1, List.getElem?_drop, show 1 + (n - 1) = n by omega]
          exact Lx.bs_at hlt
      have HX := Lib.hid hnext
      clear hin hnext
      go_wp2_with fail
      refine (HL.out _).mono ?_; rintro e w5 ⟨rfl, rfl⟩
      go_wp2_with fail
      exact ⟨⟨n + 1, by go_num, by omega, hlt, trivial, HX.out⟩, by simp [intOf]; omega⟩
    · have hstop : (M.drop (n - 1)).head?.any Lx.inName = false := by
        rw [← HB.out.2.2.1, List.drop_drop, show 1 + (n - 1) = n by omega]
        by_cases hlt : n < s.size
        · rw [Lx.drop_lt hlt]
          simp only [List.head?_cons, Option.any_some]
          exact Bool.eq_false_iff.2 fun e => hgo ⟨hlt, e⟩
        · rw [Lx.drop_ge (by omega)]; rfl
      have hw : M.takeWhile Lx.inName = M.take (n - 1) := Lx.takeWhile_split _ _ _ HP.out hstop
      have hMl : M.length = s.size - 1 := by rw [← HB.out.2.2.1, List.length_drop, Lx.bs_len]
      have hwl : (M.takeWhile Lx.inName).length = n - 1 := by rw [hw, List.length_take, hMl]; omega
      obtain ⟨V, hV⟩ : ∃ V, M.takeWhile Lx.inName = V := ⟨_, rfl⟩
      rw [hV] at hw hwl
      have hS : Lx.bs (s.extract 0 n) = c :: V := by
        rw [Lx.bs_extract, List.drop_zero, Nat.sub_zero, HB.out.1, hw]
        obtain ⟨k, rfl⟩ : ∃ k, n = k + 1 := ⟨n - 1, by omega⟩
        rfl
      have hend : ∀ (P : Prop), (n < s.size → Lx.inName s[n]!.toNat = false → P) → (¬ n < s.size → P) → P := fun P h1 h2 => by
        by_cases hlt : n < s.size
        · exact h1 hlt (by rw [getElem!_pos s n hlt]; exact Bool.eq_false_iff.2 fun e => hgo ⟨hlt, e⟩)
        · exact h2 hlt
      have HV := Lib.hid (And.intro hV (And.intro hwl hS))
      clear hgo hstop hw hMl hwl hV hS HP
      refine hend _ (fun hlt hin => ?ya) (fun hlt => ?yb)
      case' ya =>
        have x0 : (n : Int) < (s.size : Int) := by omega
        have x1 : decide (n < s.size) = true := decide_eq_true hlt
        have eq1 : s[n]! = s[n] := getElem!_pos s n hlt
        have HL := Lib.hid (rLetter_any s[n]!.toNat)
        rw [hin, eq1] at HL
        clear hin hend
        go_wp2_with fail
        refine (HL.out _).mono ?_; rintro e wz ⟨rfl, hz⟩; obtain rfl := hz.symm
        clear HL eq1
        go_wp2_with fail
      case' yb =>
        have x0 : ¬ (n : Int) < (s.size : Int) := by omega
        have x1 : decide (n < s.size) = false := decide_eq_false hlt
        clear hend
        go_wp2_with fail
      all_goals
        have HD := Lib.hid (rDigit_any c)
        have HG := Lib.hid (rGreat_any c)
        have HSM := Lib.hid (rSmall_any c)
        obtain ⟨wo, hwo⟩ : ∃ wo, wo = wr := ⟨_, rfl⟩
        subst hwo
        cases dc : Lx.dig c with
        | true =>
          rw [dc] at HD
          have ht := HB.out.2.1
          rw [if_pos dc] at ht
          have HT := Lib.hid ht
          have HDC := Lib.hid dc
          clear ht dc
          refine (HD.out _).mono ?_; rintro e wz ⟨rfl, hz⟩; obtain rfl := hz.symm
          go_wp2_with fail
          go_loopw [4] (fun v wx => ∃ k : Nat, v = .int .i64 k ∧ 1 ≤ k ∧ k ≤ s.size ∧ wx = wo ∧ ∀ j, j < k → ∃ d, (c :: M)[j]? = some d ∧ Lx.dig d = true) (fun v _ => s.size - (intOf v).toNat)
          case atStart => exact ⟨1, rfl, by omega, h0, rfl, fun j hj => (Nat.lt_one_iff.1 hj).symm ▸ ⟨c, rfl, HDC.out⟩⟩
          case round =>
            obtain ⟨k, rfl, h1k, hks, hwr, hpre⟩ := hrel
            obtain rfl := hwr.symm
            have HP := Lib.hid hpre
            clear hpre
            by_cases hgo : ∃ h : k < s.size, Lx.dig s[k].toNat = true
            · obtain ⟨hlt2, hin⟩ := hgo
              have y0 : (k : Int) < (s.size : Int) := by omega
              have y1 : decide (k < s.size) = true := decide_eq_true hlt2
              have eq2 : s[k]! = s[k] := getElem!_pos s k hlt2
              have HL := Lib.hid (rDigit_any s[k].toNat)
              rw [hin] at HL
              have hnext : ∀ j, j < k + 1 → ∃ d, (c :: M)[j]? = some d ∧ Lx.dig d = true := fun j hj => by
                by_cases hji : j < k
                · exact HP.out j hji
                · obtain rfl : j = k := by omega
                  exact ⟨s[j].toNat, by rw [← HB.out.1]; exact Lx.bs_at hlt2, hin⟩
              have HX := Lib.hid hnext
              clear hin hnext
              go_wp2_with fail
              refine (HL.out _).mono ?_; rintro e wz ⟨rfl, hz⟩; obtain rfl := hz.symm
              go_wp2_with fail
              exact ⟨⟨k + 1, by go_num, by omega, hlt2, trivial, HX.out⟩, by simp [intOf]; omega⟩
            · have hstop : ((c :: M).drop k).head?.any Lx.dig = false := by
                rw [← HB.out.1]
                by_cases hlt2 : k < s.size
                · rw [Lx.drop_lt hlt2]
                  simp only [List.head?_cons, Option.any_some]
                  exact Bool.eq_false_iff.2 fun e => hgo ⟨hlt2, e⟩
                · rw [Lx.drop_ge (by omega)]; rfl
              have hw : (c :: M).takeWhile Lx.dig = (c :: M).take k := Lx.takeWhile_split _ _ _ HP.out hstop
              have hS : Lx.bs (s.extract 0 k) = (c :: M).takeWhile Lx.dig := by rw [Lx.bs_extract, List.drop_zero, Nat.sub_zero, HB.out.1, hw]
              have hkl : ((c :: M).takeWhile Lx.dig).length = k := by
                rw [hw, List.length_take, ← HB.out.1, Lx.bs_len]; omega
              have hnr := fun W => number_ref (s.extract 0 k) W (by rw [ByteArray.size_extract]; omega) (by rw [hS]; exact Lx.takeWhile_mem Lx.dig (c :: M))
              rw [hS] at hnr
              have ht := HT.out
              rw [hkl] at ht
              obtain ⟨u, hu⟩ : ∃ u, Lx.num ((c :: M).takeWhile Lx.dig) = u := ⟨_, rfl⟩
              unfold Lx.numI at hnr
              rw [hu] at ht hnr
              have hend2 : ∀ (P : Prop), (k < s.size → Lx.dig s[k]!.toNat = false → P) → (¬ k < s.size → P) → P := fun P h1 h2 => by
                by_cases hlt2 : k < s.size
                · exact h1 hlt2 (by rw [getElem!_pos s k hlt2]; exact Bool.eq_false_iff.2 fun e => hgo ⟨hlt2, e⟩)
                · exact h2 hlt2
              have xk : (k : Int) ≤ (s.size : Int) := by omega
              clear hgo hstop hw hS hkl hu HP
              by_cases hbig : u ≤ 4611686018427387903
              · rw [if_pos hbig] at ht hnr
                have xu : ¬ (u : Int) < 0 := by omega
                have xu2 : decide ((u : Int) < 0) = false := decide_eq_false xu
                have HT2 := Lib.hid ht
                have HNR := Lib.hid hnr
                obtain ⟨c0, c1, c2, c3, c4, c5, c6, c7, c8⟩ := tokBox HA.out.1
                clear ht hnr hbig
                refine hend2 _ (fun hlt2 hin => ?_) (fun hlt2 => ?_)
                · have y0 : (k : Int) < (s.size : Int) := by omega
                  have y1 : decide (k < s.size) = true := decide_eq_true hlt2
                  have eq2 : s[k]! = s[k] := getElem!_pos s k hlt2
                  have HL := Lib.hid (rDigit_any s[k]!.toNat)
                  rw [hin, eq2] at HL
                  clear hin hend2
                  go_wp2_with fail
                  refine (HL.out _).mono ?_; rintro e wz ⟨rfl, hz⟩; obtain rfl := hz.symm
                  go_wp2_with fail
                  refine (HNR.out _).mono ?_; rintro e wz ⟨rfl, hz⟩; obtain rfl := hz.symm
                  go_wp2_with fail
                  refine bodyPost_ret (results_row_tmp rfl _ _ w.heap.size 31 #[.int .i64 1, .int .i64 0, .string ByteArray.empty, .int .i64 (u : Int)] (0, 0) _ rfl (tokPut HA.out.1 (.int .i64 1) (.int .i64 0) (.string ByteArray.empty) (.int .i64 (u : Int))) Tryd.underlying31 rfl tok_size) rfl ?_
                  exact tokE_yes (t := ⟨1, [], u⟩) (S := ByteArray.empty) (k := k) HT2.out.symm rfl (tokTurn HA.out.2 (Nat.le_refl _) _ _ _ _)
                · have y0 : ¬ (k : Int) < (s.size : Int) := by omega
                  have y1 : decide (k < s.size) = false := decide_eq_false hlt2
                  clear hend2
                  go_wp2_with fail
                  refine (HNR.out _).mono ?_; rintro e wz ⟨rfl, hz⟩; obtain rfl := hz.symm
                  go_wp2_with fail
                  refine bodyPost_ret (results_row_tmp rfl _ _ w.heap.size 31 #[.int .i64 1, .int .i64 0, .string ByteArray.empty, .int .i64 (u : Int)] (0, 0) _ rfl (tokPut HA.out.1 (.int .i64 1) (.int .i64 0) (.string ByteArray.empty) (.int .i64 (u : Int))) Tryd.underlying31 rfl tok_size) rfl ?_
                  exact tokE_yes (t := ⟨1, [], u⟩) (S := ByteArray.empty) (k := k) HT2.out.symm rfl (tokTurn HA.out.2 (Nat.le_refl _) _ _ _ _)
              · rw [if_neg hbig] at ht hnr
                have HT2 := Lib.hid ht
                have HNR := Lib.hid hnr
                obtain ⟨c0, c1, c2, c3, c4, c5, c6, c7, c8⟩ := tokBox HA.out.1
                clear ht hnr hbig
                refine hend2 _ (fun hlt2 hin => ?_) (fun hlt2 => ?_)
                · have y0 : (k : Int) < (s.size : Int) := by omega
                  have y1 : decide (k < s.size) = true := decide_eq_true hlt2
                  have eq2 : s[k]! = s[k] := getElem!_pos s k hlt2
                  have HL := Lib.hid (rDigit_any s[k]!.toNat)
                  rw [hin, eq2] at HL
                  clear hin hend2
                  go_wp2_with fail
                  refine (HL.out _).mono ?_; rintro e wz ⟨rfl, hz⟩; obtain rfl := hz.symm
                  go_wp2_with fail
                  refine (HNR.out _).mono ?_; rintro e wz ⟨rfl, hz⟩; obtain rfl := hz.symm
                  go_wp2_with fail
                  refine bodyPost_ret (results_row_tmp rfl _ _ w.heap.size 31 #[.int .i64 0, .int .i64 0, .string ByteArray.empty, .int .i64 0] (0, 0) _ rfl (tokPut HA.out.1 (.int .i64 0) (.int .i64 0) (.string ByteArray.empty) (.int .i64 0)) Tryd.underlying31 rfl tok_size) rfl ?_
                  exact tokE_no HT2.out.symm (tokTurn HA.out.2 (Nat.le_refl _) _ _ _ _)
                · have y0 : ¬ (k : Int) < (s.size : Int) := by omega
                  have y1 : decide (k < s.size) = false := decide_eq_false hlt2
                  clear hend2
                  go_wp2_with fail
                  refine (HNR.out _).mono ?_; rintro e wz ⟨rfl, hz⟩; obtain rfl := hz.symm
                  go_wp2_with fail
                  refine bodyPost_ret (results_row_tmp rfl _ _ w.heap.size 31 #[.int .i64 0, .int .i64 0, .string ByteArray.empty, .int .i64 0] (0, 0) _ rfl (tokPut HA.out.1 (.int .i64 0) (.int .i64 0) (.string ByteArray.empty) (.int .i64 0)) Tryd.underlying31 rfl tok_size) rfl ?_
                  exact tokE_no HT2.out.symm (tokTurn HA.out.2 (Nat.le_refl _) _ _ _ _)
        | false =>
          rw [dc] at HD
          have ht := HB.out.2.1
          rw [if_neg (by rw [dc]; decide)] at ht
          by_cases h34 : c = 34
          · subst h34
            rw [if_pos rfl] at ht
            have HTX := Lib.hid (fun W => text_ref (s.extract 1 s.size) W (by rw [ByteArray.size_extract]; omega))
            rw [bs_from, HB.out.2.2.1] at HTX
            have x1s : (1 : Int) ≤ (s.size : Int) := by omega
            cases htx : Lx.text M with
            | none =>
              rw [htx] at ht HTX
              have HT2 := Lib.hid ht
              clear ht htx
              refine (HD.out _).mono ?_; rintro e wz ⟨rfl, hz⟩; obtain rfl := hz.symm
              go_wp2_with fail
              refine (HTX.out _).mono ?_; rintro e w6 ⟨t6, rfl⟩
              have B6 := Lib.hid (t6.blk HA.out.1)
              have T6 := Lib.hid (HA.out.2.trans t6)
              obtain ⟨c0, c1, c2, c3, c4, c5, c6, c7, c8⟩ := tokBox B6.out
              clear t6
              go_wp2_with fail
              refine bodyPost_ret (results_row_tmp rfl _ _ w.heap.size 31 #[.int .i64 0, .int .i64 0, .string ByteArray.empty, .int .i64 0] (0, 0) _ rfl (tokPut B6.out (.int .i64 0) (.int .i64 0) (.string ByteArray.empty) (.int .i64 0)) Tryd.underlying31 rfl tok_size) rfl ?_
              exact tokE_no HT2.out.symm (tokTurn T6.out (Nat.le_refl _) _ _ _ _)
            | some y =>
              obtain ⟨v, k⟩ := y
              rw [htx] at ht HTX
              have hk := Lx.tok_pos_le (HB.out.2.2.2.trans ht.symm)
              rw [Lx.bs_len] at hk
              obtain ⟨K, hK⟩ : ∃ K, k + 1 = K := ⟨_, rfl⟩
              have hvb : ∀ c ∈ v, c < 256 := Lx.text_small M.length M (Nat.le_refl _) (by intro d hd; exact Lx.byte_lt s d (by rw [HB.out.1]; exact List.mem_cons_of_mem _ hd)) _ htx
              have ek : (1 : Int) + (k : Int) = (K : Int) := by omega
              have hk2 : k + 1 ≤ s.size := hk.2
              have ht2 : some ((⟨2, v, 0⟩ : Lx.Tok), K) = T := by rw [← hK]; exact ht
              have HT2 := Lib.hid (And.intro ht2 hvb)
              clear ht htx hk hvb ht2 hK
              refine (HD.out _).mono ?_; rintro e wz ⟨rfl, hz⟩; obtain rfl := hz.symm
              go_wp2_with fail
              refine (HTX.out _).mono ?_; rintro e w6 ⟨t6, rfl⟩
              have B6 := Lib.hid (t6.blk HA.out.1)
              have T6 := Lib.hid (HA.out.2.trans t6)
              obtain ⟨c0, c1, c2, c3, c4, c5, c6, c7, c8⟩ := tokBox B6.out
              clear t6
              go_wp2_with fail
              refine bodyPost_ret (results_row_tmp rfl _ _ w.heap.size 31 #[.int .i64 2, .int .i64 0, .string (Lx.str v), .int .i64 0] (0, 0) _ rfl (tokPut B6.out (.int .i64 2) (.int .i64 0) (.string (Lx.str v)) (.int .i64 0)) Tryd.underlying31 rfl tok_size) rfl ?_
              exact tokE_yes (t := ⟨2, v, 0⟩) (k := K) HT2.out.1.symm (Lx.bs_str HT2.out.2) (tokTurn T6.out (Nat.le_refl _) _ _ _ _)
          · rw [if_neg h34] at ht
            have b34 : ((c : Int) == 34) = false := by rw [beq_eq_false_iff_ne]; omega
            have xn : (n : Int) ≤ (s.size : Int) := by omega
            obtain ⟨S, hS⟩ : ∃ S, s.extract 0 n = S := ⟨_, rfl⟩
            have hSb := HV.out.2.2
            rw [hS] at hSb
            obtain ⟨c0, c1, c2, c3, c4, c5, c6, c7, c8⟩ := tokBox HA.out.1
            by_cases h39 : c = 39
            · subst h39
              rw [if_pos rfl, HV.out.1] at ht
              by_cases hn1 : n = 1
              · have hV0 : V = [] := List.length_eq_zero_iff.1 (by rw [HV.out.2.1]; omega)
                rw [if_pos hV0] at ht
                have bn1 : ((n : Int) == 1) = true := by rw [beq_iff_eq]; omega
                have HT2 := Lib.hid ht
                clear ht hV0
                refine (HD.out _).mono ?_; rintro e wz ⟨rfl, hz⟩; obtain rfl := hz.symm
                go_wp2_with fail
                refine bodyPost_ret (results_row_tmp rfl _ _ w.heap.size 31 #[.int .i64 0, .int .i64 0, .string ByteArray.empty, .int .i64 0] (0, 0) _ rfl (tokPut HA.out.1 (.int .i64 0) (.int .i64 0) (.string ByteArray.empty) (.int .i64 0)) Tryd.underlying31 rfl tok_size) rfl ?_
                exact tokE_no HT2.out.symm (tokTurn HA.out.2 (Nat.le_refl _) _ _ _ _)
              · have hV0 : ¬ V = [] := fun e => by have := HV.out.2.1; rw [e] at this; simp at this; omega
                rw [if_neg hV0, HV.out.2.1, Nat.sub_add_cancel h1n] at ht
                have bn1 : ((n : Int) == 1) = false := by rw [beq_eq_false_iff_ne]; omega
                have HT2 := Lib.hid (And.intro ht hSb)
                clear ht hV0 hSb
                refine (HD.out _).mono ?_; rintro e wz ⟨rfl, hz⟩; obtain rfl := hz.symm
                go_wp2_with fail
                refine bodyPost_ret (results_row_tmp rfl _ _ w.heap.size 31 #[.int .i64 5, .int .i64 0, .string S, .int .i64 0] (0, 0) _ rfl (tokPut HA.out.1 (.int .i64 5) (.int .i64 0) (.string S) (.int .i64 0)) Tryd.underlying31 rfl tok_size) rfl ?_
                exact tokE_yes (t := ⟨5, 39 :: V, 0⟩) (k := n) HT2.out.1.symm HT2.out.2 (tokTurn HA.out.2 (Nat.le_refl _) _ _ _ _)
            · rw [if_neg h39] at ht
              have b39 : ((c : Int) == 39) = false := by rw [beq_eq_false_iff_ne]; omega
              have hword : (Lx.small c || Lx.great c) = true → some ((⟨Lx.kind (c :: V), c :: V, 0⟩ : Lx.Tok), n) = T := fun h => by
                rw [if_pos h, List.takeWhile_cons, show Lx.inName c = true by unfold Lx.inName; rw [h]; rfl, if_pos rfl, HV.out.1, List.length_cons, HV.out.2.1, Nat.sub_add_cancel h1n] at ht
                exact ht
              have hsign : (Lx.small c || Lx.great c) = false → (if Lx.signLen (c :: M) = 0 then none else some (⟨6, (c :: M).take (Lx.signLen (c :: M)), 0⟩, Lx.signLen (c :: M))) = T := fun h => by
                rw [if_neg (by rw [h]; decide)] at ht
                exact ht
              have HK := Lib.hid (And.intro hword (And.intro hsign hSb))
              clear ht hword hsign hSb
              cases gc : Lx.great c with
              | true =>
                rw [gc] at HG
                have hk := HK.out.1 (by rw [gc, Bool.or_true])
                rw [Lx.great_kind gc] at hk
                have HT2 := Lib.hid hk
                clear hk gc
                refine (HD.out _).mono ?_; rintro e wz ⟨rfl, hz⟩; obtain rfl := hz.symm
                go_wp2_with fail
                refine (HG.out _).mono ?_; rintro e wz ⟨rfl, hz⟩; obtain rfl := hz.symm
                go_wp2_with fail
                refine bodyPost_ret (results_row_tmp rfl _ _ w.heap.size 31 #[.int .i64 4, .int .i64 0, .string S, .int .i64 0] (0, 0) _ rfl (tokPut HA.out.1 (.int .i64 4) (.int .i64 0) (.string S) (.int .i64 0)) Tryd.underlying31 rfl tok_size) rfl ?_
                exact tokE_yes (t := ⟨4, c :: V, 0⟩) (k := n) HT2.out.symm HK.out.2.2 (tokTurn HA.out.2 (Nat.le_refl _) _ _ _ _)
              | false =>
                rw [gc] at HG
                cases sc : Lx.small c with
                | true =>
                  rw [sc] at HSM
                  have hk := HK.out.1 (by rw [sc, Bool.true_or])
                  obtain ⟨wK, hwK⟩ : ∃ wK, wo.alloc (.cells (txtRow Lx.kons) 9) = wK := ⟨_, rfl⟩
                  have SK : Still wo wK := by rw [← hwK]; exact (Still.refl wo).alloc _
                  have HAK := Lib.hid (among_ref (c := 2) (n := 2) (by have := Txts.new wo kons_small; rwa [hwK] at this) rfl (by decide) S)
                  rw [HK.out.2.2] at HAK
                  rw [show txtRow Lx.kons = #[.string { data := #[116, 114, 117, 101] }, .string { data := #[102, 97, 108, 115, 101] }] from rfl] at hwK
                  have BK := Lib.hid (SK.blk HA.out.1)
                  have TK := Lib.hid (HA.out.2.trans SK)
                  clear c0 c1 c2 c3 c4 c5 c6 c7 c8 SK
                  obtain ⟨c0, c1, c2, c3, c4, c5, c6, c7, c8⟩ := tokBox BK.out
                  cases kc : Lx.kons.contains (c :: V) with
                  | true =>
                    rw [kc] at HAK
                    rw [Lx.kons_kind kc] at hk
                    have HT2 := Lib.hid hk
                    clear hk gc sc kc
                    refine (HD.out _).mono ?_; rintro e wz ⟨rfl, hz⟩; obtain rfl := hz.symm
                    go_wp2_with fail
                    refine (HG.out _).mono ?_; rintro e wz ⟨rfl, hz⟩; obtain rfl := hz.symm
                    go_wp2_with fail
                    refine (HSM.out _).mono ?_; rintro e wz ⟨rfl, hz⟩; obtain rfl := hz.symm
                    go_wp2_with fail
                    refine HAK.out.mono ?_; rintro e wz ⟨rfl, hz⟩; obtain rfl := hz.symm
                    go_wp2_with fail
                    refine bodyPost_ret (results_row_tmp rfl _ _ w.heap.size 31 #[.int .i64 4, .int .i64 0, .string S, .int .i64 0] (0, 0) _ rfl (tokPut BK.out (.int .i64 4) (.int .i64 0) (.string S) (.int .i64 0)) Tryd.underlying31 rfl tok_size) rfl ?_
                    exact tokE_yes (t := ⟨4, c :: V, 0⟩) (k := n) HT2.out.symm HK.out.2.2 (tokTurn TK.out (Nat.le_refl _) _ _ _ _)
                  | false =>
                    rw [kc] at HAK
                    obtain ⟨wX, hwX⟩ : ∃ wX, wK.drew.alloc (.cells (txtRow Lx.kws) 9) = wX := ⟨_, rfl⟩
                    have SX : Still wK wX := by rw [← hwX]; exact (drew_still wK).alloc _
                    have HAW := Lib.hid (among_ref (c := 20) (n := 20) (by have := Txts.new wK.drew kws_small; rwa [hwX] at this) rfl (by decide) S)
                    rw [HK.out.2.2] at HAW
                    have BX := Lib.hid (SX.blk BK.out)
                    have TX := Lib.hid (TK.out.trans SX)
                    have HWX := Lib.hid hwX
                    clear c0 c1 c2 c3 c4 c5 c6 c7 c8 SX hwX
                    obtain ⟨c0, c1, c2, c3, c4, c5, c6, c7, c8⟩ := tokBox BX.out
                    cases wc : Lx.kws.contains (c :: V) with
                    | true =>
                      rw [wc] at HAW
                      rw [Lx.kws_kind kc wc] at hk
                      have HT2 := Lib.hid hk
                      clear hk gc sc kc wc
                      refine (HD.out _).mono ?_; rintro e wz ⟨rfl, hz⟩; obtain rfl := hz.symm
                      go_wp2_with fail
                      refine (HG.out _).mono ?_; rintro e wz ⟨rfl, hz⟩; obtain rfl := hz.symm
                      go_wp2_with fail
                      refine (HSM.out _).mono ?_; rintro e wz ⟨rfl, hz⟩; obtain rfl := hz.symm
                      go_wp2_with fail
                      refine HAK.out.mono ?_; rintro e wz ⟨rfl, hz⟩; obtain rfl := hz.symm
                      go_wp2_with fail
                      refine wp_region_any (by kernel_rfl) ?_
                      change wpAny _ _ _ _ _ _ _ (World.drew _)
                      refine wpAny_take (i := 0) (v := ?_) rfl (by kernel_rfl) (by kernel_rfl) (by kernel_rfl) (fun _ _ _ h => h) (Or.inl ⟨by rfl, ?_⟩) ?_
                      rotate_left
                      · intro w; go_simp; try with_reducible rfl
                      go_simp
                      refine wpAny_take (i := 1) (v := ?_) rfl (by kernel_rfl) (by kernel_rfl) (by kernel_rfl) (fun _ _ _ h => h) (Or.inl ⟨by rfl, ?_⟩) ?_
                      rotate_left
                      · intro w; go_simp; try with_reducible rfl
                      go_simp
                      refine wpAny_ready (rs := [2]) (by kernel_rfl) (by simp) ?_
                      refine AllReady.cons rfl (fun K hK => ?_) AllReady.nil
                      go_simp
                      refine (HSM.out _).mono ?_; rintro e wz ⟨rfl, hz⟩; subst hz
                      refine hK _ _ ?_; clear hK K
                      refine wpAny_take (i := 3) (v := ?_) rfl (by kernel_rfl) (by kernel_rfl) (by kernel_rfl) (fun _ _ _ h => h) (Or.inl ⟨by rfl, ?_⟩) ?_
                      rotate_left
                      · intro w; go_simp; try with_reducible rfl
                      go_simp
                      refine wpAny_take (i := 4) (v := ?_) rfl (by kernel_rfl) (by kernel_rfl) (by kernel_rfl) (fun _ _ _ h => h) (Or.inl ⟨by rfl, ?_⟩) ?_
                      rotate_left
                      · intro w; go_simp; try with_reducible rfl
                      go_simp
                      refine wpAny_take (i := 5) (v := ?_) rfl (by kernel_rfl) (by kernel_rfl) (by kernel_rfl) (fun _ _ _ h => h) (Or.inl ⟨by rfl, ?_⟩) ?_
                      rotate_left
                      · intro w; go_simp; try with_reducible rfl
                      go_simp
                      refine wpAny_take (i := 6) (v := ?_) rfl (by kernel_rfl) (by kernel_rfl) (by kernel_rfl) (fun _ _ _ h => h) (Or.inl ⟨by rfl, ?_⟩) ?_
                      rotate_left
                      · intro w; go_simp; try with_reducible rfl
                      go_simp
                      refine wpAny_ready (rs := [7]) (by kernel_rfl) (by simp) ?_
                      refine AllReady.cons rfl (fun K hK => ?_) AllReady.nil
                      go_simp
                      refine (words_ref _).mono ?_; rintro e wz ⟨rfl, hz⟩; rw [HWX.out] at hz; obtain rfl := hz.symm
                      refine hK _ _ ?_; clear hK K
                      refine wpAny_ready (rs := [8]) (by kernel_rfl) (by simp) ?_
                      refine AllReady.cons rfl (fun K hK => ?_) AllReady.nil
                      go_simp
                      refine HAW.out.mono ?_; rintro e wz ⟨rfl, hz⟩; obtain rfl := hz.symm
                      refine hK _ _ ?_; clear hK K
                      refine wpAny_take (i := 9) (v := ?_) rfl (by kernel_rfl) (by kernel_rfl) (by kernel_rfl) (fun _ _ _ h => h) (Or.inl ⟨by rfl, ?_⟩) ?_
                      rotate_left
                      · intro w; go_simp; try with_reducible rfl
                      go_simp
                      refine wpAny_take (i := 10) (v := ?_) rfl (by kernel_rfl) (by kernel_rfl) (by kernel_rfl) (fun _ _ _ h => h) (Or.inl ⟨by rfl, ?_⟩) ?_
                      rotate_left
                      · intro w; go_simp; try with_reducible rfl
                      go_simp
                      refine wpAny_done (by kernel_rfl) ?_ _
                      go_wp2_with fail
                      refine bodyPost_ret (results_row_tmp rfl _ _ w.heap.size 31 #[.int .i64 6, .int .i64 0, .string S, .int .i64 0] (0, 0) _ rfl (tokPut BX.out (.int .i64 6) (.int .i64 0) (.string S) (.int .i64 0)) Tryd.underlying31 rfl tok_size) rfl ?_
                      exact tokE_yes (t := ⟨6, c :: V, 0⟩) (k := n) HT2.out.symm HK.out.2.2 (tokTurn TX.out (Nat.le_refl _) _ _ _ _)
                    | false =>
                      rw [wc] at HAW
                      rw [Lx.name_kind kc wc gc] at hk
                      have HT2 := Lib.hid hk
                      clear hk gc sc kc wc
                      refine (HD.out _).mono ?_; rintro e wz ⟨rfl, hz⟩; obtain rfl := hz.symm
                      go_wp2_with fail
                      refine (HG.out _).mono ?_; rintro e wz ⟨rfl, hz⟩; obtain rfl := hz.symm
                      go_wp2_with fail
                      refine (HSM.out _).mono ?_; rintro e wz ⟨rfl, hz⟩; obtain rfl := hz.symm
                      go_wp2_with fail
                      refine HAK.out.mono ?_; rintro e wz ⟨rfl, hz⟩; obtain rfl := hz.symm
                      go_wp2_with fail
                      refine wp_region_any (by kernel_rfl) ?_
                      change wpAny _ _ _ _ _ _ _ (World.drew _)
                      refine wpAny_take (i := 0) (v := ?_) rfl (by kernel_rfl) (by kernel_rfl) (by kernel_rfl) (fun _ _ _ h => h) (Or.inl ⟨by rfl, ?_⟩) ?_
                      rotate_left
                      · intro w; go_simp; try with_reducible rfl
                      go_simp
                      refine wpAny_take (i := 1) (v := ?_) rfl (by kernel_rfl) (by kernel_rfl) (by kernel_rfl) (fun _ _ _ h => h) (Or.inl ⟨by rfl, ?_⟩) ?_
                      rotate_left
                      · intro w; go_simp; try with_reducible rfl
                      go_simp
                      refine wpAny_ready (rs := [2]) (by kernel_rfl) (by simp) ?_
                      refine AllReady.cons rfl (fun K hK => ?_) AllReady.nil
                      go_simp
                      refine (HSM.out _).mono ?_; rintro e wz ⟨rfl, hz⟩; subst hz
                      refine hK _ _ ?_; clear hK K
                      refine wpAny_take (i := 3) (v := ?_) rfl (by kernel_rfl) (by kernel_rfl) (by kernel_rfl) (fun _ _ _ h => h) (Or.inl ⟨by rfl, ?_⟩) ?_
                      rotate_left
                      · intro w; go_simp; try with_reducible rfl
                      go_simp
                      refine wpAny_take (i := 4) (v := ?_) rfl (by kernel_rfl) (by kernel_rfl) (by kernel_rfl) (fun _ _ _ h => h) (Or.inl ⟨by rfl, ?_⟩) ?_
                      rotate_left
                      · intro w; go_simp; try with_reducible rfl
                      go_simp
                      refine wpAny_take (i := 5) (v := ?_) rfl (by kernel_rfl) (by kernel_rfl) (by kernel_rfl) (fun _ _ _ h => h) (Or.inl ⟨by rfl, ?_⟩) ?_
                      rotate_left
                      · intro w; go_simp; try with_reducible rfl
                      go_simp
                      refine wpAny_take (i := 6) (v := ?_) rfl (by kernel_rfl) (by kernel_rfl) (by kernel_rfl) (fun _ _ _ h => h) (Or.inl ⟨by rfl, ?_⟩) ?_
                      rotate_left
                      · intro w; go_simp; try with_reducible rfl
                      go_simp
                      refine wpAny_ready (rs := [7]) (by kernel_rfl) (by simp) ?_
                      refine AllReady.cons rfl (fun K hK => ?_) AllReady.nil
                      go_simp
                      refine (words_ref _).mono ?_; rintro e wz ⟨rfl, hz⟩; rw [HWX.out] at hz; obtain rfl := hz.symm
                      refine hK _ _ ?_; clear hK K
                      refine wpAny_ready (rs := [8]) (by kernel_rfl) (by simp) ?_
                      refine AllReady.cons rfl (fun K hK => ?_) AllReady.nil
                      go_simp
                      refine HAW.out.mono ?_; rintro e wz ⟨rfl, hz⟩; obtain rfl := hz.symm
                      refine hK _ _ ?_; clear hK K
                      refine wpAny_take (i := 9) (v := ?_) rfl (by kernel_rfl) (by kernel_rfl) (by kernel_rfl) (fun _ _ _ h => h) (Or.inl ⟨by rfl, ?_⟩) ?_
                      rotate_left
                      · intro w; go_simp; try with_reducible rfl
                      go_simp
                      refine wpAny_take (i := 10) (v := ?_) rfl (by kernel_rfl) (by kernel_rfl) (by kernel_rfl) (fun _ _ _ h => h) (Or.inl ⟨by rfl, ?_⟩) ?_
                      rotate_left
                      · intro w; go_simp; try with_reducible rfl
                      go_simp
                      refine wpAny_done (by kernel_rfl) ?_ _
                      go_wp2_with fail
                      refine (HSM.out _).mono ?_; rintro e wz ⟨rfl, hz⟩; obtain rfl := hz.symm
                      go_wp2_with fail
                      refine bodyPost_ret (results_row_tmp rfl _ _ w.heap.size 31 #[.int .i64 3, .int .i64 0, .string S, .int .i64 0] (0, 0) _ rfl (tokPut BX.out (.int .i64 3) (.int .i64 0) (.string S) (.int .i64 0)) Tryd.underlying31 rfl tok_size) rfl ?_
                      exact tokE_yes (t := ⟨3, c :: V, 0⟩) (k := n) HT2.out.symm HK.out.2.2 (tokTurn TX.out (Nat.le_refl _) _ _ _ _)
                | false =>
                  rw [sc] at HSM
                  have hk := HK.out.2.1 (by rw [gc, sc]; rfl)
                  obtain ⟨wX, hwX⟩ : ∃ wX, wo.drew.alloc (.cells (txtRow sgns) 9) = wX := ⟨_, rfl⟩
                  have SX : Still wo wX := by rw [← hwX]; exact (drew_still wo).alloc _
                  have HTS := Lib.hid (show Txts wX wo.heap.size sgns by have := Txts.new wo.drew sgns_small; rwa [hwX] at this)
                  have BX := Lib.hid (SX.blk HA.out.1)
                  have TX := Lib.hid (HA.out.2.trans SX)
                  have HWX := Lib.hid hwX
                  have HT2 := Lib.hid hk
                  clear c0 c1 c2 c3 c4 c5 c6 c7 c8 SX hwX hk gc sc
                  obtain ⟨c0, c1, c2, c3, c4, c5, c6, c7, c8⟩ := tokBox BX.out
                  refine (HD.out _).mono ?_; rintro e wz ⟨rfl, hz⟩; obtain rfl := hz.symm
                  go_wp2_with fail
                  refine (HG.out _).mono ?_; rintro e wz ⟨rfl, hz⟩; obtain rfl := hz.symm
                  go_wp2_with fail
                  refine (HSM.out _).mono ?_; rintro e wz ⟨rfl, hz⟩; obtain rfl := hz.symm
                  go_wp2_with fail
                  refine wp_region_any (by kernel_rfl) ?_
                  change wpAny _ _ _ _ _ _ _ (World.drew _)
                  refine wpAny_take (i := 0) (v := ?_) rfl (by kernel_rfl) (by kernel_rfl) (by kernel_rfl) (fun _ _ _ h => h) (Or.inl ⟨by rfl, ?_⟩) ?_
                  rotate_left
                  · intro w; go_simp; try with_reducible rfl
                  go_simp
                  refine wpAny_take (i := 1) (v := ?_) rfl (by kernel_rfl) (by kernel_rfl) (by kernel_rfl) (fun _ _ _ h => h) (Or.inl ⟨by rfl, ?_⟩) ?_
                  rotate_left
                  · intro w; go_simp; try with_reducible rfl
                  go_simp
                  refine wpAny_ready (rs := [2]) (by kernel_rfl) (by simp) ?_
                  refine AllReady.cons rfl (fun K hK => ?_) AllReady.nil
                  go_simp
                  refine (HSM.out _).mono ?_; rintro e wz ⟨rfl, hz⟩; subst hz
                  refine hK _ _ ?_; clear hK K
                  refine wpAny_take (i := 3) (v := ?_) rfl (by kernel_rfl) (by kernel_rfl) (by kernel_rfl) (fun _ _ _ h => h) (Or.inl ⟨by rfl, ?_⟩) ?_
                  rotate_left
                  · intro w; go_simp; try with_reducible rfl
                  go_simp
                  refine wpAny_take (i := 4) (v := undef) rfl (by kernel_rfl) (by kernel_rfl) (by kernel_rfl) (fun _ _ _ h => h) (Or.inr ⟨by rfl, rfl⟩) ?_
                  go_simp
                  refine wpAny_take (i := 5) (v := undef) rfl (by kernel_rfl) (by kernel_rfl) (by kernel_rfl) (fun _ _ _ h => h) (Or.inr ⟨by rfl, rfl⟩) ?_
                  go_simp
                  refine wpAny_take (i := 6) (v := undef) rfl (by kernel_rfl) (by kernel_rfl) (by kernel_rfl) (fun _ _ _ h => h) (Or.inr ⟨by rfl, rfl⟩) ?_
                  go_simp
                  refine wpAny_take (i := 7) (v := undef) rfl (by kernel_rfl) (by kernel_rfl) (by kernel_rfl) (fun _ _ _ h => h) (Or.inr ⟨by rfl, rfl⟩) ?_
                  go_simp
                  refine wpAny_take (i := 8) (v := undef) rfl (by kernel_rfl) (by kernel_rfl) (by kernel_rfl) (fun _ _ _ h => h) (Or.inr ⟨by rfl, rfl⟩) ?_
                  go_simp
                  refine wpAny_take (i := 9) (v := ?_) rfl (by kernel_rfl) (by kernel_rfl) (by kernel_rfl) (fun _ _ _ h => h) (Or.inl ⟨by rfl, ?_⟩) ?_
                  rotate_left
                  · intro w; go_simp; try with_reducible rfl
                  go_simp
                  refine wpAny_take (i := 10) (v := ?_) rfl (by kernel_rfl) (by kernel_rfl) (by kernel_rfl) (fun _ _ _ h => h) (Or.inl ⟨by rfl, ?_⟩) ?_
                  rotate_left
                  · intro w; go_simp; try with_reducible rfl
                  go_simp
                  refine wpAny_done (by kernel_rfl) ?_ _
                  go_wp2_with fail
                  refine (HSM.out _).mono ?_; rintro e wz ⟨rfl, hz⟩; obtain rfl := hz.symm
                  go_wp2_with fail
                  refine (signs_ref _).mono ?_; rintro e wz ⟨rfl, hz⟩; rw [HWX.out] at hz; obtain rfl := hz.symm
                  go_wp2_with fail
                  go_loopw [127] (fun v wx => ∃ i : Nat, v = .int .i64 i ∧ i ≤ 24 ∧ wx = wX ∧ ∀ j y, j < i → sgns[j]? = some y → y.isPrefixOf (c :: M) = false) (fun v _ => 24 - (intOf v).toNat)
                  case atStart => exact ⟨0, rfl, by omega, rfl, fun j y hj => by omega⟩
                  case round =>
                    obtain ⟨i, rfl, hi, hwr, hno⟩ := hrel
                    obtain rfl := hwr.symm
                    have HNO := Lib.hid hno
                    clear hno
                    by_cases hli : i < 24
                    · have z0 : (i : Int) < 24 := by omega
                      have z1 : decide (i < 24) = true := decide_eq_true hli
                      obtain ⟨x, hx⟩ : ∃ x, sgns[i]? = some x := ⟨_, List.getElem?_eq_getElem (by show i < 24; exact hli)⟩
                      obtain ⟨hcell, h256⟩ := HTS.out i x hx
                      obtain ⟨X, hX⟩ : ∃ X, Lx.str x = X := ⟨_, rfl⟩
                      have hbx : Lx.bs X = x := by rw [← hX]; exact Lx.bs_str h256
                      rw [hX] at hcell
                      have HBG := Lib.hid (begins_any s X wX)
                      rw [hbx, HB.out.1] at HBG
                      have hXs : X.size = x.length := by rw [← hbx, Lx.bs_len]
                      cases hp : x.isPrefixOf (c :: M) with
                      | true =>
                        obtain ⟨e1, e2, e3⟩ := Lx.sign_at hx hp HNO.out
                        have ht := HT2.out
                        rw [e1, if_neg (by intro e; exact e3 (List.length_eq_zero_iff.1 e)), e2, ← hXs] at ht
                        rw [hp] at HBG
                        have HT3 := Lib.hid (And.intro ht hbx)
                        clear ht hp e1 e2 e3 hx hX hbx h256 hXs
                        go_wp2_with fail
                        refine HBG.out.mono ?_; rintro e wz ⟨rfl, hz⟩; obtain rfl := hz.symm
                        go_wp2_with fail
                        refine bodyPost_ret (results_row_tmp rfl _ _ w.heap.size 31 #[.int .i64 6, .int .i64 0, .string X, .int .i64 0] (0, 0) _ rfl (tokPut BX.out (.int .i64 6) (.int .i64 0) (.string X) (.int .i64 0)) Tryd.underlying31 rfl tok_size) rfl ?_
                        exact tokE_yes (t := ⟨6, x, 0⟩) (k := X.size) HT3.out.1.symm HT3.out.2 (tokTurn TX.out (Nat.le_refl _) _ _ _ _)
                      | false =>
                        rw [hp] at HBG
                        have HNX := Lib.hid (And.intro hp hx)
                        clear hp hx hX hbx h256 hXs
                        go_wp2_with fail
                        refine HBG.out.mono ?_; rintro e wz ⟨rfl, hz⟩; obtain rfl := hz.symm
                        go_wp2_with fail
                        exact ⟨⟨i + 1, by go_num, by omega, trivial, fun j y hj hy => by
                          by_cases hji : j < i
                          · exact HNO.out j y hji hy
                          · obtain rfl : j = i := by omega
                            obtain rfl := Option.some.inj (hy.symm.trans HNX.out.2)
                            exact HNX.out.1⟩, by simp [intOf]; omega⟩
                    · obtain rfl : i = 24 := by omega
                      have ht := HT2.out
                      rw [Lx.sign_none HNO.out, if_pos rfl] at ht
                      have HT3 := Lib.hid ht
                      clear ht
                      go_wp2_with fail
                      refine bodyPost_ret (results_row_tmp rfl _ _ w.heap.size 31 #[.int .i64 0, .int .i64 0, .string ByteArray.empty, .int .i64 0] (0, 0) _ rfl (tokPut BX.out (.int .i64 0) (.int .i64 0) (.string ByteArray.empty) (.int .i64 0)) Tryd.underlying31 rfl tok_size) rfl ?_
                      exact tokE_no HT3.out.symm (tokTurn TX.out (Nat.le_refl _) _ _ _ _)
end Go.Proofs.YtpccfimjkffkfaaDoor
