/- Tokens that are printed are cut into the same ones, in lists: the whole. -/
import Derived.Test.YtpccfimjkffkfaaDoorLxBackN
import Derived.Test.YtpccfimjkffkfaaDoorLxPrintT
namespace Go.Proofs.YtpccfimjkffkfaaDoor
set_option linter.unusedVariables false
namespace Lx
theorem qbs_text {T : List Nat} (hT : ∀ c ∈ T, c < 256) (X : List Nat) : text (qbs T ++ [34] ++ X) = some (T, (qbs T).length + 1) := by
  rw [List.append_assoc]
  exact text_qbs X T hT
theorem letter_facts {c : Nat} (h : (small c || great c) = true) : dig c = false ∧ c ≠ 34 ∧ c ≠ 39 ∧ blank c = false ∧ c ≠ 40 ∧ inName c = true := by
  have h' : (97 ≤ c ∧ c ≤ 122) ∨ (65 ≤ c ∧ c ≤ 90) := by simpa [small, great] using h
  refine ⟨?_, by omega, by omega, ?_, by omega, by unfold inName; rw [h]; rfl⟩
  · simp [dig]; omega
  · simp [blank]; omega
theorem dig_facts {c : Nat} (h : dig c = true) : blank c = false ∧ c ≠ 40 := by
  have h' : 48 ≤ c ∧ c ≤ 57 := by simpa [dig] using h
  exact ⟨by simp [blank]; omega, by omega⟩
/-- A printed token is cut out again. -/
theorem tok_pc {t : Tok} {k : Nat} (hg : Good t k) {X : List Nat} (hX : Sep X) : tok (pc t ++ X) = some (t, (pc t).length) ∧ skip (pc t ++ X) = .ok 0 ∧ pc t ≠ [] := by
  cases hg with
  | num n k hn hk =>
    show tok (dd n ++ X) = some (_, (dd n).length) ∧ skip (dd n ++ X) = .ok 0 ∧ dd n ≠ []
    obtain ⟨h1, h2, h3⟩ := dd_is n
    have htw : (dd n ++ X).takeWhile dig = dd n := takeWhile_sep (by decide) hX _ h2
    obtain ⟨c, M, hc⟩ : ∃ c M, dd n = c :: M := by cases h : dd n with | nil => exact absurd h h3 | cons c M => exact ⟨c, M, rfl⟩
    have hd : dig c = true := h2 c (by rw [hc]; exact List.mem_cons_self ..)
    obtain ⟨e1, e2⟩ := dig_facts hd
    rw [hc, List.cons_append] at htw ⊢
    refine ⟨?_, skip_here e1 (fun h => e2 h.1), by simp⟩
    rw [tok_cons, if_pos hd, htw, ← hc, h1, if_pos hn]
  | text T k hT hk =>
    show tok (34 :: (qbs T ++ [34]) ++ X) = some (_, (34 :: (qbs T ++ [34])).length) ∧ skip (34 :: (qbs T ++ [34]) ++ X) = .ok 0 ∧ _
    rw [List.cons_append]
    refine ⟨?_, skip_here (by decide) (fun h => by cases h.1), by show 34 :: _ ≠ []; simp⟩
    rw [tok_cons, if_neg (by decide), if_pos rfl, qbs_text hT]
    simp
  | var w hw h =>
    show tok (39 :: w ++ X) = some (_, (39 :: w).length) ∧ skip (39 :: w ++ X) = .ok 0 ∧ _
    rw [List.cons_append]
    refine ⟨?_, skip_here (by decide) (fun h => by cases h.1), by show 39 :: _ ≠ []; simp⟩
    rw [tok_cons, if_neg (by decide), if_neg (by decide), if_pos rfl, takeWhile_sep (by decide) hX _ h, if_neg hw]
    rfl
  | word c w hc h =>
    have hk : pc ⟨kind (c :: w), c :: w, 0⟩ = c :: w := by
      unfold pc
      have : kind (c :: w) = 4 ∨ kind (c :: w) = 6 ∨ kind (c :: w) = 3 := by
        unfold kind
        split
        · exact .inl rfl
        · split
          · exact .inr (.inl rfl)
          · split
            · exact .inl rfl
            · exact .inr (.inr rfl)
      rcases this with e | e | e <;> simp [e]
    rw [hk]
    obtain ⟨e1, e2, e3, e4, e5, e6⟩ := letter_facts hc
    have htw : (c :: (w ++ X)).takeWhile inName = c :: w := takeWhile_sep (by decide) hX (c :: w) (fun d hd => by
      rcases List.mem_cons.1 hd with rfl | hd
      · exact e6
      · exact h d hd)
    rw [List.cons_append]
    refine ⟨?_, skip_here e4 (fun h => e5 h.1), by simp⟩
    rw [tok_cons, if_neg (by rw [e1]; decide), if_neg e2, if_neg e3, if_pos hc, htw]
  | two x hx =>
    have : x = [60, 62] ∨ x = [60, 61] ∨ x = [62, 61] ∨ x = [58, 58] ∨ x = [58, 61] ∨ x = [61, 62] ∨ x = [45, 62] := by simpa [pairs] using hx
    rcases this with rfl | rfl | rfl | rfl | rfl | rfl | rfl <;> exact ⟨rfl, skip_here (by decide) (fun h => by cases h.1), by show _ :: _ ≠ []; simp⟩
  | one c hc =>
    have : c = 40 ∨ c = 41 ∨ c = 91 ∨ c = 93 ∨ c = 44 ∨ c = 59 ∨ c = 61 ∨ c = 60 ∨ c = 62 ∨ c = 43 ∨ c = 45 ∨ c = 42 ∨ c = 94 ∨ c = 33 ∨ c = 124 ∨ c = 95 ∨ c = 126 := by simpa [ones] using hc
    rcases hX with rfl | ⟨Y, rfl⟩
    · rcases this with rfl | rfl | rfl | rfl | rfl | rfl | rfl | rfl | rfl | rfl | rfl | rfl | rfl | rfl | rfl | rfl | rfl <;> exact ⟨rfl, skip_here (by decide) (fun h => by cases h.2), by show _ :: _ ≠ []; simp⟩
    · rcases this with rfl | rfl | rfl | rfl | rfl | rfl | rfl | rfl | rfl | rfl | rfl | rfl | rfl | rfl | rfl | rfl | rfl <;> exact ⟨rfl, skip_here (by decide) (fun h => by cases h.2), by show _ :: _ ≠ []; simp⟩
theorem pc_len {t : Tok} {k : Nat} (hg : Good t k) : (pc t).length ≤ 4 * k ∧ 1 ≤ k := by
  have h0 := (tok_pc hg (X := []) (.inl rfl)).2.2
  have h1 : 1 ≤ (pc t).length := Nat.pos_of_ne_zero fun e => h0 (List.length_eq_zero_iff.1 e)
  cases hg with
  | num n k hn hk => show (dd n).length ≤ _ ∧ _; have : 1 ≤ (dd n).length := h1; omega
  | text T k hT hk =>
    show (34 :: (qbs T ++ [34])).length ≤ _ ∧ _
    have := qbs_len T
    simp only [List.length_cons, List.length_append, List.length_nil]
    omega
  | var w hw h => show (39 :: w).length ≤ _ ∧ _; simp only [List.length_cons]; omega
  | word c w hc h =>
    have hk : (pc ⟨kind (c :: w), c :: w, 0⟩).length ≤ (c :: w).length := by
      unfold pc
      have : kind (c :: w) = 4 ∨ kind (c :: w) = 6 ∨ kind (c :: w) = 3 := by
        unfold kind
        split
        · exact .inl rfl
        · split
          · exact .inr (.inl rfl)
          · split
            · exact .inl rfl
            · exact .inr (.inr rfl)
      rcases this with e | e | e <;> simp [e]
    simp only [List.length_cons] at hk
    omega
  | two x hx =>
    have : ∀ y ∈ pairs, y.length = 2 := by decide
    show x.length ≤ _ ∧ _
    have := this x hx
    omega
  | one c hc => exact ⟨by show 1 ≤ 4; omega, by omega⟩
/-- Tokens, joined by blanks. -/
def jn : List Tok → List Nat
  | [] => []
  | [t] => pc t
  | t :: u :: l => pc t ++ 32 :: jn (u :: l)
def jt : List Tok → List Nat
  | [] => []
  | u :: l => 32 :: jn (u :: l)
theorem jn_cons (t : Tok) (l : List Tok) : jn (t :: l) = pc t ++ jt l := by
  cases l with
  | nil => simp [jn, jt]
  | cons u l => rfl
def ats : Nat → List Tok → List (Tok × Nat)
  | _, [] => []
  | a, t :: l => (t, a) :: ats (a + (pc t).length + 1) l
theorem ats_fst : ∀ (l : List Tok) (a : Nat), (ats a l).map (·.1) = l
  | [], _ => rfl
  | t :: l, a => by rw [ats, List.map_cons, ats_fst l]
theorem lexF_blank (f cnt a : Nat) (L : List Nat) : lexF (f + 1) cnt a (32 :: L) = lexF (f + 1) cnt (a + 1) L := by
  rw [lexF_succ, lexF_succ, skip_blank_sh (by decide)]
  cases skip L with
  | error n => show Except.error (10, a + (1 + n)) = Except.error (10, a + 1 + n); rw [Nat.add_assoc]
  | ok n =>
    show (if (32 :: L).drop (1 + n) = [] then _ else _) = (if L.drop n = [] then _ else _)
    rw [Nat.add_comm 1 n, show (32 :: L).drop (n + 1) = L.drop n from rfl, show a + (n + 1) = a + 1 + n by omega]
theorem lexF_jn : ∀ (l : List Tok), (∀ t ∈ l, ∃ k, Good t k) → ∀ f cnt a, (jn l).length < f → cnt + l.length ≤ 4000 → lexF f cnt a (jn l) = .ok (ats a l)
  | [], _, f, cnt, a, hf, _ => by
    obtain ⟨f, rfl⟩ : ∃ f', f = f' + 1 := ⟨f - 1, by omega⟩
    rw [jn, lexF_succ, skip_nil]; rfl
  | t :: l, hg, f, cnt, a, hf, hc => by
    obtain ⟨k, hk⟩ := hg t (List.mem_cons_self ..)
    obtain ⟨f, rfl⟩ : ∃ f', f = f' + 1 := ⟨f - 1, by omega⟩
    simp only [List.length_cons] at hc
    rw [jn_cons]
    have hsep : Sep (jt l) := by
      cases l with
      | nil => exact .inl rfl
      | cons _ _ => exact .inr ⟨_, rfl⟩
    obtain ⟨h1, h2, h3⟩ := tok_pc hk hsep
    have hp1 : 1 ≤ (pc t).length := Nat.pos_of_ne_zero fun e => h3 (List.length_eq_zero_iff.1 e)
    rw [lexF_succ, h2]
    simp only [List.drop_zero, Nat.add_zero]
    rw [if_neg (by intro e; exact h3 (List.append_eq_nil_iff.1 e).1), h1]
    simp only
    rw [if_neg (by omega), List.drop_append_of_le_length (Nat.le_refl _), List.drop_length, List.nil_append, ats]
    rw [jn_cons, List.length_append] at hf
    have : lexF f (cnt + 1) (a + (pc t).length) (jt l) = .ok (ats (a + (pc t).length + 1) l) := by
      cases l with
      | nil =>
        obtain ⟨f, rfl⟩ : ∃ f', f = f' + 1 := ⟨f - 1, by omega⟩
        show lexF (f + 1) (cnt + 1) _ [] = _
        rw [lexF_succ, skip_nil]; rfl
      | cons t2 l =>
        simp only [jt, List.length_cons] at hf
        obtain ⟨f, rfl⟩ : ∃ f', f = f' + 1 := ⟨f - 1, by omega⟩
        show lexF (f + 1) (cnt + 1) (a + (pc t).length) (32 :: jn (t2 :: l)) = _
        rw [lexF_blank]
        exact lexF_jn (t2 :: l) (fun t ht => hg t (List.mem_cons_of_mem _ ht)) (f + 1) (cnt + 1) _ (by omega) (by simp only [List.length_cons] at hc ⊢; omega)
    rw [this]
    rfl
theorem jn_len : ∀ f cnt a L l, (∀ c ∈ L, c < 256) → lexF f cnt a L = .ok l → (jn (l.map (·.1))).length ≤ 5 * L.length ∧ ∀ x ∈ l, ∃ k, k ≤ L.length ∧ Good x.1 k
  | 0, _, _, _, l, _, h => by cases h; exact ⟨by simp [jn], fun x hx => by cases hx⟩
  | f + 1, cnt, a, L, l, hs, h => by
    rw [lexF_succ] at h
    cases hs' : skip L with
    | error n => rw [hs'] at h; cases h
    | ok n =>
      rw [hs'] at h
      have hn := skip_le _ L (Nat.le_refl _) n hs'
      simp only at h
      split at h
      · cases h; exact ⟨by simp [jn], fun x hx => by cases hx⟩
      · cases ht : tok (L.drop n) with
        | none => rw [ht] at h; cases h
        | some y =>
          obtain ⟨t, j⟩ := y
          rw [ht] at h
          simp only at h
          have hj := tok_pos_le ht
          have hg := tok_good (fun c hc => hs c (List.mem_of_mem_drop hc)) ht
          have hpl := pc_len hg
          rw [List.length_drop] at hj
          split at h
          · cases h
          · cases hr : lexF f (cnt + 1) (a + n + j) ((L.drop n).drop j) with
            | error e => rw [hr] at h; cases h
            | ok m =>
              rw [hr] at h
              cases h
              have ih := jn_len f _ _ _ m (fun c hc => hs c (List.mem_of_mem_drop (List.mem_of_mem_drop hc))) hr
              have ih1 := ih.1
              rw [List.length_drop, List.length_drop] at ih1
              refine ⟨?_, fun x hx => ?_⟩
              · show (jn (t :: m.map (·.1))).length ≤ _
                rw [jn_cons, List.length_append]
                have : (jt (m.map (fun x => x.1))).length ≤ 1 + (jn (m.map (fun x => x.1))).length := by
                  cases m.map (fun x => x.1) with
                  | nil => simp [jt]
                  | cons _ _ => simp only [jt, List.length_cons]; omega
                omega
              · rcases List.mem_append.1 hx with hx | hx
                · rw [List.mem_singleton.1 hx]; exact ⟨j, by omega, hg⟩
                · obtain ⟨k, hk, hk2⟩ := ih.2 x hx
                  exact ⟨k, by rw [List.length_drop, List.length_drop] at hk; omega, hk2⟩
theorem jn_small : ∀ (l : List Tok), (∀ t ∈ l, ∃ k, Good t k) → ∀ c ∈ jn l, c < 256
  | [], _, c, hc => by cases hc
  | t :: l, hg, c, hc => by
    rw [jn_cons] at hc
    rcases List.mem_append.1 hc with hc | hc
    · obtain ⟨k, hk⟩ := hg t (List.mem_cons_self ..)
      have hin : ∀ d, inName d = true → d < 256 := fun d hd => by
        have : ((97 ≤ d ∧ d ≤ 122) ∨ (65 ≤ d ∧ d ≤ 90)) ∨ (48 ≤ d ∧ d ≤ 57) ∨ d = 95 ∨ d = 39 := by simpa [inName, small, great, dig, or_assoc] using hd
        omega
      cases hk with
      | num n k hn hk =>
        have := (dd_is n).2.1 c hc
        have h' : 48 ≤ c ∧ c ≤ 57 := by simpa [dig] using this
        omega
      | text T k hT hk =>
        have hc : c ∈ 34 :: (qbs T ++ [34]) := hc
        rcases List.mem_cons.1 hc with rfl | hc
        · decide
        · rcases List.mem_append.1 hc with hc | hc
          · exact qbs_small hT c hc
          · rw [List.mem_singleton.1 hc]; decide
      | var w hw h =>
        have hc : c ∈ 39 :: w := hc
        rcases List.mem_cons.1 hc with rfl | hc
        · decide
        · exact hin c (h c hc)
      | word e w he h =>
        have hk2 : pc ⟨kind (e :: w), e :: w, 0⟩ = e :: w := by
          unfold pc
          have : kind (e :: w) = 4 ∨ kind (e :: w) = 6 ∨ kind (e :: w) = 3 := by
            unfold kind
            split
            · exact .inl rfl
            · split
              · exact .inr (.inl rfl)
              · split
                · exact .inl rfl
                · exact .inr (.inr rfl)
          rcases this with e | e | e <;> simp [e]
        rw [hk2] at hc
        rcases List.mem_cons.1 hc with rfl | hc
        · exact hin c (letter_facts he).2.2.2.2.2
        · exact hin c (h c hc)
      | two x hx =>
        have : ∀ y ∈ pairs, ∀ d ∈ y, d < 256 := by decide
        exact this x hx c hc
      | one d hd =>
        have : ∀ y ∈ ones, y < 256 := by decide
        have hc : c ∈ [d] := hc
        rw [List.mem_singleton.1 hc]
        exact this d hd
    · cases l with
      | nil => cases hc
      | cons t2 l =>
        rcases List.mem_cons.1 hc with rfl | hc
        · decide
        · exact jn_small (t2 :: l) (fun t ht => hg t (List.mem_cons_of_mem _ ht)) c hc
theorem jn_snoc (t : Tok) : ∀ l : List Tok, jn (l ++ [t]) = if l = [] then pc t else jn l ++ 32 :: pc t
  | [] => by simp [jn]
  | [a] => by simp [jn]
  | a :: b :: l => by
    have ih := jn_snoc t (b :: l)
    rw [if_neg (by simp)] at ih ⊢
    show pc a ++ 32 :: jn (b :: l ++ [t]) = _
    rw [ih]
    show _ = (pc a ++ 32 :: jn (b :: l)) ++ 32 :: pc t
    simp
/-- What is read is printed, and read as the same tokens. -/
theorem lex_back {L : List Nat} {l : List (Tok × Nat)} (hL : L.length ≤ 3000) (hs : ∀ c ∈ L, c < 256) (h : lex L = .ok l) : (jn (l.map (·.1))).length ≤ 15000 ∧ (∀ x ∈ l, ∃ k, k ≤ 3000 ∧ Good x.1 k) ∧ lex (jn (l.map (·.1))) = .ok (ats 0 (l.map (·.1))) ∧ l.length ≤ 3000 := by
  have hlen := lex_len_le h
  unfold lex at h
  rw [if_neg (by omega)] at h
  obtain ⟨h1, h2⟩ := jn_len _ _ _ _ _ hs h
  refine ⟨by omega, fun x hx => by
    obtain ⟨k, hk, hk2⟩ := h2 x hx
    exact ⟨k, by omega, hk2⟩, ?_, by omega⟩
  unfold lex
  rw [if_neg (by omega)]
  exact lexF_jn _ (fun t ht => by obtain ⟨x, hx, rfl⟩ := List.mem_map.1 ht; obtain ⟨k, _, hk⟩ := h2 x hx; exact ⟨k, hk⟩) _ _ _ (by omega) (by rw [List.length_map]; omega)
end Lx
theorem u8_nat (l : List UInt8) : u8l (l.map UInt8.toNat) = l := by
  unfold u8l
  rw [List.map_map]
  conv => rhs; rw [← List.map_id l]
  refine List.map_congr_left fun c _ => ?_
  simp
theorem pieceT_pc (t : Lx.Tok) : pieceT t = u8l (Lx.pc t) := by
  unfold pieceT Lx.pc
  split
  · unfold Lx.dd; rw [u8_nat]
  · split
    · rfl
    · rfl
theorem prT_jn (ts : List (Lx.Tok × Nat)) : ∀ n, n ≤ ts.length → prT ts n = u8l (Lx.jn ((ts.take n).map (·.1)))
  | 0, _ => rfl
  | n + 1, h => by
    have hx : ts[n]? = some ts[n] := List.getElem?_eq_getElem (by omega)
    rw [prT, prT_jn ts n (by omega), hx, List.take_add_one, hx]
    simp only [Option.toList_some, List.map_append, List.map_cons, List.map_nil]
    rw [Lx.jn_snoc, pieceT_pc]
    by_cases h0 : n = 0
    · subst h0
      simp [Lx.jn, u8l]
    · rw [if_neg h0, if_neg (by intro e; have := congrArg List.length e; rw [List.length_map, List.length_take, List.length_nil] at this; omega)]
      simp [u8l]
end Go.Proofs.YtpccfimjkffkfaaDoor
