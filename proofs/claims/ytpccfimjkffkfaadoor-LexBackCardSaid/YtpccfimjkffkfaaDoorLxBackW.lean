/- LexBack: its walk. -/
import Derived.Test.YtpccfimjkffkfaaDoorLxBackL
import Derived.Test.YtpccfimjkffkfaaDoorLxNumsW
import Derived.Test.YtpccfimjkffkfaaDoorLxSame
import Derived.Test.YtpccfimjkffkfaaDoorLxJoinP
namespace Go.Proofs.YtpccfimjkffkfaaDoor
set_option linter.unusedVariables false
set_option linter.unusedSimpArgs false
open Go.ChangeShapes Go.WideShapes Go.ChangeAt Go.RowKit
def bar (x : Lx.Tok × Nat) : Lx.Tok × Nat := (x.1, 0)
set_option maxHeartbeats 4000000 in
theorem bare_any {w : World} {B n c : Nat} {a : Option Addr} {ts : List (Lx.Tok × Nat)} (h : TokRow w B a n c ts) (hn : n = ts.length) (hm : n ≤ 1000000) :
    Calls Tryd.prog 19 #[.slice a n c] w fun e w' => Still w w' ∧ ∃ (a' : Option Addr) (c' : Nat), e = .returned (.slice a' n c') ∧ TokRow w' w.heap.size a' n c' (ts.map bar) := by
  have H := Lib.hid (And.intro h hn)
  clear h hn
  go_enter Tryd.func19, Tryd.ntmps19
  go_wp2_with fail
  go_loopw [3, 8] (fun v3 v8 wr => ∃ (i : Nat) (a' : Option Addr) (c' : Nat), v3 = .slice a' i c' ∧ v8 = .int .i64 i ∧ i ≤ n ∧ Still w wr ∧ TokRow wr w.heap.size a' i c' ((ts.take i).map bar)) (fun v3 v8 _ => n - (intOf v8).toNat)
  case atStart => exact ⟨0, none, 0, rfl, rfl, Nat.zero_le _, Still.refl _, rfl, .inl ⟨rfl, rfl⟩⟩
  case round =>
    obtain ⟨i, a', c', rfl, rfl, hi, hs, ho⟩ := hrel
    have HS := Lib.hid hs
    have HO := Lib.hid ho
    clear hs ho
    by_cases hlt : i < n
    · obtain ⟨g, x, rfl, hx, g0, g1, g2, g3, g4⟩ := tokRow_cells (H.out.1.still HS.out) H.out.2 hlt
      have HLT := Lib.hid hlt
      have x0 : (i : Int) < (n : Int) := by omega
      have x1 : decide (i < n) = true := decide_eq_true hlt
      have HX := Lib.hid hx
      have hsz5 : w.heap.size ≤ wr.heap.size := HS.out.size
      obtain ⟨wA, hwA⟩ : ∃ wA, wr.alloc (.cells #[.int .i64 (x.1.kind : Int), .int .i64 0, .string (Lx.str x.1.text), .int .i64 (x.1.n : Int)] 31) = wA := ⟨_, rfl⟩
      have hA : wA.heap.size = wr.heap.size + 1 := by rw [← hwA]; simp
      have TA : Still wr wA := hwA ▸ (Still.refl wr).alloc _
      have HA := Lib.hid (And.intro hA TA)
      have HWA := Lib.hid hwA
      clear hx hwA hA TA
      go_wp2_with (at_builtin; rw [HWA.out]; refine wpList_append_form rfl (.tmp 13) (.tmp 15) 23 rfl w.heap.size 31 4 40 _ Tryd.underlying23 infoTok rfl (by decide) a' i c' _ rfl (own_keep HO.out (HA.out.2.alloc _) fun j e e2 => e2) ⟨wr.heap.size + 1, 0, none⟩ 1 1 (tokV (bar x)) rfl rfl (fun j u hj => by rw [Addr.add_lit, Nat.zero_add, ← HA.out.1, (Blk.new wA 31 #[.int .i64 (x.1.kind : Int), .int .i64 0, .string (Lx.str x.1.text), .int .i64 (x.1.n : Int)]).cell j]; simpa [tokV, bar] using hj) (by simp [tokV, Value.oneCell']) (by decide) (by unfold maxLen; omega) (by omega) (by have := HA.out.1; simp; omega) ?_; intro g4' c4 w6 hr6 ht6 hn6)
      have hlowb : ∀ j, (Value.slice a' i c').ownBlock = some j → w.heap.size ≤ j := fun j e => (HO.out.lt j e).1
      have T56 : Turn (fun k => (Value.slice a' i c').ownBlock = some k) wr w6 := (Turn.mono (HA.out.2.alloc _) (fun _ _ e => False.elim e)).trans ht6.out
      have T6 : Still w w6 := Turn.mono (S := fun i => w.heap.size ≤ i) ((Turn.mono HS.out fun i _ e => False.elim e).trans (Turn.mono T56 fun i _ e => hlowb i e)) fun i hi e => by omega
      refine ⟨⟨i + 1, _, c4, rfl, by go_num, HLT.out, T6, ?_⟩, by have := HLT.out; simp [intOf]; omega⟩
      have h6 := hr6.out
      rw [List.take_add_one, HX.out]
      simp only [Option.toList_some, List.map_append, List.map_cons, List.map_nil]
      show World.ownsRow _ _ _ _ _ _ ((List.map bar (List.take i ts) ++ [bar x]).flatMap tokV)
      rw [List.flatMap_append, List.flatMap_cons, List.flatMap_nil, List.append_nil]
      exact h6
    · obtain rfl : i = n := by omega
      have x0 : ¬ (i : Int) < (i : Int) := by omega
      have x1 : decide (i < i) = false := decide_eq_false (by omega)
      have ht : (ts.take i) = ts := List.take_of_length_le (by have := H.out.2; omega)
      rw [ht] at HO
      clear hlt ht
      go_wp2_with fail
      go_ret
      exact ⟨HS.out, a', c', rfl, HO.out⟩
theorem bar_ats : ∀ (l : List Lx.Tok) (a : Nat) , (Lx.ats a l).map bar = l.map (fun t => (t, 0))
  | [], _ => rfl
  | t :: l, a => by rw [Lx.ats, List.map_cons, List.map_cons, bar_ats l]; rfl
theorem bar_map (l : List (Lx.Tok × Nat)) : l.map bar = (l.map (·.1)).map (fun t => (t, 0)) := by rw [List.map_map]; rfl
theorem ats_len : ∀ (l : List Lx.Tok) (a : Nat), (Lx.ats a l).length = l.length
  | [], _ => rfl
  | t :: l, a => by rw [Lx.ats, List.length_cons, List.length_cons, ats_len l]
theorem easy_good {w : World} (hT : Tab w) {t : Lx.Tok} {k : Nat} (h : Lx.Good t k) (hk : k ≤ 3000) : EasyN w t := by
  cases h with
  | num n k hn hk2 => exact ⟨fun e => (by cases e), fun _ => numW_of hT (by show n ≤ _; omega)⟩
  | text T k hT hk2 => exact ⟨fun _ => ⟨by show T.length ≤ 3000; omega, hT⟩, fun e => (by cases e)⟩
  | var w hw h => exact ⟨fun e => (by cases e), fun e => (by cases e)⟩
  | word c w hc h =>
    have : Lx.kind (c :: w) = 4 ∨ Lx.kind (c :: w) = 6 ∨ Lx.kind (c :: w) = 3 := by
      unfold Lx.kind
      split
      · exact .inl rfl
      · split
        · exact .inr (.inl rfl)
        · split
          · exact .inl rfl
          · exact .inr (.inr rfl)
    exact ⟨fun e => (by have e : Lx.kind (c :: w) = 2 := e; omega), fun e => (by have e : Lx.kind (c :: w) = 1 := e; omega)⟩
  | two x hx => exact ⟨fun e => (by cases e), fun e => (by cases e)⟩
  | one c hc => exact ⟨fun e => (by cases e), fun e => (by cases e)⟩
set_option maxRecDepth 100000 in
set_option maxHeartbeats 4000000 in
theorem lexBack_w (s0 : ByteArray) (w : World) (hT : Tab w) : Calls Tryd.prog 5 #[.string s0] w fun e w' => e = .returned (.bool true) ∧ Below w.heap.size w w' := by
  obtain ⟨s, hs, hcut⟩ := cut_any s0 w
  have HC := Lib.hid hcut
  have HT := Lib.hid hT
  clear hcut hT
  go_enter Tryd.func5, Tryd.ntmps5
  go_wp2_with fail
  refine HC.out.mono ?_; rintro e w1 ⟨rfl, rfl⟩
  cases hl : Lx.lex (Lx.bs s) with
  | error e0 =>
    obtain ⟨x, k⟩ := e0
    have HL := Lib.hid hl
    rcases lex_code hl with rfl | rfl
    all_goals
      clear hl
      go_wp2_with fail
      refine (lexNo HL.out).mono ?_; rintro e w2 ⟨t2, rfl⟩
      have T2 := Lib.hid t2
      clear t2
      go_wp2_with fail
      refine (lives_any _).mono ?_; rintro e w5 ⟨rfl, t5⟩
      go_wp2_with fail
      go_ret
      exact ⟨rfl, (T2.out.trans t5).below⟩
  | ok l =>
    have HL := Lib.hid hl
    obtain ⟨hj, hg, hb, hlen⟩ := Lx.lex_back (by rw [Lx.bs_len]; exact hs) (Lx.byte_lt s) hl
    obtain ⟨m, hm⟩ : ∃ m, Lx.ats 0 (l.map (·.1)) = m := ⟨_, rfl⟩
    have hml : m.length = l.length := by rw [← hm, ats_len, List.length_map]
    have hmf : m.map (·.1) = l.map (·.1) := by rw [← hm]; exact Lx.ats_fst _ _
    have hbar : m.map bar = l.map bar := by rw [bar_map, bar_map, hmf]
    have hpl : prT l l.length = u8l (Lx.jn (l.map (·.1))) := by rw [prT_jn _ _ (Nat.le_refl _), List.take_length]
    have hpm : prT m l.length = u8l (Lx.jn (l.map (·.1))) := by rw [← hml, prT_jn _ _ (Nat.le_refl _), List.take_length, hmf]
    have hpll : (u8l (Lx.jn (l.map (·.1)))).length ≤ 100000 := by unfold u8l; rw [List.length_map]; omega
    have hsm : ∀ c ∈ Lx.jn (l.map (·.1)), c < 256 := Lx.jn_small _ fun t ht => by
      obtain ⟨x, hx, rfl⟩ := List.mem_map.1 ht
      obtain ⟨k, _, hk⟩ := hg x hx
      exact ⟨k, hk⟩
    obtain ⟨S, hS⟩ : ∃ S : ByteArray, (⟨(u8l (Lx.jn (l.map (·.1)))).toArray⟩ : ByteArray) = S := ⟨_, rfl⟩
    have hSb : Lx.bs S = Lx.jn (l.map (·.1)) := by rw [← hS]; exact Lx.bs_str hsm
    rw [← hSb, hm] at hb
    have hgm : ∀ (W : World), Tab W → ∀ x ∈ m, EasyN W x.1 := fun W hW x hx => by
      have : x.1 ∈ l.map (·.1) := by rw [← hmf]; exact List.mem_map.2 ⟨x, hx, rfl⟩
      obtain ⟨y, hy, e⟩ := List.mem_map.1 this
      obtain ⟨k, hk, hk2⟩ := hg y hy
      rw [← e]
      exact easy_good hW hk2 hk
    have hgl : ∀ (W : World), Tab W → ∀ x ∈ l, EasyN W x.1 := fun W hW x hx => by
      obtain ⟨k, hk, hk2⟩ := hg x hx
      exact easy_good hW hk2 hk
    have HG := Lib.hid (And.intro hgl hgm)
    have HB := Lib.hid hb
    have HP := Lib.hid (And.intro hpl (And.intro hpm hpll))
    have HM := Lib.hid (And.intro hml (And.intro hbar hS))
    clear hl hj hg hb hm hml hmf hbar hpl hpm hpll hsm hS hSb hgm hgl
    go_wp2_with fail
    refine (lexOk (n := l.length) HL.out rfl).mono ?_; rintro e w2 ⟨t2, a, c, rfl, o2⟩
    have T2 := Lib.hid t2
    have O2 := Lib.hid o2
    clear t2 o2
    go_wp2_with fail
    refine (printN_any O2.out rfl (HG.out.1 _ (HT.out.below T2.out.below)) (by rw [HP.out.1]; exact HP.out.2.2) (by omega)).mono ?_; rintro e w3 ⟨rfl, t3⟩
    rw [HP.out.1, HM.out.2.2]
    have T3 := Lib.hid (T2.out.trans t3)
    have O3 := Lib.hid (O2.out.still t3)
    clear t3
    go_wp2_with fail
    refine (lexOk (n := l.length) HB.out HM.out.1.symm).mono ?_; rintro e w4 ⟨t4, b, d, rfl, o4⟩
    have T4 := Lib.hid (T3.out.trans t4)
    have O4 := Lib.hid (O3.out.still t4)
    have M4 := Lib.hid o4
    clear t4 o4
    go_wp2_with fail
    refine (bare_any O4.out rfl (by omega)).mono ?_; rintro e w5 ⟨t5, a5, c5, rfl, o5⟩
    have T5 := Lib.hid (T4.out.trans t5)
    have M5 := Lib.hid (M4.out.still t5)
    have O5 := Lib.hid o5
    clear t5 o5
    go_wp2_with fail
    refine (bare_any M5.out HM.out.1.symm (by omega)).mono ?_; rintro e w6 ⟨t6, a6, c6, rfl, o6⟩
    have T6 := Lib.hid (T5.out.trans t6)
    have M6 := Lib.hid (M5.out.still t6)
    have O6 := Lib.hid (O5.out.still t6)
    have R6 := Lib.hid o6
    rw [HM.out.2.1] at R6
    clear t6 o6
    go_wp2_with fail
    refine (same_any O6.out R6.out (by rw [List.length_map]) (by omega)).mono ?_; rintro e w7 ⟨rfl, t7⟩
    have T7 := Lib.hid (T6.out.trans t7)
    have M7 := Lib.hid (M6.out.still t7)
    clear t7
    go_wp2_with fail
    refine (printN_any M7.out HM.out.1.symm (HG.out.2 _ (HT.out.below T7.out.below)) (by rw [HP.out.2.1]; exact HP.out.2.2) (by omega)).mono ?_; rintro e w8 ⟨rfl, t8⟩
    rw [HP.out.2.1, HM.out.2.2]
    have T8 := Lib.hid (T7.out.trans t8)
    clear t8
    go_wp2_with fail
    refine (lives_any _).mono ?_; rintro e w9 ⟨rfl, t9⟩
    go_wp2_with fail
    go_ret
    exact ⟨rfl, (T8.out.trans t9).below⟩
/-- What the row lays gives the table. -/
theorem tab_ofB {w : World} (h : laidMetH Tryd.prog Rows.lexBackRow.laid w) : Tab w := by
  rw [MakeChecks.laidMetH_plain _ _ _ (by kernel_rfl)] at h
  obtain ⟨ps, ⟨g0, t0, cs0, f0, p0, q0, hg0, ht0, hv0, hd0, ⟨g1, t1, cs1, f1, p1, q1, hg1, ht1, hv1, hd1, ⟨g2, t2, cs2, f2, p2, q2, hg2, ht2, hv2, hd2, _, _⟩, _⟩, _⟩, _, _⟩ := h
  obtain rfl := Option.some.inj ((show Tryd.prog.globalNamed "internal/strconv.uint64pow10" = some 0 by kernel_rfl).symm.trans hg2)
  obtain rfl := Option.some.inj ((show (Tryd.prog.globals[0]?).map (·.type) = some 88 by kernel_rfl).symm.trans ht2)
  have e := Lib.cells_of_tab (zs := Lib.pow10Tab) (k := .u64) Tryd.underlying88 Tryd.underlying79 (by kernel_rfl) (by kernel_rfl) hd2
  unfold Tab Lib.TabIs
  rw [hv2, ← e]
end Go.Proofs.YtpccfimjkffkfaaDoor
