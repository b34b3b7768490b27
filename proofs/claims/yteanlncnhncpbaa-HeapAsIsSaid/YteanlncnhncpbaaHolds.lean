/- The contract of holds: may the words behind a head be? -/
import Derived.Test.YteanlncnhncpbaaWalk
import Derived.Deep.RegionWith
namespace Go.Proofs.Yteanlncnhncpbaa
set_option linter.unusedVariables false
open Go.ChangeShapes Go.WideShapes Go.ChangeAt Go.RowKit
open M (W)

/-- What holds says of D words from p on, of a kind and a number of bytes, if heads stand at the places of x. -/
def St.holds (s : St) (x : Nat → Nat) (k n : Int) (p D : Nat) : Bool :=
  if k = 3 then decide (n % 8 = 0) || decide ((s.ws (p + D - 1) : Int) / 2 ^ (n % 8 * 8).toNat = 0)
  else (List.range (D - 1)).all fun i => M.fits x (s.ws (p + 1 + i))

set_option maxRecDepth 100000 in
set_option maxHeartbeats 2000000 in
theorem holds_8 (sh n : Int) (D : Nat) (v : Value) (hv : Value) (w : World) (h8 : n % 8 = 0) (h0 : 0 ≤ n) (h1 : n ≤ 65536) :
    Calls Try.prog 89 #[.agg #[.int .i64 sh, .int .i64 3, .int .i64 n, .int .i64 D], v, hv] w fun e w' => e = .returned (.bool true) ∧ Still w w' := by
  go_enter Try.func89, Try.ntmps89
  go_wp2_with fail
  go_quiet (fail)
  go_wp2_with fail
  go_ret
  exact ⟨rfl, ((Still.refl w).alloc _).drewN _⟩
set_option maxRecDepth 100000 in
set_option maxHeartbeats 2000000 in
theorem holds_r (s : St) (sh n : Int) (p E c : Nat) (D : Int) (hv : Value) (w : World) (h : HpIs w s) (h8 : n % 8 ≠ 0) (h0 : 0 ≤ n) (h1 : n ≤ 65536) (hE : 0 < E) (hn : p + E < s.n) :
    Calls Try.prog 89 #[.agg #[.int .i64 sh, .int .i64 3, .int .i64 n, .int .i64 D], .slice (some ⟨s.gw, p + 1, none⟩) E c, hv] w fun e w' => e = .returned (.bool (decide ((s.ws (p + E) : Int) / 2 ^ (n % 8 * 8).toNat = 0))) ∧ Still w w' := by
  have cw := h.cw (p + E) (by omega)
  have hgw := h.words.lt
  have hnn := h.n_le
  have hws := h.ws_lt (p + E)
  obtain ⟨F, rfl⟩ : ∃ F, E = F + 1 := ⟨E - 1, by omega⟩
  have e1 : p + (F + 1) = p + 1 + F := by omega
  rw [e1] at cw hws ⊢
  have h8f : (n % 8 == 0) = false := beq_eq_false_iff_ne.2 h8
  generalize s.ws (p + 1 + F) = X at *
  generalize s.gw = g at *
  clear h e1
  go_enter Try.func89, Try.ntmps89
  go_wp2_with fail
  go_quiet (fail)
  go_wp2_with fail
  go_ret
  refine ⟨?_, ((Still.refl w).alloc _).drewN _⟩
  show Ending.returned (.bool ((X : Int) / 2 ^ (n % 8 * 8).toNat == 0)) = _
  congr 2
set_option maxRecDepth 100000 in
set_option maxHeartbeats 2000000 in
theorem holds_f (s : St) (sh k n : Int) (p E c g0 : Nat) (D : Int) (x : Nat → Nat) (w : World) (h : HpIs w s) (hx : SetAt w g0 0 x) (hk : k ≠ 3) (hn : p + E < s.n ∨ E = 0) (hg0 : g0 < w.heap.size) :
    Calls Try.prog 89 #[.agg #[.int .i64 sh, .int .i64 k, .int .i64 n, .int .i64 D], .slice (some ⟨s.gw, p + 1, none⟩) E c, .pointer (some ⟨g0, 0, none⟩)] w fun e w' => e = .returned (.bool ((List.range E).all fun i => M.fits x (s.ws (p + 1 + i)))) ∧ Still w w' := by
  have hgw := h.words.lt
  have hnn := h.n_le
  have HH := Lib.hid h
  have HX := Lib.hid hx
  have hkf : (k == 3) = false := beq_eq_false_iff_ne.2 hk
  obtain ⟨r, hr⟩ : ∃ r, r = ((List.range E).all fun i => M.fits x (s.ws (p + 1 + i))) := ⟨_, rfl⟩
  rw [← hr]
  have HR := Lib.hid hr
  have HW0 := Lib.hid ((Still.refl w).alloc (.cells #[.int .i64 sh, .int .i64 k, .int .i64 n, .int .i64 D] 123))
  have HX0 : Hid (SetAt (w.alloc (.cells #[.int .i64 sh, .int .i64 k, .int .i64 n, .int .i64 D] 123)) g0 0 x) := fun i hi => by
    rw [HW0.out.cell (p := ⟨g0, _, none⟩) hg0]; exact HX.out i hi
  have hEs : E ≤ 65536 := by omega
  clear h hx hr hk
  go_enter Try.func89, Try.ntmps89
  go_wp2_with fail
  generalize hW : (w.alloc (.cells #[.int .i64 sh, .int .i64 k, .int .i64 n, .int .i64 D] 123)) = W at *
  clear hW
  go_loopw [32] (fun v wr => ∃ j : Nat, v = .int .i64 j ∧ j ≤ E ∧ wr = W ∧ ∀ i, i < j → M.fits x (s.ws (p + 1 + i)) = true) (fun v _ => E - (intOf v).toNat)
  case atStart => exact ⟨0, rfl, by omega, rfl, fun i hi => by omega⟩
  case round =>
    obtain ⟨j, rfl, hj, rfl, hall⟩ := hrel
    have HALL := Lib.hid hall
    clear hall
    by_cases hlt : j < E
    · have hhp := HH.out.still HW0.out
      have cw := hhp.cw (p + 1 + j) (by omega)
      have hws := HH.out.ws_lt (p + 1 + j)
      have hgw' := hhp.words.lt
      have HF := Lib.hid (pfits_any g0 0 x (s.ws (p + 1 + j)) wr HX0.out (by omega) (by omega))
      clear hhp
      cases hf : M.fits x (s.ws (p + 1 + j)) with
      | false =>
        rw [hf] at HF
        have HFF := Lib.hid hf
        clear hf
        generalize hX : s.ws (p + 1 + j) = X at *
        have HXX := Lib.hid hX
        clear hX
        go_wp2_with fail
        refine HF.out.mono ?_; rintro e w4 ⟨rfl, rfl⟩
        go_wp2_with fail
        have hrv : r = false := by
          rw [HR.out, Bool.eq_false_iff]
          intro hh
          have := List.all_eq_true.1 hh j (List.mem_range.2 hlt)
          rw [HXX.out, HFF.out] at this; simp at this
        subst hrv
        go_ret
        exact ⟨rfl, HW0.out⟩
      | true =>
        rw [hf] at HF
        have HFF := Lib.hid hf
        clear hf
        generalize hX : s.ws (p + 1 + j) = X at *
        have HXX := Lib.hid hX
        clear hX
        go_wp2_with fail
        refine HF.out.mono ?_; rintro e w4 ⟨rfl, rfl⟩
        go_wp2_with fail
        go_roundw
        case rel => exact ⟨j + 1, by go_num, by omega, trivial, fun i hi => by
          rcases Nat.lt_or_ge i j with h | h
          · exact HALL.out i h
          · obtain rfl : i = j := by omega
            rw [HXX.out]; exact HFF.out⟩
        case measure => simp [intOf]; omega
    · obtain rfl : j = E := by omega
      have hrv : r = true := by
        rw [HR.out]
        exact List.all_eq_true.2 fun i hi => HALL.out i (List.mem_range.1 hi)
      subst hrv
      go_wp2_with fail
      go_ret
      exact ⟨rfl, HW0.out⟩
set_option maxRecDepth 100000 in
theorem holds_0 (sh k n : Int) (a : Option Addr) (c : Nat) (hv : Value) (D : Int) (w : World) (hk : k ≠ 3) :
    Calls Try.prog 89 #[.agg #[.int .i64 sh, .int .i64 k, .int .i64 n, .int .i64 D], .slice a 0 c, hv] w fun e w' => e = .returned (.bool true) ∧ Still w w' := by
  have hkf : (k == 3) = false := beq_eq_false_iff_ne.2 hk
  have HW0 := Lib.hid ((Still.refl w).alloc (.cells #[.int .i64 sh, .int .i64 k, .int .i64 n, .int .i64 D] 123))
  clear hk
  go_enter Try.func89, Try.ntmps89
  go_wp2_with fail
  refine wp_loop_rounds 1 ?_
  rw [rounds_succ]
  go_wp2_with fail
  go_ret
  exact ⟨rfl, HW0.out⟩
/-- holds, of an object that a head at p says. -/
theorem holds_any (s : St) (p c g0 : Nat) (x : Nat → Nat) (w : World) (h : HpIs w s) (hx : SetAt w g0 0 x) (hg0 : g0 < w.heap.size) (top : Nat) (htop : top ≤ s.n) (hr : s.reads p top = true) (a : Option Addr) (ha : a = some ⟨s.gw, p + 1, none⟩ ∨ s.nd p = 1) :
    Calls Try.prog 89 #[(s.ob (s.ws p)).val, .slice a (s.nd p - 1) c, .pointer (some ⟨g0, 0, none⟩)] w fun e w' => e = .returned (.bool (s.holds x (s.ob (s.ws p)).kind (s.ob (s.ws p)).n p (s.nd p))) ∧ Still w w' := by
  obtain ⟨r1, r2, r3⟩ := St.reads_need hr
  unfold St.reads at hr
  rw [Bool.and_eq_true, decide_eq_true_eq, decide_eq_true_eq] at hr
  have he := hr.1
  have hnd : (s.ob (s.ws p)).need = M.need (s.kind (M.sh (s.ws p))) (s.len (M.sh (s.ws p))) (M.ln (s.ws p)) := rfl
  have hln := M.ln_lo (s.ws p)
  unfold St.obE St.needE at he
  unfold Ob.val St.holds
  rw [r1] at hnd
  have ek : (s.ob (s.ws p)).kind = s.kind (M.sh (s.ws p)) := rfl
  have en : (s.ob (s.ws p)).n = M.ln (s.ws p) := rfl
  have es : (s.ob (s.ws p)).sh = M.sh (s.ws p) := rfl
  rw [r1, ek, en, es]
  generalize M.sh (s.ws p) = A at *
  generalize M.ln (s.ws p) = B at *
  generalize s.len A = N at *
  generalize s.kind A = K at *
  generalize s.nd p = D at *
  unfold M.needE at he
  unfold M.need at hnd
  by_cases c1 : K = 0 ∨ B < 0 ∨ (K = 1 ∧ B ≠ N)
  · rw [if_pos c1] at he; omega
  rw [if_neg c1] at he hnd
  by_cases c2 : 65536 < B
  · rw [if_pos c2] at he; omega
  rw [if_neg c2] at hnd
  by_cases hk : K = 3
  · subst hk
    rw [if_pos rfl] at hnd ⊢
    by_cases h8 : B % 8 = 0
    · rw [decide_eq_true h8, Bool.true_or]
      exact holds_8 A B D _ _ w h8 (by omega) (by omega)
    · obtain rfl : a = some ⟨s.gw, p + 1, none⟩ := by rcases ha with e | e; exact e; omega
      rw [decide_eq_false h8, Bool.false_or]
      have := holds_r s A B p (D - 1) c D (.pointer (some ⟨g0, 0, none⟩)) w h h8 (by omega) (by omega) (by omega) (by omega)
      rw [show p + (D - 1) = p + D - 1 by omega] at this
      exact this
  · rw [if_neg hk]
    rcases ha with rfl | hD1
    rotate_left
    · subst hD1
      exact holds_0 A K B a c _ (1 : Nat) w hk
    exact holds_f s A K B p (D - 1) c g0 D x w h hx hk (by omega) hg0
end Go.Proofs.Yteanlncnhncpbaa
