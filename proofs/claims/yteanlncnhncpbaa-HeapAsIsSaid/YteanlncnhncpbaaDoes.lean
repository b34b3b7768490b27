/- The laws' own helpers of layer 2: place, Does. -/
import Derived.Test.YteanlncnhncpbaaBoth
namespace Go.Proofs.Yteanlncnhncpbaa
set_option linter.unusedVariables false
open Go.ChangeShapes Go.WideShapes Go.ChangeAt Go.RowKit
open M (W)

theorem place_any {B : Nat} (x : Rf) (a : Int) (w : World) (h : RfIs B w x) (ha : -9223372036854775808 ≤ a) : ∃ r : Int, ∀ W, Still w W → Calls Try.prog 51 #[x.lv, .int .i64 a] W fun e w' => e = .returned (.int .i64 r) ∧ w' = W := by
  obtain ⟨la, lc, hlv⟩ := h.lv_slice
  by_cases hpos : 0 ≤ a
  · refine ⟨a, fun W _ => ?_⟩
    rw [hlv]
    clear h hlv
    go_enter Try.func51, Try.ntmps51
    go_wp2
    go_ret
    exact ⟨rfl, rfl⟩
  rcases h.lv_form with ⟨h1, h0⟩ | ⟨g, cap, h1, hg, hb, hle, hm, hf, hc⟩
  · refine ⟨a, fun W _ => ?_⟩
    rw [h1]
    have hneg : a < 0 := by omega
    clear h hlv h1 hpos
    go_enter Try.func51, Try.ntmps51
    go_wp2
    go_ret
    exact ⟨rfl, rfl⟩
  · by_cases hn : x.L.length = 0
    · refine ⟨a, fun W _ => ?_⟩
      rw [h1, hn]
      have hneg : a < 0 := by omega
      clear h hlv h1 hpos hc
      go_enter Try.func51, Try.ntmps51
      go_wp2
      go_ret
      exact ⟨rfl, rfl⟩
    · obtain ⟨q, hq⟩ := Int.eq_ofNat_of_zero_le (show 0 ≤ -(a + 1) by omega)
      have hj : q % x.L.length < x.L.length := Nat.mod_lt _ (by omega)
      obtain ⟨o, ho⟩ : ∃ o, x.L[q % x.L.length]? = some o := ⟨_, List.getElem?_eq_getElem hj⟩
      refine ⟨o.at_, fun W hW => ?_⟩
      rw [h1]
      obtain ⟨d0, _⟩ := hc _ o ho
      obtain ⟨j, hjj⟩ : ∃ j, q % x.L.length = j := ⟨_, rfl⟩
      have e1 : ((q : Int) % (x.L.length : Int)) = (j : Int) := by rw [← hjj]; simp
      have e2 : (q : Int).tmod (x.L.length : Int) = (j : Int) := by rw [← e1]; exact Int.tmod_eq_emod_of_nonneg (by omega)
      rw [hjj] at d0 hj
      have hneg : a < 0 := by omega
      have hqb : q ≤ 9223372036854775807 := by omega
      have hfew := h.few
      have d0' : W.cell? ⟨g, j * 5, none⟩ = some (.int .i64 o.at_) := by rw [hW.cell (p := ⟨g, j * 5, none⟩) hg]; exact d0
      have hz : ((x.L.length : Int) == 0) = false := beq_eq_false_iff_ne.2 (by omega)
      generalize x.L.length = n at *
      clear h hlv h1 hpos hc ho hjj d0 hW
      go_enter Try.func51, Try.ntmps51
      go_wp2
      go_ret
      exact ⟨rfl, rfl⟩

theorem both_set1 {w0 w : World} {s : St} {x : Rf} (h : Both w0 w s x) (a i : Int) (v : Nat) (hv : v < 18446744073709551616) :
    Calls Try.prog 47 #[s.ptr, .int .i64 a, .int .i64 i, .int .u64 v] w fun e w1 => ∃ r : Int, e = .returned (.int .i64 r) ∧ Turn (fun k => k = s.g ∨ k = s.gw) w w1 ∧
      Calls Try.prog 53 #[x.ptr, .int .i64 a, .int .i64 i, .int .u64 v] w1 fun e w2 => e = .returned (.int .i64 r) ∧ After w0 w2 s x := by
  obtain ⟨r, hr⟩ := both_set h a i v hv
  exact hr.mono fun e w1 h => ⟨r, h⟩
theorem both_setByte1 {w0 w : World} {s : St} {x : Rf} (h : Both w0 w s x) (a i : Int) (c : Nat) (hc : c < 256) :
    Calls Try.prog 54 #[s.ptr, .int .i64 a, .int .i64 i, .int .u8 c] w fun e w1 => ∃ r : Int, e = .returned (.int .i64 r) ∧ Turn (fun k => k = s.g ∨ k = s.gw) w w1 ∧
      Calls Try.prog 55 #[x.ptr, .int .i64 a, .int .i64 i, .int .u8 c] w1 fun e w2 => e = .returned (.int .i64 r) ∧ After w0 w2 s x := by
  obtain ⟨r, hr⟩ := both_setByte h a i c hc
  exact hr.mono fun e w1 h => ⟨r, h⟩
theorem both_alloc1 {w0 w : World} {s : St} {x : Rf} (h : Both w0 w s x) (sh n : Int) (hfew : x.L.length < 1000) :
    Calls Try.prog 45 #[s.ptr, .int .i64 sh, .int .i64 n] w fun e w1 => ∃ a r : Int, e = .returned (.tuple #[.int .i64 a, .int .i64 r]) ∧ Turn (fun k => k = s.g ∨ k = s.gw) w w1 ∧
      Calls Try.prog 52 #[x.ptr, .int .i64 sh, .int .i64 n] w1 fun e w2 => e = .returned (.tuple #[.int .i64 a, .int .i64 r]) ∧ After w0 w2 s x := by
  obtain ⟨a, r, hr⟩ := both_alloc h sh n hfew
  exact hr.mono fun e w1 h => ⟨a, r, h⟩
theorem box_keep {w W w1 : World} {s : St} {c0 c1 c2 c3 c4 : Value} {t : TypeId} (t0 : Still (w.alloc (.cells #[c0, c1, c2, c3, c4] t)) W) (t1 : Turn (fun k => k = s.g ∨ k = s.gw) W w1) (hg : s.g < w.heap.size) (hgw : s.gw < w.heap.size) :
    w1.cell? ⟨w.heap.size, 0, none⟩ = some c0 ∧ w1.cell? ⟨w.heap.size, 1, none⟩ = some c1 ∧ w1.cell? ⟨w.heap.size, 2, none⟩ = some c2 ∧ w1.cell? ⟨w.heap.size, 3, none⟩ = some c3 ∧ w1.cell? ⟨w.heap.size, 4, none⟩ = some c4 := by
  have hb := (t0.blk (Blk.new w t #[c0, c1, c2, c3, c4])).keep t1 (by rintro (e | e) <;> omega)
  exact ⟨hb.cell 0, hb.cell 1, hb.cell 2, hb.cell 3, hb.cell 4⟩

theorem quiet_add_same {P : Program} {f : FuncId} {args : Array Value} {w : World} {a n : Nat} {v : Value} (h : Calls P f args (w.drewN (a + n)) fun e w' => e = .returned v ∧ w' = w.drewN (a + n)) :
    Calls P f args (w.drewN (a + n)) fun e w'' => e = .returned v ∧ ∃ m, w'' = w.drewN (a + m) := h.mono fun _ _ ⟨he, hm⟩ => ⟨he, n, hm⟩
end Go.Proofs.Yteanlncnhncpbaa
