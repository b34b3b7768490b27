/- Lemmas, put together: Vri Vsu Vjo. -/
import Derived.Test.YtglalgjffkoneaaGreatDoorV11
import Derived.Test.YtglalgjffkoneaaGreatDoorV3
import Derived.Test.YtglalgjffkoneaaGreatDoorShelf
import Derived.Test.YtglalgjffkoneaaGreatDoorV5
import Derived.Deep.RegionLaw
/- rising: what some lists have, each once, in order. -/
namespace Go.Proofs.YtglalgjffkoneaaGreatDoor
set_option linter.unusedVariables false
set_option linter.unusedSimpArgs false
open Go.ChangeShapes Go.WideShapes Go.ChangeAt Go.RowKit
open Go.Sort (Holds putRow grow)
theorem putRow_turn {α : Type} [Inhabited α] (enc : α → Value) (w : World) (n g off : Nat) (d : Array α) : Turn (fun j => j = g) w (putRow enc (Sort.ahead w n) g off d) :=
  ⟨rfl, rfl, rfl, by simp, fun k hk hn => by
    show ((Sort.ahead w n).heap.modify g _)[k]? = _
    rw [Array.getElem?_modify, if_neg (fun e => hn e.symm)]
    rfl⟩
theorem grow_still (w : World) (os : Array Obj) : Still w (grow w os) := ⟨rfl, rfl, rfl, by simp, fun k hk _ => Go.Sort.heap_grow_old w os hk⟩
/-- What is kept of a list in order. -/
theorem compact_spec (d : Array Int) (hs : ∀ i j, i < j → j < d.size → d[i]! ≤ d[j]!) : ∀ m, m ≤ d.size → Vf.Strict (Lib.compactUpTo d m) ∧ (∀ y, y ∈ Lib.compactUpTo d m ↔ ∃ j, j < m ∧ d[j]! = y) ∧ (0 < m → ∀ y ∈ Lib.compactUpTo d m, y ≤ d[m - 1]!)
  | 0, _ => ⟨by unfold Lib.compactUpTo Vf.Strict; simp, fun y => by unfold Lib.compactUpTo; simp, fun h => absurd h (Nat.lt_irrefl _)⟩
  | m + 1, hm => by
    obtain ⟨h1, h2, h3⟩ := compact_spec d hs m (by omega)
    rw [Lib.compactUpTo_succ]
    by_cases hk : Lib.keeps d m = true
    · rw [if_pos hk]
      have hlt : ∀ y ∈ Lib.compactUpTo d m, y < d[m]! := fun y hy => by
        by_cases h0 : m = 0
        · subst h0
          unfold Lib.compactUpTo at hy
          simp at hy
        · have hne : d[m]! ≠ d[m - 1]! := by
            unfold Lib.keeps at hk
            have := of_decide_eq_true hk
            exact this.resolve_left h0
          have hle := hs (m - 1) m (by omega) (by omega)
          have := h3 (by omega) y hy
          omega
      refine ⟨?_, fun y => ?_, fun _ y hy => ?_⟩
      · unfold Vf.Strict at *
        rw [List.pairwise_append]
        exact ⟨h1, by simp, fun a ha b hb => by rw [List.mem_singleton.1 hb]; exact hlt a ha⟩
      · rw [List.mem_append, h2, List.mem_singleton]
        constructor
        · rintro (⟨j, hj, e⟩ | e)
          · exact ⟨j, by omega, e⟩
          · exact ⟨m, by omega, e.symm⟩
        · rintro ⟨j, hj, e⟩
          by_cases hjm : j < m
          · exact .inl ⟨j, hjm, e⟩
          · have : j = m := by omega
            subst this
            exact .inr e.symm
      · rw [Nat.add_sub_cancel]
        rcases List.mem_append.1 hy with e | e
        · exact Int.le_of_lt (hlt y e)
        · rw [List.mem_singleton.1 e]
          exact Int.le_refl _
    · rw [if_neg hk, List.append_nil]
      have hm0 : m ≠ 0 := fun e => hk (by unfold Lib.keeps; simp [e])
      have heq : d[m]! = d[m - 1]! := by
        by_cases e : d[m]! = d[m - 1]!
        · exact e
        · exact absurd (Lib.keeps_pos e) hk
      refine ⟨h1, fun y => ?_, fun _ y hy => ?_⟩
      · rw [h2]
        constructor
        · rintro ⟨j, hj, e⟩
          exact ⟨j, by omega, e⟩
        · rintro ⟨j, hj, e⟩
          by_cases hjm : j < m
          · exact ⟨j, hjm, e⟩
          · have : j = m := by omega
            subst this
            exact ⟨j - 1, by omega, by rw [← heq]; exact e⟩
      · rw [Nat.add_sub_cancel, heq]
        exact h3 (by omega) y hy
theorem compact_sorted (xs : List Int) : Vf.Strict (Lib.compact (xs.mergeSort fun x y => decide (x ≤ y))) ∧ (∀ y, y ∈ Lib.compact (xs.mergeSort fun x y => decide (x ≤ y)) ↔ y ∈ xs) ∧ (Lib.compact (xs.mergeSort fun x y => decide (x ≤ y))).length ≤ xs.length := by
  obtain ⟨zs, hzs⟩ : ∃ zs, xs.mergeSort (fun x y => decide (x ≤ y)) = zs := ⟨_, rfl⟩
  have hp : zs.Pairwise fun a b => decide (a ≤ b) = true := by
    rw [← hzs]
    exact List.pairwise_mergeSort (fun a b c h1 h2 => by simp at *; omega) (fun a b => by simp; omega) xs
  have hl : zs.length = xs.length := by rw [← hzs, List.length_mergeSort]
  have hmem : ∀ y, y ∈ zs ↔ y ∈ xs := fun y => by rw [← hzs, List.mem_mergeSort]
  rw [hzs]
  have hs : ∀ i j, i < j → j < zs.toArray.size → zs.toArray[i]! ≤ zs.toArray[j]! := fun i j hij hj => by
    have hj' : j < zs.length := by simpa using hj
    have := List.pairwise_iff_getElem.1 hp i j (by omega) hj' hij
    rw [getElem!_pos _ i (by simpa using Nat.lt_trans hij hj'), getElem!_pos _ j hj]
    simpa using this
  obtain ⟨h1, h2, _⟩ := compact_spec zs.toArray hs zs.length (by simp)
  refine ⟨h1, fun y => ?_, ?_⟩
  · show y ∈ Lib.compactUpTo zs.toArray zs.length ↔ _
    rw [h2, ← hmem]
    constructor
    · rintro ⟨j, hj, e⟩
      rw [← e, getElem!_pos _ j (by simpa using hj)]
      simp
    · intro hy
      obtain ⟨j, hj⟩ := List.getElem?_of_mem hy
      obtain ⟨hjl, e⟩ := List.getElem?_eq_some_iff.1 hj
      exact ⟨j, hjl, by rw [getElem!_pos _ j (by simpa using hjl)]; simpa using e⟩
  · rw [← hl]
    unfold Lib.compact Lib.compactUpTo
    rw [List.length_map]
    exact Nat.le_trans (List.length_filter_le _ _) (by simp)
def RisingR (xs : List Int) (w : World) (e : Ending) (w' : World) : Prop := ∃ a n c zs, e = .returned (.slice a n c) ∧ Ints w'.heap.size w' a n zs ∧ n ≤ xs.length ∧ Vf.Strict zs ∧ (∀ y, y ∈ zs ↔ y ∈ xs) ∧ Still w w'
theorem holds_own {w : World} {base : Nat} {a : Option Addr} {n c : Nat} {xs : List Int} (h : w.ownsRow base 3 1 (.slice a n c) n (xs.map (Value.int .i64))) (h0 : 0 < n) : ∃ g, a = some ⟨g, 0, none⟩ ∧ base ≤ g ∧ g < w.heap.size ∧ Holds (Value.int .i64) w g 0 xs.toArray ∧ n ≤ c ∧ xs.length = n := by
  have hl : xs.length = n := by have := h.1; rw [List.length_map, Nat.mul_one] at this; exact this
  have hlt := h.lt
  have hcells := fun g hg => h.cells (g := g) hg
  rcases h.2 with ⟨_, h1⟩ | ⟨g, cap, cur, e, e1, e2, e3, e4, e5, e6⟩
  · omega
  · injection e with ea _ ec
    subst ea
    subst ec
    refine ⟨g, rfl, e1, (hlt g rfl).2, fun j hj => ⟨?_, ?_⟩, e3, hl⟩
    · have hj' : j < xs.length := by simpa using hj
      have := hcells g rfl j (.int .i64 xs[j]) (by rw [List.getElem?_map, List.getElem?_eq_getElem hj']; rfl)
      rw [Addr.add_lit] at this
      rw [this, getElem!_pos _ j hj]
      simp
    · exact (show Blk w g 3 cur from e2).frozen (0 + j)
theorem ints_holds {w : World} {g : Nat} {zs : List Int} (h : ∀ j, j < zs.length → w.cell? ⟨g, j, none⟩ = some (.int .i64 (zs.getD j 0))) (hg : g < w.heap.size) (h64 : ∀ y ∈ zs, In64 y) : Ints w.heap.size w (some ⟨g, 0, none⟩) zs.length zs :=
  ⟨rfl, fun _ => ⟨g, 0, rfl, hg, fun i x hi => ⟨[.int .i64 x], rfl, ⟨rfl, h64 x (List.mem_of_getElem? hi)⟩, fun j hj => by
    have : j = 0 := by omega
    subst this
    have hil := (List.getElem?_eq_some_iff.1 hi).1
    rw [show 0 + i * 1 + 0 = i by omega, h i hil]
    simp [List.getD, hi]⟩⟩⟩
set_option maxRecDepth 100000 in
set_option maxHeartbeats 4000000 in
theorem rising_any {B : Nat} {w : World} {a : Option Addr} {n c : Nat} {ls : List (List Int)} (hl : Lies B w 1 (LstIs B w) a n ls) (hB : B ≤ w.heap.size) (hn : n ≤ 100) :
    Calls Tryz.prog 28 #[.slice a n c] w (RisingR ls.flatten w) := by
  have HC := Lib.hid (concat_any (c := c) hl hB hn)
  have H64 : Hid (∀ y ∈ ls.flatten, In64 y) := fun y hy => by
    obtain ⟨x, hx, hyx⟩ := List.mem_flatten.1 hy
    obtain ⟨j, hj⟩ := List.getElem?_of_mem hx
    obtain ⟨b, off, x', cs, ha, hbB, hxi, hcl, hPx, hcell⟩ := hl.here (i := j) (by have := hl.len; have := (List.getElem?_eq_some_iff.1 hj).1; omega)
    obtain rfl : x = x' := by rw [hj] at hxi; exact Option.some.inj hxi
    obtain ⟨a2, n2, c2, _, h2, h3⟩ := hPx
    obtain ⟨i, hi⟩ := List.getElem?_of_mem hyx
    obtain ⟨b2, off2, y', cs2, _, _, hyi, _, hq, _⟩ := h3.here (i := i) (by have := h3.len; have := (List.getElem?_eq_some_iff.1 hi).1; omega)
    obtain rfl : y = y' := by rw [hi] at hyi; exact Option.some.inj hyi
    exact hq.2
  have HSM : Hid (ls.flatten.length < 4611686018427387904) := by
    have : ∀ j, j ≤ n → (ls.take j).flatten.length ≤ 1000 * j := fun j => by
      induction j with
      | zero => intro _; simp
      | succ j ih =>
        intro hj
        obtain ⟨b, off, x, cs, ha, hbB, hxi, hcl, hPx, hcell⟩ := hl.here (i := j) (by omega)
        obtain ⟨a2, n2, c2, _, h2, h3⟩ := hPx
        rw [flat_take hxi, List.length_append, h3.len]
        have := ih (by omega)
        omega
    have h1 := this n (Nat.le_refl _)
    rw [List.take_of_length_le (by rw [hl.len]; exact Nat.le_refl _)] at h1
    show _ < _
    omega
  generalize ls.flatten = xs at *
  clear hl hB
  go_enter Tryz.func28, Tryz.ntmps28
  go_wp2_with fail
  refine HC.out.mono ?_; rintro e w2 ⟨a2, c2, rfl, ho2, t2⟩
  have H2 := Lib.hid (And.intro ho2 t2)
  clear ho2 t2
  rcases Nat.eq_zero_or_pos xs.length with h0 | h0
  · have hx : xs = [] := List.eq_nil_of_length_eq_zero h0
    have HX := Lib.hid hx
    rw [h0]
    clear h0 hx
    go_wp2_with fail
    refine (Tryz.slices_Sort_int_none a2 c2 w2).mono ?_; rintro e w3 ⟨rfl, rfl⟩
    go_wp2_with fail
    refine (Tryz.slices_Compact_int_empty a2 c2 w3).mono ?_; rintro e w4 ⟨rfl, rfl⟩
    go_wp2_with fail
    go_ret
    exact ⟨a2, 0, c2, [], rfl, ⟨rfl, fun h => absurd h (Nat.lt_irrefl _)⟩, Nat.zero_le _, by unfold Vf.Strict; simp, fun y => by rw [HX.out], H2.out.2⟩
  · obtain ⟨g, rfl, hg, hgl, hh, hnc, _⟩ := holds_own H2.out.1 h0
    have HSO := Lib.hid (Tryz.slices_Sort_int g 0 c2 xs w2 hh hgl HSM.out)
    have HH := Lib.hid (And.intro hh (And.intro hg (And.intro hgl hnc)))
    clear hh hg hgl hnc h0
    go_wp2_with fail
    refine HSO.out.mono ?_; rintro e w3 ⟨rfl, k, os, rfl⟩
    obtain ⟨zs, hzs⟩ : ∃ zs, xs.mergeSort (fun x y => decide (x ≤ y)) = zs := ⟨_, rfl⟩
    have hzl : zs.length = xs.length := by rw [← hzs, List.length_mergeSort]
    have HZ := Lib.hid (compact_sorted xs)
    rw [hzs] at HZ ⊢
    have h1 : Holds (Value.int .i64) (grow (putRow (Value.int .i64) (Sort.ahead w2 k) g 0 zs.toArray) os) g 0 zs.toArray :=
      Go.Sort.holds_grow _ _ _ _ _ _ (by simpa using HH.out.2.2.1) (Go.Sort.holds_putRow _ _ _ _ xs.toArray _ (Go.Sort.holds_ahead _ _ _ _ _ _ HH.out.1) (by simp [hzl]))
    have T3 : Hid (Turn (fun j => j = g) w2 (grow (putRow (Value.int .i64) (Sort.ahead w2 k) g 0 zs.toArray) os)) := (putRow_turn _ _ _ _ _ _).trans (grow_still _ _).turn
    have hgl3 : g < (grow (putRow (Value.int .i64) (Sort.ahead w2 k) g 0 zs.toArray) os).heap.size := Nat.lt_of_lt_of_le HH.out.2.2.1 T3.out.size
    generalize grow (putRow (Value.int .i64) (Sort.ahead w2 k) g 0 zs.toArray) os = w3 at h1 T3 hgl3 ⊢
    have HCO := Lib.hid (Tryz.slices_Compact_int g 0 c2 zs w3 h1 (by have := HSM.out; omega) (by have := HH.out.2.2.2; omega))
    have HH3 := Lib.hid (And.intro h1 (And.intro hgl3 (And.intro hzl hzs)))
    rw [← hzl]
    clear h1 hgl3 hzl hzs
    go_wp2_with fail
    refine HCO.out.mono ?_; rintro e w4 ⟨rfl, q, rfl⟩
    have h4 : Holds (Value.int .i64) (putRow (Value.int .i64) (Sort.ahead w3 q) g 0 (Lib.compact zs ++ List.replicate (zs.length - (Lib.compact zs).length) 0).toArray) g 0 (Lib.compact zs ++ List.replicate (zs.length - (Lib.compact zs).length) 0).toArray :=
      Go.Sort.holds_putRow _ _ _ _ zs.toArray _ (Go.Sort.holds_ahead _ _ _ _ _ _ HH3.out.1) (by have := HZ.out.2.2; have := HH3.out.2.2.1; simp; omega)
    have T4 : Hid (Turn (fun j => j = g) w3 (putRow (Value.int .i64) (Sort.ahead w3 q) g 0 (Lib.compact zs ++ List.replicate (zs.length - (Lib.compact zs).length) 0).toArray)) := putRow_turn _ _ _ _ _ _
    have H4 := Lib.hid h4
    clear h4
    generalize putRow (Value.int .i64) (Sort.ahead w3 q) g 0 (Lib.compact zs ++ List.replicate (zs.length - (Lib.compact zs).length) 0).toArray = w4 at H4 T4 ⊢
    go_wp2_with fail
    go_ret
    refine ⟨some ⟨g, 0, none⟩, (Lib.compact zs).length, c2, Lib.compact zs, rfl, ints_holds (fun j hj => ?_) (Nat.lt_of_lt_of_le HH3.out.2.1 T4.out.size) (fun y hy => H64.out y ((HZ.out.2.1 y).1 hy)), HZ.out.2.2, HZ.out.1, HZ.out.2.1, (H2.out.2.turn.trans (T3.out.trans T4.out)).mono fun j hj e => by have := HH.out.2.1; omega⟩
    have := (H4.out j (by simp; omega)).1
    rw [Nat.zero_add] at this
    rw [this, getElem!_pos _ j (by simp; omega)]
    simp [List.getElem_append_left hj, List.getD, List.getElem?_eq_getElem hj]
end Go.Proofs.YtglalgjffkoneaaGreatDoor
/- Sub and Join. -/
namespace Go.Proofs.YtglalgjffkoneaaGreatDoor
set_option linter.unusedVariables false
set_option linter.unusedSimpArgs false
open Go.ChangeShapes Go.WideShapes Go.ChangeAt Go.RowKit
set_option maxHeartbeats 2000000 in
theorem sub1_any {B : Nat} {w : World} {b : Nat} {ka : Option Addr} {kn kc : Nat} {zs : List Int} (hb : w.cell? ⟨b, 0, none⟩ = some (.slice ka kn kc)) (hz : Ints B w ka kn zs) (hs : Vf.Strict zs) (hn : kn < 4611686018427387904) (x : Int) :
    Calls Tryz.prog 30 #[.int .i64 x, .pointer (some ⟨b, 0, none⟩)] w fun e w' => e = .returned (.bool (!(zs.contains x))) ∧ Still w w' := by
  have hl : b < w.heap.size := World.block_lt_of_cell? w _ hb
  have HLEN : Hid (zs.length = kn) := hz.len
  rcases Nat.eq_zero_or_pos kn with rfl | h0
  · have hx : zs = [] := List.eq_nil_of_length_eq_zero HLEN.out
    subst hx
    clear hz hs
    go_enter Tryz.func30, Tryz.ntmps30
    go_wp2_with fail
    refine (Tryz.slices_BinarySearch_int_empty ka kc x w).mono ?_; rintro e w2 ⟨rfl, rfl⟩
    go_wp2_with fail
    go_ret
    exact ⟨rfl, Still.refl _⟩
  · obtain ⟨b1, off, rfl, hb1, hc⟩ := ints_cell hz h0
    have HBS := Lib.hid (Tryz.slices_BinarySearch_int b1 off kn kc zs x w (by rw [HLEN.out]; exact Nat.le_refl _) hn (fun j hj => hc j (by have := HLEN.out; omega)) (by
      rw [List.take_of_length_le (by rw [HLEN.out]; exact Nat.le_refl _)]
      exact hs.imp fun h => Int.le_of_lt h))
    rw [List.take_of_length_le (by rw [HLEN.out]; exact Nat.le_refl _)] at HBS
    generalize zs.contains x = q at *
    generalize List.countP (fun y => decide (y < x)) zs = p at *
    clear hz hs hc
    go_enter Tryz.func30, Tryz.ntmps30
    go_wp2_with fail
    refine HBS.out.mono ?_; rintro e w2 ⟨rfl, k, rfl⟩
    have SD : Hid (Still w (w.drewN k)) := (Still.refl w).drewN k
    generalize w.drewN k = w3 at SD ⊢
    go_wp2_with fail
    go_ret
    exact ⟨rfl, SD.out⟩
/-- Some lists, laid one behind the other. -/
theorem lists_new {B : Nat} {w : World} (vs : List (Option Addr × Nat × Nat × List Int)) (hB : B ≤ w.heap.size) (h : ∀ p ∈ vs, p.2.1 ≤ 1000 ∧ Ints B w p.1 p.2.1 p.2.2.2) {W : World} (hW : Still w W) (hb : Blk W w.heap.size 34 (vs.map fun p => Value.slice p.1 p.2.1 p.2.2.1).toArray) :
    Lies W.heap.size W 1 (LstIs W.heap.size W) (some ⟨w.heap.size, 0, none⟩) vs.length (vs.map fun p => p.2.2.2) :=
  ⟨by rw [List.length_map], fun _ => ⟨w.heap.size, 0, rfl, hb.lt, fun i x hi => by
    rw [List.getElem?_map] at hi
    obtain ⟨p, hp, rfl⟩ := Option.map_eq_some_iff.1 hi
    obtain ⟨h1, h2⟩ := h p (List.mem_of_getElem? hp)
    refine ⟨[.slice p.1 p.2.1 p.2.2.1], rfl, ⟨_, _, _, rfl, h1, (h2.keep ((Still.below hW).mono hB) hB).up (Nat.le_trans hB hW.size)⟩, fun j hj => ?_⟩
    have : j = 0 := by omega
    subst this
    rw [show 0 + i * 1 + 0 = i by omega, hb.cell i]
    simp [hp]⟩⟩
theorem tsub_any (ia ib : Bool) {xs ys zs : List Int} (h : ∀ y, y ∈ zs ↔ y ∈ ys) (hi : ¬ (ia = true ∧ ib = false)) : Vf.tsub ia xs ib ys = !(xs.any fun x => !(zs.contains x)) := by
  unfold Vf.tsub Vf.subB
  have h1 : (!ia || ib) = true := by cases ia <;> cases ib <;> simp_all
  rw [h1, Bool.true_and, Bool.eq_iff_iff]
  simp only [List.all_eq_true, Bool.not_eq_true', List.any_eq_false, Bool.not_eq_true, Bool.not_eq_false']
  constructor
  · intro e x hx
    have := e x hx
    simp only [List.contains_iff_mem] at this ⊢
    simpa [h] using this
  · intro e x hx
    have := e x hx
    simp only [List.contains_iff_mem] at this ⊢
    simpa [h] using this
set_option maxRecDepth 100000 in
set_option maxHeartbeats 4000000 in
theorem sub_any {B : Nat} {w : World} {ia ib : Bool} {a a' : Option Addr} {n c n' c' : Nat} {xs ys : List Int} (ha : Ints B w a n xs) (hb : Ints B w a' n' ys) (hB : B ≤ w.heap.size) (hn : n ≤ 1000) (hn' : n' ≤ 1000) :
    Calls Tryz.prog 17 #[.agg #[.bool ia, .slice a n c], .agg #[.bool ib, .slice a' n' c']] w fun e w' => e = .returned (.bool (Vf.tsub ia xs ib ys)) ∧ Still w w' := by
  have S2 : Hid (Still w ((w.alloc (.cells #[.bool ia, .slice a n c] 51)).alloc (.cells #[.bool ib, .slice a' n' c'] 51)) ∧ Blk ((w.alloc (.cells #[.bool ia, .slice a n c] 51)).alloc (.cells #[.bool ib, .slice a' n' c'] 51)) w.heap.size 51 #[.bool ia, .slice a n c] ∧ Blk ((w.alloc (.cells #[.bool ia, .slice a n c] 51)).alloc (.cells #[.bool ib, .slice a' n' c'] 51)) (w.heap.size + 1) 51 #[.bool ib, .slice a' n' c']) := ⟨((Still.refl w).alloc _).alloc _, Blk.alloc (Blk.new w _ _) _, by
    have := Blk.new (w.alloc (.cells #[.bool ia, .slice a n c] 51)) 51 #[.bool ib, .slice a' n' c']
    rwa [show (w.alloc (.cells #[.bool ia, .slice a n c] 51)).heap.size = w.heap.size + 1 by simp] at this⟩
  have HA := Lib.hid ha
  have HBB := Lib.hid hb
  have HB := Lib.hid hB
  have HN := Lib.hid (And.intro hn hn')
  by_cases hi : ia = true ∧ ib = false
  · obtain ⟨rfl, rfl⟩ := hi
    clear ha hb hB hn hn'
    go_enter Tryz.func17, Tryz.ntmps17
    go_wp2_with fail
    go_ret
    exact ⟨rfl, S2.out.1⟩
  · have HTSG : Hid (∀ zs : List Int, (∀ y, y ∈ zs ↔ y ∈ ys) → Vf.tsub ia xs ib ys = !(xs.any fun x => !(zs.contains x))) := fun zs h => tsub_any ia ib h hi
    have hif : (ia && !ib) = false := by cases ia <;> cases ib <;> simp_all
    generalize hw2 : (w.alloc (.cells #[.bool ia, .slice a n c] 51)).alloc (.cells #[.bool ib, .slice a' n' c'] 51) = w2 at S2
    have HL : Hid (Lies (w2.alloc (.cells #[.slice a' n' c'] 34)).heap.size (w2.alloc (.cells #[.slice a' n' c'] 34)) 1 (LstIs (w2.alloc (.cells #[.slice a' n' c'] 34)).heap.size (w2.alloc (.cells #[.slice a' n' c'] 34))) (some ⟨w2.heap.size, 0, none⟩) 1 [ys]) :=
      lists_new (w := w2) [(a', n', c', ys)] (Nat.le_trans hB S2.out.1.size) (fun p hp => by
        rw [List.mem_singleton.1 hp]
        exact ⟨hn', hb.keep ((Still.below S2.out.1).mono hB) hB⟩) ((Still.refl w2).alloc _) (Blk.new w2 _ _)
    have HR := Lib.hid (rising_any (c := 1) HL.out (Nat.le_refl _) (by decide))
    have S3 : Hid (Still w2 (w2.alloc (.cells #[.slice a' n' c'] 34))) := (Still.refl w2).alloc _
    clear ha hb hB hn hn' HL
    have m0 := S2.out.2.1.cell 0
    have m1 := S2.out.2.1.cell 1
    have k0 := S2.out.2.2.cell 0
    have k1 := S2.out.2.2.cell 1
    have lm := S2.out.2.1.lt
    have lk := S2.out.2.2.lt
    rcases Bool.eq_false_or_eq_true ia with rfl | rfl <;> rcases Bool.eq_false_or_eq_true ib with rfl | rfl
    rotate_left
    · exact absurd ⟨rfl, rfl⟩ hi
    all_goals
      clear hi hif
      go_enter Tryz.func17, Tryz.ntmps17
      go_wp2_with fail
      clear m0 m1 k0 k1 lm lk
      refine HR.out.mono ?_; rintro e w3 ⟨ka, kn, kc, zs, rfl, hz, hkn, hst, hmem, t3⟩
      have S4 : Hid (Still w w3) := S2.out.1.trans (S3.out.trans t3)
      have S5 : Hid (Still w3 (w3.alloc (.cells #[.slice ka kn kc] 34)) ∧ (w3.alloc (.cells #[.slice ka kn kc] 34)).cell? ⟨w3.heap.size, 0, none⟩ = some (.slice ka kn kc) ∧ w3.heap.size < (w3.alloc (.cells #[.slice ka kn kc] 34)).heap.size) := ⟨(Still.refl w3).alloc _, (Blk.new w3 34 #[.slice ka kn kc]).cell 0, by simp⟩
      have M3 := Lib.hid ((S3.out.trans t3).blk S2.out.2.1)
      have m1 := M3.out.cell 1
      have lm := M3.out.lt
      have hknb : kn < 4611686018427387904 := by
        have h1 := HN.out
        have h3 := HBB.out.len
        simp at hkn
        omega
      have hmf : ∀ (fn : Fn) (first cap : Array Value) (w : World), (Instr.makeFunc fn first cap).run Tryz.prog w = .ok (.func fn first cap) w := fun _ _ _ _ => rfl
      have henter : ∀ (args : Array Value) (W : World), (callFunc 30 args).run Tryz.prog W = .ok (.enter 30 args) W := enters_of Tryz.func30 (by kernel_rfl) rfl
      have HCF := Lib.hid (containsInt_any (c := c) (fun x => !(zs.contains x)) 30 #[] #[.pointer (some ⟨w3.heap.size, 0, none⟩)] henter (w := w3.alloc (.cells #[.slice ka kn kc] 34)) (HA.out.keep ((Still.below (S4.out.trans S5.out.1)).mono HB.out) HB.out) (Nat.le_trans HB.out (S4.out.trans S5.out.1).size) (by have := HN.out; unfold maxLen; omega)
        (fun x W _ hW => sub1_any (B := w3.heap.size) ((hW.cell (p := ⟨w3.heap.size, 0, none⟩) S5.out.2.2).trans S5.out.2.1) (hz.keep ((Still.below (S5.out.1.trans hW))) (Nat.le_refl _)) hst hknb x))
      have HTS := Lib.hid (HTSG.out zs (by simpa using hmem))
      clear hz hst hmem t3 hkn henter
      generalize xs.any (fun x => !(zs.contains x)) = q at *
      go_wp2_with fail
      refine HCF.out.mono ?_; rintro e w5 ⟨rfl, t5⟩
      have T5 : Hid (Still w w5) := S4.out.trans (S5.out.1.trans t5)
      clear t5 m1 lm
      go_wp2_with fail
      go_ret
      refine ⟨?_, T5.out⟩
      rw [HTS.out]
      rfl
end Go.Proofs.YtglalgjffkoneaaGreatDoor
/- Join. -/
namespace Go.Proofs.YtglalgjffkoneaaGreatDoor
set_option linter.unusedVariables false
set_option linter.unusedSimpArgs false
open Go.ChangeShapes Go.WideShapes Go.ChangeAt Go.RowKit
def JoinR (im : Bool) (zs : List Int) (w : World) (e : Ending) (w' : World) : Prop := ∃ a n c, e = .returned (.agg #[.bool im, .slice a n c]) ∧ Ints w'.heap.size w' a n zs ∧ Still w w'
end Go.Proofs.YtglalgjffkoneaaGreatDoor
