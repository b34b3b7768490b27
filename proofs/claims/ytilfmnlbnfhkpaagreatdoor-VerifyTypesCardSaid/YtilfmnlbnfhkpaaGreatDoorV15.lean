/- Lemmas, put together: Vrh Vrj. -/
import Derived.Test.YtilfmnlbnfhkpaaGreatDoorV13
import Derived.Test.YtilfmnlbnfhkpaaGreatDoorVor
import Derived.Test.YtilfmnlbnfhkpaaGreatDoorV1
import Derived.Deep.RegionHeld
import Derived.Deep.RegionHeld3
/- The document's has, and Sub. -/
namespace Go.Proofs.YtilfmnlbnfhkpaaGreatDoor
set_option linter.unusedVariables false
set_option linter.unusedSimpArgs false
open Go.ChangeShapes Go.WideShapes Go.ChangeAt Go.RowKit
set_option maxRecDepth 100000 in
set_option maxHeartbeats 4000000 in
theorem refHas_any {B : Nat} {w : World} {a : Option Addr} {n c : Nat} {xs : List Int} (h : Ints B w a n xs) (hB : B ≤ w.heap.size) (hn : n ≤ 1000000) (x : Int) :
    Calls Tryz.prog 26 #[.slice a n c, .int .i64 x] w fun e w' => e = .returned (.bool (xs.contains x)) ∧ Still w w' := by
  have HH := Lib.hid (And.intro h hB)
  have HLEN : Hid (xs.length = n) := h.len
  obtain ⟨q, hq⟩ : ∃ q, xs.contains x = q := ⟨_, rfl⟩
  have HQ : Hid (xs.contains x = q) := hq
  rw [hq]
  clear h hB hq
  go_enter Tryz.func26, Tryz.ntmps26
  go_wp2_with fail
  go_loopw [6, 9] (fun _ z wr => ∃ i : Nat, z = .int .i64 i ∧ i ≤ n ∧ x ∉ xs.take i ∧ Still w wr) (fun _ z _ => n - (intOf z).toNat)
  case atStart => exact ⟨0, rfl, Nat.zero_le _, by simp, Still.refl _⟩
  case round =>
    obtain ⟨i, rfl, hi, hx, ht⟩ := hrel
    have HT := Lib.hid (And.intro hx ht)
    by_cases hlt : i < n
    · obtain ⟨b1, off1, rfl, hb1, hc1⟩ := ints_cell HH.out.1 (by omega)
      obtain ⟨z, hz⟩ : ∃ z, xs.getD i 0 = z := ⟨_, rfl⟩
      have hil : i < xs.length := by have := HLEN.out; omega
      have HZ : Hid (xs[i]? = some z) := by show _ = _; rw [← hz]; simp [List.getD, List.getElem?_eq_getElem hil]
      have d1 : wr.cell? ⟨b1, off1 + i, none⟩ = some (.int .i64 z) := (ht.cell (p := ⟨b1, off1 + i, none⟩) (Nat.lt_of_lt_of_le hb1 HH.out.2)).trans (by rw [← hz]; exact hc1 i hlt)
      have l1 := World.block_lt_of_cell? _ _ d1
      have hii : (i : Int) < n := by omega
      have HLT := Lib.hid hlt
      clear hc1 hz ht hx
      by_cases hxz : x = z
      · have x0 : (x == z) = true := by simp [hxz]
        have HXZ := Lib.hid hxz
        clear hxz
        go_wp2_with fail
        go_ret
        refine ⟨?_, HT.out.2⟩
        have : q = true := by rw [← HQ.out, List.contains_iff_mem, HXZ.out]; exact List.mem_of_getElem? HZ.out
        rw [this]
        rfl
      · have x0 : (x == z) = false := beq_eq_false_iff_ne.2 hxz
        have HXZ := Lib.hid hxz
        clear hxz
        go_wp2_with fail
        go_roundw
        case rel =>
          refine ⟨i + 1, by go_num, by have := HLT.out; omega, ?_, HT.out.2⟩
          rw [List.take_add_one, HZ.out, Option.toList_some, List.mem_append, List.mem_singleton]
          exact fun e => e.elim HT.out.1 HXZ.out
        case measure => have := HLT.out; simp [intOf]; omega
    · obtain rfl : n = i := by omega
      have x6 : decide ((n : Int) < n) = false := decide_eq_false (by omega)
      have x6' : decide (n < n) = false := decide_eq_false (by omega)
      clear hlt ht hx
      go_wp2_with fail
      go_ret
      refine ⟨?_, HT.out.2⟩
      have h1 := HT.out.1
      rw [List.take_of_length_le (by rw [HLEN.out]; exact Nat.le_refl _)] at h1
      have : q = false := by
        cases hq : q with
        | false => rfl
        | true => exact absurd (List.contains_iff_mem.1 (HQ.out.trans hq)) h1
      rw [this]
      rfl
set_option maxRecDepth 100000 in
set_option maxHeartbeats 4000000 in
theorem refSub_any {B : Nat} {w : World} {ia ib : Bool} {a a' : Option Addr} {n c n' c' : Nat} {xs ys : List Int} (ha : Ints B w a n xs) (hb : Ints B w a' n' ys) (hB : B ≤ w.heap.size) (hn : n ≤ 1000) (hn' : n' ≤ 1000) :
    Calls Tryz.prog 14 #[.agg #[.bool ia, .slice a n c], .agg #[.bool ib, .slice a' n' c']] w fun e w' => e = .returned (.bool (Vf.tsub ia xs ib ys)) ∧ Still w w' := by
  have S2 : Hid (Still w ((w.alloc (.cells #[.bool ia, .slice a n c] 24)).alloc (.cells #[.bool ib, .slice a' n' c'] 24)) ∧ Blk ((w.alloc (.cells #[.bool ia, .slice a n c] 24)).alloc (.cells #[.bool ib, .slice a' n' c'] 24)) w.heap.size 24 #[.bool ia, .slice a n c] ∧ Blk ((w.alloc (.cells #[.bool ia, .slice a n c] 24)).alloc (.cells #[.bool ib, .slice a' n' c'] 24)) (w.heap.size + 1) 24 #[.bool ib, .slice a' n' c']) := ⟨((Still.refl w).alloc _).alloc _, (blk_at rfl).alloc _, blk_at (by simp)⟩
  have HA := Lib.hid ha
  have HBB := Lib.hid hb
  have HB := Lib.hid hB
  have HN := Lib.hid (And.intro hn hn')
  have HLEN : Hid (xs.length = n) := ha.len
  by_cases hi : ia = true ∧ ib = false
  · obtain ⟨rfl, rfl⟩ := hi
    clear ha hb hB hn hn'
    go_enter Tryz.func14, Tryz.ntmps14
    go_wp2_with fail
    go_ret
    exact ⟨rfl, S2.out.1⟩
  · have HTS : Hid (Vf.tsub ia xs ib ys = Vf.subB xs ys) := by
      show _ = _
      unfold Vf.tsub
      cases ia <;> cases ib <;> simp_all
    have m0 := S2.out.2.1.cell 0
    have m1 := S2.out.2.1.cell 1
    have k0 := S2.out.2.2.cell 0
    have lm := S2.out.2.1.lt
    have lk := S2.out.2.2.lt
    clear ha hb hB
    rcases Bool.eq_false_or_eq_true ia with rfl | rfl <;> rcases Bool.eq_false_or_eq_true ib with rfl | rfl
    rotate_left
    · exact absurd ⟨rfl, rfl⟩ hi
    all_goals
      clear hi
      go_enter Tryz.func14, Tryz.ntmps14
      go_wp2_with fail
      clear m0 m1 k0 lm lk
      generalize (w.alloc (.cells _ 24)).alloc (.cells _ 24) = w2 at S2 ⊢
      go_loopw [6, 17] (fun _ z wr => ∃ i : Nat, z = .int .i64 i ∧ i ≤ n ∧ (∀ s ∈ xs.take i, s ∈ ys) ∧ Still w2 wr) (fun _ z _ => n - (intOf z).toNat)
      case atStart => exact ⟨0, rfl, Nat.zero_le _, by simp, Still.refl _⟩
      case round =>
        obtain ⟨i, rfl, hi, hx, ht⟩ := hrel
        have HT := Lib.hid (And.intro hx ht)
        by_cases hlt : i < n
        · obtain ⟨b1, off1, rfl, hb1, hc1⟩ := ints_cell HA.out (by omega)
          obtain ⟨z, hz⟩ : ∃ z, xs.getD i 0 = z := ⟨_, rfl⟩
          have hil : i < xs.length := by have := HLEN.out; omega
          have HZ : Hid (xs[i]? = some z) := by show _ = _; rw [← hz]; simp [List.getD, List.getElem?_eq_getElem hil]
          have st : Still w wr := S2.out.1.trans ht
          have d1 : wr.cell? ⟨b1, off1 + i, none⟩ = some (.int .i64 z) := (st.cell (p := ⟨b1, off1 + i, none⟩) (Nat.lt_of_lt_of_le hb1 HB.out)).trans (by rw [← hz]; exact hc1 i hlt)
          have l1 := World.block_lt_of_cell? _ _ d1
          have hii : (i : Int) < n := by omega
          have HLT := Lib.hid hlt
          have BK := ht.blk S2.out.2.2
          have k1 := BK.cell 1
          have lk := BK.lt
          have HHC := Lib.hid (refHas_any (c := c') (HBB.out.keep ((Still.below st).mono HB.out) HB.out) (Nat.le_trans HB.out st.size) (by have := HN.out; omega) z)
          clear hc1 hz ht hx BK st
          go_wp2_with fail
          refine HHC.out.mono ?_; rintro e w5 ⟨rfl, t5⟩
          have T5 : Hid (Still w2 w5) := HT.out.2.trans t5
          clear t5 k1 lk d1 l1
          cases hcn : ys.contains z with
          | false =>
            have HCN := Lib.hid hcn
            go_wp2_with fail
            go_ret
            refine ⟨?_, S2.out.1.trans T5.out⟩
            have : Vf.subB xs ys = false := by
              unfold Vf.subB
              exact List.all_eq_false.2 ⟨z, List.mem_of_getElem? HZ.out, by rw [HCN.out]; decide⟩
            rw [HTS.out, this]
            rfl
          | true =>
            have HCN := Lib.hid hcn
            clear hcn
            go_wp2_with fail
            go_roundw
            case rel =>
              refine ⟨i + 1, by go_num, by have := HLT.out; omega, fun s hs => ?_, T5.out⟩
              rw [List.take_add_one, HZ.out, Option.toList_some] at hs
              rcases List.mem_append.1 hs with e | e
              · exact HT.out.1 s e
              · rw [List.mem_singleton.1 e]; exact List.contains_iff_mem.1 HCN.out
            case measure => have := HLT.out; simp [intOf]; omega
        · obtain rfl : n = i := by omega
          have x6 : decide ((n : Int) < n) = false := decide_eq_false (by omega)
          have x6' : decide (n < n) = false := decide_eq_false (by omega)
          clear hlt ht hx
          go_wp2_with fail
          go_ret
          refine ⟨?_, S2.out.1.trans HT.out.2⟩
          have h1 := HT.out.1
          rw [List.take_of_length_le (by rw [HLEN.out]; exact Nat.le_refl _)] at h1
          rw [HTS.out, (Vf.subB_iff _ _).2 h1]
          rfl
end Go.Proofs.YtilfmnlbnfhkpaaGreatDoor
/- The document's Join. -/
namespace Go.Proofs.YtilfmnlbnfhkpaaGreatDoor
set_option linter.unusedVariables false
set_option linter.unusedSimpArgs false
open Go.ChangeShapes Go.WideShapes Go.ChangeAt Go.RowKit
open Vf (joinL ins insStep)
theorem own_ints {w : World} {base : Nat} {a : Option Addr} {n c : Nat} {xs : List Int} (h : w.ownsRow base 3 1 (.slice a n c) n (xs.map (Value.int .i64))) (h64 : ∀ y ∈ xs, In64 y) : Ints w.heap.size w a n xs := by
  have hl : xs.length = n := by have := h.1; rw [List.length_map, Nat.mul_one] at this; exact this
  rcases Nat.eq_zero_or_pos n with rfl | h0
  · exact ⟨hl, fun e => absurd e (Nat.lt_irrefl _)⟩
  · obtain ⟨g, rfl, _, hg, hh, _, _⟩ := holds_own h h0
    have := ints_holds (w := w) (g := g) (zs := xs) (fun j hj => by
      have h1 := (hh j (by simpa using hj)).1
      rw [Nat.zero_add] at h1
      rw [h1, getElem!_pos _ j (by simpa using hj)]
      simp [List.getD, List.getElem?_eq_getElem hj]) hg h64
    rwa [hl] at this
theorem joinL_take {L : List Int} {i : Nat} {s : Int} (h : L[i]? = some s) : joinL (L.take (i + 1)) = if s ∈ joinL (L.take i) then joinL (L.take i) else ins s (joinL (L.take i)) := by
  rw [List.take_add_one, h, Option.toList_some, Vf.joinL_snoc]
theorem own_low {w : World} {base base' : Nat} {v : Value} {n : Nat} {xs : List Value} (h : w.ownsRow base 3 1 v n xs) (hb : base' ≤ base) : w.ownsRow base' 3 1 v n xs := by
  refine ⟨h.1, ?_⟩
  rcases h.2 with e | ⟨g, cap, cur, e, e1, e2⟩
  · exact .inl e
  · exact .inr ⟨g, cap, cur, e, Nat.le_trans hb e1, e2⟩
set_option maxRecDepth 100000 in
set_option maxHeartbeats 8000000 in
theorem refJoin_any {B : Nat} {w : World} {ia ib : Bool} {a a' : Option Addr} {n c n' c' : Nat} {xs ys : List Int} (ha : Ints B w a n xs) (hb : Ints B w a' n' ys) (hB : B ≤ w.heap.size) (hn : n ≤ 1000) (hn' : n' ≤ 1000) (h64 : ∀ y ∈ xs ++ ys, In64 y) :
    Calls Tryz.prog 12 #[.agg #[.bool ia, .slice a n c], .agg #[.bool ib, .slice a' n' c']] w (JoinR (ia || ib) (joinL (xs ++ ys)) w) := by
  have S3 : Hid (Still w (((w.alloc (.cells #[.bool ia, .slice a n c] 24)).alloc (.cells #[.bool ib, .slice a' n' c'] 24)).alloc (.cells #[.bool false, .slice none 0 0] 24)) ∧ Blk (((w.alloc (.cells #[.bool ia, .slice a n c] 24)).alloc (.cells #[.bool ib, .slice a' n' c'] 24)).alloc (.cells #[.bool false, .slice none 0 0] 24)) w.heap.size 24 #[.bool ia, .slice a n c] ∧ Blk (((w.alloc (.cells #[.bool ia, .slice a n c] 24)).alloc (.cells #[.bool ib, .slice a' n' c'] 24)).alloc (.cells #[.bool false, .slice none 0 0] 24)) (w.heap.size + 1) 24 #[.bool ib, .slice a' n' c'] ∧ Blk (((w.alloc (.cells #[.bool ia, .slice a n c] 24)).alloc (.cells #[.bool ib, .slice a' n' c'] 24)).alloc (.cells #[.bool false, .slice none 0 0] 24)) (w.heap.size + 1 + 1) 24 #[.bool false, .slice none 0 0]) := ⟨(((Still.refl w).alloc _).alloc _).alloc _, ((blk_at rfl).alloc _).alloc _, (blk_at (by simp)).alloc _, blk_at (by simp)⟩
  have HA := Lib.hid ha
  have HBB := Lib.hid hb
  have HB := Lib.hid hB
  have HN := Lib.hid (And.intro hn hn')
  have H64 := Lib.hid h64
  have HXL : Hid ((xs.map (Value.int .i64)).length = n * 1 ∧ (ys.map (Value.int .i64)).length = n' * 1) := ⟨by rw [List.length_map, ha.len, Nat.mul_one], by rw [List.length_map, hb.len, Nat.mul_one]⟩
  have HONE : Hid (∀ l : List Int, ∀ u ∈ l.map (Value.int .i64), u.oneCell' = true) := fun l u hu => by
    obtain ⟨y, _, rfl⟩ := List.mem_map.1 hu
    rfl
  have HCELL : Hid (∀ {W : World}, Still w W → (0 < n → ∃ ad, a = some ad ∧ ∀ j u, (xs.map (Value.int .i64))[j]? = some u → W.cell? (ad.add j) = some u) ∧ (0 < n' → ∃ ad, a' = some ad ∧ ∀ j u, (ys.map (Value.int .i64))[j]? = some u → W.cell? (ad.add j) = some u)) := fun {W} t => by
    have gen : ∀ {a : Option Addr} {n : Nat} {xs : List Int}, Ints B w a n xs → 0 < n → ∃ ad, a = some ad ∧ ∀ j u, (xs.map (Value.int .i64))[j]? = some u → W.cell? (ad.add j) = some u := fun {a n xs} hx h0 => by
      obtain ⟨b6, off6, ha6, hb6, hc6⟩ := ints_cell (hx.keep ((Still.below t).mono hB) hB) h0
      refine ⟨⟨b6, off6, none⟩, ha6, fun j u hu => ?_⟩
      rw [List.getElem?_map] at hu
      obtain ⟨y, hy, rfl⟩ := Option.map_eq_some_iff.1 hu
      have hjl := (List.getElem?_eq_some_iff.1 hy).1
      have h7 := hx.len
      have := hc6 j (by omega)
      rw [Go.WideShapes.add_plain, this]
      simp [List.getD, hy]
    exact ⟨gen ha, gen hb⟩
  obtain ⟨M0, hM⟩ : ∃ M0, w.heap.size = M0 := ⟨_, rfl⟩
  have HM := Lib.hid hM
  rw [hM] at S3
  clear ha hb hB h64
  go_enter Tryz.func12, Tryz.ntmps12
  go_wp2_with fail
  try rw [hM]
  clear hM
  generalize ((w.alloc (.cells #[.bool ia, .slice a n c] 24)).alloc (.cells #[.bool ib, .slice a' n' c'] 24)).alloc (.cells #[.bool false, .slice none 0 0] 24) = wz at S3 ⊢
  have q1 : wz.drew.cell? ⟨M0, 1, none⟩ = some (.slice a n c) := S3.out.2.1.cell 1
  have q2 : wz.drew.cell? ⟨M0 + 1, 1, none⟩ = some (.slice a' n' c') := S3.out.2.2.1.cell 1
  have hb1 : M0 < wz.drew.heap.size := S3.out.2.1.lt
  have hb2 : M0 + 1 < wz.drew.heap.size := S3.out.2.2.1.lt
  have HSR : Hid (Still wz (wz.alloc (.cells #[] 3)).drew) := ((Still.refl wz).alloc _).drew
  have qZ1 : (wz.alloc (.cells #[] 3)).drew.cell? ⟨M0, 1, none⟩ = some (.slice a n c) := (HSR.out.cell (p := ⟨M0, 1, none⟩) hb1).trans q1
  have qZ2 : (wz.alloc (.cells #[] 3)).drew.cell? ⟨M0 + 1, 1, none⟩ = some (.slice a' n' c') := (HSR.out.cell (p := ⟨M0 + 1, 1, none⟩) hb2).trans q2
  go_region_held3 (fun W => W.cell? ⟨M0, 1, none⟩ = some (.slice a n c) ∧ W.cell? ⟨M0 + 1, 1, none⟩ = some (.slice a' n' c')) (first | exact ⟨qB1, qB2⟩ | exact ⟨qA1, qA2⟩ | exact ⟨qZ1, qZ2⟩ | go_keep)
    (first
      | (refine step_append_src rfl (.tmp 12) (.tmp 14) 22 rfl wz.heap.size 3 1 8 _ Tryz.underlying22 infoInt5 rfl (by decide) _ 0 0 [] (by rfl) (own_none (by exact Blk.new wz _ _) (by first | (simp; done) | (simp; omega))) a n c (xs.map (Value.int .i64)) (by rfl) HXL.out.1 ((HCELL.out (S3.out.1.trans HSR.out)).1) (HONE.out xs) (by have := HN.out; unfold maxLen; omega) (by have := HN.out; omega) (by first | (simp; done) | (simp; omega)) ?_
         simp only [Nat.zero_add, List.nil_append]
         intro aA cA wA hA tA
         have HSA : Hid (Still wz wA) := still_own HSR.out tA.out (own_none (e := 3) (size := 1) (by exact Blk.new wz _ _) (by first | (simp; done) | (simp; omega)))
         have qA1 : wA.cell? ⟨M0, 1, none⟩ = some (.slice a n c) := (HSA.out.cell (p := ⟨M0, 1, none⟩) hb1).trans q1
         have qA2 : wA.cell? ⟨M0 + 1, 1, none⟩ = some (.slice a' n' c') := (HSA.out.cell (p := ⟨M0 + 1, 1, none⟩) hb2).trans q2
         clear tA)
      | (refine step_append_src rfl (.tmp 15) (.tmp 17) 22 rfl wz.heap.size 3 1 8 _ Tryz.underlying22 infoInt5 rfl (by decide) aA n cA (xs.map (Value.int .i64)) (by rfl) hA.out a' n' c' (ys.map (Value.int .i64)) (by rfl) HXL.out.2 ((HCELL.out (S3.out.1.trans HSA.out)).2) (HONE.out ys) (by have := HN.out; unfold maxLen; omega) (by have := HN.out; omega) HSA.out.size ?_
         intro aB cB wB hB tB
         generalize hk9 : n + n' = k9 at hB tB ⊢
         have HK9 := Lib.hid hk9
         clear hk9
         have HSB : Hid (Still wz wB) := still_own HSA.out tB.out hA.out
         have qB1 : wB.cell? ⟨M0, 1, none⟩ = some (.slice a n c) := (HSB.out.cell (p := ⟨M0, 1, none⟩) hb1).trans q1
         have qB2 : wB.cell? ⟨M0 + 1, 1, none⟩ = some (.slice a' n' c') := (HSB.out.cell (p := ⟨M0 + 1, 1, none⟩) hb2).trans q2
         clear tB))
  have HLL : Hid (wB.ownsRow wz.heap.size 3 1 (.slice aB k9 cB) k9 ((xs ++ ys).map (Value.int .i64))) := by rw [List.map_append]; exact hB.out
  have HIL : Hid (Ints wB.heap.size wB aB k9 (xs ++ ys)) := own_ints HLL.out H64.out
  have SWB : Hid (Still w wB) := S3.out.1.trans HSB.out
  have HKN : Hid (k9 ≤ 2000) := by have := HK9.out; have := HN.out; show _ ≤ _; omega
  have hk63 : k9 ≤ 9223372036854775807 := by have := HKN.out; omega
  have HR3 : Hid (Blk wB M0 24 #[.bool ia, .slice a n c] ∧ Blk wB (M0 + 1) 24 #[.bool ib, .slice a' n' c'] ∧ Blk wB (M0 + 1 + 1) 24 #[.bool false, .slice none 0 0]) := ⟨HSB.out.blk S3.out.2.1, HSB.out.blk S3.out.2.2.1, HSB.out.blk S3.out.2.2.2⟩
  clear q1 q2 hb1 hb2 qZ1 qZ2 qA1 qA2 qB1 qB2
  generalize hLe : xs ++ ys = L at *
  have HLE := Lib.hid hLe
  clear hLe
  go_wp2_with fail
  go_loopw [5, 7, 8, 9, 11, 20, 29] (fun z5 _ _ _ _ z _ wc => ∃ (i : Nat) (a5 : Option Addr) (k5 c5 : Nat), z = .int .i64 i ∧ i ≤ k9 ∧ z5 = .slice a5 k5 c5 ∧ k5 = (joinL (L.take i)).length ∧ wc.ownsRow wB.heap.size 3 1 (.slice a5 k5 c5) k5 ((joinL (L.take i)).map (Value.int .i64)) ∧ Still wB wc) (fun _ _ _ _ _ z _ _ => k9 - (intOf z).toNat)
  case atStart => exact ⟨0, none, 0, 0, rfl, Nat.zero_le _, rfl, rfl, ⟨rfl, .inl ⟨rfl, rfl⟩⟩, Still.refl _⟩
  case round =>
    obtain ⟨w0, hw0⟩ : ∃ w0, w0 = wr := ⟨_, rfl⟩
    subst hw0
    obtain ⟨i, a5, k5, c5, rfl, hi, rfl, hk5, ho5, t5⟩ := hrel
    have HJL : Hid (k5 ≤ 2000 ∧ ∀ y ∈ joinL (L.take i), In64 y) := by
      have h1 := joinL_len (L.take i)
      have h2 := HKN.out
      rw [List.length_take] at h1
      exact ⟨by omega, fun y hy => H64.out y (List.mem_of_mem_take (((Vf.joinL_spec _).2 y).1 hy))⟩
    have HTK : Hid (∀ s, L[i]? = some s → joinL (L.take (i + 1)) = if s ∈ joinL (L.take i) then joinL (L.take i) else ins s (joinL (L.take i))) := fun s h => joinL_take h
    have HEND : Hid (i = k9 → joinL (L.take i) = joinL L) := fun e => by rw [e, List.take_of_length_le (by rw [HIL.out.len]; exact Nat.le_refl _)]
    generalize joinL (L.take i) = J at *
    have H5 := Lib.hid (And.intro ho5 (And.intro t5 hk5))
    by_cases hlt : i < k9
    · obtain ⟨b1, off1, haB, hb1, hc1⟩ := ints_cell HIL.out (by omega)
      obtain ⟨s, hs⟩ : ∃ s, L.getD i 0 = s := ⟨_, rfl⟩
      have hil : i < L.length := by have := HIL.out.len; omega
      have HS : Hid (L[i]? = some s) := by show _ = _; rw [← hs]; simp [List.getD, List.getElem?_eq_getElem hil]
      have d1 : w0.cell? ⟨b1, off1 + i, none⟩ = some (.int .i64 s) := (t5.cell (p := ⟨b1, off1 + i, none⟩) hb1).trans (by rw [← hs]; exact hc1 i hlt)
      have l1 := World.block_lt_of_cell? _ _ d1
      have hii : (i : Int) < k9 := by omega
      have HLT := Lib.hid hlt
      have HIJ := Lib.hid (own_ints ho5 HJL.out.2)
      have HHAS := Lib.hid (refHas_any (c := c5) HIJ.out (Nat.le_refl _) (by have := HJL.out.1; omega) s)
      clear hc1 hs ho5 t5 hk5 hil
      subst haB
      go_wp2_with fail
      clear d1 l1
      refine HHAS.out.mono ?_; rintro e w5 ⟨rfl, t6⟩
      have T6 : Hid (Still w0 w5) := t6
      clear t6
      cases hcn : J.contains s with
      | true =>
        have HCN : Hid (s ∈ J) := List.contains_iff_mem.1 hcn
        go_wp2_with fail
        go_roundw
        case rel =>
          refine ⟨i + 1, a5, k5, c5, by go_num, by have := HLT.out; omega, rfl, ?_, ?_, H5.out.2.1.trans T6.out⟩
          · rw [HTK.out s HS.out, if_pos HCN.out]; exact H5.out.2.2
          · rw [HTK.out s HS.out, if_pos HCN.out]; exact own_keep H5.out.1 T6.out (fun _ _ e => e)
        case measure => have := HLT.out; simp [intOf]; omega
      | false =>
        have HCN : Hid (¬ s ∈ J) := fun e => by rw [List.contains_iff_mem.2 e] at hcn; cases hcn
        have hk563 : k5 ≤ 9223372036854775807 := by have := HJL.out.1; omega
        have HJLEN : Hid (J.length = k5) := H5.out.2.2.symm
        have HFOLD : Hid ((let p := J.foldl (insStep s) ([], false); if p.2 then p.1 else p.1 ++ [s]) = ins s J) := by
          show _ = _
          have := Vf.ins_fold s J []
          simpa using this
        go_wp2_with fail
        go_loopw [8, 9, 11, 29] (fun z8 z9 _ z wc => ∃ (j : Nat) (a8 : Option Addr) (k8 c8 : Nat) (nx : List Int) (dn : Bool), z = .int .i64 j ∧ j ≤ k5 ∧ z8 = .slice a8 k8 c8 ∧ z9 = .bool dn ∧ (J.take j).foldl (insStep s) ([], false) = (nx, dn) ∧ k8 = nx.length ∧ k8 ≤ 2 * j ∧ wc.ownsRow w5.heap.size 3 1 (.slice a8 k8 c8) k8 (nx.map (Value.int .i64)) ∧ Still w5 wc) (fun _ _ _ z _ => k5 - (intOf z).toNat)
        case atStart => exact ⟨0, none, 0, 0, [], false, rfl, Nat.zero_le _, rfl, rfl, rfl, rfl, Nat.zero_le _, ⟨rfl, .inl ⟨rfl, rfl⟩⟩, Still.refl _⟩
        case round =>
          obtain ⟨j, a8, k8, c8, nx, dn, rfl, hj, rfl, rfl, hfo, hk8, hk82, ho8, t8⟩ := hrel
          have H8 := Lib.hid (And.intro hfo (And.intro hk8 hk82))
          have HO := Lib.hid ho8
          have HST := Lib.hid t8
          by_cases hlt2 : j < k5
          · obtain ⟨b2, off2, ha5, hb2, hc2⟩ := ints_cell HIJ.out (by omega)
            obtain ⟨x, hx⟩ : ∃ x, J.getD j 0 = x := ⟨_, rfl⟩
            have hjl : j < J.length := by have := HJLEN.out; omega
            have HX : Hid ((J.take (j + 1)).foldl (insStep s) ([], false) = insStep s (nx, dn) x) := by
              have e : J[j]? = some x := by rw [← hx]; simp [List.getD, List.getElem?_eq_getElem hjl]
              show _ = _
              rw [List.take_add_one, e, Option.toList_some, List.foldl_append, hfo]
              rfl
            have d2 : wr.cell? ⟨b2, off2 + j, none⟩ = some (.int .i64 x) := ((T6.out.trans t8).cell (p := ⟨b2, off2 + j, none⟩) hb2).trans (by rw [← hx]; exact hc2 j hlt2)
            have l2 := World.block_lt_of_cell? _ _ d2
            have hjj : (j : Int) < k5 := by omega
            have HLT2 := Lib.hid hlt2
            have HKB4 : Hid (k8 + 1 ≤ maxLen ∧ (k8 + 1) * 8 ≤ 140737488355328) := by have h1 := HJL.out.1; exact ⟨by unfold maxLen; omega, by omega⟩
            have HKB3 : Hid (k8 + 1 + 1 ≤ maxLen ∧ (k8 + 1 + 1) * 8 ≤ 140737488355328) := by have h1 := HJL.out.1; exact ⟨by unfold maxLen; omega, by omega⟩
            clear hc2 hx hjl hfo hk8 hk82 ho8 t8
            subst ha5
            cases dn with
            | true =>
              go_wp2_with (at_builtin; refine wpList_append_form rfl (.tmp 44) (.tmp 46) 22 rfl w5.heap.size 3 1 8 _ Tryz.underlying22 infoInt5 rfl (by decide) a8 k8 c8 _ rfl (HO.out.alloc _) ⟨wr.heap.size, 0, none⟩ 1 1 [.int .i64 x] rfl rfl (fun j u hj => by rw [Addr.add_lit, Nat.zero_add, (Blk.new wr 3 #[.int .i64 x]).cell j]; simpa using hj) (by simp [Value.oneCell']) (by decide) HKB4.out.1 HKB4.out.2 (by have hz := HST.out.size; simp; omega) ?_; intro g4 c4 w4 hr4 ht4 hn4)
              go_roundw
              case rel =>
                refine ⟨j + 1, some ⟨g4, 0, none⟩, k8 + 1, c4, nx ++ [x], true, by go_num, by have := HLT2.out; omega, rfl, rfl, ?_, by rw [List.length_append, ← H8.out.2.1]; rfl, by have := H8.out.2.2; omega, by rw [List.map_append]; exact hr4.out, ?_⟩
                · rw [HX.out]; unfold insStep; simp
                · exact still_own (HST.out.alloc _) ht4.out (HO.out.alloc _)
              case measure => have := HLT2.out; simp [intOf]; omega
            | false =>
              by_cases hsx : s < x
              · have x1 : decide (s < x) = true := decide_eq_true hsx
                have HSX := Lib.hid hsx
                clear hsx
                go_wp2_with (first | (at_builtin; refine wpList_append_form rfl (.tmp 40) (.tmp 42) 22 rfl w5.heap.size 3 1 8 _ Tryz.underlying22 infoInt5 rfl (by decide) a8 k8 c8 _ rfl (HO.out.alloc _) ⟨wr.heap.size, 0, none⟩ 1 1 [.int .i64 s] rfl rfl (fun j u hj => by rw [Addr.add_lit, Nat.zero_add, (Blk.new wr 3 #[.int .i64 s]).cell j]; simpa using hj) (by simp [Value.oneCell']) (by decide) HKB4.out.1 HKB4.out.2 (by have hz := HST.out.size; simp; omega) ?_; intro g4 c4 w4 hr4 ht4 hn4) | (at_builtin; have HST4 : Hid (Still w5 w4) := still_own (HST.out.alloc _) ht4.out (HO.out.alloc _); refine wpList_append_form rfl (.tmp 44) (.tmp 46) 22 rfl w5.heap.size 3 1 8 _ Tryz.underlying22 infoInt5 rfl (by decide) (some ⟨g4, 0, none⟩) (k8 + 1) c4 _ rfl (hr4.out.alloc _) ⟨w4.heap.size, 0, none⟩ 1 1 [.int .i64 x] rfl rfl (fun j u hj => by rw [Addr.add_lit, Nat.zero_add, (Blk.new w4 3 #[.int .i64 x]).cell j]; simpa using hj) (by simp [Value.oneCell']) (by decide) HKB3.out.1 HKB3.out.2 (by have hz := HST4.out.size; simp; omega) ?_; intro g3 c3 w3 hr3 ht3 hn3))
                go_roundw
                case rel =>
                  refine ⟨j + 1, some ⟨g3, 0, none⟩, k8 + 1 + 1, c3, nx ++ [s, x], true, by go_num, by have := HLT2.out; omega, rfl, rfl, ?_, by rw [List.length_append, ← H8.out.2.1]; rfl, by have := H8.out.2.2; omega, ?_, ?_⟩
                  · rw [HX.out]; unfold insStep; rw [if_pos ⟨rfl, HSX.out⟩]
                  · have := hr3.out
                    rw [show nx ++ [s, x] = (nx ++ [s]) ++ [x] by simp, List.map_append, List.map_append]
                    exact this
                  · exact still_own (HST4.out.alloc _) ht3.out (hr4.out.alloc _)
                case measure => have := HLT2.out; simp [intOf]; omega
              · have x1 : decide (s < x) = false := decide_eq_false hsx
                have HSX := Lib.hid hsx
                clear hsx
                go_wp2_with (at_builtin; refine wpList_append_form rfl (.tmp 44) (.tmp 46) 22 rfl w5.heap.size 3 1 8 _ Tryz.underlying22 infoInt5 rfl (by decide) a8 k8 c8 _ rfl (HO.out.alloc _) ⟨wr.heap.size, 0, none⟩ 1 1 [.int .i64 x] rfl rfl (fun j u hj => by rw [Addr.add_lit, Nat.zero_add, (Blk.new wr 3 #[.int .i64 x]).cell j]; simpa using hj) (by simp [Value.oneCell']) (by decide) HKB4.out.1 HKB4.out.2 (by have hz := HST.out.size; simp; omega) ?_; intro g4 c4 w4 hr4 ht4 hn4)
                go_roundw
                case rel =>
                  refine ⟨j + 1, some ⟨g4, 0, none⟩, k8 + 1, c4, nx ++ [x], false, by go_num, by have := HLT2.out; omega, rfl, rfl, ?_, by rw [List.length_append, ← H8.out.2.1]; rfl, by have := H8.out.2.2; omega, by rw [List.map_append]; exact hr4.out, ?_⟩
                  · rw [HX.out]; unfold insStep; rw [if_neg (fun e => HSX.out e.2)]
                  · exact still_own (HST.out.alloc _) ht4.out (HO.out.alloc _)
                case measure => have := HLT2.out; simp [intOf]; omega
          · obtain rfl : k5 = j := by omega
            have x6 : decide ((k5 : Int) < k5) = false := decide_eq_false (by omega)
            have x6' : decide (k5 < k5) = false := decide_eq_false (by omega)
            have HFO : Hid (J.foldl (insStep s) ([], false) = (nx, dn)) := by
              have := hfo
              rwa [List.take_of_length_le (by rw [HJLEN.out]; exact Nat.le_refl _)] at this
            have HKB4 : Hid (k8 + 1 ≤ maxLen ∧ (k8 + 1) * 8 ≤ 140737488355328) := by have h1 := HJL.out.1; exact ⟨by unfold maxLen; omega, by omega⟩
            clear hlt2 hfo hk8 hk82 ho8 t8
            cases dn with
            | true =>
              go_wp2_with fail
              go_roundw
              case rel =>
                refine ⟨i + 1, a8, k8, c8, by go_num, by have := HLT.out; omega, rfl, ?_, ?_, ?_⟩
                · rw [HTK.out s HS.out, if_neg HCN.out, ← HFOLD.out, HFO.out]
                  show k8 = nx.length
                  exact H8.out.2.1
                · rw [HTK.out s HS.out, if_neg HCN.out, ← HFOLD.out, HFO.out]
                  exact own_low (HO.out) ((H5.out.2.1.trans T6.out).size)
                · exact (H5.out.2.1.trans T6.out).trans (HST.out)
              case measure => have := HLT.out; simp [intOf]; omega
            | false =>
              go_wp2_with (at_builtin; refine wpList_append_form rfl (.tmp 51) (.tmp 53) 22 rfl w5.heap.size 3 1 8 _ Tryz.underlying22 infoInt5 rfl (by decide) a8 k8 c8 _ rfl (HO.out.alloc _) ⟨wr.heap.size, 0, none⟩ 1 1 [.int .i64 s] rfl rfl (fun j u hj => by rw [Addr.add_lit, Nat.zero_add, (Blk.new wr 3 #[.int .i64 s]).cell j]; simpa using hj) (by simp [Value.oneCell']) (by decide) HKB4.out.1 HKB4.out.2 (by have hz := HST.out.size; simp; omega) ?_; intro g4 c4 w4 hr4 ht4 hn4)
              go_roundw
              case rel =>
                refine ⟨i + 1, some ⟨g4, 0, none⟩, k8 + 1, c4, by go_num, by have := HLT.out; omega, rfl, ?_, ?_, ?_⟩
                · rw [HTK.out s HS.out, if_neg HCN.out, ← HFOLD.out, HFO.out]
                  show k8 + 1 = (nx ++ [s]).length
                  rw [List.length_append, ← H8.out.2.1]; rfl
                · rw [HTK.out s HS.out, if_neg HCN.out, ← HFOLD.out, HFO.out]
                  exact own_low (by have := hr4.out; show World.ownsRow _ _ _ _ _ _ ((nx ++ [s]).map _); rw [List.map_append]; exact this) ((H5.out.2.1.trans T6.out).size)
                · exact (H5.out.2.1.trans T6.out).trans (still_own (HST.out.alloc _) ht4.out (HO.out.alloc _))
              case measure => have := HLT.out; simp [intOf]; omega
    · obtain rfl : k9 = i := by omega
      have x6 : decide ((k9 : Int) < k9) = false := decide_eq_false (by omega)
      have x6' : decide (k9 < k9) = false := decide_eq_false (by omega)
      have HE : Hid (J = joinL L) := HEND.out rfl
      have R1 := t5.blk HR3.out.1
      have R2 := t5.blk HR3.out.2.1
      have R3 := t5.blk HR3.out.2.2
      have HR33 := Lib.hid R3
      have z0 := R1.cell 0
      have y0 := R2.cell 0
      have r0 := R3.cell 0
      have r1 := R3.cell 1
      have rf0 := R3.frozen 0
      have rf1 := R3.frozen 1
      have lz := R1.lt
      have ly := R2.lt
      have lr := R3.lt
      clear hlt ho5 t5 hk5 R1 R2 R3
      have FIN : Hid (∀ (im : Bool), JoinR im (joinL L) w (.returned (.agg #[.bool im, .slice a5 k5 c5])) ((w0.setCell ⟨M0 + 1 + 1, 0, none⟩ (.bool im)).setCell ⟨M0 + 1 + 1, 1, none⟩ (.slice a5 k5 c5)) ∧ Blk ((w0.setCell ⟨M0 + 1 + 1, 0, none⟩ (.bool im)).setCell ⟨M0 + 1 + 1, 1, none⟩ (.slice a5 k5 c5)) (M0 + 1 + 1) 24 #[.bool im, .slice a5 k5 c5]) := fun im => by
        have TR : Turn (fun j => j = M0 + 1 + 1) w0 ((w0.setCell ⟨M0 + 1 + 1, 0, none⟩ (.bool im)).setCell ⟨M0 + 1 + 1, 1, none⟩ (.slice a5 k5 c5)) := ((Turn.refl (fun j => j = M0 + 1 + 1) w0).setCell (p := ⟨M0 + 1 + 1, 0, none⟩) (fun _ => rfl) _).setCell (p := ⟨M0 + 1 + 1, 1, none⟩) (fun _ => rfl) _
        have hm := HM.out
        refine ⟨⟨a5, k5, c5, rfl, ?_, ((SWB.out.trans H5.out.2.1).turn.trans TR).mono fun j hj e => by have e2 : j = M0 + 1 + 1 := e; omega⟩, by simpa using (HR33.out.set 0 (.bool im)).set 1 (.slice a5 k5 c5)⟩
        rw [← HE.out]
        refine own_ints (base := wB.heap.size) (own_keep H5.out.1 TR fun k hk e => ?_) HJL.out.2
        have h1 := (H5.out.1.lt k hk).1
        have h2 := HR3.out.2.2.lt
        have e2 : k = M0 + 1 + 1 := e
        omega
      rcases Bool.eq_false_or_eq_true ia with rfl | rfl
      all_goals
        go_wp2_with fail
        refine bodyPost_ret (results_cell_row rfl _ _ (M0 + 1 + 1) 24 #[.bool _, .slice a5 k5 c5] (0, 0) _ rfl (FIN.out _).2 Tryz.underlying24 rfl (by kernel_rfl)) rfl ?_
        exact (FIN.out _).1
end Go.Proofs.YtilfmnlbnfhkpaaGreatDoor
