/- The reader of lex in memory: signs. -/
import Derived.Test.YtpccfimjkffkfaaDoorLxTake
namespace Go.Proofs.YtpccfimjkffkfaaDoor
set_option linter.unusedVariables false
set_option linter.unusedSimpArgs false
open Go.ChangeShapes Go.WideShapes Go.ChangeAt Go.RowKit
theorem two_is (t : ByteArray) (a b : UInt8) : ((t.extract 0 2).toList == [a, b]) = decide ((Lx.bs t).take 2 = [a.toNat, b.toNat]) := by
  have h := Lx.toList_beq (t.extract 0 2) ⟨#[a, b]⟩
  rw [Lx.bs_extract, List.drop_zero] at h
  have e : (ByteArray.mk #[a, b]).toList = [a, b] := by rw [ByteArray.toList_eq]
  rw [e] at h
  exact h
theorem ones_is : ∀ c : Nat, c < 256 → decide (0 ≤ Lib.indexByte [40, 41, 91, 93, 44, 59, 61, 60, 62, 43, 45, 42, 94, 33, 124, 95, 126] c.toUInt8) = Lx.ones.contains c := by decide +kernel
theorem pairs_is (L : List Nat) : Lx.pairs.contains L = true ↔ L = [60, 62] ∨ L = [60, 61] ∨ L = [62, 61] ∨ L = [58, 58] ∨ L = [58, 61] ∨ L = [61, 62] ∨ L = [45, 62] := by
  rw [List.contains_iff_mem]
  simp [Lx.pairs]
set_option maxHeartbeats 4000000 in
theorem signLen_any (t : ByteArray) (h0 : 0 < t.size) (w : World) :
    Calls Tryd.prog 63 #[.string t] w fun e w' => e = .returned (.int .i64 (Lx.signLen (Lx.bs t))) ∧ w' = w := by
  have e0 : ((t.extract 0 2).toList == [60, 62]) = decide ((Lx.bs t).take 2 = [60, 62]) := two_is t 60 62
  have e1 : ((t.extract 0 2).toList == [60, 61]) = decide ((Lx.bs t).take 2 = [60, 61]) := two_is t 60 61
  have e2 : ((t.extract 0 2).toList == [62, 61]) = decide ((Lx.bs t).take 2 = [62, 61]) := two_is t 62 61
  have e3 : ((t.extract 0 2).toList == [58, 58]) = decide ((Lx.bs t).take 2 = [58, 58]) := two_is t 58 58
  have e4 : ((t.extract 0 2).toList == [58, 61]) = decide ((Lx.bs t).take 2 = [58, 61]) := two_is t 58 61
  have e5 : ((t.extract 0 2).toList == [61, 62]) = decide ((Lx.bs t).take 2 = [61, 62]) := two_is t 61 62
  have e6 : ((t.extract 0 2).toList == [45, 62]) = decide ((Lx.bs t).take 2 = [45, 62]) := two_is t 45 62
  by_cases hk : Lx.pairs.contains ((Lx.bs t).take 2) = true
  · rcases (pairs_is _).1 hk with hp | hp | hp | hp | hp | hp | hp
    · rw [hp] at e0 e1 e2 e3 e4 e5 e6
      have hs : Lx.signLen (Lx.bs t) = 2 := by unfold Lx.signLen; rw [hp]; rfl
      rw [hs]
      have h2 : 2 ≤ t.size := by
        have := congrArg List.length hp
        rw [List.length_take, Lx.bs_len] at this
        simp at this
        omega
      replace e0 : ((t.extract 0 2).toList == [60, 62]) = true := e0.trans (by decide)
      replace e1 : ((t.extract 0 2).toList == [60, 61]) = false := e1.trans (by decide)
      replace e2 : ((t.extract 0 2).toList == [62, 61]) = false := e2.trans (by decide)
      replace e3 : ((t.extract 0 2).toList == [58, 58]) = false := e3.trans (by decide)
      replace e4 : ((t.extract 0 2).toList == [58, 61]) = false := e4.trans (by decide)
      replace e5 : ((t.extract 0 2).toList == [61, 62]) = false := e5.trans (by decide)
      replace e6 : ((t.extract 0 2).toList == [45, 62]) = false := e6.trans (by decide)
      clear hp hs hk
      go_enter Tryd.func63, Tryd.ntmps63
      go_wp2_with fail
      go_ret
      exact ⟨rfl, rfl⟩
    · rw [hp] at e0 e1 e2 e3 e4 e5 e6
      have hs : Lx.signLen (Lx.bs t) = 2 := by unfold Lx.signLen; rw [hp]; rfl
      rw [hs]
      have h2 : 2 ≤ t.size := by
        have := congrArg List.length hp
        rw [List.length_take, Lx.bs_len] at this
        simp at this
        omega
      replace e0 : ((t.extract 0 2).toList == [60, 62]) = false := e0.trans (by decide)
      replace e1 : ((t.extract 0 2).toList == [60, 61]) = true := e1.trans (by decide)
      replace e2 : ((t.extract 0 2).toList == [62, 61]) = false := e2.trans (by decide)
      replace e3 : ((t.extract 0 2).toList == [58, 58]) = false := e3.trans (by decide)
      replace e4 : ((t.extract 0 2).toList == [58, 61]) = false := e4.trans (by decide)
      replace e5 : ((t.extract 0 2).toList == [61, 62]) = false := e5.trans (by decide)
      replace e6 : ((t.extract 0 2).toList == [45, 62]) = false := e6.trans (by decide)
      clear hp hs hk
      go_enter Tryd.func63, Tryd.ntmps63
      go_wp2_with fail
      go_ret
      exact ⟨rfl, rfl⟩
    · rw [hp] at e0 e1 e2 e3 e4 e5 e6
      have hs : Lx.signLen (Lx.bs t) = 2 := by unfold Lx.signLen; rw [hp]; rfl
      rw [hs]
      have h2 : 2 ≤ t.size := by
        have := congrArg List.length hp
        rw [List.length_take, Lx.bs_len] at this
        simp at this
        omega
      replace e0 : ((t.extract 0 2).toList == [60, 62]) = false := e0.trans (by decide)
      replace e1 : ((t.extract 0 2).toList == [60, 61]) = false := e1.trans (by decide)
      replace e2 : ((t.extract 0 2).toList == [62, 61]) = true := e2.trans (by decide)
      replace e3 : ((t.extract 0 2).toList == [58, 58]) = false := e3.trans (by decide)
      replace e4 : ((t.extract 0 2).toList == [58, 61]) = false := e4.trans (by decide)
      replace e5 : ((t.extract 0 2).toList == [61, 62]) = false := e5.trans (by decide)
      replace e6 : ((t.extract 0 2).toList == [45, 62]) = false := e6.trans (by decide)
      clear hp hs hk
      go_enter Tryd.func63, Tryd.ntmps63
      go_wp2_with fail
      go_ret
      exact ⟨rfl, rfl⟩
    · rw [hp] at e0 e1 e2 e3 e4 e5 e6
      have hs : Lx.signLen (Lx.bs t) = 2 := by unfold Lx.signLen; rw [hp]; rfl
      rw [hs]
      have h2 : 2 ≤ t.size := by
        have := congrArg List.length hp
        rw [List.length_take, Lx.bs_len] at this
        simp at this
        omega
      replace e0 : ((t.extract 0 2).toList == [60, 62]) = false := e0.trans (by decide)
      replace e1 : ((t.extract 0 2).toList == [60, 61]) = false := e1.trans (by decide)
      replace e2 : ((t.extract 0 2).toList == [62, 61]) = false := e2.trans (by decide)
      replace e3 : ((t.extract 0 2).toList == [58, 58]) = true := e3.trans (by decide)
      replace e4 : ((t.extract 0 2).toList == [58, 61]) = false := e4.trans (by decide)
      replace e5 : ((t.extract 0 2).toList == [61, 62]) = false := e5.trans (by decide)
      replace e6 : ((t.extract 0 2).toList == [45, 62]) = false := e6.trans (by decide)
      clear hp hs hk
      go_enter Tryd.func63, Tryd.ntmps63
      go_wp2_with fail
      go_ret
      exact ⟨rfl, rfl⟩
    · rw [hp] at e0 e1 e2 e3 e4 e5 e6
      have hs : Lx.signLen (Lx.bs t) = 2 := by unfold Lx.signLen; rw [hp]; rfl
      rw [hs]
      have h2 : 2 ≤ t.size := by
        have := congrArg List.length hp
        rw [List.length_take, Lx.bs_len] at this
        simp at this
        omega
      replace e0 : ((t.extract 0 2).toList == [60, 62]) = false := e0.trans (by decide)
      replace e1 : ((t.extract 0 2).toList == [60, 61]) = false := e1.trans (by decide)
      replace e2 : ((t.extract 0 2).toList == [62, 61]) = false := e2.trans (by decide)
      replace e3 : ((t.extract 0 2).toList == [58, 58]) = false := e3.trans (by decide)
      replace e4 : ((t.extract 0 2).toList == [58, 61]) = true := e4.trans (by decide)
      replace e5 : ((t.extract 0 2).toList == [61, 62]) = false := e5.trans (by decide)
      replace e6 : ((t.extract 0 2).toList == [45, 62]) = false := e6.trans (by decide)
      clear hp hs hk
      go_enter Tryd.func63, Tryd.ntmps63
      go_wp2_with fail
      go_ret
      exact ⟨rfl, rfl⟩
    · rw [hp] at e0 e1 e2 e3 e4 e5 e6
      have hs : Lx.signLen (Lx.bs t) = 2 := by unfold Lx.signLen; rw [hp]; rfl
      rw [hs]
      have h2 : 2 ≤ t.size := by
        have := congrArg List.length hp
        rw [List.length_take, Lx.bs_len] at this
        simp at this
        omega
      replace e0 : ((t.extract 0 2).toList == [60, 62]) = false := e0.trans (by decide)
      replace e1 : ((t.extract 0 2).toList == [60, 61]) = false := e1.trans (by decide)
      replace e2 : ((t.extract 0 2).toList == [62, 61]) = false := e2.trans (by decide)
      replace e3 : ((t.extract 0 2).toList == [58, 58]) = false := e3.trans (by decide)
      replace e4 : ((t.extract 0 2).toList == [58, 61]) = false := e4.trans (by decide)
      replace e5 : ((t.extract 0 2).toList == [61, 62]) = true := e5.trans (by decide)
      replace e6 : ((t.extract 0 2).toList == [45, 62]) = false := e6.trans (by decide)
      clear hp hs hk
      go_enter Tryd.func63, Tryd.ntmps63
      go_wp2_with fail
      go_ret
      exact ⟨rfl, rfl⟩
    · rw [hp] at e0 e1 e2 e3 e4 e5 e6
      have hs : Lx.signLen (Lx.bs t) = 2 := by unfold Lx.signLen; rw [hp]; rfl
      rw [hs]
      have h2 : 2 ≤ t.size := by
        have := congrArg List.length hp
        rw [List.length_take, Lx.bs_len] at this
        simp at this
        omega
      replace e0 : ((t.extract 0 2).toList == [60, 62]) = false := e0.trans (by decide)
      replace e1 : ((t.extract 0 2).toList == [60, 61]) = false := e1.trans (by decide)
      replace e2 : ((t.extract 0 2).toList == [62, 61]) = false := e2.trans (by decide)
      replace e3 : ((t.extract 0 2).toList == [58, 58]) = false := e3.trans (by decide)
      replace e4 : ((t.extract 0 2).toList == [58, 61]) = false := e4.trans (by decide)
      replace e5 : ((t.extract 0 2).toList == [61, 62]) = false := e5.trans (by decide)
      replace e6 : ((t.extract 0 2).toList == [45, 62]) = true := e6.trans (by decide)
      clear hp hs hk
      go_enter Tryd.func63, Tryd.ntmps63
      go_wp2_with fail
      go_ret
      exact ⟨rfl, rfl⟩
  · have hno := mt (pairs_is _).2 hk
    have hd := Lx.drop_lt h0
    rw [List.drop_zero] at hd
    have hs : Lx.signLen (Lx.bs t) = if Lx.ones.contains t[0].toNat then 1 else 0 := by
      unfold Lx.signLen
      rw [if_neg hk]
      rw [hd]; rfl
    have h256 : t[0].toNat < 256 := t[0].toNat_lt
    have hi := ones_is t[0].toNat h256
    have HI := Lib.hid (fun W => Tryd.strings_IndexByte ⟨#[40, 41, 91, 93, 44, 59, 61, 60, 62, 43, 45, 42, 94, 33, 124, 95, 126]⟩ (t[0].toNat : Int) W)
    rw [Int.toNat_natCast] at HI
    rw [hs]
    simp only [not_or] at hno
    obtain ⟨n0, n1, n2, n3, n4, n5, n6⟩ := hno
    rw [decide_eq_false n0] at e0
    rw [decide_eq_false n1] at e1
    rw [decide_eq_false n2] at e2
    rw [decide_eq_false n3] at e3
    rw [decide_eq_false n4] at e4
    rw [decide_eq_false n5] at e5
    rw [decide_eq_false n6] at e6
    rw [← hi]
    have hi2 : Lib.indexByte (ByteArray.mk #[40, 41, 91, 93, 44, 59, 61, 60, 62, 43, 45, 42, 94, 33, 124, 95, 126]).data.toList t[0].toNat.toUInt8 = Lib.indexByte [40, 41, 91, 93, 44, 59, 61, 60, 62, 43, 45, 42, 94, 33, 124, 95, 126] t[0].toNat.toUInt8 := rfl
    rw [hi2] at HI
    clear hk hd hs hi n0 n1 n2 n3 n4 n5 n6 hi2
    generalize Lib.indexByte [40, 41, 91, 93, 44, 59, 61, 60, 62, 43, 45, 42, 94, 33, 124, 95, 126] t[0].toNat.toUInt8 = z at *
    by_cases hz : 0 ≤ z
    · by_cases h2 : t.size < 2
      · skip
        have x0 : decide (0 ≤ z) = true := decide_eq_true hz
        have x2 : decide ((2 : Int) ≤ (t.size : Int)) = false := decide_eq_false (by omega)
        rw [x0]
        go_enter Tryd.func63, Tryd.ntmps63
        go_wp2_with fail
        refine (HI.out _).mono ?_; rintro e w1 ⟨rfl, rfl⟩
        go_wp2_with fail
        go_ret
        exact ⟨rfl, rfl⟩
      · skip
        have x0 : decide (0 ≤ z) = true := decide_eq_true hz
        have x2 : decide ((2 : Int) ≤ (t.size : Int)) = true := decide_eq_true (by omega)
        rw [x0]
        go_enter Tryd.func63, Tryd.ntmps63
        go_wp2_with fail
        refine (HI.out _).mono ?_; rintro e w1 ⟨rfl, rfl⟩
        go_wp2_with fail
        go_ret
        exact ⟨rfl, rfl⟩
    · by_cases h2 : t.size < 2
      · skip
        have x0 : decide (0 ≤ z) = false := decide_eq_false hz
        have x2 : decide ((2 : Int) ≤ (t.size : Int)) = false := decide_eq_false (by omega)
        rw [x0]
        go_enter Tryd.func63, Tryd.ntmps63
        go_wp2_with fail
        refine (HI.out _).mono ?_; rintro e w1 ⟨rfl, rfl⟩
        go_wp2_with fail
        go_ret
        exact ⟨rfl, rfl⟩
      · skip
        have x0 : decide (0 ≤ z) = false := decide_eq_false hz
        have x2 : decide ((2 : Int) ≤ (t.size : Int)) = true := decide_eq_true (by omega)
        rw [x0]
        go_enter Tryd.func63, Tryd.ntmps63
        go_wp2_with fail
        refine (HI.out _).mono ?_; rintro e w1 ⟨rfl, rfl⟩
        go_wp2_with fail
        go_ret
        exact ⟨rfl, rfl⟩
theorem signLen_two (L : List Nat) : Lx.signLen L ≤ 2 := by
  unfold Lx.signLen
  split
  · decide
  · split <;> decide
theorem signLen_le (L : List Nat) (h : 0 < L.length) : Lx.signLen L ≤ L.length := by
  unfold Lx.signLen
  split
  · rename_i hp
    have := (pairs_is _).1 hp
    have h2 : (L.take 2).length = 2 := by rcases this with e | e | e | e | e | e | e <;> rw [e] <;> rfl
    rw [List.length_take] at h2
    omega
  · split <;> omega
set_option maxHeartbeats 4000000 in
theorem sign_any {w : World} {g : Nat} {s : ByteArray} {k mb : Nat} (h : Rdr w g s k mb) (hlt : k < s.size) (hs : Lx.dig s[k].toNat = false ∧ s[k].toNat ≠ 34 ∧ s[k].toNat ≠ 39 ∧ (Lx.small s[k].toNat || Lx.great s[k].toNat) = false) :
    Calls Tryd.prog 53 #[.pointer (some ⟨g, 0, none⟩)] w (TakeR w g s k mb) := by
  have hd := Lx.drop_lt hlt
  have hg := h.blk.lt
  have hf := h.few
  have hgn : g ≠ w.heap.size := by omega
  have hbx : Lx.bs (s.extract k s.size) = (Lx.bs s).drop k := by
    rw [Lx.bs_extract]
    exact List.take_of_length_le (by rw [List.length_drop, Lx.bs_len]; omega)
  have HSL := Lib.hid (fun W => signLen_any (s.extract k s.size) (by rw [ByteArray.size_extract]; omega) W)
  rw [hbx] at HSL
  have htok : Lx.tok ((Lx.bs s).drop k) = if Lx.signLen ((Lx.bs s).drop k) = 0 then none else some (⟨6, ((Lx.bs s).drop k).take (Lx.signLen ((Lx.bs s).drop k)), 0⟩, Lx.signLen ((Lx.bs s).drop k)) := by
    have h0 : ((Lx.bs s).drop k).headD 0 = s[k].toNat := by rw [hd]; rfl
    unfold Lx.tok
    simp only [h0, hs.1, hs.2.1, hs.2.2.1, hs.2.2.2, if_false, Bool.false_eq_true]
  have hle := signLen_le ((Lx.bs s).drop k) (by rw [List.length_drop, Lx.bs_len]; omega)
  rw [List.length_drop, Lx.bs_len] at hle
  obtain ⟨n, hn⟩ : ∃ n, Lx.signLen ((Lx.bs s).drop k) = n := ⟨_, rfl⟩
  have hex : s.extract k (k + n) = Lx.str (((Lx.bs s).drop k).take n) := extract_take
  rw [hn] at HSL htok hle
  have hkn : k + n ≤ s.size := by omega
  have SA : Still w (w.alloc (.cells #[.int .i64 0, .int .i64 0, .string ByteArray.empty, .int .i64 0] 31)) := (Still.refl w).alloc _
  have BA : Blk (w.alloc (.cells #[.int .i64 0, .int .i64 0, .string ByteArray.empty, .int .i64 0] 31)) w.heap.size 31 #[.int .i64 0, .int .i64 0, .string ByteArray.empty, .int .i64 0] := Blk.new w _ _
  have RA := Lib.hid (h.still SA)
  have HC := Lib.hid (fun W => clone_any (s.extract k (k + n)) W (by rw [ByteArray.size_extract]; omega))
  have HH := Lib.hid (And.intro htok (And.intro hgn (And.intro BA SA)))
  have HEX := Lib.hid hex
  obtain ⟨b0, b1, b2, b3, b4⟩ := h.box
  clear h hd hs hbx htok hle hn hgn SA BA hex hg
  go_enter Tryd.func53, Tryd.ntmps53
  go_wp2_with fail
  obtain ⟨wA, hwA⟩ : ∃ wA, w.alloc (.cells #[.int .i64 0, .int .i64 0, .string ByteArray.empty, .int .i64 0] 31) = wA := ⟨_, rfl⟩
  rw [hwA] at HH RA
  rw [show ({ data := #[] } : ByteArray) = ByteArray.empty from rfl, hwA]
  clear b0 b1 b2 b3 b4 hwA
  obtain ⟨b0, b1, b2, b3, b4⟩ := RA.out.box
  have hkle : k ≤ s.size := by omega
  have ew : IntKind.i64.wrap ((k : Int) + (n : Int)) = (k : Int) + (n : Int) := by rw [IntKind.wrap_i64]; omega
  by_cases hn0 : n = 0
  · subst hn0
    obtain ⟨wB, hwB⟩ : ∃ wB, wA.setCell ⟨g, 1, none⟩ (.int .i64 (k : Int)) = wB := ⟨_, rfl⟩
    have RB := Lib.hid (hwB ▸ (RA.out.set (k' := k) hkle) : Rdr wB g s (k) mb)
    have TB : Hid (At g w wB) := hwB ▸ At.set HH.out.2.2.2.turn 1 _
    have BB : Hid (Blk wB w.heap.size 31 #[.int .i64 0, .int .i64 0, .string ByteArray.empty, .int .i64 0]) := hwB ▸ HH.out.2.2.1.far (p := ⟨g, 1, none⟩) (fun e => HH.out.2.1 e.symm) _
    obtain ⟨d0, d1, d2, d3, d4⟩ := RB.out.box
    obtain ⟨c0, c1, c2, c3, c4, c5, c6, c7, c8⟩ := tokBox BB.out
    refine wp_region_still_tail 14 (by kernel_rfl) (by kernel_rfl) ?_
    simp only [List.take_succ_cons, List.take_zero, List.drop_succ_cons, List.drop_zero]
    change wpStill _ _ wA.drew (fun a' => wpList _ _ _ _ a' wA.drew) _ _
    repeat still_step
    still_call (HSL.out wA.drew)
    repeat still_step
    refine wpStill_nil ?_
    go_wp2_with fail
    refine bodyPost_ret (results_row_tmp rfl _ _ w.heap.size 31 #[.int .i64 0, .int .i64 0, .string ByteArray.empty, .int .i64 0] (0, 0) _ rfl (tokPut BB.out (.int .i64 0) (.int .i64 0) (.string ByteArray.empty) (.int .i64 0)) Tryd.underlying31 rfl tok_size) rfl ?_
    refine ⟨Turn.drew (tokTurn TB.out (Nat.le_refl _) _ _ _ _), ?_⟩
    rw [HH.out.1]
    rfl
  · obtain ⟨m, hm⟩ : ∃ m, k + n = m := ⟨_, rfl⟩
    have hmi : (k : Int) + (n : Int) = (m : Int) := by omega
    have x0 : ((m : Int) == (k : Int)) = false := beq_eq_false_iff_ne.2 (by omega)
    rw [hmi] at ew
    rw [hm] at hkn HEX
    have HM := Lib.hid hm
    have hkm : k ≤ m := by omega
    rw [hm] at HC
    rw [HEX.out] at HC
    have hxx := HEX.out
    clear hm
    obtain ⟨wB, hwB⟩ : ∃ wB, wA.setCell ⟨g, 1, none⟩ (.int .i64 (m : Int)) = wB := ⟨_, rfl⟩
    have RB := Lib.hid (hwB ▸ (RA.out.set (k' := m) hkn) : Rdr wB g s m mb)
    have TB : Hid (At g w wB) := hwB ▸ At.set HH.out.2.2.2.turn 1 _
    have BB : Hid (Blk wB w.heap.size 31 #[.int .i64 0, .int .i64 0, .string ByteArray.empty, .int .i64 0]) := hwB ▸ HH.out.2.2.1.far (p := ⟨g, 1, none⟩) (fun e => HH.out.2.1 e.symm) _
    obtain ⟨d0, d1, d2, d3, d4⟩ := RB.out.box
    obtain ⟨c0, c1, c2, c3, c4, c5, c6, c7, c8⟩ := tokBox BB.out
    refine wp_region_still_tail 14 (by kernel_rfl) (by kernel_rfl) ?_
    simp only [List.take_succ_cons, List.take_zero, List.drop_succ_cons, List.drop_zero]
    change wpStill _ _ wA.drew (fun a' => wpList _ _ _ _ a' wA.drew) _ _
    repeat still_step
    still_call (HSL.out wA.drew)
    repeat still_step
    refine wpStill_nil ?_
    go_wp2_with fail
    clear c0 c1 c2 c3 c4 c5 c6 c7 c8
    refine wp_region_still_tail 10 (by kernel_rfl) (by kernel_rfl) ?_
    simp only [List.take_succ_cons, List.take_zero, List.drop_succ_cons, List.drop_zero]
    change wpStill _ _ wB.drew.drew (fun a' => wpList _ _ _ _ a' wB.drew.drew) _ _
    repeat still_step
    refine wpStill_nil ?_
    go_wp2_with fail
    refine (HC.out _).mono ?_; rintro e w5 ⟨rfl, t5⟩
    have T5 : Hid (At g wB w5) := ((drew_still wB).turn.trans (drew_still _).turn).trans (below_at t5)
    have B5 : Hid (Blk w5 w.heap.size 31 #[.int .i64 0, .int .i64 0, .string ByteArray.empty, .int .i64 0]) := BB.out.keep T5.out (fun e => HH.out.2.1 e.symm)
    have R5 : Hid (Rdr w5 g s m mb) := (((RB.out.still (drew_still wB)).still (drew_still _)).later t5)
    obtain ⟨c0, c1, c2, c3, c4, c5, c6, c7, c8⟩ := tokBox B5.out
    clear t5
    go_wp2_with fail
    refine bodyPost_ret (results_row_tmp rfl _ _ w.heap.size 31 #[.int .i64 6, .int .i64 0, .string (Lx.str (((Lx.bs s).drop k).take n)), .int .i64 0] (0, 0) _ rfl (tokPut B5.out (.int .i64 6) (.int .i64 0) (.string (Lx.str (((Lx.bs s).drop k).take n))) (.int .i64 0)) Tryd.underlying31 rfl tok_size) rfl ?_
    refine ⟨tokTurn (TB.out.trans T5.out) (Nat.le_refl _) _ _ _ _, ?_⟩
    rw [HH.out.1, if_neg hn0]
    dsimp only
    exact ⟨rfl, by rw [HM.out]; exact tokRdr R5.out HH.out.2.1 _ _ _ _⟩
end Go.Proofs.YtpccfimjkffkfaaDoor
