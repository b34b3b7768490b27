/- The document's own Check and Need of layer 2. -/
import Derived.Test.YteanlncnhncpbaaHeapLives
namespace Go.Proofs.Yteanlncnhncpbaa
set_option linter.unusedVariables false
open Go.ChangeShapes Go.WideShapes Go.ChangeAt Go.RowKit
open M (W)

theorem check_arg (n : Int) (a : Option Addr) (len cap : Nat) (w : World) (h : n < 0 ∨ 65536 < n) : Calls Try.prog 50 #[.int .i64 n, .slice a len cap] w fun e w' => e = .returned (.int .i64 1) ∧ w' = w := by
  by_cases h0 : n < 0
  · clear h
    go_enter Try.func50, Try.ntmps50
    go_wp2
    go_ret
    exact ⟨rfl, rfl⟩
  · have h1 : 65536 < n := by omega
    clear h
    go_enter Try.func50, Try.ntmps50
    go_wp2
    go_ret
    exact ⟨rfl, rfl⟩
theorem check_big (n : Nat) (a : Option Addr) (len cap : Nat) (w : World) (h : n ≤ 65536) (hl : 512 < len) : Calls Try.prog 50 #[.int .i64 n, .slice a len cap] w fun e w' => e = .returned (.int .i64 2) ∧ w' = w := by
  go_enter Try.func50, Try.ntmps50
  go_wp2
  go_ret
  exact ⟨rfl, rfl⟩

/-- A test of a layout in Go's words: what is wrong with it. -/
theorem mayBe_cases {K N : Int} (h : M.mayBe K N = false) : (K ≠ 1 ∧ K ≠ 2 ∧ K ≠ 3) ∨ ((K = 1 ∨ K = 2 ∨ K = 3) ∧ (N < 0 ∨ 65536 < N)) := by
  unfold M.mayBe at h
  by_cases h1 : K = 1 ∨ K = 2 ∨ K = 3
  · right
    refine ⟨h1, ?_⟩
    have : (K == 1 || K == 2 || K == 3) = true := by simpa [or_assoc] using h1
    rw [this] at h
    simp at h
    omega
  · left; omega
theorem mayBe_true {K N : Int} (h : M.mayBe K N = true) : (K = 1 ∨ K = 2 ∨ K = 3) ∧ 0 ≤ N ∧ N ≤ 65536 := by
  simp only [M.mayBe, Bool.and_eq_true, Bool.or_eq_true, beq_iff_eq, decide_eq_true_eq] at h
  omega
set_option maxHeartbeats 2000000 in
theorem check_all (n : Nat) (a : Option Addr) (len cap : Nat) (K N : Nat → Int) (b : Bool) (w : World) (h : n ≤ 65536) (hl : len ≤ 512) (hL : Lays w a len K N) (hb : b = true ↔ ∀ j, j < len → M.mayBe (K j) (N j) = true) :
    Calls Try.prog 50 #[.int .i64 n, .slice a len cap] w fun e w' => e = .returned (.int .i64 (if b then 0 else 1)) ∧ Still w w' := by
  have HB := Lib.hid hb
  have HL := Lib.hid hL
  clear hb hL
  obtain ⟨r, hr⟩ : ∃ r : Int, r = if b then 0 else 1 := ⟨_, rfl⟩
  rw [← hr]
  have HR := Lib.hid hr
  clear hr
  go_enter Try.func50, Try.ntmps50
  go_wp2_with fail
  go_loopw [18] (fun i wr => ∃ k : Nat, k ≤ len ∧ i = .int .i64 k ∧ Still w wr ∧ ∀ j, j < k → M.mayBe (K j) (N j) = true) (fun i _ => len - (intOf i).toNat)
  case atStart => exact ⟨0, by omega, rfl, Still.refl _, fun j hj => by omega⟩
  case round =>
    obtain ⟨k, hk, rfl, ht, hm⟩ := hrel
    by_cases hlt : k < len
    · obtain ⟨b', off, rfl, hbl, hc⟩ := (HL.out.still ht).at_ (by omega)
      obtain ⟨d0, d1⟩ := hc k hlt
      have HT := Lib.hid ht
      have HMM := Lib.hid hm
      clear hc ht hm
      by_cases hmk : M.mayBe (K k) (N k) = true
      · have HK := Lib.hid hmk
        obtain ⟨hk3, hn0, hn1⟩ := mayBe_true hmk
        clear hmk
        generalize hKK : K k = KK at *
        generalize hNN : N k = NN at *
        have HKN := Lib.hid (And.intro hKK hNN)
        clear hKK hNN
        rcases hk3 with rfl | rfl | rfl
        all_goals
          go_wp2_with fail
          go_roundw
          case rel => exact ⟨k + 1, by omega, by go_num, HT.out.alloc _, fun j hj => by
            rcases Nat.lt_or_ge j k with h | h
            · exact HMM.out j h
            · obtain rfl : j = k := by omega
              have := HK.out; rw [HKN.out.1, HKN.out.2]; exact this⟩
          case measure => simp [intOf]; omega
      · simp only [Bool.not_eq_true] at hmk
        have hbf : b = false := by
          cases hbb : b
          · rfl
          · exact absurd (HB.out.1 hbb k hlt) (by rw [hmk]; simp)
        have hr1 : r = 1 := by rw [HR.out, hbf]; rfl
        subst hr1
        clear hbf
        have hcs := mayBe_cases hmk
        clear hmk
        generalize K k = KK at *
        generalize N k = NN at *
        rcases hcs with ⟨h1, h2, h3⟩ | ⟨h1 | h1 | h1, h2⟩
        · have e1 : ((KK : Int) != 1) = true := by simpa using h1
          have e2 : ((KK : Int) != 2) = true := by simpa using h2
          have e3 : ((KK : Int) != 3) = true := by simpa using h3
          clear h1 h2 h3
          go_wp2_with fail
          go_ret
          exact ⟨rfl, HT.out.alloc _⟩
        all_goals
          subst h1
          by_cases h0 : NN < 0
          · clear h2
            go_wp2_with fail
            go_ret
            exact ⟨rfl, HT.out.alloc _⟩
          · have h5 : 65536 < NN := by omega
            clear h2
            go_wp2_with fail
            go_ret
            exact ⟨rfl, HT.out.alloc _⟩
    · have hbt : b = true := HB.out.2 (fun j hj => hm j (by omega))
      have hr0 : r = 0 := by rw [HR.out, hbt]; rfl
      subst hr0
      have HT := Lib.hid ht
      clear hbt hm ht
      go_wp2_with fail
      go_ret
      exact ⟨rfl, HT.out⟩

theorem ceil_step (k n : Nat) (h : k * 8 < n) : ((k + 1 : Nat) : Int) ≤ ((n : Int) + 7) / 8 := by omega
set_option maxHeartbeats 1000000 in
theorem refNeed_bytes (g b off m cap k : Nat) (w : World) (n : Nat) (hg : w.cell? ⟨g, 1, none⟩ = some (.slice (some ⟨b, off, none⟩) m cap)) (hk : k < m) (h0 : w.cell? ⟨b, off + k * 2, none⟩ = some (.int .i64 3)) (hn : n ≤ 65536) :
    Calls Try.prog 38 #[.pointer (some ⟨g, 0, none⟩), .int .i64 k, .int .i64 n] w fun e w' => e = .returned (.tuple #[.int .i64 (1 + ((n : Int) + 7) / 8), .int .i64 0]) ∧ w' = w := by
  go_enter Try.func38, Try.ntmps38
  go_wp2_with fail
  go_loop [8, 9] (fun x i => ∃ j : Nat, j ≤ (n + 7) / 8 ∧ i = .int .i64 ((j * 8 : Nat) : Int) ∧ x = .int .i64 ((j + 1 : Nat) : Int)) (fun _ i => n + 8 - (intOf i).toNat)
  case atStart => exact ⟨0, by omega, rfl, rfl⟩
  case round =>
    obtain ⟨j, hj, rfl, rfl⟩ := hrel
    by_cases hlt : j * 8 < n
    · obtain ⟨i, hi⟩ : ∃ i, j * 8 = i := ⟨_, rfl⟩
      obtain ⟨y, hy⟩ : ∃ y, j + 1 = y := ⟨_, rfl⟩
      rw [hi] at hlt ⊢
      rw [hy]
      have hy2 : y ≤ 65537 := by omega
      have HI := Lib.hid hi; have HY := Lib.hid hy
      clear hi hy hj
      go_wp2_with fail
      go_round
      case rel => exact ⟨j + 1, by have := HI.out; omega, by have := HI.out; exact congrArg (Value.int .i64) (by omega), by have := HY.out; exact congrArg (Value.int .i64) (by omega)⟩
      case measure => simp [intOf]; omega
    · have hge : n ≤ j * 8 := by omega
      have hjj : j = (n + 7) / 8 := by omega
      have hge2 : (n : Int) ≤ ((j * 8 : Nat) : Int) := by omega
      obtain ⟨i, hi⟩ : ∃ i, j * 8 = i := ⟨_, rfl⟩
      obtain ⟨y, hy⟩ : ∃ y, j + 1 = y := ⟨_, rfl⟩
      rw [hi] at hge ⊢
      rw [hy]
      have hye : (1 + ((n : Int) + 7) / 8) = (y : Int) := by omega
      have HY := Lib.hid hye
      clear hi hy hj hye hjj hge2 hlt
      go_wp2_with fail
      go_ret2
      exact ret_pair HY.out.symm rfl

def M.kd (m : Nat) (K : Nat → Int) (sh : Int) : Int := if 0 ≤ sh ∧ sh < m then K sh.toNat else 0
set_option maxHeartbeats 1000000 in
theorem refNeed_out (g : Nat) (a : Option Addr) (m cap : Nat) (w : World) (sh n : Int) (hg : w.cell? ⟨g, 1, none⟩ = some (.slice a m cap)) (hs : sh < 0 ∨ (m : Int) ≤ sh) :
    Calls Try.prog 38 #[.pointer (some ⟨g, 0, none⟩), .int .i64 sh, .int .i64 n] w fun e w' => e = .returned (.tuple #[.int .i64 0, .int .i64 1]) ∧ w' = w := by
  by_cases h0 : sh < 0
  · clear hs
    go_enter Try.func38, Try.ntmps38
    go_wp2
    go_ret2
    exact ⟨rfl, rfl⟩
  · have h1 : (m : Int) ≤ sh := by omega
    clear hs
    go_enter Try.func38, Try.ntmps38
    go_wp2
    go_ret2
    exact ⟨rfl, rfl⟩
set_option maxHeartbeats 1000000 in
theorem refNeed_in (g b off m cap k : Nat) (K N : Int) (w : World) (n : Int) (hg : w.cell? ⟨g, 1, none⟩ = some (.slice (some ⟨b, off, none⟩) m cap)) (hk : k < m) (h0 : w.cell? ⟨b, off + k * 2, none⟩ = some (.int .i64 K)) (h1 : w.cell? ⟨b, off + k * 2 + 1, none⟩ = some (.int .i64 N)) (hK : K = 1 ∨ K = 2 ∨ K = 3) :
    Calls Try.prog 38 #[.pointer (some ⟨g, 0, none⟩), .int .i64 k, .int .i64 n] w fun e w' => e = .returned (.tuple #[.int .i64 (M.need K N n), .int .i64 (M.needE K N n)]) ∧ w' = w := by
  by_cases hn : n < 0
  · go_enter Try.func38, Try.ntmps38
    go_wp2_with fail
    go_ret2
    exact ret_pair (by unfold M.need; rw [if_pos (by omega)]) (by unfold M.needE; rw [if_pos (by omega)])
  by_cases h1k : K = 1
  · subst h1k
    by_cases hN : n = N
    · subst hN
      have hne : ((n : Int) != n) = false := by simp
      by_cases hb : 65536 < n
      · go_enter Try.func38, Try.ntmps38
        go_wp2_with fail
        go_ret2
        exact ret_pair (by unfold M.need; rw [if_neg (by omega), if_pos (by omega)]) (by unfold M.needE; rw [if_neg (by omega), if_pos (by omega)])
      · go_enter Try.func38, Try.ntmps38
        go_wp2_with fail
        go_ret2
        exact ret_pair (by unfold M.need; rw [if_neg (by omega), if_neg (by omega), if_neg (by omega)]) (by unfold M.needE; rw [if_neg (by omega), if_neg (by omega)])
    · have hne : ((N : Int) != n) = true := by simp; omega
      go_enter Try.func38, Try.ntmps38
      go_wp2_with fail
      go_ret2
      exact ret_pair (by unfold M.need; rw [if_pos (by omega)]) (by unfold M.needE; rw [if_pos (by omega)])
  · by_cases hb : 65536 < n
    · rcases hK with rfl | rfl | rfl
      · exact absurd rfl h1k
      all_goals
        go_enter Try.func38, Try.ntmps38
        go_wp2_with fail
        go_ret2
        exact ret_pair (by unfold M.need; rw [if_neg (by omega), if_pos (by omega)]) (by unfold M.needE; rw [if_neg (by omega), if_pos (by omega)])
    · rcases hK with rfl | rfl | rfl
      · exact absurd rfl h1k
      · go_enter Try.func38, Try.ntmps38
        go_wp2_with fail
        go_ret2
        exact ret_pair (by unfold M.need; rw [if_neg (by omega), if_neg (by omega), if_neg (by omega)]) (by unfold M.needE; rw [if_neg (by omega), if_neg (by omega)])
      · obtain ⟨q, rfl⟩ := Int.eq_ofNat_of_zero_le (show 0 ≤ n by omega)
        refine (refNeed_bytes g b off m cap k w q hg hk h0 (by omega)).mono fun _ _ ⟨he, hw⟩ => ⟨?_, hw⟩
        rw [he]
        exact (ret_pair (w := w) (by unfold M.need; rw [if_neg (by omega), if_neg (by omega), if_pos rfl]) (by unfold M.needE; rw [if_neg (by omega), if_neg (by omega)])).1
theorem refNeed_any (g : Nat) (a : Option Addr) (m cap : Nat) (K N : Nat → Int) (w : World) (sh n : Int) (hg : w.cell? ⟨g, 1, none⟩ = some (.slice a m cap)) (hL : Lays w a m K N) (hv : ∀ j, j < m → K j = 1 ∨ K j = 2 ∨ K j = 3) :
    Calls Try.prog 38 #[.pointer (some ⟨g, 0, none⟩), .int .i64 sh, .int .i64 n] w fun e w' => e = .returned (.tuple #[.int .i64 (M.need (M.kd m K sh) (M.kd m N sh) n), .int .i64 (M.needE (M.kd m K sh) (M.kd m N sh) n)]) ∧ w' = w := by
  unfold M.kd
  by_cases hs : 0 ≤ sh ∧ sh < m
  · obtain ⟨k, rfl⟩ := Int.eq_ofNat_of_zero_le hs.1
    rw [if_pos hs, if_pos hs]
    obtain ⟨b, off, rfl, _, hc⟩ := hL.at_ (by omega)
    obtain ⟨c0, c1⟩ := hc k (by omega)
    exact refNeed_in g b off m cap k (K k) (N k) w n hg (by omega) c0 c1 (hv k (by omega))
  · rw [if_neg hs, if_neg hs]
    exact (refNeed_out g a m cap w sh n hg (by omega)).mono fun _ _ ⟨he, hw⟩ => ⟨by rw [he]; simp [M.need, M.needE], hw⟩
end Go.Proofs.Yteanlncnhncpbaa
