/- Lemmas, put together: RefA OpenLays Makes RefObj. -/
import Derived.Test.YthfkgkddklnnhaaK04
import Derived.Test.YthfkgkddklnnhaaRows
import Derived.ProofKit
import Derived.OpenShut
import Derived.Deep.SlicePairs
import Derived.Deep.Fields
import Derived.ChangeSame
/- The document's own Check and Need of layer 2. -/
namespace Go.Proofs.Ythfkgkddklnnhaa
set_option linter.unusedVariables false
open Go.ChangeShapes Go.WideShapes Go.ChangeAt Go.RowKit
open M (W)

theorem check_arg (n : Int) (a : Option Addr) (len cap : Nat) (w : World) (h : n < 0 ∨ 65536 < n) : Calls Try.prog 24 #[.int .i64 n, .slice a len cap] w fun e w' => e = .returned (.int .i64 1) ∧ w' = w := by
  by_cases h0 : n < 0
  · clear h
    go_enter Try.func24, Try.ntmps24
    go_wp2
    go_ret
    exact ⟨rfl, rfl⟩
  · have h1 : 65536 < n := by omega
    clear h
    go_enter Try.func24, Try.ntmps24
    go_wp2
    go_ret
    exact ⟨rfl, rfl⟩
theorem check_big (n : Nat) (a : Option Addr) (len cap : Nat) (w : World) (h : n ≤ 65536) (hl : 512 < len) : Calls Try.prog 24 #[.int .i64 n, .slice a len cap] w fun e w' => e = .returned (.int .i64 2) ∧ w' = w := by
  go_enter Try.func24, Try.ntmps24
  go_wp2
  go_ret
  exact ⟨rfl, rfl⟩

/-- A test of a layout in Go's words: what is wrong with it. -/
theorem mayBe_cases {K N : Int} (h : M.mayBe K N = false) : (K ≠ 1 ∧ K ≠ 2 ∧ K ≠ 3) ∨ ((K = 1 ∨ K = 2 ∨ K = 3) ∧ (N < 0 ∨ 65536 < N)) := by
  unfold M.mayBe at h
  by_cases h1 : K = 1 ∨ K = 2 ∨ K = 3
  · right
    refine ⟨h1, ?_⟩
    have : (K == 1 || K == 2 || K == 3) = true := by simpa [or_assoc] using h1
    rw [this] at h
    simp at h
    omega
  · left; omega
theorem mayBe_true {K N : Int} (h : M.mayBe K N = true) : (K = 1 ∨ K = 2 ∨ K = 3) ∧ 0 ≤ N ∧ N ≤ 65536 := by
  simp only [M.mayBe, Bool.and_eq_true, Bool.or_eq_true, beq_iff_eq, decide_eq_true_eq] at h
  omega
set_option maxHeartbeats 2000000 in
theorem check_all (n : Nat) (a : Option Addr) (len cap : Nat) (K N : Nat → Int) (b : Bool) (w : World) (h : n ≤ 65536) (hl : len ≤ 512) (hL : Lays w a len K N) (hb : b = true ↔ ∀ j, j < len → M.mayBe (K j) (N j) = true) :
    Calls Try.prog 24 #[.int .i64 n, .slice a len cap] w fun e w' => e = .returned (.int .i64 (if b then 0 else 1)) ∧ Still w w' := by
  have HB := Lib.hid hb
  have HL := Lib.hid hL
  clear hb hL
  obtain ⟨r, hr⟩ : ∃ r : Int, r = if b then 0 else 1 := ⟨_, rfl⟩
  rw [← hr]
  have HR := Lib.hid hr
  clear hr
  go_enter Try.func24, Try.ntmps24
  go_wp2_with fail
  go_loopw [18] (fun i wr => ∃ k : Nat, k ≤ len ∧ i = .int .i64 k ∧ Still w wr ∧ ∀ j, j < k → M.mayBe (K j) (N j) = true) (fun i _ => len - (intOf i).toNat)
  case atStart => exact ⟨0, by omega, rfl, Still.refl _, fun j hj => by omega⟩
  case round =>
    obtain ⟨k, hk, rfl, ht, hm⟩ := hrel
    by_cases hlt : k < len
    · obtain ⟨b', off, rfl, hbl, hc⟩ := (HL.out.still ht).at_ (by omega)
      obtain ⟨d0, d1⟩ := hc k hlt
      have HT := Lib.hid ht
      have HMM := Lib.hid hm
      clear hc ht hm
      by_cases hmk : M.mayBe (K k) (N k) = true
      · have HK := Lib.hid hmk
        obtain ⟨hk3, hn0, hn1⟩ := mayBe_true hmk
        clear hmk
        generalize hKK : K k = KK at *
        generalize hNN : N k = NN at *
        have HKN := Lib.hid (And.intro hKK hNN)
        clear hKK hNN
        rcases hk3 with rfl | rfl | rfl
        all_goals
          go_wp2_with fail
          go_roundw
          case rel => exact ⟨k + 1, by omega, by go_num, HT.out.alloc _, fun j hj => by
            rcases Nat.lt_or_ge j k with h | h
            · exact HMM.out j h
            · obtain rfl : j = k := by omega
              have := HK.out; rw [HKN.out.1, HKN.out.2]; exact this⟩
          case measure => simp [intOf]; omega
      · simp only [Bool.not_eq_true] at hmk
        have hbf : b = false := by
          cases hbb : b
          · rfl
          · exact absurd (HB.out.1 hbb k hlt) (by rw [hmk]; simp)
        have hr1 : r = 1 := by rw [HR.out, hbf]; rfl
        subst hr1
        clear hbf
        have hcs := mayBe_cases hmk
        clear hmk
        generalize K k = KK at *
        generalize N k = NN at *
        rcases hcs with ⟨h1, h2, h3⟩ | ⟨h1 | h1 | h1, h2⟩
        · have e1 : ((KK : Int) != 1) = true := by simpa using h1
          have e2 : ((KK : Int) != 2) = true := by simpa using h2
          have e3 : ((KK : Int) != 3) = true := by simpa using h3
          clear h1 h2 h3
          go_wp2_with fail
          go_ret
          exact ⟨rfl, HT.out.alloc _⟩
        all_goals
          subst h1
          by_cases h0 : NN < 0
          · clear h2
            go_wp2_with fail
            go_ret
            exact ⟨rfl, HT.out.alloc _⟩
          · have h5 : 65536 < NN := by omega
            clear h2
            go_wp2_with fail
            go_ret
            exact ⟨rfl, HT.out.alloc _⟩
    · have hbt : b = true := HB.out.2 (fun j hj => hm j (by omega))
      have hr0 : r = 0 := by rw [HR.out, hbt]; rfl
      subst hr0
      have HT := Lib.hid ht
      clear hbt hm ht
      go_wp2_with fail
      go_ret
      exact ⟨rfl, HT.out⟩

theorem ceil_step (k n : Nat) (h : k * 8 < n) : ((k + 1 : Nat) : Int) ≤ ((n : Int) + 7) / 8 := by omega
set_option maxHeartbeats 1000000 in
theorem refNeed_bytes (g b off m cap k : Nat) (w : World) (n : Nat) (hg : w.cell? ⟨g, 1, none⟩ = some (.slice (some ⟨b, off, none⟩) m cap)) (hk : k < m) (h0 : w.cell? ⟨b, off + k * 2, none⟩ = some (.int .i64 3)) (hn : n ≤ 65536) :
    Calls Try.prog 33 #[.pointer (some ⟨g, 0, none⟩), .int .i64 k, .int .i64 n] w fun e w' => e = .returned (.tuple #[.int .i64 (1 + ((n : Int) + 7) / 8), .int .i64 0]) ∧ w' = w := by
  go_enter Try.func33, Try.ntmps33
  go_wp2_with fail
  go_loop [8, 9] (fun x i => ∃ j : Nat, j ≤ (n + 7) / 8 ∧ i = .int .i64 ((j * 8 : Nat) : Int) ∧ x = .int .i64 ((j + 1 : Nat) : Int)) (fun _ i => n + 8 - (intOf i).toNat)
  case atStart => exact ⟨0, by omega, rfl, rfl⟩
  case round =>
    obtain ⟨j, hj, rfl, rfl⟩ := hrel
    by_cases hlt : j * 8 < n
    · obtain ⟨i, hi⟩ : ∃ i, j * 8 = i := ⟨_, rfl⟩
      obtain ⟨y, hy⟩ : ∃ y, j + 1 = y := ⟨_, rfl⟩
      rw [hi] at hlt ⊢
      rw [hy]
      have hy2 : y ≤ 65537 := by omega
      have HI := Lib.hid hi; have HY := Lib.hid hy
      clear hi hy hj
      go_wp2_with fail
      go_round
      case rel => exact ⟨j + 1, by have := HI.out; omega, by have := HI.out; exact congrArg (Value.int .i64) (by omega), by have := HY.out; exact congrArg (Value.int .i64) (by omega)⟩
      case measure => simp [intOf]; omega
    · have hge : n ≤ j * 8 := by omega
      have hjj : j = (n + 7) / 8 := by omega
      have hge2 : (n : Int) ≤ ((j * 8 : Nat) : Int) := by omega
      obtain ⟨i, hi⟩ : ∃ i, j * 8 = i := ⟨_, rfl⟩
      obtain ⟨y, hy⟩ : ∃ y, j + 1 = y := ⟨_, rfl⟩
      rw [hi] at hge ⊢
      rw [hy]
      have hye : (1 + ((n : Int) + 7) / 8) = (y : Int) := by omega
      have HY := Lib.hid hye
      clear hi hy hj hye hjj hge2 hlt
      go_wp2_with fail
      go_ret2
      exact ret_pair HY.out.symm rfl

def M.kd (m : Nat) (K : Nat → Int) (sh : Int) : Int := if 0 ≤ sh ∧ sh < m then K sh.toNat else 0
set_option maxHeartbeats 1000000 in
theorem refNeed_out (g : Nat) (a : Option Addr) (m cap : Nat) (w : World) (sh n : Int) (hg : w.cell? ⟨g, 1, none⟩ = some (.slice a m cap)) (hs : sh < 0 ∨ (m : Int) ≤ sh) :
    Calls Try.prog 33 #[.pointer (some ⟨g, 0, none⟩), .int .i64 sh, .int .i64 n] w fun e w' => e = .returned (.tuple #[.int .i64 0, .int .i64 1]) ∧ w' = w := by
  by_cases h0 : sh < 0
  · clear hs
    go_enter Try.func33, Try.ntmps33
    go_wp2
    go_ret2
    exact ⟨rfl, rfl⟩
  · have h1 : (m : Int) ≤ sh := by omega
    clear hs
    go_enter Try.func33, Try.ntmps33
    go_wp2
    go_ret2
    exact ⟨rfl, rfl⟩
set_option maxHeartbeats 1000000 in
theorem refNeed_in (g b off m cap k : Nat) (K N : Int) (w : World) (n : Int) (hg : w.cell? ⟨g, 1, none⟩ = some (.slice (some ⟨b, off, none⟩) m cap)) (hk : k < m) (h0 : w.cell? ⟨b, off + k * 2, none⟩ = some (.int .i64 K)) (h1 : w.cell? ⟨b, off + k * 2 + 1, none⟩ = some (.int .i64 N)) (hK : K = 1 ∨ K = 2 ∨ K = 3) :
    Calls Try.prog 33 #[.pointer (some ⟨g, 0, none⟩), .int .i64 k, .int .i64 n] w fun e w' => e = .returned (.tuple #[.int .i64 (M.need K N n), .int .i64 (M.needE K N n)]) ∧ w' = w := by
  by_cases hn : n < 0
  · go_enter Try.func33, Try.ntmps33
    go_wp2_with fail
    go_ret2
    exact ret_pair (by unfold M.need; rw [if_pos (by omega)]) (by unfold M.needE; rw [if_pos (by omega)])
  by_cases h1k : K = 1
  · subst h1k
    by_cases hN : n = N
    · subst hN
      have hne : ((n : Int) != n) = false := by simp
      by_cases hb : 65536 < n
      · go_enter Try.func33, Try.ntmps33
        go_wp2_with fail
        go_ret2
        exact ret_pair (by unfold M.need; rw [if_neg (by omega), if_pos (by omega)]) (by unfold M.needE; rw [if_neg (by omega), if_pos (by omega)])
      · go_enter Try.func33, Try.ntmps33
        go_wp2_with fail
        go_ret2
        exact ret_pair (by unfold M.need; rw [if_neg (by omega), if_neg (by omega), if_neg (by omega)]) (by unfold M.needE; rw [if_neg (by omega), if_neg (by omega)])
    · have hne : ((N : Int) != n) = true := by simp; omega
      go_enter Try.func33, Try.ntmps33
      go_wp2_with fail
      go_ret2
      exact ret_pair (by unfold M.need; rw [if_pos (by omega)]) (by unfold M.needE; rw [if_pos (by omega)])
  · by_cases hb : 65536 < n
    · rcases hK with rfl | rfl | rfl
      · exact absurd rfl h1k
      all_goals
        go_enter Try.func33, Try.ntmps33
        go_wp2_with fail
        go_ret2
        exact ret_pair (by unfold M.need; rw [if_neg (by omega), if_pos (by omega)]) (by unfold M.needE; rw [if_neg (by omega), if_pos (by omega)])
    · rcases hK with rfl | rfl | rfl
      · exact absurd rfl h1k
      · go_enter Try.func33, Try.ntmps33
        go_wp2_with fail
        go_ret2
        exact ret_pair (by unfold M.need; rw [if_neg (by omega), if_neg (by omega), if_neg (by omega)]) (by unfold M.needE; rw [if_neg (by omega), if_neg (by omega)])
      · obtain ⟨q, rfl⟩ := Int.eq_ofNat_of_zero_le (show 0 ≤ n by omega)
        refine (refNeed_bytes g b off m cap k w q hg hk h0 (by omega)).mono fun _ _ ⟨he, hw⟩ => ⟨?_, hw⟩
        rw [he]
        exact (ret_pair (w := w) (by unfold M.need; rw [if_neg (by omega), if_neg (by omega), if_pos rfl]) (by unfold M.needE; rw [if_neg (by omega), if_neg (by omega)])).1
theorem refNeed_any (g : Nat) (a : Option Addr) (m cap : Nat) (K N : Nat → Int) (w : World) (sh n : Int) (hg : w.cell? ⟨g, 1, none⟩ = some (.slice a m cap)) (hL : Lays w a m K N) (hv : ∀ j, j < m → K j = 1 ∨ K j = 2 ∨ K j = 3) :
    Calls Try.prog 33 #[.pointer (some ⟨g, 0, none⟩), .int .i64 sh, .int .i64 n] w fun e w' => e = .returned (.tuple #[.int .i64 (M.need (M.kd m K sh) (M.kd m N sh) n), .int .i64 (M.needE (M.kd m K sh) (M.kd m N sh) n)]) ∧ w' = w := by
  unfold M.kd
  by_cases hs : 0 ≤ sh ∧ sh < m
  · obtain ⟨k, rfl⟩ := Int.eq_ofNat_of_zero_le hs.1
    rw [if_pos hs, if_pos hs]
    obtain ⟨b, off, rfl, _, hc⟩ := hL.at_ (by omega)
    obtain ⟨c0, c1⟩ := hc k (by omega)
    exact refNeed_in g b off m cap k (K k) (N k) w n hg (by omega) c0 c1 (hv k (by omega))
  · rw [if_neg hs, if_neg hs]
    exact (refNeed_out g a m cap w sh n hg (by omega)).mono fun _ _ ⟨he, hw⟩ => ⟨by rw [he]; simp [M.need, M.needE], hw⟩
end Go.Proofs.Ythfkgkddklnnhaa
/- A slice of layouts that comes in as an argument: its cells. -/
namespace Go.Proofs.Ythfkgkddklnnhaa
set_option linter.unusedVariables false
open Go.ChangeShapes Go.WideShapes Go.ChangeAt Go.RowKit Go.Deep

/-- What a walk is told of a slice of layouts that came in: nil, or a row of cap of them. -/
structure IsLays (w : World) (a : Option Addr) (len cap : Nat) (K N : Nat → Int) : Prop where
  le : len ≤ cap
  cap_le : cap ≤ maxLen
  at_ : 0 < cap → ∃ b off, a = some ⟨b, off, none⟩ ∧ b < w.heap.size ∧ ∀ i, i < cap → w.cell? ⟨b, off + i * 2, none⟩ = some (.int .i64 (K i)) ∧ w.cell? ⟨b, off + i * 2 + 1, none⟩ = some (.int .i64 (N i)) ∧ (Lit.int .i64 (K i)).wf = true ∧ (Lit.int .i64 (N i)).wf = true
theorem open_lays {H : Type} {enc : TypeId × Value → H} {w : World} {fuel : Nat} {a : Option Addr} {len cap : Nat} {x : DataW H × List MemPlace}
    (h : DataW.trod enc Try.prog w 0 (fun _ => true) true fuel 22 [.slice a len cap] = some x) : ∃ K N, IsLays w a len cap K N := by
  rcases open_slice_pairs Try.underlying22 Try.underlying67 (by kernel_rfl) rfl rfl (by kernel_rfl) (by kernel_rfl) h with ⟨hcs, _⟩ | ⟨ad, l, c, m, n, V0, V1, D0, D1, P0, P1, hcs, _, hl, hm, hmm, hx, hcell⟩
  · simp at hcs
    obtain ⟨rfl, rfl, rfl⟩ := hcs
    exact ⟨fun _ => 0, fun _ => 0, Nat.le_refl _, Nat.zero_le _, fun h => absurd h (Nat.lt_irrefl _)⟩
  · simp at hcs
    obtain ⟨rfl, rfl, rfl⟩ := hcs
    simp at hmm
    subst hmm
    have hk : ∀ i, ∃ k n : Int, i < m → V0 i = .int .i64 k ∧ V1 i = .int .i64 n ∧ (Lit.int .i64 k).wf = true ∧ (Lit.int .i64 n).wf = true := by
      intro i
      by_cases hi : i < m
      · obtain ⟨_, _, t0, t1⟩ := hcell i hi
        obtain ⟨k, e0, _, w0⟩ := DataW.trod_int Try.underlying3 t0
        obtain ⟨n, e1, _, w1⟩ := DataW.trod_int Try.underlying3 t1
        simp at e0 e1
        exact ⟨k, n, fun _ => ⟨e0, e1, w0, w1⟩⟩
      · exact ⟨0, 0, fun h => absurd h hi⟩
    refine ⟨fun i => Classical.choose (hk i), fun i => Classical.choose (Classical.choose_spec (hk i)), hl, hm, fun h0 => ?_⟩
    have hs := fun i => Classical.choose_spec (Classical.choose_spec (hk i))
    obtain ⟨b, off, spot⟩ := ad
    have c0 := (hcell 0 h0).1
    have hspot : spot = none := by simpa [Addr.add] using World.cell?_spot c0
    subst hspot
    refine ⟨b, off, rfl, World.block_lt_of_cell? w ⟨b, off + 0 * 2, none⟩ (by rw [← Go.WideShapes.add_plain]; exact c0), fun i hi => ?_⟩
    obtain ⟨g0, g1, g2, g3⟩ := hs i hi
    obtain ⟨c0, c1, _, _⟩ := hcell i hi
    rw [Go.WideShapes.add_plain] at c0 c1
    exact ⟨c0.trans (congrArg some g0), by rw [Nat.add_assoc]; exact c1.trans (congrArg some g1), g2, g3⟩
end Go.Proofs.Ythfkgkddklnnhaa
/- What the laws on New and Need want besides. -/
namespace Go.Proofs.Ythfkgkddklnnhaa
set_option linter.unusedVariables false
open Go.ChangeShapes Go.WideShapes Go.ChangeAt Go.RowKit
open M (W)

theorem IsLays.lays {w : World} {a : Option Addr} {len cap : Nat} {K N : Nat → Int} (h : IsLays w a len cap K N) : Lays w a len K N :=
  ⟨fun hl => by
    obtain ⟨b, off, e, hb, hc⟩ := h.at_ (Nat.lt_of_lt_of_le hl h.le)
    exact ⟨b, off, e, hb, fun j hj => ⟨(hc j (Nat.lt_of_lt_of_le hj h.le)).1, (hc j (Nat.lt_of_lt_of_le hj h.le)).2.1⟩⟩⟩
theorem objects_0 (s : St) (w : World) (h : HpIs w s) (ht : s.top = 0) : Calls Try.prog 38 #[s.ptr] w fun e w' => e = .returned (.slice none 0 0) ∧ w' = w := by
  have HT := top_any s w h
  rw [ht] at HT
  clear h ht
  go_enter Try.func38, Try.ntmps38
  go_wp2_with (go_at_call 12; (with_reducible refine HT.mono ?_); rintro e w ⟨rfl, rfl⟩)
  refine wp_loop_rounds 1 ?_
  rw [rounds_succ]
  go_wp2
  go_ret
  exact ⟨rfl, rfl⟩
theorem mayBe_all (len : Nat) (K N : Nat → Int) : ∃ b : Bool, b = true ↔ ∀ j, j < len → M.mayBe (K j) (N j) = true := by
  by_cases h : ∀ j, j < len → M.mayBe (K j) (N j) = true
  · exact ⟨true, by simpa using h⟩
  · exact ⟨false, by simpa using h⟩
end Go.Proofs.Ythfkgkddklnnhaa
/- The document's own list of objects in memory: Find, Top, Fits, Get. -/
namespace Go.Proofs.Ythfkgkddklnnhaa
set_option linter.unusedVariables false
open Go.ChangeShapes Go.WideShapes Go.ChangeAt Go.RowKit
open M (W)

/-- An object of the document's list; fa, fc, ba, bc: where its two slices lie in memory, and how much they hold. -/
structure RO where
  at_ : Nat
  sh : Nat
  n : Nat
  fs : List Nat
  bs : List Nat
  fa : Option Addr
  fc : Nat
  ba : Option Addr
  bc : Nat
abbrev RO.fv (o : RO) : Value := .slice o.fa o.fs.length o.fc
abbrev RO.bv (o : RO) : Value := .slice o.ba o.bs.length o.bc
def RO.blocks (o : RO) : Option Nat × Option Nat := (o.fv.ownBlock, o.bv.ownBlock)
def RO.cells (o : RO) : List Value := [.int .i64 o.at_, .int .i64 o.sh, .int .i64 o.n, o.fv, o.bv]
/-- The document's heap: its block, its words, its layouts, its list. -/
structure Rf where
  gx : Nat
  n : Nat
  a : Option Addr
  len : Nat
  cap : Nat
  K : Nat → Int
  N : Nat → Int
  lv : Value
  L : List RO
def Rf.cell (x : Rf) (i : Nat) : Value := if i = 0 then .int .i64 x.n else if i = 1 then .slice x.a x.len x.cap else x.lv
abbrev Rf.ptr (x : Rf) : Value := .pointer (some ⟨x.gx, 0, none⟩)
def RO.row (w : World) (B : Nat) (o : RO) : Prop :=
  w.ownsRow B 33 1 o.fv o.fs.length (o.fs.map fun v : Nat => Value.int .u64 (v : Int)) ∧ w.ownsRow B 5 1 o.bv o.bs.length (o.bs.map fun v : Nat => Value.int .u8 (v : Int))
/-- In w stands, from the block B on, the document's heap x. -/
structure RfIs (B : Nat) (w : World) (x : Rf) : Prop where
  base : B ≤ x.gx
  le : B ≤ w.heap.size
  blk : w.rowIs x.gx 39 3 x.cell
  lays : Lays w x.a x.len x.K x.N
  old : ∀ b off, x.a = some ⟨b, off, none⟩ → 0 < x.len → b < B
  row : w.ownsRow B 73 5 x.lv x.L.length (x.L.flatMap RO.cells)
  rows : ∀ o ∈ x.L, o.row w B
  apart : (x.L.map RO.blocks).Pairwise (fun p q => (p.1 = none ∨ p.1 ≠ q.1) ∧ (p.2 = none ∨ p.2 ≠ q.2))
  few : x.L.length ≤ 1000

theorem flat_at : ∀ (L : List RO) (k : Nat) (o : RO), L[k]? = some o → ∀ j, j < 5 → (L.flatMap RO.cells)[k * 5 + j]? = o.cells[j]?
  | [], k, o, h, j, hj => by simp at h
  | p :: L, 0, o, h, j, hj => by
    simp at h; subst h
    rw [List.flatMap_cons, Nat.zero_mul, Nat.zero_add, List.getElem?_append_left (by simpa [RO.cells] using hj)]
  | p :: L, k + 1, o, h, j, hj => by
    rw [List.flatMap_cons, List.getElem?_append_right (by simp [RO.cells]; omega)]
    have e : (k + 1) * 5 + j - p.cells.length = k * 5 + j := by simp [RO.cells]; omega
    rw [e]
    exact flat_at L k o (by simpa using h) j hj
theorem own_keep {w w' : World} {base : Nat} {e : TypeId} {size : Nat} {v : Value} {n : Nat} {xs : List Value} {S : Nat → Prop} (h : w.ownsRow base e size v n xs) (t : Turn S w w') (hs : ∀ k, v.ownBlock = some k → ¬ S k) : w'.ownsRow base e size v n xs := by
  obtain ⟨h1, h2⟩ := h
  refine ⟨h1, ?_⟩
  rcases h2 with h0 | ⟨g, cap, cur, rfl, hb, hg, r⟩
  · exact .inl h0
  · exact .inr ⟨g, cap, cur, rfl, hb, (t.block g (Array.getElem?_eq_some_iff.1 hg).1 (hs g rfl)).trans hg, r⟩
theorem own_type {w : World} {base : Nat} {e t : TypeId} {size g n m : Nat} {v : Value} {xs : List Value} {f : Nat → Value} (h : w.ownsRow base e size v n xs) (hr : w.rowIs g t m f) (hne : e ≠ t) : v.ownBlock ≠ some g := by
  rcases h.2 with ⟨rfl, _⟩ | ⟨g', cap, cur, rfl, _, hg, _⟩
  · simp [Value.ownBlock]
  · intro he
    have : g' = g := by simpa [Value.ownBlock] using he
    subst this
    obtain ⟨c, hc, _⟩ := hr
    rw [hc] at hg; injection hg with hg; injection hg with _ e'; exact hne e'.symm
theorem own_types {w : World} {base base' : Nat} {e e' : TypeId} {size size' n n' : Nat} {v v' : Value} {xs xs' : List Value} (h : w.ownsRow base e size v n xs) (h' : w.ownsRow base' e' size' v' n' xs') (hne : e ≠ e') : v.ownBlock = none ∨ v.ownBlock ≠ v'.ownBlock := by
  rcases h.2 with ⟨rfl, _⟩ | ⟨g, cap, cur, rfl, _, hg, _⟩
  · exact .inl rfl
  · rcases h'.2 with ⟨rfl, _⟩ | ⟨g', cap', cur', rfl, _, hg', _⟩
    · exact .inr (by simp [Value.ownBlock])
    · refine .inr fun he => ?_
      have : g = g' := by simpa [Value.ownBlock] using he
      subst this
      rw [hg] at hg'; injection hg' with hg'; injection hg' with _ e''; exact hne e''

theorem RfIs.keep {B : Nat} {w w' : World} {x : Rf} {S : Nat → Prop} (h : RfIs B w x) (t : Turn S w w') (hB : ∀ k, S k → B ≤ k) (h1 : ¬ S x.gx) (h2 : ∀ k, x.lv.ownBlock = some k → ¬ S k) (h3 : ∀ o ∈ x.L, ∀ k, (o.fv.ownBlock = some k ∨ o.bv.ownBlock = some k) → ¬ S k) : RfIs B w' x :=
  { h with
    le := Nat.le_trans h.le t.size
    blk := h.blk.of_block (t.block _ h.blk.lt h1)
    lays := ⟨fun hl => by
      obtain ⟨b, off, e, hb, hc⟩ := h.lays.at_ hl
      have hbB := h.old b off e hl
      refine ⟨b, off, e, Nat.lt_of_lt_of_le hb t.size, fun j hj => ?_⟩
      have hn : ¬ S b := fun hs => by have := hB b hs; omega
      exact ⟨by rw [t.cell (p := ⟨b, _, none⟩) hb hn]; exact (hc j hj).1, by rw [t.cell (p := ⟨b, _, none⟩) hb hn]; exact (hc j hj).2⟩⟩
    row := own_keep h.row t h2
    rows := fun o ho => ⟨own_keep (h.rows o ho).1 t (fun k hk => h3 o ho k (.inl hk)), own_keep (h.rows o ho).2 t (fun k hk => h3 o ho k (.inr hk))⟩ }
theorem RfIs.still {B : Nat} {w w' : World} {x : Rf} (h : RfIs B w x) (t : Still w w') : RfIs B w' x := h.keep t (fun _ e => e.elim) (fun e => e) (fun _ _ e => e) (fun _ _ _ _ e => e)
theorem RfIs.drewN {B : Nat} {w : World} {x : Rf} (h : RfIs B w x) (k : Nat) : RfIs B (w.drewN k) x := h.still ((Still.refl w).drewN k)

/-- The list's slice: nil, or a row. -/
theorem RfIs.lv_form {B : Nat} {w : World} {x : Rf} (h : RfIs B w x) : (x.lv = .slice none 0 0 ∧ x.L = []) ∨ ∃ g cap, x.lv = .slice (some ⟨g, 0, none⟩) x.L.length cap ∧ g < w.heap.size ∧ B ≤ g ∧ x.L.length ≤ cap ∧ cap ≤ maxLen ∧ (∀ o, w.frozen? ⟨g, o, none⟩ = false) ∧
    ∀ k o, x.L[k]? = some o → w.cell? ⟨g, k * 5, none⟩ = some (.int .i64 o.at_) ∧ w.cell? ⟨g, k * 5 + 1, none⟩ = some (.int .i64 o.sh) ∧ w.cell? ⟨g, k * 5 + 2, none⟩ = some (.int .i64 o.n) ∧ w.cell? ⟨g, k * 5 + 3, none⟩ = some o.fv ∧ w.cell? ⟨g, k * 5 + 4, none⟩ = some o.bv := by
  have hr := h.row
  rcases hr.2 with ⟨h1, h2⟩ | ⟨g, cap, cur, h1, hb, hg, hle, hm, hs, ht⟩
  · exact .inl ⟨h1, List.eq_nil_of_length_eq_zero h2⟩
  · refine .inr ⟨g, cap, h1, (Array.getElem?_eq_some_iff.1 hg).1, hb, hle, hm, fun o => frozen_of_row w g o cur _ hg, fun k o hk => ?_⟩
    rw [h1] at hr
    have hkl : k < x.L.length := (List.getElem?_eq_some_iff.1 hk).1
    have key : ∀ j, j < 5 → w.cell? ⟨g, k * 5 + j, none⟩ = o.cells[j]? := fun j hj => by
      rw [hr.cellAt (k * 5 + j) (by omega)]
      exact flat_at x.L k o hk j hj
    exact ⟨key 0 (by decide), key 1 (by decide), key 2 (by decide), key 3 (by decide), key 4 (by decide)⟩
theorem RfIs.c1 {B : Nat} {w : World} {x : Rf} (h : RfIs B w x) : w.cell? ⟨x.gx, 1, none⟩ = some (.slice x.a x.len x.cap) := h.blk.cell (i := 1) (by omega)
theorem RfIs.c0 {B : Nat} {w : World} {x : Rf} (h : RfIs B w x) : w.cell? ⟨x.gx, 0, none⟩ = some (.int .i64 x.n) := h.blk.cell (i := 0) (by omega)
theorem RfIs.c2 {B : Nat} {w : World} {x : Rf} (h : RfIs B w x) : w.cell? ⟨x.gx, 2, none⟩ = some x.lv := h.blk.cell (i := 2) (by omega)

set_option maxHeartbeats 1000000 in
theorem find_at {B : Nat} (x : Rf) (k : Nat) (o : RO) (i : Int) (w : World) (h : RfIs B w x) (hk : x.L[k]? = some o) (hi : i = o.at_) (hun : ∀ (j : Nat) p, j < k → x.L[j]? = some p → (p.at_ : Int) ≠ i) :
    Calls Try.prog 48 #[x.ptr, .int .i64 i] w fun e w' => e = .returned (.int .i64 k) ∧ Still w w' := by
  have c2 := h.c2
  have hkl : k < x.L.length := (List.getElem?_eq_some_iff.1 hk).1
  have hfew := h.few
  rcases h.lv_form with ⟨_, h0⟩ | ⟨g, cap, h1, hg, hb, hle, hm, hf, hc⟩
  · rw [h0] at hkl; simp at hkl
  rw [h1] at c2
  unfold maxLen at hm
  have HC := Lib.hid hc
  have HUN := Lib.hid hun
  have HK := Lib.hid hk
  have HI := Lib.hid hi
  clear hc hun hk hi h1 hf h
  go_enter Try.func48, Try.ntmps48
  go_wp2_with fail
  go_loopw [12] (fun v wr => ∃ j : Nat, v = .int .i64 j ∧ j ≤ k ∧ Still w wr) (fun v _ => x.L.length - (intOf v).toNat)
  case atStart => exact ⟨0, rfl, by omega, Still.refl _⟩
  case round =>
    obtain ⟨j, rfl, hj, ht⟩ := hrel
    have hjl : j < x.L.length := by omega
    obtain ⟨p, hp⟩ : ∃ p, x.L[j]? = some p := ⟨_, List.getElem?_eq_getElem hjl⟩
    obtain ⟨d0, d1, d2, d3, d4⟩ := HC.out j p hp
    have e0 : wr.cell? ⟨g, j * 5, none⟩ = some (.int .i64 p.at_) := by rw [ht.cell hg]; exact d0
    have e1 : wr.cell? ⟨g, j * 5 + 1, none⟩ = some (.int .i64 p.sh) := by rw [ht.cell hg]; exact d1
    have e2 : wr.cell? ⟨g, j * 5 + 2, none⟩ = some (.int .i64 p.n) := by rw [ht.cell hg]; exact d2
    have e3 : wr.cell? ⟨g, j * 5 + 3, none⟩ = some p.fv := by rw [ht.cell hg]; exact d3
    have e4 : wr.cell? ⟨g, j * 5 + 4, none⟩ = some p.bv := by rw [ht.cell hg]; exact d4
    have hgr : g < wr.heap.size := Nat.lt_of_lt_of_le hg ht.size
    have HT := Lib.hid ht
    clear d0 d1 d2 d3 d4 ht c2
    by_cases hjk : j = k
    · subst hjk
      have hpo : p = o := by have := HK.out; rw [hp] at this; injection this
      have hat : ((p.at_ : Int) == i) = true := by rw [HI.out, hpo]; simp
      clear hpo hp
      go_wp2_with fail
      go_ret
      exact ⟨rfl, HT.out.alloc _⟩
    · have hat : ((p.at_ : Int) == i) = false := by simpa using HUN.out j p (by omega) hp
      clear hp
      go_wp2_with fail
      go_roundw
      case rel => exact ⟨j + 1, by go_num, by omega, HT.out.alloc _⟩
      case measure => simp [intOf]; omega
set_option maxHeartbeats 1000000 in
theorem find_no {B : Nat} (x : Rf) (i : Int) (w : World) (h : RfIs B w x) (hun : ∀ p ∈ x.L, (p.at_ : Int) ≠ i) :
    Calls Try.prog 48 #[x.ptr, .int .i64 i] w fun e w' => e = .returned (.int .i64 (-1)) ∧ Still w w' := by
  have c2 := h.c2
  have hfew := h.few
  rcases h.lv_form with ⟨h1, h0⟩ | ⟨g, cap, h1, hg, hb, hle, hm, hf, hc⟩
  · rw [h1] at c2
    clear h1 h hfew
    go_enter Try.func48, Try.ntmps48
    go_wp2_with fail
    refine wp_loop_rounds 1 ?_
    rw [rounds_succ]
    go_wp2
    go_ret
    exact ⟨rfl, Still.refl _⟩
  rw [h1] at c2
  unfold maxLen at hm
  have HC := Lib.hid hc
  have HUN := Lib.hid hun
  clear hc hun h1 hf h
  go_enter Try.func48, Try.ntmps48
  go_wp2_with fail
  go_loopw [12] (fun v wr => ∃ j : Nat, v = .int .i64 j ∧ j ≤ x.L.length ∧ Still w wr) (fun v _ => x.L.length - (intOf v).toNat)
  case atStart => exact ⟨0, rfl, by omega, Still.refl _⟩
  case round =>
    obtain ⟨j, rfl, hj, ht⟩ := hrel
    by_cases hjl : j < x.L.length
    · obtain ⟨p, hp⟩ : ∃ p, x.L[j]? = some p := ⟨_, List.getElem?_eq_getElem hjl⟩
      obtain ⟨d0, d1, d2, d3, d4⟩ := HC.out j p hp
      have e0 : wr.cell? ⟨g, j * 5, none⟩ = some (.int .i64 p.at_) := by rw [ht.cell hg]; exact d0
      have e1 : wr.cell? ⟨g, j * 5 + 1, none⟩ = some (.int .i64 p.sh) := by rw [ht.cell hg]; exact d1
      have e2 : wr.cell? ⟨g, j * 5 + 2, none⟩ = some (.int .i64 p.n) := by rw [ht.cell hg]; exact d2
      have e3 : wr.cell? ⟨g, j * 5 + 3, none⟩ = some p.fv := by rw [ht.cell hg]; exact d3
      have e4 : wr.cell? ⟨g, j * 5 + 4, none⟩ = some p.bv := by rw [ht.cell hg]; exact d4
      have hgr : g < wr.heap.size := Nat.lt_of_lt_of_le hg ht.size
      have HT := Lib.hid ht
      have hat : ((p.at_ : Int) == i) = false := by simpa using HUN.out p (List.mem_of_getElem? hp)
      clear d0 d1 d2 d3 d4 ht c2 hp
      go_wp2_with fail
      go_roundw
      case rel => exact ⟨j + 1, by go_num, by omega, HT.out.alloc _⟩
      case measure => simp [intOf]; omega
    · have HT := Lib.hid ht
      clear ht
      go_wp2_with fail
      go_ret
      exact ⟨rfl, HT.out⟩
end Go.Proofs.Ythfkgkddklnnhaa
