/- Lemmas, put together: HeapNew HeapLives HeapByte. -/
import Derived.Test.YthfkgkddklnnhaaK03
/- The contract of layer 2's New. -/
namespace Go.Proofs.Ythfkgkddklnnhaa
set_option linter.unusedVariables false
open Go.ChangeShapes Go.WideShapes Go.ChangeAt Go.RowKit
open M (W)

def M.mayBe (K N : Int) : Bool := (K == 1 || K == 2 || K == 3) && decide (0 ≤ N) && decide (N ≤ 65536)
theorem mayBe_any (K N : Int) (w : World) : Calls Try.prog 53 #[.agg #[.int .i64 K, .int .i64 N]] w fun e w' => e = .returned (.bool (M.mayBe K N)) ∧ Still w w' := by
  have fin : ∀ b, M.mayBe K N = b → (Ending.returned (.bool b) = .returned (.bool (M.mayBe K N)) ∧ Still w (w.alloc (.cells #[.int .i64 K, .int .i64 N] 67))) := fun b hb => by rw [hb]; exact ⟨rfl, (Turn.refl _ _).alloc _⟩
  have FIN := Lib.hid fin
  clear fin
  by_cases hK : K = 1 ∨ K = 2 ∨ K = 3
  · by_cases h0 : 0 ≤ N
    · by_cases h1 : N ≤ 65536
      · rcases hK with rfl | rfl | rfl
        all_goals
          go_enter Try.func53, Try.ntmps53
          go_wp2
          go_ret
          exact FIN.out true (by simp [M.mayBe, h0, h1])
      · rcases hK with rfl | rfl | rfl
        all_goals
          go_enter Try.func53, Try.ntmps53
          go_wp2
          go_ret
          exact FIN.out false (by simp [M.mayBe]; omega)
    · rcases hK with rfl | rfl | rfl
      all_goals
        go_enter Try.func53, Try.ntmps53
        go_wp2
        go_ret
        exact FIN.out false (by simp [M.mayBe]; omega)
  · have h1 : ((K : Int) == 1) = false := by simp; omega
    have h2 : ((K : Int) == 2) = false := by simp; omega
    have h3 : ((K : Int) == 3) = false := by simp; omega
    clear hK
    go_enter Try.func53, Try.ntmps53
    go_wp2
    go_ret
    exact FIN.out false (by simp [M.mayBe, h1, h2, h3])

/-- A row of layouts that came in: their kinds and numbers. -/
structure Lays (w : World) (a : Option Addr) (len : Nat) (K N : Nat → Int) : Prop where
  at_ : 0 < len → ∃ b off, a = some ⟨b, off, none⟩ ∧ b < w.heap.size ∧ ∀ j, j < len → w.cell? ⟨b, off + j * 2, none⟩ = some (.int .i64 (K j)) ∧ w.cell? ⟨b, off + j * 2 + 1, none⟩ = some (.int .i64 (N j))
theorem Lays.still {w w' : World} {a : Option Addr} {len : Nat} {K N : Nat → Int} (h : Lays w a len K N) (t : Still w w') : Lays w' a len K N :=
  ⟨fun hl => by
    obtain ⟨b, off, e, hb, hc⟩ := h.at_ hl
    exact ⟨b, off, e, Nat.lt_of_lt_of_le hb t.size, fun j hj => ⟨by rw [t.cell hb]; exact (hc j hj).1, by rw [t.cell hb]; exact (hc j hj).2⟩⟩⟩
/-- The error of New. -/
def M.newE (n : Int) (len : Nat) (K N : Nat → Int) : Int := if n < 0 ∨ 65536 < n then 1 else if 512 < len then 2 else if ∀ j, j < len → M.mayBe (K j) (N j) = true then 0 else 1

theorem new_arg (n : Int) (a : Option Addr) (len cap : Nat) (w : World) (h : n < 0 ∨ 65536 < n) : Calls Try.prog 23 #[.int .i64 n, .slice a len cap] w fun e w' => e = .returned (.tuple #[.pointer none, .int .i64 1]) ∧ w' = w := by
  by_cases h0 : n < 0
  · clear h
    go_enter Try.func23, Try.ntmps23
    go_wp2
    go_ret2
    exact ⟨rfl, rfl⟩
  · have h1 : 65536 < n := by omega
    clear h
    go_enter Try.func23, Try.ntmps23
    go_wp2
    go_ret2
    exact ⟨rfl, rfl⟩
theorem new_big (n : Nat) (a : Option Addr) (len cap : Nat) (w : World) (h : n ≤ 65536) (hl : 512 < len) : Calls Try.prog 23 #[.int .i64 n, .slice a len cap] w fun e w' => e = .returned (.tuple #[.pointer none, .int .i64 2]) ∧ w' = w := by
  go_enter Try.func23, Try.ntmps23
  go_wp2
  go_ret2
  exact ⟨rfl, rfl⟩

set_option maxHeartbeats 1000000 in
theorem new_bad (n : Nat) (a : Option Addr) (len cap : Nat) (K N : Nat → Int) (w : World) (h : n ≤ 65536) (hl : len ≤ 512) (hL : Lays w a len K N) (hb : ¬ ∀ j, j < len → M.mayBe (K j) (N j) = true) :
    Calls Try.prog 23 #[.int .i64 n, .slice a len cap] w fun e w' => e = .returned (.tuple #[.pointer none, .int .i64 1]) ∧ Still w w' := by
  have HB := Lib.hid hb
  have HL := Lib.hid hL
  clear hb hL
  go_enter Try.func23, Try.ntmps23
  go_wp2_with fail
  go_loopw [20] (fun i wr => ∃ k : Nat, k ≤ len ∧ i = .int .i64 k ∧ Still w wr ∧ ∀ j, j < k → M.mayBe (K j) (N j) = true) (fun i _ => len - (intOf i).toNat)
  case atStart => exact ⟨0, by omega, rfl, Still.refl _, fun j hj => by omega⟩
  case round =>
    obtain ⟨k, hk, rfl, ht, hm⟩ := hrel
    by_cases hlt : k < len
    · obtain ⟨b, off, rfl, hbl, hc⟩ := (HL.out.still ht).at_ (by omega)
      obtain ⟨d0, d1⟩ := hc k hlt
      have HM := mayBe_any (K k) (N k)
      have HT := Lib.hid ht
      have HMM := Lib.hid hm
      clear hc ht hm
      by_cases hmk : M.mayBe (K k) (N k) = true
      · rw [hmk] at HM
        have HK := Lib.hid hmk
        clear hmk
        go_wp2_with fail
        refine (HM _).mono ?_; rintro e w1 ⟨rfl, t1⟩
        have HT1 := Lib.hid t1; clear t1
        go_wp2_with fail
        go_roundw
        case rel => exact ⟨k + 1, by omega, by go_num, (HT.out.alloc _).trans HT1.out, fun j hj => by
          rcases Nat.lt_or_ge j k with h | h
          · exact HMM.out j h
          · obtain rfl : j = k := by omega
            exact HK.out⟩
        case measure => simp [intOf]; omega
      · simp only [Bool.not_eq_true] at hmk
        rw [hmk] at HM
        clear hmk
        go_wp2_with fail
        refine (HM _).mono ?_; rintro e w1 ⟨rfl, t1⟩
        have HT1 := Lib.hid t1; clear t1
        go_wp2_with fail
        go_ret2
        exact ⟨rfl, (HT.out.alloc _).trans HT1.out⟩
    · exact absurd (fun j hj => hm j (by omega)) HB.out

def hz (i : Nat) : Value := if i = 0 then .slice none 0 0 else if i = 1 then .int .i64 0 else if i = 1026 then .slice none 0 0 else .int .u64 0
def zH : Array Value := ((List.range 1027).map hz).toArray
theorem zH_size : zH.size = 1027 := by unfold zH; simp
theorem zH_at (i : Nat) (hi : i < 1027) : zH[i]? = some (hz i) := by unfold zH; simp [hi]
set_option maxRecDepth 100000 in
theorem zeroHeap : (Try.prog.info? 78).map (fun i => (i.zero, i.size)) = some (some (.agg zH), 1027) := by kernel_rfl
theorem infoLay : (Try.prog.info? 67).map (fun i => (i.zero, i.size, i.bytes)) = some (some (.agg #[.int .i64 0, .int .i64 0]), 2, 16) := by kernel_rfl
theorem infoW : (Try.prog.info? 33).map (fun i => (i.zero, i.size, i.bytes)) = some (some (.int .u64 0), 1, 8) := by kernel_rfl

theorem makeW (n : Nat) (h : n ≤ 65536) : ∀ W, (Instr.makeSlice 24 (.int .i64 (n : Int)) (.int .i64 (n : Int))).run Try.prog W = .ok (.slice (some ⟨W.heap.size, 0, none⟩) n n) (W.alloc (.cells (madeCells #[.int .u64 0] n) 33)) :=
  fun W => run_make_row' _ _ _ 8 Try.underlying24 infoW rfl .i64 .i64 n (by omega) (by omega) W
theorem makeL (n : Nat) (h : n ≤ 512) : ∀ W, (Instr.makeSlice 22 (.int .i64 (n : Int)) (.int .i64 (n : Int))).run Try.prog W = .ok (.slice (some ⟨W.heap.size, 0, none⟩) n n) (W.alloc (.cells (madeCells #[.int .i64 0, .int .i64 0] (n * 2)) 67)) := by
  intro W
  obtain ⟨i, hi, hzz⟩ := Option.map_eq_some_iff.1 infoLay
  simp only [Prod.mk.injEq] at hzz
  obtain ⟨hz, hs, hb⟩ := hzz
  have hr := run_make (P := Try.prog) W 22 67 i _ Try.underlying22 hi hz .i64 .i64 n n (by omega) (by omega) (by rw [hb]; omega) (by omega)
  simp only [Int.toNat_natCast, hs] at hr
  exact hr
theorem run_copy_whole {P : Program} (w : World) (dT sT ty elem : TypeId) (size g dCap : Nat) (a : Option Addr) (len cap : Nat) (t : TypeId) (f old : Nat → Value)
    (hu : P.underlying dT = some (.slice elem)) (hs : (P.info? elem).map (·.size) = some size) (hr : w.rowIs g t (len * size) old)
    (hsrc : 0 < len → ∃ b off, a = some ⟨b, off, none⟩ ∧ ∀ j, j < len * size → w.cell? ⟨b, off + j, none⟩ = some (f j)) (h1 : ∀ i, (f i).oneCell' = true) :
    ∃ w', (Builtin.copy_ #[dT, sT] ty #[.slice (some ⟨g, 0, none⟩) len dCap, .slice a len cap]).run P w = .ok (goInt len) w' ∧ w'.rowIs g t (len * size) f ∧ Turn (fun k => k = g) w w' := by
  cases hq : P.info? elem with
  | none => simp [hq] at hs
  | some i =>
    have hi : i.size = size := by simpa [hq] using hs
    rcases Nat.eq_zero_or_pos len with rfl | hl
    · have hl : ∀ (x : Addr), (loadCells x 0).run P w = .ok #[] w := fun x => by simpa using run_loadCells_list (P := P) w x [] (by simp)
      refine ⟨w, ?_, hr.congr fun i hi => by omega, Turn.refl _ _⟩
      cases a <;> simp [Builtin.copy_, run_underlying hu, Builtin.lenOf, Builtin.firstCells, sizeOf, typeInfo, hq, storeCells, hl]
    · obtain ⟨b, off, rfl, hc⟩ := hsrc hl
      obtain ⟨c, hb, hn, hcc⟩ := hr
      have hlen : ((List.range (len * size)).map f).length = len * size := by simp
      have hload := run_loadCells_list (P := P) w ⟨b, off, none⟩ ((List.range (len * size)).map f) (by
        intro j v hj
        simp only [List.getElem?_map, Option.map_eq_some_iff] at hj
        obtain ⟨j', hj', rfl⟩ := hj
        obtain ⟨hlt, rfl⟩ := List.getElem?_eq_some_iff.1 hj'
        simp at hlt
        simp only [List.getElem_range]
        rw [Addr.add_lit]
        exact hc j hlt)
      have hst := run_storeCells_at P g 0 t ((List.range (len * size)).map f) 0 c w hb (by simp [hn]) (by
        intro v hv
        obtain ⟨j, _, rfl⟩ := List.mem_map.1 hv
        exact h1 _)
      rw [hlen] at hload
      have hmin : Nat.min len len = len := Nat.min_self len
      refine ⟨w.setRow g (c.toList.take (0 + 0) ++ (List.range (len * size)).map f ++ c.toList.drop (0 + 0 + ((List.range (len * size)).map f).length)).toArray, ?_, ?_, ?_⟩
      · simp [Builtin.copy_, run_underlying hu, Builtin.lenOf, Builtin.firstCells, sizeOf, typeInfo, hq, hi, hload, hst, hmin]
      · refine ⟨_, setRow_heap w g c _ t (0, 0) hb, by simp [hn], fun i hi => ?_⟩
        simp only [List.getElem?_toArray, Nat.add_zero, List.take_zero, List.nil_append]
        rw [List.getElem?_append_left (by simpa using hi)]
        simp [hi]
      · exact (Turn.refl (fun k => k = g) w).setRow (fun _ => rfl) _
theorem wpList_copy_whole {P : Program} {w : World} {ops : Array Oper} {rest : List Oper} {o : Oper} {a : Act} {Q : Exit → Act → World → Prop} (hgd : o.guard = none) (d s : Operand) (dT sT : TypeId)
    (ho : o.op = .call { callee := .builtin .copy, args := #[d, s], argTypes := #[dT, sT] }) (elem : TypeId) (size g dCap : Nat) (x : Option Addr) (len cap : Nat) (t : TypeId) (f old : Nat → Value)
    (hd : a.eval d = .slice (some ⟨g, 0, none⟩) len dCap) (hs : a.eval s = .slice x len cap)
    (hu : P.underlying dT = some (.slice elem)) (hsz : (P.info? elem).map (·.size) = some size) (hr : w.rowIs g t (len * size) old)
    (hsrc : 0 < len → ∃ b off, x = some ⟨b, off, none⟩ ∧ ∀ j, j < len * size → w.cell? ⟨b, off + j, none⟩ = some (f j)) (h1 : ∀ i, (f i).oneCell' = true)
    (h : ∀ w', Hid (w'.rowIs g t (len * size) f) → Hid (Turn (fun k => k = g) w w') → wpList P ops Q rest (a.put o.dst (goInt len)) w') : wpList P ops Q (o :: rest) a w := by
  refine wpList_plain hgd fun K hK => ?_
  obtain ⟨w', hrun, h2, h3⟩ := run_copy_whole (P := P) w dT sT o.type elem size g dCap x len cap t f old hu hsz hr hsrc h1
  unfold Oper.wp
  simp [execOp, ho, resolve, invoke, builtin, hd, hs, hrun, Result.andThen]
  exact hK _ _ (h w' h2 h3)
theorem infoLay2 : (Try.prog.info? 67).map (·.size) = some 2 := by kernel_rfl

/-- What New makes, ahead of the layouts: a struct, a row of words, a row of layouts. -/
structure NewAt (w W : World) (n len g gw gl : Nat) : Prop where
  still : Still w W
  blk : W.rowIs g 78 1027 (fun i => if i = 0 then .slice (some ⟨gw, 0, none⟩) n n else if i = 1 then .int .i64 0 else if i = 1026 then .slice (some ⟨gl, 0, none⟩) len len else .int .u64 0)
  words : W.rowIs gw 33 n (fun _ => .int .u64 0)
  lays : W.rowIs gl 67 (len * 2) (fun _ => .int .i64 0)
  g1 : w.heap.size ≤ g
  g2 : w.heap.size ≤ gw
  g3 : w.heap.size ≤ gl
theorem zH_blk (W : World) (n len gw gl : Nat) : (W.alloc (.cells ((zH.setIfInBounds 0 (.slice (some ⟨gw, 0, none⟩) n n)).setIfInBounds 1026 (.slice (some ⟨gl, 0, none⟩) len len)) 78)).rowIs W.heap.size 78 1027
    (fun i => if i = 0 then .slice (some ⟨gw, 0, none⟩) n n else if i = 1 then .int .i64 0 else if i = 1026 then .slice (some ⟨gl, 0, none⟩) len len else .int .u64 0) := by
  refine ⟨_, heap_alloc_new W _, by simp [zH_size], fun i hi => ?_⟩
  rw [Array.getElem?_setIfInBounds, Array.getElem?_setIfInBounds]
  by_cases e3 : i = 1026
  · subst e3; simp [zH_size]
  · have e3' : ¬ 1026 = i := fun e => e3 e.symm
    rw [if_neg e3']
    by_cases e0 : i = 0
    · subst e0; simp [zH_size]
    · have e0' : ¬ 0 = i := fun e => e0 e.symm
      rw [if_neg e0', zH_at i hi]
      unfold hz
      simp only [e0, e3, if_false]
theorem madeL (W : World) (n : Nat) : (W.alloc (.cells (madeCells #[.int .i64 0, .int .i64 0] (n * 2)) 67)).rowIs W.heap.size 67 (n * 2) (fun _ => .int .i64 0) := by
  refine ⟨_, heap_alloc_new W _, size_madeCells _ _, fun i hi => ?_⟩
  simp only [madeCells, Array.getElem?_map]
  rcases Nat.mod_two_eq_zero_or_one i with h | h <;> simp [hi, h]
theorem newAt1 {w W : World} (n len : Nat) (h : Still w W) : NewAt w (((W.alloc (.cells (madeCells #[.int .u64 0] n) 33)).alloc (.cells (madeCells #[.int .i64 0, .int .i64 0] (len * 2)) 67)).alloc
    (.cells ((zH.setIfInBounds 0 (.slice (some ⟨W.heap.size, 0, none⟩) n n)).setIfInBounds 1026 (.slice (some ⟨W.heap.size + 1, 0, none⟩) len len)) 78)).drew n len (W.heap.size + 1 + 1) W.heap.size (W.heap.size + 1) := by
  have hs := h.size
  refine ⟨((h.alloc _).alloc _).alloc _ |> Turn.drew, ?_, ?_, ?_, by omega, hs, by omega⟩
  · have := zH_blk ((W.alloc (.cells (madeCells #[.int .u64 0] n) 33)).alloc (.cells (madeCells #[.int .i64 0, .int .i64 0] (len * 2)) 67)) n len W.heap.size (W.heap.size + 1)
    simp only [World.size_alloc] at this
    exact this
  · exact (((World.rowIs_made W (.int .u64 0) n 33).alloc _).alloc _)
  · have := (madeL (W.alloc (.cells (madeCells #[.int .u64 0] n) 33)) len).alloc (.cells ((zH.setIfInBounds 0 (.slice (some ⟨W.heap.size, 0, none⟩) n n)).setIfInBounds 1026 (.slice (some ⟨W.heap.size + 1, 0, none⟩) len len)) 78)
    simp only [World.size_alloc] at this
    exact this
theorem newAt2 {w W : World} (n len : Nat) (h : Still w W) : NewAt w (((W.alloc (.cells (madeCells #[.int .i64 0, .int .i64 0] (len * 2)) 67)).alloc (.cells (madeCells #[.int .u64 0] n) 33)).alloc
    (.cells ((zH.setIfInBounds 0 (.slice (some ⟨W.heap.size + 1, 0, none⟩) n n)).setIfInBounds 1026 (.slice (some ⟨W.heap.size, 0, none⟩) len len)) 78)).drew n len (W.heap.size + 1 + 1) (W.heap.size + 1) W.heap.size := by
  have hs := h.size
  refine ⟨((h.alloc _).alloc _).alloc _ |> Turn.drew, ?_, ?_, ?_, by omega, by omega, hs⟩
  · have := zH_blk ((W.alloc (.cells (madeCells #[.int .i64 0, .int .i64 0] (len * 2)) 67)).alloc (.cells (madeCells #[.int .u64 0] n) 33)) n len (W.heap.size + 1) W.heap.size
    simp only [World.size_alloc] at this
    exact this
  · have := (World.rowIs_made (W.alloc (.cells (madeCells #[.int .i64 0, .int .i64 0] (len * 2)) 67)) (.int .u64 0) n 33).alloc (.cells ((zH.setIfInBounds 0 (.slice (some ⟨W.heap.size + 1, 0, none⟩) n n)).setIfInBounds 1026 (.slice (some ⟨W.heap.size, 0, none⟩) len len)) 78)
    simp only [World.size_alloc] at this
    exact this
  · exact (((madeL W len).alloc _).alloc _)

theorem lays_src {w : World} {a : Option Addr} {len : Nat} {K N : Nat → Int} (h : Lays w a len K N) : 0 < len → ∃ b off, a = some ⟨b, off, none⟩ ∧ ∀ j, j < len * 2 → w.cell? ⟨b, off + j, none⟩ = some (.int .i64 (if j % 2 = 0 then K (j / 2) else N (j / 2))) := by
  intro hl
  obtain ⟨b, off, e, _, hc⟩ := h.at_ hl
  refine ⟨b, off, e, fun j hj => ?_⟩
  obtain ⟨h1, h2⟩ := hc (j / 2) (by omega)
  rcases Nat.mod_two_eq_zero_or_one j with hm | hm
  · rw [if_pos hm, ← h1]; congr 2; omega
  · rw [if_neg (by omega), ← h2]; congr 2; omega
def St.new (n len g gw gl : Nat) (K N : Nat → Int) : St := ⟨g, gw, gl, n, fun _ => 0, 0, fun _ => 0, len, K, N⟩
theorem new_end {w W w' : World} {K N : Nat → Int} (n len g gw gl : Nat) (h : n ≤ 65536) (hl : len ≤ 512) (hN : NewAt w W n len g gw gl)
    (hr : w'.rowIs gl 67 (len * 2) (fun j => .int .i64 (if j % 2 = 0 then K (j / 2) else N (j / 2)))) (ht : Turn (fun k => k = gl) W w') (hm : ∀ j, j < len → M.mayBe (K j) (N j) = true) :
    ∃ s : St, Ending.returned (.tuple #[.pointer (some ⟨g, 0, none⟩), .int .i64 0]) = .returned (.tuple #[s.ptr, .int .i64 0]) ∧ HpIs w' s ∧ Still w w' ∧ w.heap.size ≤ s.g ∧ w.heap.size ≤ s.gw ∧ w.heap.size ≤ s.gl ∧ s.n = n ∧ s.top = 0 ∧ (∀ i, s.ws i = 0) ∧ (∀ i, s.hx i = 0) ∧ s.m = len ∧ s.lk = K ∧ s.ln = N := by
  have n1 : g ≠ gl := HpIs.rowIs_ne hN.blk hN.lays (by decide)
  have n2 : gw ≠ gl := HpIs.rowIs_ne hN.words hN.lays (by decide)
  refine ⟨St.new n len g gw gl K N, rfl, ⟨?_, ?_, ?_, h, hl, Nat.zero_le _, fun _ => (by decide : 0 < 18446744073709551616), fun _ => (by decide : 0 < 18446744073709551616), fun i hi => ?_, fun i hi => ?_⟩, ?_, hN.g1, hN.g2, hN.g3, rfl, rfl, fun _ => rfl, fun _ => rfl, rfl, rfl, rfl⟩
  · refine (hN.blk.of_block (ht.block _ hN.blk.lt n1)).congr fun i hi => ?_
    unfold St.cell St.new
    rfl
  · exact hN.words.of_block (ht.block _ hN.words.lt n2)
  · exact hr
  · have := hm i hi
    simp only [M.mayBe, Bool.and_eq_true, Bool.or_eq_true, beq_iff_eq, decide_eq_true_eq] at this
    show K i = 1 ∨ K i = 2 ∨ K i = 3
    omega
  · have := hm i hi
    simp only [M.mayBe, Bool.and_eq_true, Bool.or_eq_true, beq_iff_eq, decide_eq_true_eq] at this
    exact ⟨this.1.2, this.2⟩
  · have hs := hN.still
    exact ⟨ht.os.trans hs.os, ht.tape.trans hs.tape, ht.output.trans hs.output, Nat.le_trans hs.size ht.size, fun k hk hn => (ht.block k (Nat.lt_of_lt_of_le hk hs.size) (fun e => by have := hN.g3; omega)).trans (hs.block k hk hn)⟩

set_option maxHeartbeats 2000000 in
theorem new_ok (n : Nat) (a : Option Addr) (len cap : Nat) (K N : Nat → Int) (w : World) (h : n ≤ 65536) (hl : len ≤ 512) (hL : Lays w a len K N) (hm0 : ∀ j, j < len → M.mayBe (K j) (N j) = true) :
    Calls Try.prog 23 #[.int .i64 n, .slice a len cap] w fun e w' => ∃ s : St, e = .returned (.tuple #[s.ptr, .int .i64 0]) ∧ HpIs w' s ∧ Still w w' ∧ w.heap.size ≤ s.g ∧ w.heap.size ≤ s.gw ∧ w.heap.size ≤ s.gl ∧ s.n = n ∧ s.top = 0 ∧ (∀ i, s.ws i = 0) ∧ (∀ i, s.hx i = 0) ∧ s.m = len ∧ s.lk = K ∧ s.ln = N := by
  have HL := Lib.hid hL
  have HM0 := Lib.hid hm0
  clear hL hm0
  go_enter Try.func23, Try.ntmps23
  go_wp2_with fail
  go_loopw [20] (fun i wr => ∃ k : Nat, k ≤ len ∧ i = .int .i64 k ∧ Still w wr) (fun i _ => len - (intOf i).toNat)
  case atStart => exact ⟨0, by omega, rfl, Still.refl _⟩
  case round =>
    obtain ⟨k, hk, rfl, ht⟩ := hrel
    by_cases hlt : k < len
    · obtain ⟨b, off, rfl, hbl, hc⟩ := (HL.out.still ht).at_ (by omega)
      obtain ⟨d0, d1⟩ := hc k hlt
      have HM := mayBe_any (K k) (N k)
      rw [HM0.out k hlt] at HM
      have HT := Lib.hid ht
      clear hc ht
      go_wp2_with fail
      refine (HM _).mono ?_; rintro e w1 ⟨rfl, t1⟩
      have HT1 := Lib.hid t1; clear t1
      go_wp2_with fail
      go_roundw
      case rel => exact ⟨k + 1, by omega, by go_num, (HT.out.alloc _).trans HT1.out⟩
      case measure => simp [intOf]; omega
    · obtain rfl : len = k := by omega
      have HT := Lib.hid ht
      clear ht
      have hmk1 := makeW n h
      have hmk2 := makeL len hl
      have hzz := (zero_of_info zeroHeap).1
      have hzs := zH_size
      have hze : ¬ zH = #[] := fun e => by rw [e] at hzs; simp at hzs
      go_wp2_with fail
      go_region
      · have hN := newAt1 n len HT.out
        generalize (((wr.alloc (.cells (madeCells #[.int .u64 0] n) 33)).alloc (.cells (madeCells #[.int .i64 0, .int .i64 0] (len * 2)) 67)).alloc (.cells ((zH.setIfInBounds 0 (.slice (some ⟨wr.heap.size, 0, none⟩) n n)).setIfInBounds 1026 (.slice (some ⟨wr.heap.size + 1, 0, none⟩) len len)) 78)).drew = W at hN ⊢
        generalize wr.heap.size + 1 + 1 = g at hN ⊢
        generalize wr.heap.size + 1 = gA at hN ⊢
        generalize wr.heap.size = gB at hN ⊢
        have c3 : W.cell? ⟨g, 1026, none⟩ = some (.slice (some ⟨gA, 0, none⟩) len len) := hN.blk.cell (i := 1026) (by omega)
        have HN := Lib.hid hN
        have HSRC : Hid (0 < len → ∃ b off, a = some ⟨b, off, none⟩ ∧ ∀ j, j < len * 2 → W.cell? ⟨b, off + j, none⟩ = some (.int .i64 (if j % 2 = 0 then K (j / 2) else N (j / 2)))) := lays_src (HL.out.still hN.still)
        clear hN hmk1 hmk2 hzz hzs hze
        go_wp2_with (refine wpList_copy_whole rfl (.tmp 38) (.tmp 39) 22 22 rfl 67 2 gA len a len cap 67 _ _ rfl rfl Try.underlying22 infoLay2 HN.out.lays HSRC.out (fun _ => rfl) ?_; intro w4 hr4 ht4)
        go_ret2
        exact new_end n len g gB gA h hl HN.out hr4.out ht4.out HM0.out
      · have hN := newAt2 n len HT.out
        generalize (((wr.alloc (.cells (madeCells #[.int .i64 0, .int .i64 0] (len * 2)) 67)).alloc (.cells (madeCells #[.int .u64 0] n) 33)).alloc (.cells ((zH.setIfInBounds 0 (.slice (some ⟨wr.heap.size + 1, 0, none⟩) n n)).setIfInBounds 1026 (.slice (some ⟨wr.heap.size, 0, none⟩) len len)) 78)).drew = W at hN ⊢
        generalize wr.heap.size + 1 + 1 = g at hN ⊢
        generalize wr.heap.size + 1 = gA at hN ⊢
        generalize wr.heap.size = gB at hN ⊢
        have c3 : W.cell? ⟨g, 1026, none⟩ = some (.slice (some ⟨gB, 0, none⟩) len len) := hN.blk.cell (i := 1026) (by omega)
        have HN := Lib.hid hN
        have HSRC : Hid (0 < len → ∃ b off, a = some ⟨b, off, none⟩ ∧ ∀ j, j < len * 2 → W.cell? ⟨b, off + j, none⟩ = some (.int .i64 (if j % 2 = 0 then K (j / 2) else N (j / 2)))) := lays_src (HL.out.still hN.still)
        clear hN hmk1 hmk2 hzz hzs hze
        go_wp2_with (refine wpList_copy_whole rfl (.tmp 38) (.tmp 39) 22 22 rfl 67 2 gB len a len cap 67 _ _ rfl rfl Try.underlying22 infoLay2 HN.out.lays HSRC.out (fun _ => rfl) ?_; intro w4 hr4 ht4)
        go_ret2
        exact new_end n len g gA gB h hl HN.out hr4.out ht4.out HM0.out
end Go.Proofs.Ythfkgkddklnnhaa
/- The document's examples are as it says: the contract of layer 2's 'lives'. -/
namespace Go.Proofs.Ythfkgkddklnnhaa
set_option linter.unusedVariables false
open Go.ChangeShapes Go.WideShapes Go.ChangeAt Go.RowKit
open M (W)

def exK (j : Nat) : Int := if j = 0 then 1 else 3
def exN (j : Nat) : Int := if j = 0 then 2 else 0
/-- The heap of the document's example, empty. -/
structure Ex (s : St) : Prop where
  n : s.n = 10
  m : s.m = 2
  lk : s.lk = exK
  ln : s.ln = exN
theorem Ex.more {s : St} (h : Ex s) (D x z : Nat) : Ex (s.more D x z) := ⟨h.n, h.m, h.lk, h.ln⟩
theorem Ex.need {s : St} (h : Ex s) : s.needE 0 2 = 0 ∧ s.need 0 2 = (3 : Nat) ∧ s.needE 1 9 = 0 ∧ s.need 1 9 = (3 : Nat) ∧ s.needE 0 1 = 1 ∧ s.zero 0 = 1 ∧ s.zero 1 = 0 := by
  unfold St.needE St.need St.zero St.kind St.len
  rw [h.m, h.lk, h.ln]
  decide
theorem Ex.alloc {s : St} {w : World} (h : Ex s) (hs : HpIs w s) (ht : s.top ≤ 7) : Calls Try.prog 27 #[s.ptr, .int .i64 0, .int .i64 2] w fun e w' => e = .returned (.tuple #[.int .i64 s.top, .int .i64 0]) ∧ HpIs w' (s.more 3 (M.hd 0 2 0 0).toNat 1) ∧ Turn (fun k => k = s.g ∨ k = s.gw) w w' := by
  obtain ⟨a, b, _, _, _, c, _⟩ := h.need
  have := alloc_ok s 0 2 3 w hs a b (by rw [h.n]; omega) (by omega)
  rw [c] at this
  exact this
theorem Ex.alloc9 {s : St} {w : World} (h : Ex s) (hs : HpIs w s) (ht : s.top ≤ 7) : Calls Try.prog 27 #[s.ptr, .int .i64 1, .int .i64 9] w fun e w' => e = .returned (.tuple #[.int .i64 s.top, .int .i64 0]) ∧ HpIs w' (s.more 3 (M.hd 1 9 0 0).toNat 0) ∧ Turn (fun k => k = s.g ∨ k = s.gw) w w' := by
  obtain ⟨_, _, a, b, _, _, c⟩ := h.need
  have := alloc_ok s 1 9 3 w hs a b (by rw [h.n]; omega) (by omega)
  rw [c] at this
  exact this
theorem Ex.alloc1 {s : St} {w : World} (h : Ex s) (hs : HpIs w s) : Calls Try.prog 27 #[s.ptr, .int .i64 0, .int .i64 1] w fun e w' => e = .returned (.tuple #[.int .i64 0, .int .i64 1]) ∧ Still w w' := by
  obtain ⟨_, _, _, _, a, _, _⟩ := h.need
  have := alloc_err s 0 1 w hs (by rw [a]; decide)
  rw [a] at this
  exact this
theorem Ex.allocF {s : St} {w : World} (h : Ex s) (hs : HpIs w s) (ht : s.top = 9) : Calls Try.prog 27 #[s.ptr, .int .i64 0, .int .i64 2] w fun e w' => e = .returned (.tuple #[.int .i64 0, .int .i64 3]) ∧ Still w w' := by
  obtain ⟨a, b, _⟩ := h.need
  exact alloc_full s 0 2 w hs a (by rw [b, h.n, ht]; decide)
def Ex.end (s : St) : St := ((s.more 3 (M.hd 0 2 0 0).toNat 1).more 3 (M.hd 1 9 0 0).toNat 0).more 3 (M.hd 0 2 0 0).toNat 1
theorem Ex.obAt {s : St} (h : Ex s) (ht : s.top = 0) (hw : ∀ i, s.ws i = 0) (hx : ∀ i, s.hx i = 0) : ObAt (Ex.end s) 0 ⟨0, 1, 2, 3⟩ ∧ (Ex.end s).fits 6 = true ∧ (Ex.end s).fits 8 = false := by
  have hkk : (Ex.end s).kind 0 = 1 ∧ (Ex.end s).len 0 = 2 := by
    unfold St.kind St.len Ex.end St.more
    simp only
    rw [h.m, h.lk, h.ln]
    decide
  have hws : (Ex.end s).ws 0 = (M.hd 0 2 0 0).toNat := by
    unfold Ex.end St.more
    simp only
    rw [ht]
    simp
  have hob : (Ex.end s).ob ((Ex.end s).ws 0) = ⟨0, 1, 2, 3⟩ := by
    unfold St.ob St.need
    rw [hws, show M.sh (((M.hd 0 2 0 0).toNat : Nat) : Int) = 0 by decide, show M.ln (((M.hd 0 2 0 0).toNat : Nat) : Int) = 2 by decide, hkk.1, hkk.2]
    rfl
  have hin : ∀ k : Int, M.inSet (Ex.end s).hx k = (decide (k = 6) || (decide (k = 3) || (decide (k = 0) || M.inSet s.hx k))) := by
    intro k
    unfold Ex.end St.more
    simp only
    rw [ht]
    rw [M.putIn_in _ _ (by decide), M.putIn_in _ _ (by decide), M.putIn_in _ _ (by decide)]
    rfl
  have h0 : ∀ k : Int, M.inSet s.hx k = false := by
    intro k
    unfold M.inSet
    rw [hx]; simp
  refine ⟨⟨?_, ?_, ?_, hob⟩, ?_, ?_⟩
  · show M.inSet (Ex.end s).hx 0 = true
    rw [hin]; simp
  · show 0 < s.n
    rw [h.n]; decide
  · unfold St.reads
    rw [hob]
    have : (Ex.end s).obE ((Ex.end s).ws 0) = 0 := by
      unfold St.obE St.needE
      rw [hws, show M.sh (((M.hd 0 2 0 0).toNat : Nat) : Int) = 0 by decide, show M.ln (((M.hd 0 2 0 0).toNat : Nat) : Int) = 2 by decide, hkk.1, hkk.2]
      rfl
    rw [this]
    show (decide ((0 : Int) = 0) && decide ((3 : Int) ≤ (s.n : Int) - 0)) = true
    rw [h.n]; decide
  · unfold St.fits M.fits
    rw [hin, h0]; decide
  · unfold St.fits M.fits
    rw [hin, h0]; decide

theorem ptr_3 (w : World) : Calls Try.prog 29 #[.int .i64 3] w fun e w' => e = .returned (.int .u64 6) ∧ w' = w := ptr_any 3 w
theorem ptr_4 (w : World) : Calls Try.prog 29 #[.int .i64 4] w fun e w' => e = .returned (.int .u64 8) ∧ w' = w := ptr_any 4 w
theorem Ex.set6 {s : St} {w : World} (h : Ex s) (ht : s.top = 0) (hw : ∀ i, s.ws i = 0) (hx : ∀ i, s.hx i = 0) (hs : HpIs w (Ex.end s)) : Calls Try.prog 28 #[s.ptr, .int .i64 0, .int .i64 1, .int .u64 6] w fun e w' => e = .returned (.int .i64 0) ∧ HpIs w' ((Ex.end s).put 2 6) ∧ Turn (fun k => k = s.gw) w w' := by
  obtain ⟨a, b, _⟩ := h.obAt ht hw hx
  exact set_ok (Ex.end s) 0 _ 1 6 w hs a (by decide) (by decide) (by decide) (by decide) b
theorem Ex.obAt2 {s : St} (h : Ex s) (ht : s.top = 0) (hw : ∀ i, s.ws i = 0) (hx : ∀ i, s.hx i = 0) : ObAt ((Ex.end s).put 2 6) 0 ⟨0, 1, 2, 3⟩ := by
  obtain ⟨⟨a, b, c, d⟩, _, _⟩ := h.obAt ht hw hx
  exact ⟨a, b, c, d⟩
theorem Ex.set8 {s : St} {w : World} (h : Ex s) (ht : s.top = 0) (hw : ∀ i, s.ws i = 0) (hx : ∀ i, s.hx i = 0) (hs : HpIs w ((Ex.end s).put 2 6)) : Calls Try.prog 28 #[s.ptr, .int .i64 0, .int .i64 1, .int .u64 8] w fun e w' => e = .returned (.int .i64 1) ∧ Still w w' := by
  obtain ⟨_, _, c⟩ := h.obAt ht hw hx
  exact set_unfit ((Ex.end s).put 2 6) 0 _ 1 8 w hs (h.obAt2 ht hw hx) (by decide) (by decide) (by decide) (by decide) c
theorem Ex.lays (w : World) : Lays (w.alloc (.cells #[.int .i64 1, .int .i64 2, .int .i64 3, .int .i64 0] 67)) (some ⟨w.heap.size, 0, none⟩) 2 exK exN :=
  ⟨fun _ => ⟨w.heap.size, 0, rfl, by simp, fun j hj => by
    have hb := Blk.new w 67 #[.int .i64 1, .int .i64 2, .int .i64 3, .int .i64 0]
    match j, hj with
    | 0, _ => exact ⟨hb.cell 0, hb.cell 1⟩
    | 1, _ => exact ⟨hb.cell 2, hb.cell 3⟩⟩⟩
theorem Ex.new (w : World) (cap : Nat) : Calls Try.prog 23 #[.int .i64 10, .slice (some ⟨w.heap.size, 0, none⟩) 2 cap] (w.alloc (.cells #[.int .i64 1, .int .i64 2, .int .i64 3, .int .i64 0] 67)) fun e w' =>
    ∃ s : St, e = .returned (.tuple #[s.ptr, .int .i64 0]) ∧ HpIs w' s ∧ Below w.heap.size w w' ∧ w.heap.size ≤ s.g ∧ w.heap.size ≤ s.gw ∧ Ex s ∧ s.top = 0 ∧ (∀ i, s.ws i = 0) ∧ (∀ i, s.hx i = 0) := by
  refine (new_ok 10 _ 2 cap exK exN _ (by decide) (by decide) (Ex.lays w) (by decide)).mono fun e w' ⟨s, h1, h2, h3, h4, h5, h6, h7, h8, h9, h10, h11, h12, h13⟩ => ⟨s, h1, h2, ?_, ?_, ?_, ⟨h7, h11, h12, h13⟩, h8, h9, h10⟩
  · exact ((Below.refl _ w).alloc (Nat.le_refl _) _).trans ((Still.below h3).mono (by simp))
  · simp at h4; omega
  · simp at h5; omega
theorem Turn.own {S : Nat → Prop} {w w' w0 : World} {B : Nat} (h : Turn S w w') (hb : Below B w0 w) (hB : B ≤ w0.heap.size) (hs : ∀ k, S k → B ≤ k) : Below B w0 w' := hb.trans (h.below (Nat.le_trans hB hb.size) hs)

set_option maxRecDepth 100000 in
set_option maxHeartbeats 2000000 in
theorem lives_any (w : World) : Calls Try.prog 7 #[] w fun e w' => e = .returned (.bool true) ∧ Below w.heap.size w w' := by
  go_enter Try.func7, Try.ntmps7
  go_wp2_with fail
  refine (Ex.new _ _).mono ?_; rintro e w1 ⟨s, rfl, h1, b1, g1, g2, hE, ht, hw, hx⟩
  have H1 := Lib.hid h1; have B1 := Lib.hid b1; have HW := Lib.hid hw; have HX := Lib.hid hx; have HE := Lib.hid hE; have HT := Lib.hid ht
  clear h1 b1 hw hx hE ht
  go_wp2_with fail
  refine (HE.out.alloc H1.out (by rw [HT.out]; decide)).mono ?_; rintro e w2 ⟨rfl, h2, t2⟩
  have H2 := Lib.hid h2; have B2 := Lib.hid (t2.own B1.out (Nat.le_refl _) (by rintro k (rfl | rfl) <;> assumption))
  clear h2 t2
  go_wp2_with fail
  refine ((HE.out.more _ _ _).alloc9 H2.out (by show s.top + 3 ≤ 7; rw [HT.out]; decide)).mono ?_; rintro e w3 ⟨rfl, h3, t3⟩
  have H3 := Lib.hid h3; have B3 := Lib.hid (t3.own B2.out (Nat.le_refl _) (by rintro k (rfl | rfl) <;> assumption))
  clear h3 t3
  go_wp2_with fail
  refine (((HE.out.more _ _ _).more _ _ _).alloc1 H3.out).mono ?_; rintro e w4 ⟨rfl, t4⟩
  have H4 := Lib.hid (H3.out.still t4); have B4 := Lib.hid (Turn.own t4 B3.out (Nat.le_refl _) (fun _ e => e.elim))
  clear t4
  go_wp2_with fail
  refine (((HE.out.more _ _ _).more _ _ _).alloc H4.out (by show s.top + 3 + 3 ≤ 7; rw [HT.out]; decide)).mono ?_; rintro e w5 ⟨rfl, h5, t5⟩
  have H5 := Lib.hid h5; have B5 := Lib.hid (t5.own B4.out (Nat.le_refl _) (by rintro k (rfl | rfl) <;> assumption))
  clear h5 t5
  go_wp2_with fail
  refine ((((HE.out.more _ _ _).more _ _ _).more _ _ _).allocF H5.out (by show s.top + 3 + 3 + 3 = 9; rw [HT.out])).mono ?_; rintro e w6 ⟨rfl, t6⟩
  have H6 := Lib.hid (H5.out.still t6); have B6 := Lib.hid (Turn.own t6 B5.out (Nat.le_refl _) (fun _ e => e.elim))
  clear t6
  have e0 : ((s.top : Int) == 0) = true := by rw [HT.out]; rfl
  have e3 : (((s.more 3 (M.hd 0 2 0 0).toNat 1).top : Int) == 3) = true := by show (((s.top + 3 : Nat) : Int) == 3) = true; rw [HT.out]; rfl
  have e6 : ((((s.more 3 (M.hd 0 2 0 0).toNat 1).more 3 (M.hd 1 9 0 0).toNat 0).top : Int) == 6) = true := by show (((s.top + 3 + 3 : Nat) : Int) == 6) = true; rw [HT.out]; rfl
  go_wp2_with fail
  refine (ptr_3 _).mono ?_; rintro e w6 ⟨rfl, rfl⟩
  go_wp2_with fail
  refine (HE.out.set6 HT.out HW.out HX.out H6.out).mono ?_; rintro e w7 ⟨rfl, h7, t7⟩
  have H7 := Lib.hid h7; have B7 := Lib.hid (t7.own B6.out (Nat.le_refl _) (by rintro k rfl; assumption))
  clear h7 t7
  go_wp2_with fail
  refine (ptr_4 _).mono ?_; rintro e w7 ⟨rfl, rfl⟩
  go_wp2_with fail
  refine (HE.out.set8 HT.out HW.out HX.out H7.out).mono ?_; rintro e w8 ⟨rfl, t8⟩
  have B8 := Lib.hid (Turn.own t8 B7.out (Nat.le_refl _) (fun _ e => e.elim))
  clear t8
  go_wp2_with fail
  go_ret
  exact ⟨rfl, B8.out⟩
end Go.Proofs.Ythfkgkddklnnhaa
/- Contracts of layer 2's bytes: octet, Byte, SetByte, where an object stands; Shape and Len. -/
namespace Go.Proofs.Ythfkgkddklnnhaa
set_option linter.unusedVariables false
open Go.ChangeShapes Go.WideShapes Go.ChangeAt Go.RowKit
open M (W)

theorem ObAt.in_b {s : St} {k : Nat} {o : Ob} (ho : ObAt s k o) (hk : o.kind = 3) {i : Nat} (hi : (i : Int) < o.n) (hn : s.n ≤ 65536) : k + 1 + i / 8 < s.n := by
  have h1 := ho.need_le
  have h2 := ho.need_eq.2.2
  rw [if_pos hk] at h2
  omega
theorem shape_ok (s : St) (k : Nat) (o : Ob) (w : World) (h : HpIs w s) (ho : ObAt s k o) : Calls Try.prog 40 #[s.ptr, .int .i64 k] w fun e w' => e = .returned (.tuple #[.int .i64 o.sh, .int .i64 0]) ∧ Still w w' := by
  have HO := object_at h ho
  unfold Ob.val at HO
  clear h ho
  go_enter Try.func40, Try.ntmps40
  go_wp2_with fail
  refine HO.mono ?_; rintro e w1 ⟨rfl, ht⟩
  have HT := Lib.hid ht; clear ht
  go_wp2_with fail
  go_ret2
  exact ⟨rfl, HT.out.alloc _⟩
theorem len_ok (s : St) (k : Nat) (o : Ob) (w : World) (h : HpIs w s) (ho : ObAt s k o) : Calls Try.prog 39 #[s.ptr, .int .i64 k] w fun e w' => e = .returned (.tuple #[.int .i64 o.n, .int .i64 0]) ∧ Still w w' := by
  have HO := object_at h ho
  unfold Ob.val at HO
  clear h ho
  go_enter Try.func39, Try.ntmps39
  go_wp2_with fail
  refine HO.mono ?_; rintro e w1 ⟨rfl, ht⟩
  have HT := Lib.hid ht; clear ht
  go_wp2_with fail
  go_ret2
  exact ⟨rfl, HT.out.alloc _⟩
set_option maxHeartbeats 1000000 in
theorem octet_ok (s : St) (k : Nat) (o : Ob) (i : Int) (w : World) (h : HpIs w s) (ho : ObAt s k o) (hk : o.kind = 3) (hi0 : 0 ≤ i) (hi : i < o.n) :
    Calls Try.prog 85 #[s.ptr, .int .i64 k, .int .i64 i] w fun e w' => e = .returned (.tuple #[.pointer (some ⟨s.gw, k + 1 + i.toNat / 8, none⟩), .int .i64 (i % 8 * 8)]) ∧ Still w w' := by
  have HO := object_at h ho
  obtain ⟨ha, hb, hc⟩ := ho.need_eq
  have hp := ho.in_b hk (i := i.toNat) (by omega) h.n_le
  have c0 := h.c0
  have hg := h.blk.lt
  have hnn := h.n_le
  unfold Ob.val at HO
  obtain ⟨p, hpe⟩ : ∃ p, k + 1 + i.toNat / 8 = p := ⟨_, rfl⟩
  have e1 : (k : Int) + 1 + i / 8 = (p : Int) := by omega
  rw [hpe] at hp ⊢
  have b0 : 0 ≤ i / 8 := by omega
  have b1 : i / 8 ≤ 8192 := by omega
  have m0 : 0 ≤ i % 8 := by omega
  have m1 : i % 8 ≤ 7 := by omega
  obtain ⟨osh, okind, on, oneed⟩ := o
  simp only at *
  subst hk
  have HH := Lib.hid h
  clear h ho hb hc hpe
  go_enter Try.func85, Try.ntmps85
  go_wp2_with fail
  refine HO.mono ?_; rintro e w1 ⟨rfl, ht⟩
  have c0' : w1.cell? ⟨s.g, 0, none⟩ = some (.slice (some ⟨s.gw, 0, none⟩) s.n s.n) := (HH.out.still ht).c0
  have hg' : s.g < w1.heap.size := (HH.out.still ht).blk.lt
  have HT := Lib.hid ht; clear ht c0
  go_wp2_with fail
  go_ret2
  exact ⟨rfl, HT.out.alloc _⟩
theorem octet_none (s : St) (k : Nat) (o : Ob) (i : Int) (w : World) (h : HpIs w s) (ho : ObAt s k o) (hi : o.kind ≠ 3 ∨ i < 0 ∨ o.n ≤ i) : NoOctet s.ptr k i w := by
  have HO := object_at h ho
  unfold Ob.val at HO
  unfold NoOctet
  obtain ⟨osh, okind, on, oneed⟩ := o
  simp only at *
  clear h ho
  by_cases hk : okind = 3
  · subst hk
    by_cases hi0 : i < 0
    · clear hi
      go_enter Try.func85, Try.ntmps85
      go_wp2_with fail
      refine HO.mono ?_; rintro e w1 ⟨rfl, ht⟩
      have HT := Lib.hid ht; clear ht
      go_wp2_with fail
      go_ret2
      exact ⟨rfl, HT.out.alloc _⟩
    · have hi1 : on ≤ i := by omega
      clear hi
      go_enter Try.func85, Try.ntmps85
      go_wp2_with fail
      refine HO.mono ?_; rintro e w1 ⟨rfl, ht⟩
      have HT := Lib.hid ht; clear ht
      go_wp2_with fail
      go_ret2
      exact ⟨rfl, HT.out.alloc _⟩
  · have hz : ((okind : Int) != 3) = true := by simpa using hk
    clear hi hk
    go_enter Try.func85, Try.ntmps85
    go_wp2_with fail
    refine HO.mono ?_; rintro e w1 ⟨rfl, ht⟩
    have HT := Lib.hid ht; clear ht
    go_wp2_with fail
    go_ret2
    exact ⟨rfl, HT.out.alloc _⟩

/-- A byte of a word; a word with another byte. -/
def M.byteOf (x j : Nat) : Nat := x / 2 ^ (j * 8) % 256
def M.setByteOf (x j c : Nat) : Nat := x - 2 ^ (j * 8) * (x / 2 ^ (j * 8) % 256) + 2 ^ (j * 8) * c
theorem byte_fin (x q j : Nat) (h : q = j * 8) : ((x : Int) / 2 ^ q % 256) = ((M.byteOf x j : Nat) : Int) := by
  subst h
  unfold M.byteOf
  have h2 : ((2 : Int) ^ (j * 8)) = ((2 ^ (j * 8) : Nat) : Int) := by simp
  rw [h2]; simp
theorem setByte_fin (x q j c : Nat) (h : q = j * 8) (hj : j < 8) (hx : x < 18446744073709551616) (hc : c < 256) : bits .or .u64 (bits .andNot .u64 (x : Int) (IntKind.u64.wrap (255 * 2 ^ q))) (IntKind.u64.wrap ((c : Int) * 2 ^ q)) = ((M.setByteOf x j c : Nat) : Int) := by
  have hp : 2 ^ q ≤ 2 ^ 56 := Nat.pow_le_pow_right (by decide) (by omega)
  have h2 : ((2 : Int) ^ q) = ((2 ^ q : Nat) : Int) := by simp
  have hw := M.with_int (x : Int) (c : Int) q 8 (by omega) (by omega) (by omega)
  have e1 : IntKind.u64.wrap (255 * 2 ^ q) = (((2 ^ 8 - 1) * 2 ^ q : Nat) : Int) := by
    rw [h2]; generalize 2 ^ q = Q at *; rw [IntKind.wrap_u64]; omega
  have e2 : IntKind.u64.wrap ((c : Int) * 2 ^ q) = ((2 ^ q : Nat) : Int) * ((c : Int) % ((2 ^ 8 : Nat) : Int)) := by
    rw [h2]
    have hm : (c : Int) % ((2 ^ 8 : Nat) : Int) = c := by omega
    rw [hm, Int.mul_comm, IntKind.wrap_u64]
    have : 2 ^ q * c < 18446744073709551616 := Nat.lt_of_lt_of_le (Nat.mul_lt_mul_of_le_of_lt hp hc (by decide)) (by decide)
    have h3 : ((2 ^ q : Nat) : Int) * (c : Int) = ((2 ^ q * c : Nat) : Int) := by simp
    rw [h3]
    generalize 2 ^ q * c = R at *
    omega
  rw [e1, e2, hw]
  subst h
  unfold M.put M.setByteOf
  have hle : 2 ^ (j * 8) * (x / 2 ^ (j * 8) % 256) ≤ x := Nat.le_trans (Nat.mul_le_mul_left _ (Nat.mod_le _ _)) (Nat.mul_div_le _ _)
  have hm : (c : Int) % ((2 ^ 8 : Nat) : Int) = c := by omega
  rw [hm, Int.natCast_add, Int.natCast_sub hle]
  simp
theorem setByteOf_lt (x j c : Nat) (hj : j < 8) (hx : x < 18446744073709551616) (hc : c < 256) : M.setByteOf x j c < 18446744073709551616 := by
  unfold M.setByteOf
  have e4 := M.split3 x (j * 8) 8
  have hlow : x % 2 ^ (j * 8) < 2 ^ (j * 8) := Nat.mod_lt _ (Nat.two_pow_pos _)
  have key : x - 2 ^ (j * 8) * (x / 2 ^ (j * 8) % 256) + 2 ^ (j * 8) * c = 2 ^ (j * 8 + 8) * (x / 2 ^ (j * 8 + 8)) + (2 ^ (j * 8) * c + x % 2 ^ (j * 8)) := by
    have : (2:Nat) ^ 8 = 256 := by decide
    rw [this] at e4
    omega
  rw [key]
  have hlt := M.lo_lt c (x % 2 ^ (j * 8)) (j * 8) 8 hc hlow
  have h64 : (2:Nat) ^ 64 = 18446744073709551616 := by decide
  have hq : x / 2 ^ (j * 8 + 8) < 2 ^ (64 - (j * 8 + 8)) := by
    rw [Nat.div_lt_iff_lt_mul (Nat.two_pow_pos _), ← Nat.pow_add]
    have : 64 - (j * 8 + 8) + (j * 8 + 8) = 64 := by omega
    rw [this, h64]; exact hx
  have hfin := M.lo_lt (x / 2 ^ (j * 8 + 8)) (2 ^ (j * 8) * c + x % 2 ^ (j * 8)) (j * 8 + 8) (64 - (j * 8 + 8)) hq hlt
  have : j * 8 + 8 + (64 - (j * 8 + 8)) = 64 := by omega
  rw [this, h64] at hfin
  exact hfin
set_option maxHeartbeats 1000000 in
theorem setByte_ok (s : St) (k : Nat) (o : Ob) (i c : Nat) (w : World) (h : HpIs w s) (ho : ObAt s k o) (hk : o.kind = 3) (hi : (i : Int) < o.n) (hc : c < 256) :
    Calls Try.prog 57 #[s.ptr, .int .i64 k, .int .i64 i, .int .u8 c] w fun e w' => e = .returned (.int .i64 0) ∧ HpIs w' (s.put (k + 1 + i / 8) (M.setByteOf (s.ws (k + 1 + i / 8)) (i % 8) c)) ∧ Turn (fun k => k = s.gw) w w' := by
  have HF := octet_ok s k o i w h ho hk (by omega) hi
  rw [Int.toNat_natCast] at HF
  have hp := ho.in_b hk hi h.n_le
  have hgw := h.words.lt
  have HH := Lib.hid h
  have hx := h.ws_lt (k + 1 + i / 8)
  clear ho hk hi h
  generalize k + 1 + i / 8 = p at *
  obtain ⟨j, hj⟩ : ∃ j, j = i % 8 := ⟨_, rfl⟩
  have hj8 : j < 8 := by omega
  obtain ⟨q, hq⟩ : ∃ q : Nat, (i : Int) % 8 * 8 = q := ⟨j * 8, by omega⟩
  have hqj : q = j * 8 := by omega
  rw [hq] at HF
  rw [← hj]
  have q0 : q < 64 := by omega
  have HV := Lib.hid (setByte_fin (s.ws p) q j c hqj hj8 hx hc)
  have HVL := Lib.hid (setByteOf_lt (s.ws p) j c hj8 hx hc)
  clear hq hj hqj
  go_enter Try.func57, Try.ntmps57
  go_wp2_with fail
  refine HF.mono ?_; rintro e w1 ⟨rfl, ht⟩
  have cw' : w1.cell? ⟨s.gw, p, none⟩ = some (.int .u64 (s.ws p)) := (HH.out.still ht).cw p hp
  have cf' : w1.frozen? ⟨s.gw, p, none⟩ = false := (HH.out.still ht).words.frozen p
  have HT := Lib.hid ht; clear ht
  go_wp2_with fail
  go_region
  all_goals
    go_wp2_with fail
    go_ret
    refine ⟨rfl, ?_, ?_⟩
    · rw [HV.out]
      exact (((HH.out.still HT.out).setWord p _ _ rfl HVL.out).drewN 1)
    · exact ((Still.turn (S := fun k => k = s.gw) HT.out).setCell (fun _ => rfl) _).drew
end Go.Proofs.Ythfkgkddklnnhaa
