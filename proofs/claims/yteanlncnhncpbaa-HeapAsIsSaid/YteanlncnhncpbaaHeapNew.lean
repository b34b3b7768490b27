/- The contract of layer 2's New. -/
import Derived.Test.YteanlncnhncpbaaHeapSet
namespace Go.Proofs.Yteanlncnhncpbaa
set_option linter.unusedVariables false
open Go.ChangeShapes Go.WideShapes Go.ChangeAt Go.RowKit
open M (W)

def M.mayBe (K N : Int) : Bool := (K == 1 || K == 2 || K == 3) && decide (0 ≤ N) && decide (N ≤ 65536)
theorem mayBe_any (K N : Int) (w : World) : Calls Try.prog 80 #[.agg #[.int .i64 K, .int .i64 N]] w fun e w' => e = .returned (.bool (M.mayBe K N)) ∧ Still w w' := by
  have fin : ∀ b, M.mayBe K N = b → (Ending.returned (.bool b) = .returned (.bool (M.mayBe K N)) ∧ Still w (w.alloc (.cells #[.int .i64 K, .int .i64 N] 83))) := fun b hb => by rw [hb]; exact ⟨rfl, (Turn.refl _ _).alloc _⟩
  have FIN := Lib.hid fin
  clear fin
  by_cases hK : K = 1 ∨ K = 2 ∨ K = 3
  · by_cases h0 : 0 ≤ N
    · by_cases h1 : N ≤ 65536
      · rcases hK with rfl | rfl | rfl
        all_goals
          go_enter Try.func80, Try.ntmps80
          go_wp2
          go_ret
          exact FIN.out true (by simp [M.mayBe, h0, h1])
      · rcases hK with rfl | rfl | rfl
        all_goals
          go_enter Try.func80, Try.ntmps80
          go_wp2
          go_ret
          exact FIN.out false (by simp [M.mayBe]; omega)
    · rcases hK with rfl | rfl | rfl
      all_goals
        go_enter Try.func80, Try.ntmps80
        go_wp2
        go_ret
        exact FIN.out false (by simp [M.mayBe]; omega)
  · have h1 : ((K : Int) == 1) = false := by simp; omega
    have h2 : ((K : Int) == 2) = false := by simp; omega
    have h3 : ((K : Int) == 3) = false := by simp; omega
    clear hK
    go_enter Try.func80, Try.ntmps80
    go_wp2
    go_ret
    exact FIN.out false (by simp [M.mayBe, h1, h2, h3])

/-- A row of layouts that came in: their kinds and numbers. -/
structure Lays (w : World) (a : Option Addr) (len : Nat) (K N : Nat → Int) : Prop where
  at_ : 0 < len → ∃ b off, a = some ⟨b, off, none⟩ ∧ b < w.heap.size ∧ ∀ j, j < len → w.cell? ⟨b, off + j * 2, none⟩ = some (.int .i64 (K j)) ∧ w.cell? ⟨b, off + j * 2 + 1, none⟩ = some (.int .i64 (N j))
theorem Lays.still {w w' : World} {a : Option Addr} {len : Nat} {K N : Nat → Int} (h : Lays w a len K N) (t : Still w w') : Lays w' a len K N :=
  ⟨fun hl => by
    obtain ⟨b, off, e, hb, hc⟩ := h.at_ hl
    exact ⟨b, off, e, Nat.lt_of_lt_of_le hb t.size, fun j hj => ⟨by rw [t.cell hb]; exact (hc j hj).1, by rw [t.cell hb]; exact (hc j hj).2⟩⟩⟩
/-- The error of New. -/
def M.newE (n : Int) (len : Nat) (K N : Nat → Int) : Int := if n < 0 ∨ 65536 < n then 1 else if 512 < len then 2 else if ∀ j, j < len → M.mayBe (K j) (N j) = true then 0 else 1

theorem new_arg (n : Int) (a : Option Addr) (len cap : Nat) (w : World) (h : n < 0 ∨ 65536 < n) : Calls Try.prog 46 #[.int .i64 n, .slice a len cap] w fun e w' => e = .returned (.tuple #[.pointer none, .int .i64 1]) ∧ w' = w := by
  by_cases h0 : n < 0
  · clear h
    go_enter Try.func46, Try.ntmps46
    go_wp2
    go_ret2
    exact ⟨rfl, rfl⟩
  · have h1 : 65536 < n := by omega
    clear h
    go_enter Try.func46, Try.ntmps46
    go_wp2
    go_ret2
    exact ⟨rfl, rfl⟩
theorem new_big (n : Nat) (a : Option Addr) (len cap : Nat) (w : World) (h : n ≤ 65536) (hl : 512 < len) : Calls Try.prog 46 #[.int .i64 n, .slice a len cap] w fun e w' => e = .returned (.tuple #[.pointer none, .int .i64 2]) ∧ w' = w := by
  go_enter Try.func46, Try.ntmps46
  go_wp2
  go_ret2
  exact ⟨rfl, rfl⟩

set_option maxHeartbeats 1000000 in
theorem new_bad (n : Nat) (a : Option Addr) (len cap : Nat) (K N : Nat → Int) (w : World) (h : n ≤ 65536) (hl : len ≤ 512) (hL : Lays w a len K N) (hb : ¬ ∀ j, j < len → M.mayBe (K j) (N j) = true) :
    Calls Try.prog 46 #[.int .i64 n, .slice a len cap] w fun e w' => e = .returned (.tuple #[.pointer none, .int .i64 1]) ∧ Still w w' := by
  have HB := Lib.hid hb
  have HL := Lib.hid hL
  clear hb hL
  go_enter Try.func46, Try.ntmps46
  go_wp2_with fail
  go_loopw [20] (fun i wr => ∃ k : Nat, k ≤ len ∧ i = .int .i64 k ∧ Still w wr ∧ ∀ j, j < k → M.mayBe (K j) (N j) = true) (fun i _ => len - (intOf i).toNat)
  case atStart => exact ⟨0, by omega, rfl, Still.refl _, fun j hj => by omega⟩
  case round =>
    obtain ⟨k, hk, rfl, ht, hm⟩ := hrel
    by_cases hlt : k < len
    · obtain ⟨b, off, rfl, hbl, hc⟩ := (HL.out.still ht).at_ (by omega)
      obtain ⟨d0, d1⟩ := hc k hlt
      have HM := mayBe_any (K k) (N k)
      have HT := Lib.hid ht
      have HMM := Lib.hid hm
      clear hc ht hm
      by_cases hmk : M.mayBe (K k) (N k) = true
      · rw [hmk] at HM
        have HK := Lib.hid hmk
        clear hmk
        go_wp2_with fail
        refine (HM _).mono ?_; rintro e w1 ⟨rfl, t1⟩
        have HT1 := Lib.hid t1; clear t1
        go_wp2_with fail
        go_roundw
        case rel => exact ⟨k + 1, by omega, by go_num, (HT.out.alloc _).trans HT1.out, fun j hj => by
          rcases Nat.lt_or_ge j k with h | h
          · exact HMM.out j h
          · obtain rfl : j = k := by omega
            exact HK.out⟩
        case measure => simp [intOf]; omega
      · simp only [Bool.not_eq_true] at hmk
        rw [hmk] at HM
        clear hmk
        go_wp2_with fail
        refine (HM _).mono ?_; rintro e w1 ⟨rfl, t1⟩
        have HT1 := Lib.hid t1; clear t1
        go_wp2_with fail
        go_ret2
        exact ⟨rfl, (HT.out.alloc _).trans HT1.out⟩
    · exact absurd (fun j hj => hm j (by omega)) HB.out

def hz (i : Nat) : Value := if i = 0 then .slice none 0 0 else if i = 1 then .int .i64 0 else if i = 1026 then .slice none 0 0 else .int .u64 0
def zH : Array Value := ((List.range 1027).map hz).toArray
theorem zH_size : zH.size = 1027 := by unfold zH; simp
theorem zH_at (i : Nat) (hi : i < 1027) : zH[i]? = some (hz i) := by unfold zH; simp [hi]
set_option maxRecDepth 100000 in
theorem zeroHeap : (Try.prog.info? 99).map (fun i => (i.zero, i.size)) = some (some (.agg zH), 1027) := by kernel_rfl
theorem infoLay : (Try.prog.info? 83).map (fun i => (i.zero, i.size, i.bytes)) = some (some (.agg #[.int .i64 0, .int .i64 0]), 2, 16) := by kernel_rfl
theorem infoW : (Try.prog.info? 30).map (fun i => (i.zero, i.size, i.bytes)) = some (some (.int .u64 0), 1, 8) := by kernel_rfl

theorem makeW (n : Nat) (h : n ≤ 65536) : ∀ W, (Instr.makeSlice 37 (.int .i64 (n : Int)) (.int .i64 (n : Int))).run Try.prog W = .ok (.slice (some ⟨W.heap.size, 0, none⟩) n n) (W.alloc (.cells (madeCells #[.int .u64 0] n) 30)) :=
  fun W => run_make_row' _ _ _ 8 Try.underlying37 infoW rfl .i64 .i64 n (by omega) (by omega) W
theorem makeL (n : Nat) (h : n ≤ 512) : ∀ W, (Instr.makeSlice 22 (.int .i64 (n : Int)) (.int .i64 (n : Int))).run Try.prog W = .ok (.slice (some ⟨W.heap.size, 0, none⟩) n n) (W.alloc (.cells (madeCells #[.int .i64 0, .int .i64 0] (n * 2)) 83)) := by
  intro W
  obtain ⟨i, hi, hzz⟩ := Option.map_eq_some_iff.1 infoLay
  simp only [Prod.mk.injEq] at hzz
  obtain ⟨hz, hs, hb⟩ := hzz
  have hr := run_make (P := Try.prog) W 22 83 i _ Try.underlying22 hi hz .i64 .i64 n n (by omega) (by omega) (by rw [hb]; omega) (by omega)
  simp only [Int.toNat_natCast, hs] at hr
  exact hr
theorem run_copy_whole {P : Program} (w : World) (dT sT ty elem : TypeId) (size g dCap : Nat) (a : Option Addr) (len cap : Nat) (t : TypeId) (f old : Nat → Value)
    (hu : P.underlying dT = some (.slice elem)) (hs : (P.info? elem).map (·.size) = some size) (hr : w.rowIs g t (len * size) old)
    (hsrc : 0 < len → ∃ b off, a = some ⟨b, off, none⟩ ∧ ∀ j, j < len * size → w.cell? ⟨b, off + j, none⟩ = some (f j)) (h1 : ∀ i, (f i).oneCell' = true) :
    ∃ w', (Builtin.copy_ #[dT, sT] ty #[.slice (some ⟨g, 0, none⟩) len dCap, .slice a len cap]).run P w = .ok (goInt len) w' ∧ w'.rowIs g t (len * size) f ∧ Turn (fun k => k = g) w w' := by
  cases hq : P.info? elem with
  | none => simp [hq] at hs
  | some i =>
    have hi : i.size = size := by simpa [hq] using hs
    rcases Nat.eq_zero_or_pos len with rfl | hl
    · have hl : ∀ (x : Addr), (loadCells x 0).run P w = .ok #[] w := fun x => by simpa using run_loadCells_list (P := P) w x [] (by simp)
      refine ⟨w, ?_, hr.congr fun i hi => by omega, Turn.refl _ _⟩
      cases a <;> simp [Builtin.copy_, run_underlying hu, Builtin.lenOf, Builtin.firstCells, sizeOf, typeInfo, hq, storeCells, hl]
    · obtain ⟨b, off, rfl, hc⟩ := hsrc hl
      obtain ⟨c, hb, hn, hcc⟩ := hr
      have hlen : ((List.range (len * size)).map f).length = len * size := by simp
      have hload := run_loadCells_list (P := P) w ⟨b, off, none⟩ ((List.range (len * size)).map f) (by
        intro j v hj
        simp only [List.getElem?_map, Option.map_eq_some_iff] at hj
        obtain ⟨j', hj', rfl⟩ := hj
        obtain ⟨hlt, rfl⟩ := List.getElem?_eq_some_iff.1 hj'
        simp at hlt
        simp only [List.getElem_range]
        rw [Addr.add_lit]
        exact hc j hlt)
      have hst := run_storeCells_at P g 0 t ((List.range (len * size)).map f) 0 c w hb (by simp [hn]) (by
        intro v hv
        obtain ⟨j, _, rfl⟩ := List.mem_map.1 hv
        exact h1 _)
      rw [hlen] at hload
      have hmin : Nat.min len len = len := Nat.min_self len
      refine ⟨w.setRow g (c.toList.take (0 + 0) ++ (List.range (len * size)).map f ++ c.toList.drop (0 + 0 + ((List.range (len * size)).map f).length)).toArray, ?_, ?_, ?_⟩
      · simp [Builtin.copy_, run_underlying hu, Builtin.lenOf, Builtin.firstCells, sizeOf, typeInfo, hq, hi, hload, hst, hmin]
      · refine ⟨_, setRow_heap w g c _ t (0, 0) hb, by simp [hn], fun i hi => ?_⟩
        simp only [List.getElem?_toArray, Nat.add_zero, List.take_zero, List.nil_append]
        rw [List.getElem?_append_left (by simpa using hi)]
        simp [hi]
      · exact (Turn.refl (fun k => k = g) w).setRow (fun _ => rfl) _
theorem wpList_copy_whole {P : Program} {w : World} {ops : Array Oper} {rest : List Oper} {o : Oper} {a : Act} {Q : Exit → Act → World → Prop} (hgd : o.guard = none) (d s : Operand) (dT sT : TypeId)
    (ho : o.op = .call { callee := .builtin .copy, args := #[d, s], argTypes := #[dT, sT] }) (elem : TypeId) (size g dCap : Nat) (x : Option Addr) (len cap : Nat) (t : TypeId) (f old : Nat → Value)
    (hd : a.eval d = .slice (some ⟨g, 0, none⟩) len dCap) (hs : a.eval s = .slice x len cap)
    (hu : P.underlying dT = some (.slice elem)) (hsz : (P.info? elem).map (·.size) = some size) (hr : w.rowIs g t (len * size) old)
    (hsrc : 0 < len → ∃ b off, x = some ⟨b, off, none⟩ ∧ ∀ j, j < len * size → w.cell? ⟨b, off + j, none⟩ = some (f j)) (h1 : ∀ i, (f i).oneCell' = true)
    (h : ∀ w', Hid (w'.rowIs g t (len * size) f) → Hid (Turn (fun k => k = g) w w') → wpList P ops Q rest (a.put o.dst (goInt len)) w') : wpList P ops Q (o :: rest) a w := by
  refine wpList_plain hgd fun K hK => ?_
  obtain ⟨w', hrun, h2, h3⟩ := run_copy_whole (P := P) w dT sT o.type elem size g dCap x len cap t f old hu hsz hr hsrc h1
  unfold Oper.wp
  simp [execOp, ho, resolve, invoke, builtin, hd, hs, hrun, Result.andThen]
  exact hK _ _ (h w' h2 h3)
theorem infoLay2 : (Try.prog.info? 83).map (·.size) = some 2 := by kernel_rfl

/-- What New makes, ahead of the layouts: a struct, a row of words, a row of layouts. -/
structure NewAt (w W : World) (n len g gw gl : Nat) : Prop where
  still : Still w W
  blk : W.rowIs g 99 1027 (fun i => if i = 0 then .slice (some ⟨gw, 0, none⟩) n n else if i = 1 then .int .i64 0 else if i = 1026 then .slice (some ⟨gl, 0, none⟩) len len else .int .u64 0)
  words : W.rowIs gw 30 n (fun _ => .int .u64 0)
  lays : W.rowIs gl 83 (len * 2) (fun _ => .int .i64 0)
  g1 : w.heap.size ≤ g
  g2 : w.heap.size ≤ gw
  g3 : w.heap.size ≤ gl
theorem zH_blk (W : World) (n len gw gl : Nat) : (W.alloc (.cells ((zH.setIfInBounds 0 (.slice (some ⟨gw, 0, none⟩) n n)).setIfInBounds 1026 (.slice (some ⟨gl, 0, none⟩) len len)) 99)).rowIs W.heap.size 99 1027
    (fun i => if i = 0 then .slice (some ⟨gw, 0, none⟩) n n else if i = 1 then .int .i64 0 else if i = 1026 then .slice (some ⟨gl, 0, none⟩) len len else .int .u64 0) := by
  refine ⟨_, heap_alloc_new W _, by simp [zH_size], fun i hi => ?_⟩
  rw [Array.getElem?_setIfInBounds, Array.getElem?_setIfInBounds]
  by_cases e3 : i = 1026
  · subst e3; simp [zH_size]
  · have e3' : ¬ 1026 = i := fun e => e3 e.symm
    rw [if_neg e3']
    by_cases e0 : i = 0
    · subst e0; simp [zH_size]
    · have e0' : ¬ 0 = i := fun e => e0 e.symm
      rw [if_neg e0', zH_at i hi]
      unfold hz
      simp only [e0, e3, if_false]
theorem madeL (W : World) (n : Nat) : (W.alloc (.cells (madeCells #[.int .i64 0, .int .i64 0] (n * 2)) 83)).rowIs W.heap.size 83 (n * 2) (fun _ => .int .i64 0) := by
  refine ⟨_, heap_alloc_new W _, size_madeCells _ _, fun i hi => ?_⟩
  simp only [madeCells, Array.getElem?_map]
  rcases Nat.mod_two_eq_zero_or_one i with h | h <;> simp [hi, h]
theorem newAt1 {w W : World} (n len : Nat) (h : Still w W) : NewAt w (((W.alloc (.cells (madeCells #[.int .u64 0] n) 30)).alloc (.cells (madeCells #[.int .i64 0, .int .i64 0] (len * 2)) 83)).alloc
    (.cells ((zH.setIfInBounds 0 (.slice (some ⟨W.heap.size, 0, none⟩) n n)).setIfInBounds 1026 (.slice (some ⟨W.heap.size + 1, 0, none⟩) len len)) 99)).drew n len (W.heap.size + 1 + 1) W.heap.size (W.heap.size + 1) := by
  have hs := h.size
  refine ⟨((h.alloc _).alloc _).alloc _ |> Turn.drew, ?_, ?_, ?_, by omega, hs, by omega⟩
  · have := zH_blk ((W.alloc (.cells (madeCells #[.int .u64 0] n) 30)).alloc (.cells (madeCells #[.int .i64 0, .int .i64 0] (len * 2)) 83)) n len W.heap.size (W.heap.size + 1)
    simp only [World.size_alloc] at this
    exact this
  · exact (((World.rowIs_made W (.int .u64 0) n 30).alloc _).alloc _)
  · have := (madeL (W.alloc (.cells (madeCells #[.int .u64 0] n) 30)) len).alloc (.cells ((zH.setIfInBounds 0 (.slice (some ⟨W.heap.size, 0, none⟩) n n)).setIfInBounds 1026 (.slice (some ⟨W.heap.size + 1, 0, none⟩) len len)) 99)
    simp only [World.size_alloc] at this
    exact this
theorem newAt2 {w W : World} (n len : Nat) (h : Still w W) : NewAt w (((W.alloc (.cells (madeCells #[.int .i64 0, .int .i64 0] (len * 2)) 83)).alloc (.cells (madeCells #[.int .u64 0] n) 30)).alloc
    (.cells ((zH.setIfInBounds 0 (.slice (some ⟨W.heap.size + 1, 0, none⟩) n n)).setIfInBounds 1026 (.slice (some ⟨W.heap.size, 0, none⟩) len len)) 99)).drew n len (W.heap.size + 1 + 1) (W.heap.size + 1) W.heap.size := by
  have hs := h.size
  refine ⟨((h.alloc _).alloc _).alloc _ |> Turn.drew, ?_, ?_, ?_, by omega, by omega, hs⟩
  · have := zH_blk ((W.alloc (.cells (madeCells #[.int .i64 0, .int .i64 0] (len * 2)) 83)).alloc (.cells (madeCells #[.int .u64 0] n) 30)) n len (W.heap.size + 1) W.heap.size
    simp only [World.size_alloc] at this
    exact this
  · have := (World.rowIs_made (W.alloc (.cells (madeCells #[.int .i64 0, .int .i64 0] (len * 2)) 83)) (.int .u64 0) n 30).alloc (.cells ((zH.setIfInBounds 0 (.slice (some ⟨W.heap.size + 1, 0, none⟩) n n)).setIfInBounds 1026 (.slice (some ⟨W.heap.size, 0, none⟩) len len)) 99)
    simp only [World.size_alloc] at this
    exact this
  · exact (((madeL W len).alloc _).alloc _)

theorem lays_src {w : World} {a : Option Addr} {len : Nat} {K N : Nat → Int} (h : Lays w a len K N) : 0 < len → ∃ b off, a = some ⟨b, off, none⟩ ∧ ∀ j, j < len * 2 → w.cell? ⟨b, off + j, none⟩ = some (.int .i64 (if j % 2 = 0 then K (j / 2) else N (j / 2))) := by
  intro hl
  obtain ⟨b, off, e, _, hc⟩ := h.at_ hl
  refine ⟨b, off, e, fun j hj => ?_⟩
  obtain ⟨h1, h2⟩ := hc (j / 2) (by omega)
  rcases Nat.mod_two_eq_zero_or_one j with hm | hm
  · rw [if_pos hm, ← h1]; congr 2; omega
  · rw [if_neg (by omega), ← h2]; congr 2; omega
def St.new (n len g gw gl : Nat) (K N : Nat → Int) : St := ⟨g, gw, gl, n, fun _ => 0, 0, fun _ => 0, len, K, N⟩
theorem new_end {w W w' : World} {K N : Nat → Int} (n len g gw gl : Nat) (h : n ≤ 65536) (hl : len ≤ 512) (hN : NewAt w W n len g gw gl)
    (hr : w'.rowIs gl 83 (len * 2) (fun j => .int .i64 (if j % 2 = 0 then K (j / 2) else N (j / 2)))) (ht : Turn (fun k => k = gl) W w') (hm : ∀ j, j < len → M.mayBe (K j) (N j) = true) :
    ∃ s : St, Ending.returned (.tuple #[.pointer (some ⟨g, 0, none⟩), .int .i64 0]) = .returned (.tuple #[s.ptr, .int .i64 0]) ∧ HpIs w' s ∧ Still w w' ∧ w.heap.size ≤ s.g ∧ w.heap.size ≤ s.gw ∧ w.heap.size ≤ s.gl ∧ s.n = n ∧ s.top = 0 ∧ (∀ i, s.ws i = 0) ∧ (∀ i, s.hx i = 0) ∧ s.m = len ∧ s.lk = K ∧ s.ln = N := by
  have n1 : g ≠ gl := HpIs.rowIs_ne hN.blk hN.lays (by decide)
  have n2 : gw ≠ gl := HpIs.rowIs_ne hN.words hN.lays (by decide)
  refine ⟨St.new n len g gw gl K N, rfl, ⟨?_, ?_, ?_, h, hl, Nat.zero_le _, fun _ => (by decide : 0 < 18446744073709551616), fun _ => (by decide : 0 < 18446744073709551616), fun i hi => ?_, fun i hi => ?_⟩, ?_, hN.g1, hN.g2, hN.g3, rfl, rfl, fun _ => rfl, fun _ => rfl, rfl, rfl, rfl⟩
  · refine (hN.blk.of_block (ht.block _ hN.blk.lt n1)).congr fun i hi => ?_
    unfold St.cell St.new
    rfl
  · exact hN.words.of_block (ht.block _ hN.words.lt n2)
  · exact hr
  · have := hm i hi
    simp only [M.mayBe, Bool.and_eq_true, Bool.or_eq_true, beq_iff_eq, decide_eq_true_eq] at this
    show K i = 1 ∨ K i = 2 ∨ K i = 3
    omega
  · have := hm i hi
    simp only [M.mayBe, Bool.and_eq_true, Bool.or_eq_true, beq_iff_eq, decide_eq_true_eq] at this
    exact ⟨this.1.2, this.2⟩
  · have hs := hN.still
    exact ⟨ht.os.trans hs.os, ht.tape.trans hs.tape, ht.output.trans hs.output, Nat.le_trans hs.size ht.size, fun k hk hn => (ht.block k (Nat.lt_of_lt_of_le hk hs.size) (fun e => by have := hN.g3; omega)).trans (hs.block k hk hn)⟩

set_option maxHeartbeats 2000000 in
theorem new_ok (n : Nat) (a : Option Addr) (len cap : Nat) (K N : Nat → Int) (w : World) (h : n ≤ 65536) (hl : len ≤ 512) (hL : Lays w a len K N) (hm0 : ∀ j, j < len → M.mayBe (K j) (N j) = true) :
    Calls Try.prog 46 #[.int .i64 n, .slice a len cap] w fun e w' => ∃ s : St, e = .returned (.tuple #[s.ptr, .int .i64 0]) ∧ HpIs w' s ∧ Still w w' ∧ w.heap.size ≤ s.g ∧ w.heap.size ≤ s.gw ∧ w.heap.size ≤ s.gl ∧ s.n = n ∧ s.top = 0 ∧ (∀ i, s.ws i = 0) ∧ (∀ i, s.hx i = 0) ∧ s.m = len ∧ s.lk = K ∧ s.ln = N := by
  have HL := Lib.hid hL
  have HM0 := Lib.hid hm0
  clear hL hm0
  go_enter Try.func46, Try.ntmps46
  go_wp2_with fail
  go_loopw [20] (fun i wr => ∃ k : Nat, k ≤ len ∧ i = .int .i64 k ∧ Still w wr) (fun i _ => len - (intOf i).toNat)
  case atStart => exact ⟨0, by omega, rfl, Still.refl _⟩
  case round =>
    obtain ⟨k, hk, rfl, ht⟩ := hrel
    by_cases hlt : k < len
    · obtain ⟨b, off, rfl, hbl, hc⟩ := (HL.out.still ht).at_ (by omega)
      obtain ⟨d0, d1⟩ := hc k hlt
      have HM := mayBe_any (K k) (N k)
      rw [HM0.out k hlt] at HM
      have HT := Lib.hid ht
      clear hc ht
      go_wp2_with fail
      refine (HM _).mono ?_; rintro e w1 ⟨rfl, t1⟩
      have HT1 := Lib.hid t1; clear t1
      go_wp2_with fail
      go_roundw
      case rel => exact ⟨k + 1, by omega, by go_num, (HT.out.alloc _).trans HT1.out⟩
      case measure => simp [intOf]; omega
    · obtain rfl : len = k := by omega
      have HT := Lib.hid ht
      clear ht
      have hmk1 := makeW n h
      have hmk2 := makeL len hl
      have hzz := (zero_of_info zeroHeap).1
      have hzs := zH_size
      have hze : ¬ zH = #[] := fun e => by rw [e] at hzs; simp at hzs
      go_wp2_with fail
      go_region
      · have hN := newAt1 n len HT.out
        generalize (((wr.alloc (.cells (madeCells #[.int .u64 0] n) 30)).alloc (.cells (madeCells #[.int .i64 0, .int .i64 0] (len * 2)) 83)).alloc (.cells ((zH.setIfInBounds 0 (.slice (some ⟨wr.heap.size, 0, none⟩) n n)).setIfInBounds 1026 (.slice (some ⟨wr.heap.size + 1, 0, none⟩) len len)) 99)).drew = W at hN ⊢
        generalize wr.heap.size + 1 + 1 = g at hN ⊢
        generalize wr.heap.size + 1 = gA at hN ⊢
        generalize wr.heap.size = gB at hN ⊢
        have c3 : W.cell? ⟨g, 1026, none⟩ = some (.slice (some ⟨gA, 0, none⟩) len len) := hN.blk.cell (i := 1026) (by omega)
        have HN := Lib.hid hN
        have HSRC : Hid (0 < len → ∃ b off, a = some ⟨b, off, none⟩ ∧ ∀ j, j < len * 2 → W.cell? ⟨b, off + j, none⟩ = some (.int .i64 (if j % 2 = 0 then K (j / 2) else N (j / 2)))) := lays_src (HL.out.still hN.still)
        clear hN hmk1 hmk2 hzz hzs hze
        go_wp2_with (refine wpList_copy_whole rfl (.tmp 38) (.tmp 39) 22 22 rfl 83 2 gA len a len cap 83 _ _ rfl rfl Try.underlying22 infoLay2 HN.out.lays HSRC.out (fun _ => rfl) ?_; intro w4 hr4 ht4)
        go_ret2
        exact new_end n len g gB gA h hl HN.out hr4.out ht4.out HM0.out
      · have hN := newAt2 n len HT.out
        generalize (((wr.alloc (.cells (madeCells #[.int .i64 0, .int .i64 0] (len * 2)) 83)).alloc (.cells (madeCells #[.int .u64 0] n) 30)).alloc (.cells ((zH.setIfInBounds 0 (.slice (some ⟨wr.heap.size + 1, 0, none⟩) n n)).setIfInBounds 1026 (.slice (some ⟨wr.heap.size, 0, none⟩) len len)) 99)).drew = W at hN ⊢
        generalize wr.heap.size + 1 + 1 = g at hN ⊢
        generalize wr.heap.size + 1 = gA at hN ⊢
        generalize wr.heap.size = gB at hN ⊢
        have c3 : W.cell? ⟨g, 1026, none⟩ = some (.slice (some ⟨gB, 0, none⟩) len len) := hN.blk.cell (i := 1026) (by omega)
        have HN := Lib.hid hN
        have HSRC : Hid (0 < len → ∃ b off, a = some ⟨b, off, none⟩ ∧ ∀ j, j < len * 2 → W.cell? ⟨b, off + j, none⟩ = some (.int .i64 (if j % 2 = 0 then K (j / 2) else N (j / 2)))) := lays_src (HL.out.still hN.still)
        clear hN hmk1 hmk2 hzz hzs hze
        go_wp2_with (refine wpList_copy_whole rfl (.tmp 38) (.tmp 39) 22 22 rfl 83 2 gB len a len cap 83 _ _ rfl rfl Try.underlying22 infoLay2 HN.out.lays HSRC.out (fun _ => rfl) ?_; intro w4 hr4 ht4)
        go_ret2
        exact new_end n len g gA gB h hl HN.out hr4.out ht4.out HM0.out
end Go.Proofs.Yteanlncnhncpbaa
