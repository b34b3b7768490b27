/- LexLimits: its walk. -/
import Derived.Test.YtccdcgifomonoaaDoorLxLives
import Derived.Test.YtccdcgifomonoaaDoorLxLimN
import Derived.Lib.ConvBytes
import Derived.Lib.SmallJoins
import Derived.Laws.BytesArg
namespace Go.Proofs.YtccdcgifomonoaaDoor
set_option linter.unusedVariables false
set_option linter.unusedSimpArgs false
open Go.ChangeShapes Go.WideShapes Go.ChangeAt Go.RowKit
theorem makeBytes {n : Nat} (h : n ≤ 20000) (W : World) : (Instr.makeSlice 40 (.int .i64 (n : Int)) (.int .i64 (n : Int))).run Tryd.prog W = .ok (.slice (some ⟨W.heap.size, 0, none⟩) n n) (W.alloc (.cells (madeCells #[.int .u8 0] n) 5)) := by
  obtain ⟨i, hi, hzz⟩ := Option.map_eq_some_iff.1 infoB8
  simp only [Prod.mk.injEq] at hzz
  obtain ⟨hz, hs, hb⟩ := hzz
  have hr := run_make (P := Tryd.prog) W 40 5 i _ Tryd.underlying40 hi hz .i64 .i64 n n (by omega) (by omega) (by rw [hb]; omega) (by omega)
  simp only [Int.toNat_natCast, hs, Nat.mul_one] at hr
  exact hr
/-- A row of n bytes at g, not frozen. -/
structure BRow (w : World) (g n : Nat) (f : Nat → Nat) : Prop where
  lt : g < w.heap.size
  cell : ∀ j, j < n → w.cell? ⟨g, j, none⟩ = some (.int .u8 (f j : Int))
  free : ∀ j, j < n → w.frozen? ⟨g, j, none⟩ = false
theorem BRow.set {w : World} {g n : Nat} {f : Nat → Nat} (h : BRow w g n f) {k : Nat} (hk : k < n) (c : Nat) : BRow (w.setCell ⟨g, k, none⟩ (.int .u8 (c : Int))) g n (fun j => if j = k then c else f j) := by
  refine ⟨by rw [World.size_setCell]; exact h.lt, fun j hj => ?_, fun j hj => by rw [World.frozen?_setCell]; exact h.free j hj⟩
  by_cases e : j = k
  · subst e
    rw [World.cell?_setCell_same (h := h.cell j hj), if_pos rfl]
  · rw [World.cell?_setCell_other (h := show (⟨g, k, none⟩ : Addr) ≠ ⟨g, j, none⟩ from fun e' => e (by injection e' with _ e2; exact e2.symm)), h.cell j hj, if_neg e]
theorem BRow.str {w : World} {g n c : Nat} {f : Nat → Nat} (h : BRow w g n f) : (convert 40 9 (.slice (some ⟨g, 0, none⟩) n c)).run Tryd.prog w = .ok (.string (strOfNums ((List.range n).map fun j => (f j : Int)))) w :=
  run_convert_bytes_arg w 40 5 Tryd.underlying40 Tryd.underlying5 g 0 n c _ (by simp) (fun i hi => by rw [Nat.zero_add, h.cell i hi]; simp [hi]) 9 Tryd.underlying9
theorem bs_nums (L : List Nat) (h : ∀ c ∈ L, c < 256) : Lx.bs (strOfNums (L.map fun j : Nat => (j : Int))) = L := by
  have : strOfNums (L.map fun j : Nat => (j : Int)) = Lx.str L := by
    unfold strOfNums Lx.str
    simp only [List.map_map]
    rfl
  rw [this, Lx.bs_str h]
theorem brow_new {w : World} {cs : Array Value} {n : Nat} {f : Nat → Nat} (h : ∀ j, j < n → cs[j]? = some (.int .u8 (f j : Int))) : BRow (w.alloc (.cells cs 5)) w.heap.size n f := by
  have hb := Blk.new w 5 cs
  exact ⟨hb.lt, fun j hj => (hb.cell j).trans (h j hj), fun j _ => hb.frozen j⟩
theorem made_at {n j : Nat} (h : j < n) : (madeCells #[.int .u8 0] n)[j]? = some (.int .u8 ((0 : Nat) : Int)) := by
  have hs : j < (madeCells #[.int .u8 0] n).size := by rw [size_madeCells]; exact h
  rw [Array.getElem?_eq_getElem hs]
  simp [madeCells, Nat.mod_one]
/-- []byte of a text. -/
theorem brow_of (s : ByteArray) (W : World) : ∃ (c : Nat) (W' : World) (f : Nat → Nat), (convert 9 40 (.string s)).run Tryd.prog W = .ok (.slice (some ⟨W.heap.size, 0, none⟩) s.size c) W' ∧ Still W W' ∧ BRow W' W.heap.size s.size f := by
  refine ⟨_, _, fun j => (s.data.toList.getD j 0).toNat, Lib.run_convert_string_bytes W 9 40 5 s Tryd.underlying9 Tryd.underlying40 Tryd.underlying5, ?_, ?_, fun j hj => Lib.bytesWorld_cell W _ s j hj, fun j hj => ?_⟩
  · exact Turn.of_below (Go.Joins.below_bytesWorld W.heap.size W _ s (Nat.le_refl _)) (fun k hk e => by omega)
  · rw [Lib.bytesWorld_size]; omega
  · have hs : s.size ≤ (Lib.bytesCells W 5 s).size := by simp [Lib.bytesCells]
    simp only [World.frozen?, Lib.bytesWorld_at_new]
    rw [Bool.and_eq_false_iff]
    left
    exact decide_eq_false (by omega)
/-- What a loop that writes into a row left. -/
structure Wr (w1 wr : World) (g n : Nat) (p : Nat → Nat) (k : Nat) : Prop where
  row : ∃ f, BRow wr g n f ∧ ∀ j, j < k → f j = p j
  turn : At g w1 wr
  le : k ≤ n
theorem Wr.step {w1 wr : World} {g n k : Nat} {p : Nat → Nat} (h : Wr w1 wr g n p k) (hk : k < n) : Wr w1 (wr.setCell ⟨g, k, none⟩ (.int .u8 (p k : Int))) g n p (k + 1) := by
  obtain ⟨f, hr, hf⟩ := h.row
  refine ⟨⟨_, hr.set hk (p k), fun j hj => ?_⟩, At.set h.turn k _, hk⟩
  by_cases e : j = k
  · rw [if_pos e, e]
  · rw [if_neg e]; exact hf j (by omega)
theorem Wr.cellAt {w1 wr : World} {g n k : Nat} {p : Nat → Nat} (h : Wr w1 wr g n p k) (hk : k < n) : g < wr.heap.size ∧ (∃ x : Int, wr.cell? ⟨g, k, none⟩ = some (.int .u8 x)) ∧ wr.frozen? ⟨g, k, none⟩ = false := by
  obtain ⟨f, hr, _⟩ := h.row
  exact ⟨hr.lt, ⟨_, hr.cell k hk⟩, hr.free k hk⟩
theorem Wr.text {w1 wr : World} {g n : Nat} {p : Nat → Nat} (h : Wr w1 wr g n p n) (hp : ∀ j, p j < 256) (c : Nat) : ∃ s : ByteArray, (convert 40 9 (.slice (some ⟨g, 0, none⟩) n c)).run Tryd.prog wr = .ok (.string s) wr ∧ Lx.bs s = (List.range n).map p := by
  obtain ⟨f, hr, hf⟩ := h.row
  refine ⟨_, hr.str, ?_⟩
  have e : (List.range n).map (fun j => (f j : Int)) = ((List.range n).map p).map fun j : Nat => (j : Int) := by
    rw [List.map_map]
    refine List.map_congr_left fun j hj => ?_
    rw [hf j (List.mem_range.1 hj)]; rfl
  rw [e]
  exact bs_nums _ fun c hc => by
    obtain ⟨j, _, rfl⟩ := List.mem_map.1 hc
    exact hp j
theorem range_const (n x : Nat) : (List.range n).map (fun _ => x) = List.replicate n x := by
  induction n with
  | zero => rfl
  | succ n ih => rw [List.range_succ, List.map_append, ih, List.replicate_succ']; rfl
theorem range_sem (n : Nat) : (List.range (2 * n)).map (fun j => if j % 2 = 0 then 59 else 32) = Lx.rep Lx.sem n := by
  induction n with
  | zero => rfl
  | succ n ih =>
    rw [show 2 * (n + 1) = 2 * n + 1 + 1 by omega, List.range_succ, List.range_succ, List.map_append, List.map_append, ih, Lx.rep_succ, List.append_assoc]
    simp [Lx.sem]
set_option maxHeartbeats 4000000 in
theorem lexLimits_wide {a0 : Int} {n : Nat} (w : World) (hn : max 0 (min a0 20000) = (n : Int)) :
    Calls Tryd.prog 11 #[.int .i64 a0, .bool true] w fun e w' => e = .returned (.bool true) ∧ Below w.heap.size w w' := by
  have hn2 : n ≤ 20000 := by omega
  go_enter Tryd.func11, Tryd.ntmps11
  have hmk := @makeBytes n hn2
  obtain ⟨wA, hwA⟩ : ∃ wA, w.alloc (.cells (madeCells #[.int .u8 0] n) 5) = wA := ⟨_, rfl⟩
  have hA : BRow wA w.heap.size n (fun _ => 0) := hwA ▸ brow_new (fun j hj => made_at hj)
  have tA : Still w wA := hwA ▸ (Still.refl w).alloc _
  have hcv : ∀ W, W = wA → (convert 40 9 (.slice (some ⟨w.heap.size, 0, none⟩) n n)).run Tryd.prog W = .ok (.string (strOfNums ((List.range n).map fun j => ((0 : Nat) : Int)))) W := fun W e => by rw [e]; exact hA.str
  obtain ⟨s0, hs0⟩ : ∃ s0, strOfNums ((List.range n).map fun j => ((0 : Nat) : Int)) = s0 := ⟨_, rfl⟩
  have hsz : s0.size = n := by rw [← hs0, strOfNums_size]; simp
  obtain ⟨cap, wB, f0, hcv2, tB, hB⟩ := brow_of s0 wA
  rw [hs0] at hcv
  have hcv1 := hcv wA rfl
  rw [hsz] at hcv2 hB
  obtain ⟨g, hg⟩ : ∃ g, wA.heap.size = g := ⟨_, rfl⟩
  rw [hg] at hcv2 hB
  have HT := Lib.hid (And.intro (tA.trans tB) (And.intro hB (show w.heap.size ≤ g by have := tA.size; omega)))
  clear hA tA tB hcv hg hs0 hB
  go_wp2_with fail
  go_loopw [27] (fun v wr => ∃ k : Nat, v = .int .i64 k ∧ Wr wB wr g n (fun _ => 32) k) (fun v _ => n - (intOf v).toNat)
  case atStart => exact ⟨0, rfl, ⟨_, HT.out.2.1, fun j hj => by omega⟩, Turn.refl _ _, Nat.zero_le _⟩
  case round =>
    obtain ⟨k, rfl, hw⟩ := hrel
    have HW := Lib.hid hw
    clear hw
    by_cases hlt : k < n
    · obtain ⟨g0, ⟨x, g1⟩, g2⟩ := HW.out.cellAt hlt
      have HLT := Lib.hid hlt
      have x1 : decide ((k : Int) < n) = true := decide_eq_true (by omega)
      go_wp2_with fail
      exact ⟨⟨k + 1, by go_num, HW.out.step HLT.out⟩, by simp [intOf]; omega⟩
    · obtain rfl : k = n := by have := HW.out.le; omega
      have x1 : decide ((k : Int) < k) = false := decide_eq_false (by omega)
      obtain ⟨s, hs, hb⟩ := HW.out.text (fun j => by decide) cap
      rw [range_const] at hb
      have TT : Hid (Still w wr) := Turn.mono (S := fun i => i = g) (HT.out.1.turn.trans HW.out.turn) (fun i hi e => by have := HT.out.2.2; omega)
      by_cases hbig : k ≤ 16384
      · have x2 : decide ((k : Int) ≤ 16384) = true := decide_eq_true (by omega)
        have HL := Lib.hid (show Lx.lex (Lx.bs s) = .ok [] by rw [hb]; exact Lx.lex_blanks hbig)
        clear hb hbig hlt
        go_wp2_with fail
        refine (lexOk (n := 0) HL.out rfl).mono ?_; rintro e w1 ⟨t1, a, d, rfl, o1⟩
        have T1 := Lib.hid t1
        clear t1 o1
        go_wp2_with fail
        refine (lives_any _).mono ?_; rintro e w2 ⟨rfl, t2⟩
        go_wp2_with fail
        go_ret
        exact ⟨rfl, (TT.out.trans (T1.out.trans t2)).below⟩
      · have x2 : decide ((k : Int) ≤ 16384) = false := decide_eq_false (by omega)
        have HL := Lib.hid (show Lx.lex (Lx.bs s) = .error (2, 0) by rw [hb]; exact Lx.lex_blanks_more (by omega))
        clear hb hbig hlt
        go_wp2_with fail
        refine (lexNo HL.out).mono ?_; rintro e w1 ⟨t1, rfl⟩
        have T1 := Lib.hid t1
        clear t1
        go_wp2_with fail
        refine (lives_any _).mono ?_; rintro e w2 ⟨rfl, t2⟩
        go_wp2_with fail
        go_ret
        exact ⟨rfl, (TT.out.trans (T1.out.trans t2)).below⟩
set_option maxHeartbeats 4000000 in
theorem lexLimits_sem {a0 : Int} {m n n2 : Nat} (w : World) (hm : max 0 (min a0 20000) = (m : Int)) (hn : min (m : Int) 5000 = (n : Int)) (hd : (2 : Int) * (n : Int) = (n2 : Int)) :
    Calls Tryd.prog 11 #[.int .i64 a0, .bool false] w fun e w' => e = .returned (.bool true) ∧ Below w.heap.size w w' := by
  have hn2 : n ≤ 5000 := by omega
  have hmk := @makeBytes n2 (by omega)
  go_enter Tryd.func11, Tryd.ntmps11
  obtain ⟨g, hg⟩ : ∃ g, w.heap.size = g := ⟨_, rfl⟩
  obtain ⟨wA, hwA⟩ : ∃ wA, w.alloc (.cells (madeCells #[.int .u8 0] n2) 5) = wA := ⟨_, rfl⟩
  have hA : BRow wA g n2 (fun _ => 0) := by rw [← hwA, ← hg]; exact brow_new (fun j hj => made_at hj)
  have tA : Still w wA := hwA ▸ (Still.refl w).alloc _
  have HT := Lib.hid (And.intro tA (And.intro hA (Nat.le_of_eq hg)))
  have HG := Lib.hid (And.intro hg hwA)
  have HN := Lib.hid (show n2 = 2 * n by omega)
  have HM := Lib.hid (show m ≤ 5000 ∧ n = m ∨ 5000 < m ∧ n = 5000 by omega)
  clear hA tA hg hwA
  go_wp2_with fail
  rw [HG.out.2, HG.out.1]
  go_loopw [68] (fun v wr => ∃ k : Nat, v = .int .i64 k ∧ Wr wA wr g n2 (fun j => if j % 2 = 0 then 59 else 32) k) (fun v _ => n2 - (intOf v).toNat)
  case atStart => exact ⟨0, rfl, ⟨_, HT.out.2.1, fun j hj => by omega⟩, Turn.refl _ _, Nat.zero_le _⟩
  case round =>
    obtain ⟨k, rfl, hw⟩ := hrel
    have HW := Lib.hid hw
    clear hw
    by_cases hlt : k < n2
    · obtain ⟨g0, ⟨x, g1⟩, g2⟩ := HW.out.cellAt hlt
      have HLT := Lib.hid hlt
      have x1 : decide ((k : Int) < n2) = true := decide_eq_true (by omega)
      by_cases hpar : k % 2 = 0
      · have x2 : (k : Int) % 2 = 0 := by omega
        have x3 : (k : Int).tmod 2 = 0 := by rw [Int.tmod_eq_emod_of_nonneg (by omega)]; exact x2
        have HP := Lib.hid hpar
        clear hpar
        go_wp2_with fail
        refine ⟨⟨k + 1, by go_num, ?_⟩, by simp [intOf]; omega⟩
        have := HW.out.step HLT.out
        rw [if_pos HP.out] at this
        exact this
      · have x2 : (k : Int) % 2 = 1 := by omega
        have x3 : (k : Int).tmod 2 = 1 := by rw [Int.tmod_eq_emod_of_nonneg (by omega)]; exact x2
        have HP := Lib.hid hpar
        clear hpar
        go_wp2_with fail
        refine ⟨⟨k + 1, by go_num, ?_⟩, by simp [intOf]; omega⟩
        have := HW.out.step HLT.out
        rw [if_neg HP.out] at this
        exact this
    · obtain rfl : k = n2 := by have := HW.out.le; omega
      have x1 : decide ((k : Int) < k) = false := decide_eq_false (by omega)
      obtain ⟨s, hs, hb⟩ := HW.out.text (fun j => by split <;> decide) k
      rw [HN.out, range_sem] at hb
      have TT : Hid (Still w wr) := Turn.mono (S := fun i => i = g) (HT.out.1.turn.trans HW.out.turn) (fun i hi e => by have := HT.out.2.2; omega)
      by_cases hbig : n ≤ 4000
      · have x2 : ¬ (4000 : Int) < n := by omega
        have x3 : decide ((4000 : Int) < n) = false := decide_eq_false x2
        obtain ⟨l, hl, hln⟩ := (Lx.lex_sem hn2).1 hbig
        have HL := Lib.hid (show Lx.lex (Lx.bs s) = .ok l by rw [hb]; exact hl)
        have HLN := Lib.hid hln
        clear hb hbig hlt hl hln
        go_wp2_with fail
        refine (lexOk (n := n) HL.out HLN.out.symm).mono ?_; rintro e w1 ⟨t1, a, d, rfl, o1⟩
        have T1 := Lib.hid t1
        clear t1 o1
        go_wp2_with fail
        refine (lives_any _).mono ?_; rintro e w2 ⟨rfl, t2⟩
        go_wp2_with fail
        go_ret
        exact ⟨rfl, (TT.out.trans (T1.out.trans t2)).below⟩
      · have x2 : (4000 : Int) < n := by omega
        have x3 : decide ((4000 : Int) < n) = true := decide_eq_true x2
        have HL := Lib.hid (show Lx.lex (Lx.bs s) = .error (2, 8000) by rw [hb]; exact (Lx.lex_sem hn2).2 (by omega))
        clear hb hbig hlt
        go_wp2_with fail
        refine (lexNo HL.out).mono ?_; rintro e w1 ⟨t1, rfl⟩
        have T1 := Lib.hid t1
        clear t1
        go_wp2_with fail
        refine (lives_any _).mono ?_; rintro e w2 ⟨rfl, t2⟩
        go_wp2_with fail
        go_ret
        exact ⟨rfl, (TT.out.trans (T1.out.trans t2)).below⟩
theorem lexLimits_w (a0 : Int) (b : Bool) (w : World) : Calls Tryd.prog 11 #[.int .i64 a0, .bool b] w fun e w' => e = .returned (.bool true) ∧ Below w.heap.size w w' := by
  obtain ⟨m, hm⟩ : ∃ m : Nat, max 0 (min a0 20000) = (m : Int) := ⟨(max 0 (min a0 20000)).toNat, by omega⟩
  cases b with
  | true => exact lexLimits_wide w hm
  | false => exact lexLimits_sem (n := min m 5000) (n2 := 2 * min m 5000) w hm (by omega) (by omega)
end Go.Proofs.YtccdcgifomonoaaDoor
