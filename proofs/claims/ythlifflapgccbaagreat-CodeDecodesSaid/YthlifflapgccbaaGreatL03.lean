/- Lemmas, put together: Code1 Code2 Code2L Code3 Code4. -/
import Derived.Test.YthlifflapgccbaaGreatL02
import Derived.Deep.RegionLawGrows
import Derived.Lib.SmallJoins
/- What is asked of an image that holds nothing; the letters of an instruction. -/
namespace Go.Proofs.YthlifflapgccbaaGreat
set_option linter.unusedVariables false
open Go.ChangeShapes Go.WideShapes Go.ChangeAt Go.RowKit
open M (W)

theorem indexT_nil (f : Value) (w : World) : Calls Tryz.prog 92 #[.slice none 0 0, f] w fun e w' => e = .returned (.int .i64 (-1)) ∧ w' = w := by
  go_enter Tryz.func92, Tryz.ntmps92
  go_wp2_with fail
  go_loop [8] (fun v => v = .int .i64 0) (fun _ => 0)
  case atStart => rfl
  case round =>
    subst hrel
    go_wp2_with fail
    go_ret
    exact ⟨rfl, rfl⟩
theorem containsT_nil (f : Value) (w : World) : Calls Tryz.prog 63 #[.slice none 0 0, f] w fun e w' => e = .returned (.bool false) ∧ w' = w := by
  go_enter Tryz.func63, Tryz.ntmps63
  go_wp2_with fail
  refine (indexT_nil _ _).mono ?_; rintro e w1 ⟨rfl, rfl⟩
  go_wp2_with fail
  go_ret
  exact ⟨rfl, rfl⟩
theorem indexS_nil (f : Value) (w : World) : Calls Tryz.prog 93 #[.slice none 0 0, f] w fun e w' => e = .returned (.int .i64 (-1)) ∧ w' = w := by
  go_enter Tryz.func93, Tryz.ntmps93
  go_wp2_with fail
  go_loop [8] (fun v => v = .int .i64 0) (fun _ => 0)
  case atStart => rfl
  case round =>
    subst hrel
    go_wp2_with fail
    go_ret
    exact ⟨rfl, rfl⟩
theorem containsS_nil (f : Value) (w : World) : Calls Tryz.prog 65 #[.slice none 0 0, f] w fun e w' => e = .returned (.bool false) ∧ w' = w := by
  go_enter Tryz.func65, Tryz.ntmps65
  go_wp2_with fail
  refine (indexS_nil _ _).mono ?_; rintro e w1 ⟨rfl, rfl⟩
  go_wp2_with fail
  go_ret
  exact ⟨rfl, rfl⟩
theorem indexX_nil (f : Value) (w : World) : Calls Tryz.prog 94 #[.slice none 0 0, f] w fun e w' => e = .returned (.int .i64 (-1)) ∧ w' = w := by
  go_enter Tryz.func94, Tryz.ntmps94
  go_wp2_with fail
  go_loop [8] (fun v => v = .int .i64 0) (fun _ => 0)
  case atStart => rfl
  case round =>
    subst hrel
    go_wp2_with fail
    go_ret
    exact ⟨rfl, rfl⟩
theorem containsX_nil (f : Value) (w : World) : Calls Tryz.prog 67 #[.slice none 0 0, f] w fun e w' => e = .returned (.bool false) ∧ w' = w := by
  go_enter Tryz.func67, Tryz.ntmps67
  go_wp2_with fail
  refine (indexX_nil _ _).mono ?_; rintro e w1 ⟨rfl, rfl⟩
  go_wp2_with fail
  go_ret
  exact ⟨rfl, rfl⟩
theorem indexF_nil (f : Value) (w : World) : Calls Tryz.prog 95 #[.slice none 0 0, f] w fun e w' => e = .returned (.int .i64 (-1)) ∧ w' = w := by
  go_enter Tryz.func95, Tryz.ntmps95
  go_wp2_with fail
  go_loop [8] (fun v => v = .int .i64 0) (fun _ => 0)
  case atStart => rfl
  case round =>
    subst hrel
    go_wp2_with fail
    go_ret
    exact ⟨rfl, rfl⟩
theorem containsF_nil (f : Value) (w : World) : Calls Tryz.prog 69 #[.slice none 0 0, f] w fun e w' => e = .returned (.bool false) ∧ w' = w := by
  go_enter Tryz.func69, Tryz.ntmps69
  go_wp2_with fail
  refine (indexF_nil _ _).mono ?_; rintro e w1 ⟨rfl, rfl⟩
  go_wp2_with fail
  go_ret
  exact ⟨rfl, rfl⟩
theorem nilBox {w : World} {k : Nat} {t : TypeId} {a b : Int} (h : Blk w k t #[.slice none 0 0, .slice none 0 0, .slice none 0 0, .slice none 0 0, .slice none 0 0, .int .i64 a, .int .i64 b]) :
    k < w.heap.size ∧ w.cell? ⟨k, 0, none⟩ = some (.slice none 0 0) ∧ w.cell? ⟨k, 1, none⟩ = some (.slice none 0 0) ∧ w.cell? ⟨k, 2, none⟩ = some (.slice none 0 0) ∧ w.cell? ⟨k, 3, none⟩ = some (.slice none 0 0) ∧ w.cell? ⟨k, 4, none⟩ = some (.slice none 0 0) ∧ w.cell? ⟨k, 5, none⟩ = some (.int .i64 a) ∧ w.cell? ⟨k, 6, none⟩ = some (.int .i64 b) :=
  ⟨h.lt, h.cell 0, h.cell 1, h.cell 2, h.cell 3, h.cell 4, h.cell 5, h.cell 6⟩
theorem size_nil (a b : Int) (w : World) : Calls Tryz.prog 71 #[.agg #[.slice none 0 0, .slice none 0 0, .slice none 0 0, .slice none 0 0, .slice none 0 0, .int .i64 a, .int .i64 b]] w fun e w' => e = .returned (.int .i64 0) ∧ Still w w' := by
  go_enter Tryz.func71, Tryz.ntmps71
  go_wp2_with fail
  go_loop [3, 11] (fun n v => n = .int .i64 0 ∧ v = .int .i64 0) (fun _ _ => 0)
  case atStart => exact ⟨rfl, rfl⟩
  case round =>
    obtain ⟨rfl, rfl⟩ := hrel
    go_wp2_with fail
    go_ret
    exact ⟨rfl, (Still.refl w).alloc _⟩
theorem anyInstr_nil (a b : Int) (f : Value) (w : World) : Calls Tryz.prog 40 #[.agg #[.slice none 0 0, .slice none 0 0, .slice none 0 0, .slice none 0 0, .slice none 0 0, .int .i64 a, .int .i64 b], f] w fun e w' => e = .returned (.bool false) ∧ Still w w' := by
  go_enter Tryz.func40, Tryz.ntmps40
  go_wp2_with fail
  go_loop [12] (fun v => v = .int .i64 0) (fun _ => 0)
  case atStart => rfl
  case round =>
    subst hrel
    go_wp2_with fail
    go_ret
    exact ⟨rfl, (Still.refl w).alloc _⟩
theorem big_nil (a b : Int) (w : World) : Calls Tryz.prog 39 #[.agg #[.slice none 0 0, .slice none 0 0, .slice none 0 0, .slice none 0 0, .slice none 0 0, .int .i64 a, .int .i64 b]] w fun e w' => e = .returned (.bool false) ∧ Still w w' := by
  go_enter Tryz.func39, Tryz.ntmps39
  go_wp2_with (first
    | (go_at_call 63; (with_reducible refine (containsT_nil _ _).mono ?_); rintro e w1 ⟨rfl, rfl⟩)
    | (go_at_call 65; (with_reducible refine (containsS_nil _ _).mono ?_); rintro e w1 ⟨rfl, rfl⟩)
    | (go_at_call 67; (with_reducible refine (containsX_nil _ _).mono ?_); rintro e w1 ⟨rfl, rfl⟩)
    | (go_at_call 69; (with_reducible refine (containsF_nil _ _).mono ?_); rintro e w1 ⟨rfl, rfl⟩))
  refine (size_nil a b _).mono ?_; rintro e w2 ⟨rfl, t2⟩
  have hbx := t2.blk (Blk.new w 28 #[.slice none 0 0, .slice none 0 0, .slice none 0 0, .slice none 0 0, .slice none 0 0, .int .i64 a, .int .i64 b])
  obtain ⟨h0, c0, c1, c2, c3, c4, c5, c6⟩ := nilBox hbx
  have T2 := Lib.hid ((Still.trans ((Still.refl w).alloc _) t2))
  clear t2 hbx
  go_wp2_with fail
  refine (anyInstr_nil a b _ _).mono ?_; rintro e w3 ⟨rfl, t3⟩
  have T3 := Lib.hid (Still.trans T2.out t3)
  clear t3
  go_wp2_with fail
  go_ret
  exact ⟨rfl, T3.out⟩
theorem check_nil (a b : Int) (w : World) : Calls Tryz.prog 11 #[.agg #[.slice none 0 0, .slice none 0 0, .slice none 0 0, .slice none 0 0, .slice none 0 0, .int .i64 a, .int .i64 b]] w fun e w' => e = .returned (.int .i64 0) ∧ Still w w' := by
  go_enter Tryz.func11, Tryz.ntmps11
  go_wp2_with fail
  refine (big_nil a b _).mono ?_; rintro e w2 ⟨rfl, t2⟩
  have hbx := t2.blk (Blk.new w 28 #[.slice none 0 0, .slice none 0 0, .slice none 0 0, .slice none 0 0, .slice none 0 0, .int .i64 a, .int .i64 b])
  obtain ⟨h0, c0, c1, c2, c3, c4, c5, c6⟩ := nilBox hbx
  have T2 := Lib.hid ((Still.trans ((Still.refl w).alloc _) t2))
  clear t2 hbx
  go_wp2_with fail
  refine (anyInstr_nil a b _ _).mono ?_; rintro e w3 ⟨rfl, t3⟩
  have T3 := Lib.hid (Still.trans T2.out t3)
  clear t3
  go_wp2_with fail
  go_ret
  exact ⟨rfl, T3.out⟩
end Go.Proofs.YthlifflapgccbaaGreat
/- The writer: numbers one behind the other. -/
namespace Go.Proofs.YthlifflapgccbaaGreat
set_option linter.unusedVariables false
open Go.ChangeShapes Go.WideShapes Go.ChangeAt Go.RowKit
open M (W)

/-- A writer in memory: where it lies, and the row of bytes that it holds. -/
structure Writes (B : Nat) (w : World) (g : Nat) (xs : List Int) : Prop where
  ex : ∃ (a : Option Addr) (c : Nat), Blk w g 95 #[.slice a xs.length c] ∧ w.ownsRow B 5 1 (.slice a xs.length c) xs.length (xs.map (Value.int .u8))
  le : B ≤ g
theorem Turn.own {S : Nat → Prop} {w w' w0 : World} {B : Nat} (h : Turn S w w') (hb : Below B w0 w) (hB : B ≤ w0.heap.size) (hs : ∀ k, S k → B ≤ k) : Below B w0 w' := hb.trans (h.below (Nat.le_trans hB hb.size) hs)
theorem own_slice {w : World} {B : Nat} {t : TypeId} {v : Value} {n : Nat} {xs : List Value} (h : w.ownsRow B t 1 v n xs) : ∃ a c, v = .slice a n c := by
  rcases h.2 with ⟨rfl, rfl⟩ | ⟨g, cap, cur, rfl, _⟩
  · exact ⟨none, 0, rfl⟩
  · exact ⟨_, cap, rfl⟩
/-- What is the writer's own: it, and the block of its row. -/
def Mine (w : World) (g b : Nat) : Prop := b = g ∨ ∃ (a : Option Addr) (n c : Nat), Blk w g 95 #[.slice a n c] ∧ (Value.slice a n c).ownBlock = some b
structure Wrote (B : Nat) (w w' : World) (g : Nat) : Prop where
  below : Below B w w'
  turn : Turn (Mine w g) w w'
  mine : ∀ b, Mine w' g b → Mine w g b ∨ w.heap.size ≤ b
theorem Wrote.trans {B g : Nat} {w w1 w2 : World} (h : Wrote B w w1 g) (k : Wrote B w1 w2 g) : Wrote B w w2 g :=
  ⟨h.below.trans k.below, ⟨k.turn.os.trans h.turn.os, k.turn.tape.trans h.turn.tape, k.turn.output.trans h.turn.output, Nat.le_trans h.turn.size k.turn.size, fun b hb hn => by
    have hn1 : ¬ Mine w1 g b := fun e => by
      rcases h.mine b e with e | e
      · exact hn e
      · omega
    exact (k.turn.block b (Nat.lt_of_lt_of_le hb h.turn.size) hn1).trans (h.turn.block b hb hn)⟩, fun b hb => by
    rcases k.mine b hb with e | e
    · exact h.mine b e
    · exact .inr (Nat.le_trans h.turn.size e)⟩
theorem Wrote.blk {B g k : Nat} {w w' : World} {t : TypeId} {cs : Array Value} (h : Wrote B w w' g) (hb : Blk w k t cs) (hn : ¬ Mine w g k) : Blk w' k t cs ∧ ¬ Mine w' g k :=
  ⟨hb.keep h.turn hn, fun e => by
    rcases h.mine k e with e | e
    · exact hn e
    · have := hb.lt; omega⟩
set_option maxRecDepth 100000 in
theorem long_any (n : Int) {B g : Nat} {xs : List Int} {w : World} (h : Writes B w g xs) (h0 : -9223372036854775808 ≤ n) (h1 : n ≤ 9223372036854775807) (hx : xs.length ≤ 1000000000) :
    Calls Tryz.prog 103 #[.pointer (some ⟨g, 0, none⟩), .int .i64 n] w fun e w' => e = .returned (.tuple #[]) ∧ Writes B w' g (xs ++ M.enc (M.zig n)) ∧ Wrote B w w' g := by
  obtain ⟨a, c, hb, ho⟩ := h.ex
  have hle := h.le
  have hgl := hb.lt
  have d0 : w.drew.cell? ⟨g, 0, none⟩ = some (.slice a xs.length c) := hb.cell 0
  have dl : g < w.drew.heap.size := hgl
  have HP := Lib.hid (put_any n w.drew h0 h1)
  have HB : Hid (Blk w.drew g 95 #[.slice a xs.length c]) := hb
  have HO : Hid (w.drew.ownsRow B 5 1 (.slice a xs.length c) xs.length (xs.map (Value.int .u8))) := ho
  have HL := Lib.hid (M.enc_len10 (M.zig_lt h0 h1))
  have HE := Lib.hid (M.enc_pos (M.zig n))
  have HX := Lib.hid hx
  clear hb ho h hx
  generalize hk : xs.length = k at *
  have HK := Lib.hid hk
  clear hk
  go_enter Tryz.func103, Tryz.ntmps103
  go_wp2_with fail
  go_region_law (first
    | (go_simp; go_at_call 111; (with_reducible refine HP.out.mono ?_); rintro e wp ⟨vp, rfl, hop, hbp⟩; obtain ⟨ap, cp, rfl⟩ := own_slice hop; obtain ⟨gp, rfl, hgp, hgc, hgm, hcell, _⟩ := own_form hop HE.out; have d2 : wp.cell? ⟨g, 0, none⟩ = some (.slice a k c) := (hbp.cell (p := ⟨g, 0, none⟩) dl).trans d0; have dl2 : g < wp.heap.size := Nat.lt_of_lt_of_le dl hbp.size; have HOP := Lib.hid (And.intro hop hbp); have HC := Lib.hid hcell; clear hop hbp hcell hgc hgm hgp)
    | (refine step_append_form rfl (.tmp 8) (.tmp 10) 22 rfl B 5 1 1 (.int .u8 0) Tryz.underlying22 infoU8 rfl (by decide) a k c (xs.map (Value.int .u8)) (by simp [Act.eval]) (own_later HO.out HOP.out.2) ⟨gp, 0, none⟩ (M.enc (M.zig n)).length cp ((M.enc (M.zig n)).map (Value.int .u8)) (by simp [Act.eval]) (by simp) (fun j u hj => by
          have := HC.out j u hj
          rwa [show (⟨gp, j, none⟩ : Addr) = (⟨gp, 0, none⟩ : Addr).add j by by_cases hj0 : j = 0 <;> simp [Addr.add, hj0]] at this) (fun u hu => by obtain ⟨z, _, rfl⟩ := List.mem_map.1 hu; rfl) HE.out (by have := HL.out; have := HX.out; unfold maxLen; omega) (by have := HL.out; have := HX.out; omega) (by have := HOP.out.2.size; omega) ?_
       intro g' c' w4 hr4 ht4 hn4
       have NE := own_blk HO.out HB.out (by decide)
       have q2 : w4.cell? ⟨g, 0, none⟩ = some (.slice a k c) := (ht4.out.cell (p := ⟨g, 0, none⟩) dl2 NE).trans d2
       have q2f : w4.frozen? ⟨g, 0, none⟩ = false := (ht4.out.frozen (p := ⟨g, 0, none⟩) dl2 NE).trans ((HOP.out.2.frozen (p := ⟨g, 0, none⟩) dl).trans (HB.out.frozen 0))))
  all_goals
    go_wp2_with fail
    go_end0
    have hb4 : Blk w4 g 95 #[.slice a k c] := Blk.keep (w := wp) ((HOP.out.2.block g dl).trans HB.out) ht4.out NE
    have hk : (xs ++ M.enc (M.zig n)).length = k + (M.enc (M.zig n)).length := by rw [List.length_append, HK.out]
    have NE2 := own_blk hr4.out hb4 (by decide)
    refine ⟨rfl, ⟨⟨some ⟨g', 0, none⟩, c', ?_, ?_⟩, hle⟩, ?_⟩
    · rw [hk]; exact hb4.set 0 _
    · rw [hk, List.map_append]
      exact own_keep (S := fun b => b = g) hr4.out ((Turn.refl (fun b => b = g) w4).setCell (p := ⟨g, 0, none⟩) (fun _ => rfl) _) (fun b hb e => NE2 (e ▸ hb))
    · have b1 : Below B w wp := (Still.below (Turn.drew (Still.refl w) : Still w w.drew)).mono (Nat.le_trans hle (Nat.le_of_lt dl)) |>.trans (HOP.out.2.mono (Nat.le_trans hle (Nat.le_of_lt dl)))
      have b2 : Below B w w4 := ht4.out.own b1 (Nat.le_trans hle (Nat.le_of_lt hgl)) (fun b hb => (HO.out.lt b hb).1)
      refine ⟨((Turn.refl (fun b => b = g) w4).setCell (p := ⟨g, 0, none⟩) (fun _ => rfl) _).own b2 (Nat.le_trans hle (Nat.le_of_lt hgl)) (fun b hb => by rw [hb]; exact hle), ?_, ?_⟩
      · have t1 : Turn (Mine w g) w wp := (Turn.drew (Turn.refl _ w)).trans (Turn.of_below HOP.out.2 (fun k h1 h2 => by omega))
        have t2 : Turn (Mine w g) wp w4 := ht4.out.mono (fun b _ hb => .inr ⟨a, k, c, HB.out, hb⟩)
        exact (t1.trans t2).setCell (p := ⟨g, 0, none⟩) (fun _ => .inl rfl) _
      · rintro b (e | ⟨a2, n2, c2, hb2, ho2⟩)
        · exact .inl (.inl e)
        · obtain ⟨_, e⟩ := hb2.inj (hb4.set 0 _)
          simp at e
          obtain ⟨rfl, rfl, rfl⟩ := e
          have hbg : g' = b := by simpa [Value.ownBlock] using ho2
          rcases hn4.out with e | e
          · exact .inl (.inr ⟨a, k, c, HB.out, hbg ▸ e⟩)
          · right
            have := HOP.out.2.size
            have : w.heap.size ≤ wp.heap.size := this
            omega
theorem number_any (n : Int) {B g : Nat} {xs : List Int} {w : World} (h : Writes B w g xs) (h0 : -9223372036854775808 ≤ n) (h1 : n ≤ 9223372036854775807) (hx : xs.length ≤ 1000000000) :
    Calls Tryz.prog 87 #[.pointer (some ⟨g, 0, none⟩), .int .i64 n] w fun e w' => e = .returned (.tuple #[]) ∧ Writes B w' g (xs ++ M.enc (M.zig n)) ∧ Wrote B w w' g := by
  have H := Lib.hid (long_any n h h0 h1 hx)
  clear h
  go_enter Tryz.func87, Tryz.ntmps87
  go_wp2_with fail
  refine H.out.mono ?_; rintro e w1 ⟨rfl, hw, hb⟩
  go_wp2_with fail
  go_end0
  exact ⟨rfl, hw, hb⟩
theorem enc0 : M.enc (M.zig 0) = [0] := by unfold M.zig; rw [M.enc]; simp
theorem number_0 {B g : Nat} {xs : List Int} {w : World} (h : Writes B w g xs) (hx : xs.length ≤ 1000000000) :
    Calls Tryz.prog 87 #[.pointer (some ⟨g, 0, none⟩), .int .i64 0] w fun e w' => e = .returned (.tuple #[]) ∧ Writes B w' g (xs ++ [0]) ∧ Wrote B w w' g := by
  have := number_any 0 h (by decide) (by decide) hx
  rwa [enc0] at this
theorem putT_nil (f : Value) {B g : Nat} {xs : List Int} {w : World} (h : Writes B w g xs) (hx : xs.length ≤ 1000000000) :
    Calls Tryz.prog 79 #[.pointer (some ⟨g, 0, none⟩), .slice none 0 0, f] w fun e w' => e = .returned (.tuple #[]) ∧ Writes B w' g (xs ++ [0]) ∧ Wrote B w w' g := by
  have H := Lib.hid (number_0 h hx)
  clear h
  go_enter Tryz.func79, Tryz.ntmps79
  go_wp2_with fail
  refine H.out.mono ?_; rintro e w1 ⟨rfl, hw, hb⟩
  go_wp2_with fail
  go_loop [14] (fun v => v = .int .i64 0) (fun _ => 0)
  case atStart => rfl
  case round =>
    subst hrel
    go_wp2_with fail
    go_end0
    exact ⟨rfl, hw, hb⟩
theorem putS_nil (f : Value) {B g : Nat} {xs : List Int} {w : World} (h : Writes B w g xs) (hx : xs.length ≤ 1000000000) :
    Calls Tryz.prog 81 #[.pointer (some ⟨g, 0, none⟩), .slice none 0 0, f] w fun e w' => e = .returned (.tuple #[]) ∧ Writes B w' g (xs ++ [0]) ∧ Wrote B w w' g := by
  have H := Lib.hid (number_0 h hx)
  clear h
  go_enter Tryz.func81, Tryz.ntmps81
  go_wp2_with fail
  refine H.out.mono ?_; rintro e w1 ⟨rfl, hw, hb⟩
  go_wp2_with fail
  go_loop [14] (fun v => v = .int .i64 0) (fun _ => 0)
  case atStart => rfl
  case round =>
    subst hrel
    go_wp2_with fail
    go_end0
    exact ⟨rfl, hw, hb⟩
theorem putX_nil (f : Value) {B g : Nat} {xs : List Int} {w : World} (h : Writes B w g xs) (hx : xs.length ≤ 1000000000) :
    Calls Tryz.prog 83 #[.pointer (some ⟨g, 0, none⟩), .slice none 0 0, f] w fun e w' => e = .returned (.tuple #[]) ∧ Writes B w' g (xs ++ [0]) ∧ Wrote B w w' g := by
  have H := Lib.hid (number_0 h hx)
  clear h
  go_enter Tryz.func83, Tryz.ntmps83
  go_wp2_with fail
  refine H.out.mono ?_; rintro e w1 ⟨rfl, hw, hb⟩
  go_wp2_with fail
  go_loop [14] (fun v => v = .int .i64 0) (fun _ => 0)
  case atStart => rfl
  case round =>
    subst hrel
    go_wp2_with fail
    go_end0
    exact ⟨rfl, hw, hb⟩
theorem putF_nil (f : Value) {B g : Nat} {xs : List Int} {w : World} (h : Writes B w g xs) (hx : xs.length ≤ 1000000000) :
    Calls Tryz.prog 85 #[.pointer (some ⟨g, 0, none⟩), .slice none 0 0, f] w fun e w' => e = .returned (.tuple #[]) ∧ Writes B w' g (xs ++ [0]) ∧ Wrote B w w' g := by
  have H := Lib.hid (number_0 h hx)
  clear h
  go_enter Tryz.func85, Tryz.ntmps85
  go_wp2_with fail
  refine H.out.mono ?_; rintro e w1 ⟨rfl, hw, hb⟩
  go_wp2_with fail
  go_loop [14] (fun v => v = .int .i64 0) (fun _ => 0)
  case atStart => rfl
  case round =>
    subst hrel
    go_wp2_with fail
    go_end0
    exact ⟨rfl, hw, hb⟩
end Go.Proofs.YthlifflapgccbaaGreat
/- The writer's first number, behind a text's bytes as they were laid. -/
namespace Go.Proofs.YthlifflapgccbaaGreat
set_option linter.unusedVariables false
open Go.ChangeShapes Go.WideShapes Go.ChangeAt Go.RowKit
open M (W)
theorem ownsRow_base {w : World} {base base' size n : Nat} {e : TypeId} {v : Value} {xs : List Value} (h : w.ownsRow base e size v n xs) (hb : base' ≤ base) : w.ownsRow base' e size v n xs :=
  ⟨h.1, h.2.elim Or.inl (fun ⟨g, cap, cur, hv, hg, r⟩ => Or.inr ⟨g, cap, cur, hv, Nat.le_trans hb hg, r⟩)⟩
/-- A writer that holds a text's bytes as they were laid. -/
structure Lit (B : Nat) (w : World) (g : Nat) (xs : List Int) : Prop where
  ex : ∃ s, Blk w g 95 #[.slice (some ⟨s, 0, none⟩) xs.length xs.length] ∧ B ≤ s ∧ s < w.heap.size ∧ ∀ j u, (xs.map (Value.int .u8))[j]? = some u → w.cell? ⟨s, j, none⟩ = some u
  le : B ≤ g
set_option maxRecDepth 100000 in
theorem long_lit (n : Int) {B g : Nat} {xs : List Int} {w : World} (h : Lit B w g xs) (h0 : -9223372036854775808 ≤ n) (h1 : n ≤ 9223372036854775807) (hx : xs.length ≤ 1000000000) :
    Calls Tryz.prog 103 #[.pointer (some ⟨g, 0, none⟩), .int .i64 n] w fun e w' => e = .returned (.tuple #[]) ∧ Writes B w' g (xs ++ M.enc (M.zig n)) ∧ Wrote B w w' g := by
  obtain ⟨i0, hi, hz0, hz1, hz2⟩ := info_parts infoU8
  obtain ⟨s, hb, hs, hsl, hsc⟩ := h.ex
  have hle := h.le
  have hgl := hb.lt
  have d0 : w.drew.cell? ⟨g, 0, none⟩ = some (.slice (some ⟨s, 0, none⟩) xs.length xs.length) := hb.cell 0
  have dl : g < w.drew.heap.size := hgl
  have HP := Lib.hid (put_any n w.drew h0 h1)
  have HB : Hid (Blk w.drew g 95 #[.slice (some ⟨s, 0, none⟩) xs.length xs.length]) := hb
  have HS : Hid (B ≤ s ∧ s < w.drew.heap.size ∧ ∀ j u, (xs.map (Value.int .u8))[j]? = some u → w.drew.cell? ⟨s, j, none⟩ = some u) := ⟨hs, hsl, hsc⟩
  have HL := Lib.hid (M.enc_len10 (M.zig_lt h0 h1))
  have HE := Lib.hid (M.enc_pos (M.zig n))
  have HX := Lib.hid hx
  clear hb h hx hs hsl hsc
  generalize hk : xs.length = k at *
  have HK := Lib.hid hk
  clear hk
  go_enter Tryz.func103, Tryz.ntmps103
  go_wp2_with fail
  go_region_law (first
    | (go_simp; go_at_call 111; (with_reducible refine HP.out.mono ?_); rintro e wp ⟨vp, rfl, hop, hbp⟩; obtain ⟨ap, cp, rfl⟩ := own_slice hop; obtain ⟨gp, rfl, hgp, hgc, hgm, hcell, _⟩ := own_form hop HE.out; have d2 : wp.cell? ⟨g, 0, none⟩ = some (.slice (some ⟨s, 0, none⟩) k k) := (hbp.cell (p := ⟨g, 0, none⟩) dl).trans d0; have dl2 : g < wp.heap.size := Nat.lt_of_lt_of_le dl hbp.size; have HOP := Lib.hid (And.intro hop hbp); have HC := Lib.hid hcell; clear hop hbp hcell hgc hgm hgp)
    | (refine step_append_grows rfl (.tmp 8) (.tmp 10) 22 rfl 5 i0 (.int .u8 0) 1 1 Tryz.underlying22 hi hz0 hz1 hz2 rfl (by decide) (some ⟨s, 0, none⟩) k k (xs.map (Value.int .u8)) (by simp [Act.eval]) (by simp) (by simp [HK.out]) (fun b hb j u hj => by
          injection hb with hb; subst hb
          have := HS.out.2.2 j u hj
          rw [← HOP.out.2.cell (p := ⟨s, j, none⟩) HS.out.2.1] at this
          rwa [show (⟨s, j, none⟩ : Addr) = (⟨s, 0, none⟩ : Addr).add j by by_cases hj0 : j = 0 <;> simp [Addr.add, hj0]] at this) ⟨gp, 0, none⟩ (M.enc (M.zig n)).length cp ((M.enc (M.zig n)).map (Value.int .u8)) (by simp [Act.eval]) (by simp) (fun j u hj => by
          have := HC.out j u hj
          rwa [show (⟨gp, j, none⟩ : Addr) = (⟨gp, 0, none⟩ : Addr).add j by by_cases hj0 : j = 0 <;> simp [Addr.add, hj0]] at this) (fun u hu => by obtain ⟨z, _, rfl⟩ := List.mem_map.1 hu; rfl) (by have := HE.out; omega) (by have := HL.out; have := HX.out; unfold maxLen; omega) (by have := HL.out; have := HX.out; omega) ?_
       intro v9 w4 hr hgr
       obtain ⟨a9, c9, rfl⟩ := own_slice hr
       have hr4 := Lib.hid hr
       have ht4 : Hid (Still wp w4) := (Turn.refl _ wp).grown hgr (fun k hk => by simp at hk)
       clear hr hgr
       have q2 : w4.cell? ⟨g, 0, none⟩ = some (.slice (some ⟨s, 0, none⟩) k k) := (Still.cell ht4.out (p := ⟨g, 0, none⟩) dl2).trans d2
       have q2f : w4.frozen? ⟨g, 0, none⟩ = false := (Turn.frozen ht4.out (p := ⟨g, 0, none⟩) dl2 (fun e => e)).trans ((HOP.out.2.frozen (p := ⟨g, 0, none⟩) dl).trans (HB.out.frozen 0))))
  all_goals
    go_wp2_with fail
    go_end0
    have hb4 : Blk w4 g 95 #[.slice (some ⟨s, 0, none⟩) k k] := Still.blk ht4.out ((HOP.out.2.block g dl).trans HB.out)
    have hk : (xs ++ M.enc (M.zig n)).length = k + (M.enc (M.zig n)).length := by rw [List.length_append, HK.out]
    have NE2 := own_blk hr4.out hb4 (by decide)
    have hsz : w.heap.size ≤ wp.heap.size := HOP.out.2.size
    refine ⟨rfl, ⟨⟨a9, c9, ?_, ?_⟩, hle⟩, ?_⟩
    · rw [hk]; exact hb4.set 0 _
    · rw [hk, List.map_append]
      exact ownsRow_base (own_keep (S := fun b => b = g) hr4.out ((Turn.refl (fun b => b = g) w4).setCell (p := ⟨g, 0, none⟩) (fun _ => rfl) _) (fun b hb e => NE2 (e ▸ hb))) (by omega)
    · have b1 : Below B w wp := (Still.below (Turn.drew (Still.refl w) : Still w w.drew)).mono (Nat.le_trans hle (Nat.le_of_lt dl)) |>.trans (HOP.out.2.mono (Nat.le_trans hle (Nat.le_of_lt dl)))
      have b2 : Below B w w4 := b1.trans ((Still.below ht4.out).mono (by omega))
      refine ⟨((Turn.refl (fun b => b = g) w4).setCell (p := ⟨g, 0, none⟩) (fun _ => rfl) _).own b2 (Nat.le_trans hle (Nat.le_of_lt hgl)) (fun b hb => by rw [hb]; exact hle), ?_, ?_⟩
      · have t1 : Turn (Mine w g) w wp := (Turn.drew (Turn.refl _ w)).trans (Turn.of_below HOP.out.2 (fun k h1 h2 => by omega))
        exact (t1.trans (Still.turn ht4.out)).setCell (p := ⟨g, 0, none⟩) (fun _ => .inl rfl) _
      · rintro b (e | ⟨a2, n2, c2, hb2, ho2⟩)
        · exact .inl (.inl e)
        · obtain ⟨_, e⟩ := hb2.inj (hb4.set 0 _)
          simp at e
          obtain ⟨rfl, rfl, rfl⟩ := e
          have := (hr4.out.lt b ho2).1
          exact .inr (by omega)
theorem number_lit (n : Int) {B g : Nat} {xs : List Int} {w : World} (h : Lit B w g xs) (h0 : -9223372036854775808 ≤ n) (h1 : n ≤ 9223372036854775807) (hx : xs.length ≤ 1000000000) :
    Calls Tryz.prog 87 #[.pointer (some ⟨g, 0, none⟩), .int .i64 n] w fun e w' => e = .returned (.tuple #[]) ∧ Writes B w' g (xs ++ M.enc (M.zig n)) ∧ Wrote B w w' g := by
  have H := Lib.hid (long_lit n h h0 h1 hx)
  clear h
  go_enter Tryz.func87, Tryz.ntmps87
  go_wp2_with fail
  refine H.out.mono ?_; rintro e w1 ⟨rfl, hw, hb⟩
  go_wp2_with fail
  go_end0
  exact ⟨rfl, hw, hb⟩
theorem number_lit0 {B g : Nat} {xs : List Int} {w : World} (h : Lit B w g xs) (hx : xs.length ≤ 1000000000) :
    Calls Tryz.prog 87 #[.pointer (some ⟨g, 0, none⟩), .int .i64 0] w fun e w' => e = .returned (.tuple #[]) ∧ Writes B w' g (xs ++ [0]) ∧ Wrote B w w' g := by
  have := number_lit 0 h (by decide) (by decide) hx
  rwa [enc0] at this
theorem putT_lit (f : Value) {B g : Nat} {xs : List Int} {w : World} (h : Lit B w g xs) (hx : xs.length ≤ 1000000000) :
    Calls Tryz.prog 79 #[.pointer (some ⟨g, 0, none⟩), .slice none 0 0, f] w fun e w' => e = .returned (.tuple #[]) ∧ Writes B w' g (xs ++ [0]) ∧ Wrote B w w' g := by
  have H := Lib.hid (number_lit0 h hx)
  clear h
  go_enter Tryz.func79, Tryz.ntmps79
  go_wp2_with fail
  refine H.out.mono ?_; rintro e w1 ⟨rfl, hw, hb⟩
  go_wp2_with fail
  go_loop [14] (fun v => v = .int .i64 0) (fun _ => 0)
  case atStart => rfl
  case round =>
    subst hrel
    go_wp2_with fail
    go_end0
    exact ⟨rfl, hw, hb⟩
end Go.Proofs.YthlifflapgccbaaGreat
/- An empty image as bytes. -/
namespace Go.Proofs.YthlifflapgccbaaGreat
set_option linter.unusedVariables false
open Go.ChangeShapes Go.WideShapes Go.ChangeAt Go.RowKit
open M (W)
theorem Wrote.refl (B : Nat) (w : World) (g : Nat) : Wrote B w w g := ⟨Below.refl _ _, Turn.refl _ _, fun b h => .inl h⟩
theorem Writes.alloc {B g : Nat} {xs : List Int} {w : World} (h : Writes B w g xs) (o : Obj) : Writes B (w.alloc o) g xs := by
  obtain ⟨a, c, hb, ho⟩ := h.ex
  exact ⟨⟨a, c, hb.alloc o, own_keep ho ((Still.refl w).alloc o) (fun _ _ e => e)⟩, h.le⟩
theorem Writes.at {B g : Nat} {xs : List Int} {w : World} (h : Writes B w g xs) : B ≤ w.heap.size := by
  obtain ⟨a, c, hb, ho⟩ := h.ex
  have := hb.lt; have := h.le; omega
/-- An object made behind the writer is not the writer's own, and stands. -/
theorem Writes.behind {B g : Nat} {xs : List Int} {w : World} (h : Writes B w g xs) (cs : Array Value) (t : TypeId) : Wrote B w (w.alloc (.cells cs t)) g ∧ ¬ Mine (w.alloc (.cells cs t)) g w.heap.size := by
  obtain ⟨a, c, hb, ho⟩ := h.ex
  have hl := hb.lt
  have hm : ∀ b, Mine (w.alloc (.cells cs t)) g b → Mine w g b := by
    rintro b (e | ⟨a2, n2, c2, h2, o2⟩)
    · exact .inl e
    · refine .inr ⟨a2, n2, c2, ?_, o2⟩
      have := (Below.heap_alloc w (.cells cs t) g hl)
      exact this.symm.trans h2
  refine ⟨⟨(Still.below ((Still.refl w).alloc _)).mono h.at, (Turn.refl _ w).alloc _, fun b e => .inl (hm b e)⟩, fun e => ?_⟩
  rcases hm _ e with e | ⟨a2, n2, c2, h2, o2⟩
  · omega
  · obtain ⟨_, e⟩ := h2.inj hb
    simp at e
    obtain ⟨rfl, rfl, rfl⟩ := e
    have := (ho.lt _ o2).2
    omega
theorem Lit.alloc {B g : Nat} {xs : List Int} {w : World} (h : Lit B w g xs) (o : Obj) : Lit B (w.alloc o) g xs := by
  obtain ⟨s, hb, h1, h2, h3⟩ := h.ex
  exact ⟨⟨s, hb.alloc o, h1, by simp; omega, fun j u hj => (Still.cell ((Still.refl w).alloc o) (p := ⟨s, j, none⟩) h2).trans (h3 j u hj)⟩, h.le⟩
theorem Lit.behind {B g : Nat} {xs : List Int} {w : World} (h : Lit B w g xs) (cs : Array Value) (t : TypeId) : Wrote B w (w.alloc (.cells cs t)) g ∧ ¬ Mine (w.alloc (.cells cs t)) g w.heap.size := by
  obtain ⟨s, hb, h1, h2, h3⟩ := h.ex
  have hl := hb.lt
  have hm : ∀ b, Mine (w.alloc (.cells cs t)) g b → Mine w g b := by
    rintro b (e | ⟨a2, n2, c2, h2, o2⟩)
    · exact .inl e
    · refine .inr ⟨a2, n2, c2, ?_, o2⟩
      have := (Below.heap_alloc w (.cells cs t) g hl)
      exact this.symm.trans h2
  refine ⟨⟨(Still.below ((Still.refl w).alloc _)).mono (by have := h.le; omega), (Turn.refl _ w).alloc _, fun b e => .inl (hm b e)⟩, fun e => ?_⟩
  rcases hm _ e with e | ⟨a2, n2, c2, h4, o2⟩
  · omega
  · obtain ⟨_, e⟩ := h4.inj hb
    simp at e
    obtain ⟨rfl, rfl, rfl⟩ := e
    simp [Value.ownBlock] at o2
    omega
structure ImgAt (B : Nat) (w : World) (g i : Nat) (xs : List Int) (W : World) : Prop where
  wr : Writes B W g xs
  wo : Wrote B w W g
  bx : Blk W i 28 #[.slice none 0 0, .slice none 0 0, .slice none 0 0, .slice none 0 0, .slice none 0 0, .int .i64 0, .int .i64 0]
  nm : ¬ Mine W g i
theorem ImgAt.next {B g i : Nat} {xs ys : List Int} {w W W' : World} (h : ImgAt B w g i xs W) (hw : Writes B W' g ys) (k : Wrote B W W' g) : ImgAt B w g i ys W' :=
  ⟨hw, h.wo.trans k, (k.blk h.bx h.nm).1, (k.blk h.bx h.nm).2⟩
set_option maxRecDepth 100000 in
theorem image_nil {B g : Nat} {xs : List Int} {w : World} (h : Lit B w g xs) (hx : xs.length ≤ 1000) :
    Calls Tryz.prog 53 #[.pointer (some ⟨g, 0, none⟩), .agg #[.slice none 0 0, .slice none 0 0, .slice none 0 0, .slice none 0 0, .slice none 0 0, .int .i64 0, .int .i64 0]] w fun e w' => e = .returned (.tuple #[]) ∧ Writes B w' g (xs ++ [0, 0, 0, 0, 0, 0, 0]) ∧ Wrote B w w' g := by
  have H0 : Hid (Lit B (w.alloc (.cells #[.slice none 0 0, .slice none 0 0, .slice none 0 0, .slice none 0 0, .slice none 0 0, .int .i64 0, .int .i64 0] 28)) g xs ∧ Wrote B w (w.alloc (.cells #[.slice none 0 0, .slice none 0 0, .slice none 0 0, .slice none 0 0, .slice none 0 0, .int .i64 0, .int .i64 0] 28)) g ∧ Blk (w.alloc (.cells #[.slice none 0 0, .slice none 0 0, .slice none 0 0, .slice none 0 0, .slice none 0 0, .int .i64 0, .int .i64 0] 28)) w.heap.size 28 #[.slice none 0 0, .slice none 0 0, .slice none 0 0, .slice none 0 0, .slice none 0 0, .int .i64 0, .int .i64 0] ∧ ¬ Mine (w.alloc (.cells #[.slice none 0 0, .slice none 0 0, .slice none 0 0, .slice none 0 0, .slice none 0 0, .int .i64 0, .int .i64 0] 28)) g w.heap.size) := ⟨h.alloc _, (h.behind _ _).1, Blk.new w _ _, (h.behind _ _).2⟩
  have HX := Lib.hid hx
  clear h hx
  go_enter Tryz.func53, Tryz.ntmps53
  go_wp2_with fail
  refine (putT_lit _ H0.out.1 (by have := HX.out; (try simp); omega)).mono ?_; rintro e w1 ⟨rfl, v1, k1⟩
  have H1 : Hid (ImgAt B w g w.heap.size (xs ++ [0]) w1) := ⟨v1, H0.out.2.1.trans k1, (k1.blk H0.out.2.2.1 H0.out.2.2.2).1, (k1.blk H0.out.2.2.1 H0.out.2.2.2).2⟩
  obtain ⟨h0, c0, c1, c2, c3, c4, c5, c6⟩ := nilBox H1.out.bx
  clear v1 k1
  go_wp2_with fail
  clear h0 c0 c1 c2 c3 c4 c5 c6
  refine (putS_nil _ H1.out.wr (by have := HX.out; (try simp); omega)).mono ?_; rintro e w2 ⟨rfl, v2, k2⟩
  have H2 := Lib.hid (H1.out.next v2 k2)
  obtain ⟨h0, c0, c1, c2, c3, c4, c5, c6⟩ := nilBox H2.out.bx
  clear v2 k2
  go_wp2_with fail
  clear h0 c0 c1 c2 c3 c4 c5 c6
  refine (putX_nil _ H2.out.wr (by have := HX.out; (try simp); omega)).mono ?_; rintro e w3 ⟨rfl, v3, k3⟩
  have H3 := Lib.hid (H2.out.next v3 k3)
  obtain ⟨h0, c0, c1, c2, c3, c4, c5, c6⟩ := nilBox H3.out.bx
  clear v3 k3
  go_wp2_with fail
  clear h0 c0 c1 c2 c3 c4 c5 c6
  refine (putX_nil _ H3.out.wr (by have := HX.out; (try simp); omega)).mono ?_; rintro e w4 ⟨rfl, v4, k4⟩
  have H4 := Lib.hid (H3.out.next v4 k4)
  obtain ⟨h0, c0, c1, c2, c3, c4, c5, c6⟩ := nilBox H4.out.bx
  clear v4 k4
  go_wp2_with fail
  clear h0 c0 c1 c2 c3 c4 c5 c6
  refine (putF_nil _ H4.out.wr (by have := HX.out; (try simp); omega)).mono ?_; rintro e w5 ⟨rfl, v5, k5⟩
  have H5 := Lib.hid (H4.out.next v5 k5)
  obtain ⟨h0, c0, c1, c2, c3, c4, c5, c6⟩ := nilBox H5.out.bx
  clear v5 k5
  go_wp2_with fail
  clear h0 c0 c1 c2 c3 c4 c5 c6
  refine (number_0 H5.out.wr (by have := HX.out; (try simp); omega)).mono ?_; rintro e w6 ⟨rfl, v6, k6⟩
  have H6 := Lib.hid (H5.out.next v6 k6)
  obtain ⟨h0, c0, c1, c2, c3, c4, c5, c6⟩ := nilBox H6.out.bx
  clear v6 k6
  go_wp2_with fail
  clear h0 c0 c1 c2 c3 c4 c5 c6
  refine (number_0 H6.out.wr (by have := HX.out; (try simp); omega)).mono ?_; rintro e w7 ⟨rfl, v7, k7⟩
  have H7 := Lib.hid (H6.out.next v7 k7)
  obtain ⟨h0, c0, c1, c2, c3, c4, c5, c6⟩ := nilBox H7.out.bx
  clear v7 k7
  go_wp2_with fail
  clear h0 c0 c1 c2 c3 c4 c5 c6
  go_end0
  refine ⟨rfl, ?_, H7.out.wo⟩
  have := H7.out.wr
  simpa [List.append_assoc] using this
end Go.Proofs.YthlifflapgccbaaGreat
/- Encode and Decode of an empty image. -/
namespace Go.Proofs.YthlifflapgccbaaGreat
set_option linter.unusedVariables false
open Go.ChangeShapes Go.WideShapes Go.ChangeAt Go.RowKit
open M (W)
def M.bel : List Int := [66, 69, 76, 49, 0, 0, 0, 0, 0, 0, 0]
set_option maxRecDepth 100000 in
theorem encode_nil (w : World) :
    Calls Tryz.prog 26 #[.agg #[.slice none 0 0, .slice none 0 0, .slice none 0 0, .slice none 0 0, .slice none 0 0, .int .i64 0, .int .i64 0]] w fun e w' => ∃ a c, e = .returned (.tuple #[.slice a 11 c, .int .i64 0]) ∧ w'.ownsRow w.heap.size 5 1 (.slice a 11 c) 11 (M.bel.map (Value.int .u8)) ∧ Below w.heap.size w w' := by
  go_enter Tryz.func26, Tryz.ntmps26
  go_wp2_with fail
  refine (check_nil 0 0 _).mono ?_; rintro e w2 ⟨rfl, t2⟩
  have hbx := t2.blk (Blk.new w 28 #[.slice none 0 0, .slice none 0 0, .slice none 0 0, .slice none 0 0, .slice none 0 0, .int .i64 0, .int .i64 0])
  obtain ⟨h0, c0, c1, c2, c3, c4, c5, c6⟩ := nilBox hbx
  have T2 := Lib.hid ((Still.trans ((Still.refl w).alloc _) t2))
  have HB := Lib.hid hbx
  have hcv := Go.Joins.run_convert_bytes_const_at (P := Tryz.prog) w2 22 5 #[.int .u8 66, .int .u8 69, .int .u8 76, .int .u8 49] 4 4 w2.heap.size rfl Tryz.underlying22 Tryz.underlying5
  clear t2 hbx
  go_wp2_with fail
  have hW : Hid (Still w2 ((w2.alloc (.cells #[.int .u8 66, .int .u8 69, .int .u8 76, .int .u8 49] 5 (4, 5))).alloc (.cells #[.slice (some ⟨w2.heap.size, 0, none⟩) 4 4] 95))) := ((Still.refl w2).alloc _).alloc _
  have hb1 : Blk ((w2.alloc (.cells #[.int .u8 66, .int .u8 69, .int .u8 76, .int .u8 49] 5 (4, 5))).alloc (.cells #[.slice (some ⟨w2.heap.size, 0, none⟩) 4 4] 95)) (w2.heap.size + 1) 95 #[.slice (some ⟨w2.heap.size, 0, none⟩) 4 4] := by
    have := Blk.new (w2.alloc (.cells #[.int .u8 66, .int .u8 69, .int .u8 76, .int .u8 49] 5 (4, 5))) 95 #[.slice (some ⟨w2.heap.size, 0, none⟩) 4 4]
    rwa [show (w2.alloc (.cells #[.int .u8 66, .int .u8 69, .int .u8 76, .int .u8 49] 5 (4, 5))).heap.size = w2.heap.size + 1 by simp] at this
  have hlit : Lit w2.heap.size ((w2.alloc (.cells #[.int .u8 66, .int .u8 69, .int .u8 76, .int .u8 49] 5 (4, 5))).alloc (.cells #[.slice (some ⟨w2.heap.size, 0, none⟩) 4 4] 95)) (w2.heap.size + 1) [66, 69, 76, 49] := ⟨⟨w2.heap.size, hb1, Nat.le_refl _, by simp; omega, fun j u hj => by
    rw [Still.cell ((Still.refl (w2.alloc (.cells #[.int .u8 66, .int .u8 69, .int .u8 76, .int .u8 49] 5 (4, 5)))).alloc _) (p := ⟨w2.heap.size, j, none⟩) (by simp)]
    rw [Go.Joins.cell_alloc_mark_at w2 _ _ _ _ j rfl]
    simpa using hj⟩, by omega⟩
  refine (image_nil hlit (by simp)).mono ?_; rintro e w3 ⟨rfl, hw3, hk3⟩
  obtain ⟨a, c, hb3, ho3⟩ := hw3.ex
  have c30 : w3.cell? ⟨w2.heap.size + 1, 0, none⟩ = some (.slice a 11 c) := hb3.cell 0
  have c3l : w2.heap.size + 1 < w3.heap.size := hb3.lt
  have HO3 : Hid (w3.ownsRow w2.heap.size 5 1 (.slice a 11 c) 11 (M.bel.map (Value.int .u8))) := ho3
  have HK3 := Lib.hid hk3
  clear hw3 hb3 ho3 hk3 hlit hb1
  go_wp2_with fail
  go_ret2
  exact ⟨a, c, rfl, ownsRow_base HO3.out T2.out.size, (Still.below (Still.trans T2.out hW.out)).trans (HK3.out.below.mono T2.out.size)⟩
end Go.Proofs.YthlifflapgccbaaGreat
