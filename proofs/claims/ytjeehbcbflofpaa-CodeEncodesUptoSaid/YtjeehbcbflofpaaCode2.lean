/- The writer: numbers one behind the other. -/
import Derived.Test.YtjeehbcbflofpaaCode1
namespace Go.Proofs.Ytjeehbcbflofpaa
set_option linter.unusedVariables false
open Go.ChangeShapes Go.WideShapes Go.ChangeAt Go.RowKit
open M (W)

/-- A writer in memory: where it lies, and the row of bytes that it holds. -/
structure Writes (B : Nat) (w : World) (g : Nat) (xs : List Int) : Prop where
  ex : ∃ (a : Option Addr) (c : Nat), Blk w g 59 #[.slice a xs.length c] ∧ w.ownsRow B 5 1 (.slice a xs.length c) xs.length (xs.map (Value.int .u8))
  le : B ≤ g
theorem Turn.own {S : Nat → Prop} {w w' w0 : World} {B : Nat} (h : Turn S w w') (hb : Below B w0 w) (hB : B ≤ w0.heap.size) (hs : ∀ k, S k → B ≤ k) : Below B w0 w' := hb.trans (h.below (Nat.le_trans hB hb.size) hs)
theorem own_slice {w : World} {B : Nat} {t : TypeId} {v : Value} {n : Nat} {xs : List Value} (h : w.ownsRow B t 1 v n xs) : ∃ a c, v = .slice a n c := by
  rcases h.2 with ⟨rfl, rfl⟩ | ⟨g, cap, cur, rfl, _⟩
  · exact ⟨none, 0, rfl⟩
  · exact ⟨_, cap, rfl⟩
/-- What is the writer's own: it, and the block of its row. -/
def Mine (w : World) (g b : Nat) : Prop := b = g ∨ ∃ (a : Option Addr) (n c : Nat), Blk w g 59 #[.slice a n c] ∧ (Value.slice a n c).ownBlock = some b
structure Wrote (B : Nat) (w w' : World) (g : Nat) : Prop where
  below : Below B w w'
  turn : Turn (Mine w g) w w'
  mine : ∀ b, Mine w' g b → Mine w g b ∨ w.heap.size ≤ b
theorem Wrote.trans {B g : Nat} {w w1 w2 : World} (h : Wrote B w w1 g) (k : Wrote B w1 w2 g) : Wrote B w w2 g :=
  ⟨h.below.trans k.below, ⟨k.turn.os.trans h.turn.os, k.turn.tape.trans h.turn.tape, k.turn.output.trans h.turn.output, Nat.le_trans h.turn.size k.turn.size, fun b hb hn => by
    have hn1 : ¬ Mine w1 g b := fun e => by
      rcases h.mine b e with e | e
      · exact hn e
      · omega
    exact (k.turn.block b (Nat.lt_of_lt_of_le hb h.turn.size) hn1).trans (h.turn.block b hb hn)⟩, fun b hb => by
    rcases k.mine b hb with e | e
    · exact h.mine b e
    · exact .inr (Nat.le_trans h.turn.size e)⟩
theorem Wrote.blk {B g k : Nat} {w w' : World} {t : TypeId} {cs : Array Value} (h : Wrote B w w' g) (hb : Blk w k t cs) (hn : ¬ Mine w g k) : Blk w' k t cs ∧ ¬ Mine w' g k :=
  ⟨hb.keep h.turn hn, fun e => by
    rcases h.mine k e with e | e
    · exact hn e
    · have := hb.lt; omega⟩
set_option maxRecDepth 100000 in
theorem long_any (n : Int) {B g : Nat} {xs : List Int} {w : World} (h : Writes B w g xs) (h0 : -9223372036854775808 ≤ n) (h1 : n ≤ 9223372036854775807) (hx : xs.length ≤ 1000000000) :
    Calls Try.prog 80 #[.pointer (some ⟨g, 0, none⟩), .int .i64 n] w fun e w' => e = .returned (.tuple #[]) ∧ Writes B w' g (xs ++ M.enc (M.zig n)) ∧ Wrote B w w' g := by
  obtain ⟨a, c, hb, ho⟩ := h.ex
  have hle := h.le
  have hgl := hb.lt
  have d0 : w.drew.cell? ⟨g, 0, none⟩ = some (.slice a xs.length c) := hb.cell 0
  have dl : g < w.drew.heap.size := hgl
  have HP := Lib.hid (put_any n w.drew h0 h1)
  have HB : Hid (Blk w.drew g 59 #[.slice a xs.length c]) := hb
  have HO : Hid (w.drew.ownsRow B 5 1 (.slice a xs.length c) xs.length (xs.map (Value.int .u8))) := ho
  have HL := Lib.hid (M.enc_len10 (M.zig_lt h0 h1))
  have HE := Lib.hid (M.enc_pos (M.zig n))
  have HX := Lib.hid hx
  clear hb ho h hx
  generalize hk : xs.length = k at *
  have HK := Lib.hid hk
  clear hk
  go_enter Try.func80, Try.ntmps80
  go_wp2_with fail
  go_region_law (first
    | (go_simp; go_at_call 100; (with_reducible refine HP.out.mono ?_); rintro e wp ⟨vp, rfl, hop, hbp⟩; obtain ⟨ap, cp, rfl⟩ := own_slice hop; obtain ⟨gp, rfl, hgp, hgc, hgm, hcell, _⟩ := own_form hop HE.out; have d2 : wp.cell? ⟨g, 0, none⟩ = some (.slice a k c) := (hbp.cell (p := ⟨g, 0, none⟩) dl).trans d0; have dl2 : g < wp.heap.size := Nat.lt_of_lt_of_le dl hbp.size; have HOP := Lib.hid (And.intro hop hbp); have HC := Lib.hid hcell; clear hop hbp hcell hgc hgm hgp)
    | (refine step_append_form rfl (.tmp 8) (.tmp 10) 30 rfl B 5 1 1 (.int .u8 0) Try.underlying30 infoU8 rfl (by decide) a k c (xs.map (Value.int .u8)) (by simp [Act.eval]) (own_later HO.out HOP.out.2) ⟨gp, 0, none⟩ (M.enc (M.zig n)).length cp ((M.enc (M.zig n)).map (Value.int .u8)) (by simp [Act.eval]) (by simp) (fun j u hj => by
          have := HC.out j u hj
          rwa [show (⟨gp, j, none⟩ : Addr) = (⟨gp, 0, none⟩ : Addr).add j by by_cases hj0 : j = 0 <;> simp [Addr.add, hj0]] at this) (fun u hu => by obtain ⟨z, _, rfl⟩ := List.mem_map.1 hu; rfl) HE.out (by have := HL.out; have := HX.out; unfold maxLen; omega) (by have := HL.out; have := HX.out; omega) (by have := HOP.out.2.size; omega) ?_
       intro g' c' w4 hr4 ht4 hn4
       have NE := own_blk HO.out HB.out (by decide)
       have q2 : w4.cell? ⟨g, 0, none⟩ = some (.slice a k c) := (ht4.out.cell (p := ⟨g, 0, none⟩) dl2 NE).trans d2
       have q2f : w4.frozen? ⟨g, 0, none⟩ = false := (ht4.out.frozen (p := ⟨g, 0, none⟩) dl2 NE).trans ((HOP.out.2.frozen (p := ⟨g, 0, none⟩) dl).trans (HB.out.frozen 0))))
  all_goals
    go_wp2_with fail
    go_end0
    have hb4 : Blk w4 g 59 #[.slice a k c] := Blk.keep (w := wp) ((HOP.out.2.block g dl).trans HB.out) ht4.out NE
    have hk : (xs ++ M.enc (M.zig n)).length = k + (M.enc (M.zig n)).length := by rw [List.length_append, HK.out]
    have NE2 := own_blk hr4.out hb4 (by decide)
    refine ⟨rfl, ⟨⟨some ⟨g', 0, none⟩, c', ?_, ?_⟩, hle⟩, ?_⟩
    · rw [hk]; exact hb4.set 0 _
    · rw [hk, List.map_append]
      exact own_keep (S := fun b => b = g) hr4.out ((Turn.refl (fun b => b = g) w4).setCell (p := ⟨g, 0, none⟩) (fun _ => rfl) _) (fun b hb e => NE2 (e ▸ hb))
    · have b1 : Below B w wp := (Still.below (Turn.drew (Still.refl w) : Still w w.drew)).mono (Nat.le_trans hle (Nat.le_of_lt dl)) |>.trans (HOP.out.2.mono (Nat.le_trans hle (Nat.le_of_lt dl)))
      have b2 : Below B w w4 := ht4.out.own b1 (Nat.le_trans hle (Nat.le_of_lt hgl)) (fun b hb => (HO.out.lt b hb).1)
      refine ⟨((Turn.refl (fun b => b = g) w4).setCell (p := ⟨g, 0, none⟩) (fun _ => rfl) _).own b2 (Nat.le_trans hle (Nat.le_of_lt hgl)) (fun b hb => by rw [hb]; exact hle), ?_, ?_⟩
      · have t1 : Turn (Mine w g) w wp := (Turn.drew (Turn.refl _ w)).trans (Turn.of_below HOP.out.2 (fun k h1 h2 => by omega))
        have t2 : Turn (Mine w g) wp w4 := ht4.out.mono (fun b _ hb => .inr ⟨a, k, c, HB.out, hb⟩)
        exact (t1.trans t2).setCell (p := ⟨g, 0, none⟩) (fun _ => .inl rfl) _
      · rintro b (e | ⟨a2, n2, c2, hb2, ho2⟩)
        · exact .inl (.inl e)
        · obtain ⟨_, e⟩ := hb2.inj (hb4.set 0 _)
          simp at e
          obtain ⟨rfl, rfl, rfl⟩ := e
          have hbg : g' = b := by simpa [Value.ownBlock] using ho2
          rcases hn4.out with e | e
          · exact .inl (.inr ⟨a, k, c, HB.out, hbg ▸ e⟩)
          · right
            have := HOP.out.2.size
            have : w.heap.size ≤ wp.heap.size := this
            omega
theorem number_any (n : Int) {B g : Nat} {xs : List Int} {w : World} (h : Writes B w g xs) (h0 : -9223372036854775808 ≤ n) (h1 : n ≤ 9223372036854775807) (hx : xs.length ≤ 1000000000) :
    Calls Try.prog 49 #[.pointer (some ⟨g, 0, none⟩), .int .i64 n] w fun e w' => e = .returned (.tuple #[]) ∧ Writes B w' g (xs ++ M.enc (M.zig n)) ∧ Wrote B w w' g := by
  have H := Lib.hid (long_any n h h0 h1 hx)
  clear h
  go_enter Try.func49, Try.ntmps49
  go_wp2_with fail
  refine H.out.mono ?_; rintro e w1 ⟨rfl, hw, hb⟩
  go_wp2_with fail
  go_end0
  exact ⟨rfl, hw, hb⟩
theorem enc0 : M.enc (M.zig 0) = [0] := by unfold M.zig; rw [M.enc]; simp
theorem number_0 {B g : Nat} {xs : List Int} {w : World} (h : Writes B w g xs) (hx : xs.length ≤ 1000000000) :
    Calls Try.prog 49 #[.pointer (some ⟨g, 0, none⟩), .int .i64 0] w fun e w' => e = .returned (.tuple #[]) ∧ Writes B w' g (xs ++ [0]) ∧ Wrote B w w' g := by
  have := number_any 0 h (by decide) (by decide) hx
  rwa [enc0] at this
theorem putT_nil (f : Value) {B g : Nat} {xs : List Int} {w : World} (h : Writes B w g xs) (hx : xs.length ≤ 1000000000) :
    Calls Try.prog 41 #[.pointer (some ⟨g, 0, none⟩), .slice none 0 0, f] w fun e w' => e = .returned (.tuple #[]) ∧ Writes B w' g (xs ++ [0]) ∧ Wrote B w w' g := by
  have H := Lib.hid (number_0 h hx)
  clear h
  go_enter Try.func41, Try.ntmps41
  go_wp2_with fail
  refine H.out.mono ?_; rintro e w1 ⟨rfl, hw, hb⟩
  go_wp2_with fail
  go_loop [14] (fun v => v = .int .i64 0) (fun _ => 0)
  case atStart => rfl
  case round =>
    subst hrel
    go_wp2_with fail
    go_end0
    exact ⟨rfl, hw, hb⟩
theorem putS_nil (f : Value) {B g : Nat} {xs : List Int} {w : World} (h : Writes B w g xs) (hx : xs.length ≤ 1000000000) :
    Calls Try.prog 43 #[.pointer (some ⟨g, 0, none⟩), .slice none 0 0, f] w fun e w' => e = .returned (.tuple #[]) ∧ Writes B w' g (xs ++ [0]) ∧ Wrote B w w' g := by
  have H := Lib.hid (number_0 h hx)
  clear h
  go_enter Try.func43, Try.ntmps43
  go_wp2_with fail
  refine H.out.mono ?_; rintro e w1 ⟨rfl, hw, hb⟩
  go_wp2_with fail
  go_loop [14] (fun v => v = .int .i64 0) (fun _ => 0)
  case atStart => rfl
  case round =>
    subst hrel
    go_wp2_with fail
    go_end0
    exact ⟨rfl, hw, hb⟩
theorem putX_nil (f : Value) {B g : Nat} {xs : List Int} {w : World} (h : Writes B w g xs) (hx : xs.length ≤ 1000000000) :
    Calls Try.prog 45 #[.pointer (some ⟨g, 0, none⟩), .slice none 0 0, f] w fun e w' => e = .returned (.tuple #[]) ∧ Writes B w' g (xs ++ [0]) ∧ Wrote B w w' g := by
  have H := Lib.hid (number_0 h hx)
  clear h
  go_enter Try.func45, Try.ntmps45
  go_wp2_with fail
  refine H.out.mono ?_; rintro e w1 ⟨rfl, hw, hb⟩
  go_wp2_with fail
  go_loop [14] (fun v => v = .int .i64 0) (fun _ => 0)
  case atStart => rfl
  case round =>
    subst hrel
    go_wp2_with fail
    go_end0
    exact ⟨rfl, hw, hb⟩
theorem putF_nil (f : Value) {B g : Nat} {xs : List Int} {w : World} (h : Writes B w g xs) (hx : xs.length ≤ 1000000000) :
    Calls Try.prog 47 #[.pointer (some ⟨g, 0, none⟩), .slice none 0 0, f] w fun e w' => e = .returned (.tuple #[]) ∧ Writes B w' g (xs ++ [0]) ∧ Wrote B w w' g := by
  have H := Lib.hid (number_0 h hx)
  clear h
  go_enter Try.func47, Try.ntmps47
  go_wp2_with fail
  refine H.out.mono ?_; rintro e w1 ⟨rfl, hw, hb⟩
  go_wp2_with fail
  go_loop [14] (fun v => v = .int .i64 0) (fun _ => 0)
  case atStart => rfl
  case round =>
    subst hrel
    go_wp2_with fail
    go_end0
    exact ⟨rfl, hw, hb⟩
end Go.Proofs.Ytjeehbcbflofpaa
