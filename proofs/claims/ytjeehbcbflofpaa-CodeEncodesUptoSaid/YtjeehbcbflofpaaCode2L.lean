/- The writer's first number, behind a text's bytes as they were laid. -/
import Derived.Test.YtjeehbcbflofpaaCode2
import Derived.Deep.RegionLawGrows
namespace Go.Proofs.Ytjeehbcbflofpaa
set_option linter.unusedVariables false
open Go.ChangeShapes Go.WideShapes Go.ChangeAt Go.RowKit
open M (W)
theorem ownsRow_base {w : World} {base base' size n : Nat} {e : TypeId} {v : Value} {xs : List Value} (h : w.ownsRow base e size v n xs) (hb : base' ≤ base) : w.ownsRow base' e size v n xs :=
  ⟨h.1, h.2.elim Or.inl (fun ⟨g, cap, cur, hv, hg, r⟩ => Or.inr ⟨g, cap, cur, hv, Nat.le_trans hb hg, r⟩)⟩
/-- A writer that holds a text's bytes as they were laid. -/
structure Lit (B : Nat) (w : World) (g : Nat) (xs : List Int) : Prop where
  ex : ∃ s, Blk w g 59 #[.slice (some ⟨s, 0, none⟩) xs.length xs.length] ∧ B ≤ s ∧ s < w.heap.size ∧ ∀ j u, (xs.map (Value.int .u8))[j]? = some u → w.cell? ⟨s, j, none⟩ = some u
  le : B ≤ g
set_option maxRecDepth 100000 in
theorem long_lit (n : Int) {B g : Nat} {xs : List Int} {w : World} (h : Lit B w g xs) (h0 : -9223372036854775808 ≤ n) (h1 : n ≤ 9223372036854775807) (hx : xs.length ≤ 1000000000) :
    Calls Try.prog 80 #[.pointer (some ⟨g, 0, none⟩), .int .i64 n] w fun e w' => e = .returned (.tuple #[]) ∧ Writes B w' g (xs ++ M.enc (M.zig n)) ∧ Wrote B w w' g := by
  obtain ⟨i0, hi, hz0, hz1, hz2⟩ := info_parts infoU8
  obtain ⟨s, hb, hs, hsl, hsc⟩ := h.ex
  have hle := h.le
  have hgl := hb.lt
  have d0 : w.drew.cell? ⟨g, 0, none⟩ = some (.slice (some ⟨s, 0, none⟩) xs.length xs.length) := hb.cell 0
  have dl : g < w.drew.heap.size := hgl
  have HP := Lib.hid (put_any n w.drew h0 h1)
  have HB : Hid (Blk w.drew g 59 #[.slice (some ⟨s, 0, none⟩) xs.length xs.length]) := hb
  have HS : Hid (B ≤ s ∧ s < w.drew.heap.size ∧ ∀ j u, (xs.map (Value.int .u8))[j]? = some u → w.drew.cell? ⟨s, j, none⟩ = some u) := ⟨hs, hsl, hsc⟩
  have HL := Lib.hid (M.enc_len10 (M.zig_lt h0 h1))
  have HE := Lib.hid (M.enc_pos (M.zig n))
  have HX := Lib.hid hx
  clear hb h hx hs hsl hsc
  generalize hk : xs.length = k at *
  have HK := Lib.hid hk
  clear hk
  go_enter Try.func80, Try.ntmps80
  go_wp2_with fail
  go_region_law (first
    | (go_simp; go_at_call 100; (with_reducible refine HP.out.mono ?_); rintro e wp ⟨vp, rfl, hop, hbp⟩; obtain ⟨ap, cp, rfl⟩ := own_slice hop; obtain ⟨gp, rfl, hgp, hgc, hgm, hcell, _⟩ := own_form hop HE.out; have d2 : wp.cell? ⟨g, 0, none⟩ = some (.slice (some ⟨s, 0, none⟩) k k) := (hbp.cell (p := ⟨g, 0, none⟩) dl).trans d0; have dl2 : g < wp.heap.size := Nat.lt_of_lt_of_le dl hbp.size; have HOP := Lib.hid (And.intro hop hbp); have HC := Lib.hid hcell; clear hop hbp hcell hgc hgm hgp)
    | (refine step_append_grows rfl (.tmp 8) (.tmp 10) 30 rfl 5 i0 (.int .u8 0) 1 1 Try.underlying30 hi hz0 hz1 hz2 rfl (by decide) (some ⟨s, 0, none⟩) k k (xs.map (Value.int .u8)) (by simp [Act.eval]) (by simp) (by simp [HK.out]) (fun b hb j u hj => by
          injection hb with hb; subst hb
          have := HS.out.2.2 j u hj
          rw [← HOP.out.2.cell (p := ⟨s, j, none⟩) HS.out.2.1] at this
          rwa [show (⟨s, j, none⟩ : Addr) = (⟨s, 0, none⟩ : Addr).add j by by_cases hj0 : j = 0 <;> simp [Addr.add, hj0]] at this) ⟨gp, 0, none⟩ (M.enc (M.zig n)).length cp ((M.enc (M.zig n)).map (Value.int .u8)) (by simp [Act.eval]) (by simp) (fun j u hj => by
          have := HC.out j u hj
          rwa [show (⟨gp, j, none⟩ : Addr) = (⟨gp, 0, none⟩ : Addr).add j by by_cases hj0 : j = 0 <;> simp [Addr.add, hj0]] at this) (fun u hu => by obtain ⟨z, _, rfl⟩ := List.mem_map.1 hu; rfl) (by have := HE.out; omega) (by have := HL.out; have := HX.out; unfold maxLen; omega) (by have := HL.out; have := HX.out; omega) ?_
       intro v9 w4 hr hgr
       obtain ⟨a9, c9, rfl⟩ := own_slice hr
       have hr4 := Lib.hid hr
       have ht4 : Hid (Still wp w4) := (Turn.refl _ wp).grown hgr (fun k hk => by simp at hk)
       clear hr hgr
       have q2 : w4.cell? ⟨g, 0, none⟩ = some (.slice (some ⟨s, 0, none⟩) k k) := (Still.cell ht4.out (p := ⟨g, 0, none⟩) dl2).trans d2
       have q2f : w4.frozen? ⟨g, 0, none⟩ = false := (Turn.frozen ht4.out (p := ⟨g, 0, none⟩) dl2 (fun e => e)).trans ((HOP.out.2.frozen (p := ⟨g, 0, none⟩) dl).trans (HB.out.frozen 0))))
  all_goals
    go_wp2_with fail
    go_end0
    have hb4 : Blk w4 g 59 #[.slice (some ⟨s, 0, none⟩) k k] := Still.blk ht4.out ((HOP.out.2.block g dl).trans HB.out)
    have hk : (xs ++ M.enc (M.zig n)).length = k + (M.enc (M.zig n)).length := by rw [List.length_append, HK.out]
    have NE2 := own_blk hr4.out hb4 (by decide)
    have hsz : w.heap.size ≤ wp.heap.size := HOP.out.2.size
    refine ⟨rfl, ⟨⟨a9, c9, ?_, ?_⟩, hle⟩, ?_⟩
    · rw [hk]; exact hb4.set 0 _
    · rw [hk, List.map_append]
      exact ownsRow_base (own_keep (S := fun b => b = g) hr4.out ((Turn.refl (fun b => b = g) w4).setCell (p := ⟨g, 0, none⟩) (fun _ => rfl) _) (fun b hb e => NE2 (e ▸ hb))) (by omega)
    · have b1 : Below B w wp := (Still.below (Turn.drew (Still.refl w) : Still w w.drew)).mono (Nat.le_trans hle (Nat.le_of_lt dl)) |>.trans (HOP.out.2.mono (Nat.le_trans hle (Nat.le_of_lt dl)))
      have b2 : Below B w w4 := b1.trans ((Still.below ht4.out).mono (by omega))
      refine ⟨((Turn.refl (fun b => b = g) w4).setCell (p := ⟨g, 0, none⟩) (fun _ => rfl) _).own b2 (Nat.le_trans hle (Nat.le_of_lt hgl)) (fun b hb => by rw [hb]; exact hle), ?_, ?_⟩
      · have t1 : Turn (Mine w g) w wp := (Turn.drew (Turn.refl _ w)).trans (Turn.of_below HOP.out.2 (fun k h1 h2 => by omega))
        exact (t1.trans (Still.turn ht4.out)).setCell (p := ⟨g, 0, none⟩) (fun _ => .inl rfl) _
      · rintro b (e | ⟨a2, n2, c2, hb2, ho2⟩)
        · exact .inl (.inl e)
        · obtain ⟨_, e⟩ := hb2.inj (hb4.set 0 _)
          simp at e
          obtain ⟨rfl, rfl, rfl⟩ := e
          have := (hr4.out.lt b ho2).1
          exact .inr (by omega)
theorem number_lit (n : Int) {B g : Nat} {xs : List Int} {w : World} (h : Lit B w g xs) (h0 : -9223372036854775808 ≤ n) (h1 : n ≤ 9223372036854775807) (hx : xs.length ≤ 1000000000) :
    Calls Try.prog 49 #[.pointer (some ⟨g, 0, none⟩), .int .i64 n] w fun e w' => e = .returned (.tuple #[]) ∧ Writes B w' g (xs ++ M.enc (M.zig n)) ∧ Wrote B w w' g := by
  have H := Lib.hid (long_lit n h h0 h1 hx)
  clear h
  go_enter Try.func49, Try.ntmps49
  go_wp2_with fail
  refine H.out.mono ?_; rintro e w1 ⟨rfl, hw, hb⟩
  go_wp2_with fail
  go_end0
  exact ⟨rfl, hw, hb⟩
theorem number_lit0 {B g : Nat} {xs : List Int} {w : World} (h : Lit B w g xs) (hx : xs.length ≤ 1000000000) :
    Calls Try.prog 49 #[.pointer (some ⟨g, 0, none⟩), .int .i64 0] w fun e w' => e = .returned (.tuple #[]) ∧ Writes B w' g (xs ++ [0]) ∧ Wrote B w w' g := by
  have := number_lit 0 h (by decide) (by decide) hx
  rwa [enc0] at this
theorem putT_lit (f : Value) {B g : Nat} {xs : List Int} {w : World} (h : Lit B w g xs) (hx : xs.length ≤ 1000000000) :
    Calls Try.prog 41 #[.pointer (some ⟨g, 0, none⟩), .slice none 0 0, f] w fun e w' => e = .returned (.tuple #[]) ∧ Writes B w' g (xs ++ [0]) ∧ Wrote B w w' g := by
  have H := Lib.hid (number_lit0 h hx)
  clear h
  go_enter Try.func41, Try.ntmps41
  go_wp2_with fail
  refine H.out.mono ?_; rintro e w1 ⟨rfl, hw, hb⟩
  go_wp2_with fail
  go_loop [14] (fun v => v = .int .i64 0) (fun _ => 0)
  case atStart => rfl
  case round =>
    subst hrel
    go_wp2_with fail
    go_end0
    exact ⟨rfl, hw, hb⟩
end Go.Proofs.Ytjeehbcbflofpaa
