/- The writer: a text behind others. -/
import Derived.Test.YthlifflapgccbaaGreatL03
import Derived.Test.YthlifflapgccbaaGreatL07
import Derived.Test.YthlifflapgccbaaGreatL02
namespace Go.Proofs.YthlifflapgccbaaGreat
set_option linter.unusedVariables false
open Go.ChangeShapes Go.WideShapes Go.ChangeAt Go.RowKit
open M (W)
theorem Writes.stored {B g : Nat} {xs ys : List Int} {w wp w4 : World} {a a' : Option Addr} {c cap n' : Nat} (hle : B ≤ g) (hb : Blk w g 95 #[.slice a xs.length c]) (ho : w.ownsRow B 5 1 (.slice a xs.length c) xs.length (xs.map (Value.int .u8))) (hbel : Below w.heap.size w wp)
    (hn : n' = (xs ++ ys).length) (h4 : w4.ownsRow B 5 1 (.slice a' n' cap) n' ((xs ++ ys).map (Value.int .u8))) (t4 : Turn (fun k => (Value.slice a xs.length c).ownBlock = some k) wp w4)
    (k4 : ∀ b, (Value.slice a' n' cap).ownBlock = some b → (Value.slice a xs.length c).ownBlock = some b ∨ wp.heap.size ≤ b) :
    Writes B (w4.setCell ⟨g, 0, none⟩ (.slice a' n' cap)) g (xs ++ ys) ∧ Wrote B w (w4.setCell ⟨g, 0, none⟩ (.slice a' n' cap)) g := by
  have hgl := hb.lt
  have NE := own_blk ho hb (by decide)
  have hb4 : Blk w4 g 95 #[.slice a xs.length c] := Blk.keep (w := wp) ((hbel.block g hgl).trans hb) t4 NE
  have NE2 := own_blk h4 hb4 (by decide)
  refine ⟨⟨⟨a', cap, ?_, ?_⟩, hle⟩, ?_⟩
  · rw [← hn]; exact hb4.set 0 _
  · rw [← hn]
    exact own_keep (S := fun b => b = g) h4 ((Turn.refl (fun b => b = g) w4).setCell (p := ⟨g, 0, none⟩) (fun _ => rfl) _) (fun b hb e => NE2 (e ▸ hb))
  · have b1 : Below B w wp := hbel.mono (by omega)
    have b2 : Below B w w4 := t4.own b1 (by omega) (fun b hb => (ho.lt b hb).1)
    refine ⟨((Turn.refl (fun b => b = g) w4).setCell (p := ⟨g, 0, none⟩) (fun _ => rfl) _).own b2 (by omega) (fun b hb => by rw [hb]; exact hle), ?_, ?_⟩
    · have t1 : Turn (Mine w g) w wp := Turn.of_below hbel (fun k h1 h2 => by omega)
      have t2 : Turn (Mine w g) wp w4 := t4.mono (fun b _ hb' => .inr ⟨a, xs.length, c, hb, hb'⟩)
      exact (t1.trans t2).setCell (p := ⟨g, 0, none⟩) (fun _ => .inl rfl) _
    · rintro b (e | ⟨a2, n2, c2, hb2, ho2⟩)
      · exact .inl (.inl e)
      · obtain ⟨_, e⟩ := hb2.inj (hb4.set 0 _)
        simp at e
        obtain ⟨rfl, rfl, rfl⟩ := e
        rcases k4 b ho2 with e | e
        · exact .inl (.inr ⟨a, xs.length, c, hb, e⟩)
        · right
          have := hbel.size
          omega
theorem chars_cells (s : ByteArray) : (M.chars s).map (Value.int .u8) = Go.Lib.strCells s := by
  unfold M.chars Go.Lib.strCells
  rw [List.map_map]
  rfl
theorem own_u8 {w : World} {B : Nat} {v : Value} {n : Nat} {xs : List Value} (h : w.ownsRow B 5 1 v n xs) : B ≤ w.heap.size ∨ v = .slice none 0 0 := by
  rcases h.2 with ⟨rfl, rfl⟩ | ⟨g, cap, cur, rfl, hb, hg, _⟩
  · exact .inr rfl
  · have := (Array.getElem?_eq_some_iff.1 hg).1
    exact .inl (by omega)
set_option maxRecDepth 100000 in
theorem text_any (s : ByteArray) {B g : Nat} {xs : List Int} {w : World} (h : Writes B w g xs) (hs : s.size ≤ maxLen) (hx : (xs ++ M.text s).length ≤ 1000000000) :
    Calls Tryz.prog 84 #[.pointer (some ⟨g, 0, none⟩), .string s] w fun e w' => e = .returned (.tuple #[]) ∧ Writes B w' g (xs ++ M.text s) ∧ Wrote B w w' g := by
  have hz := M.num_nat hs
  have hx' := hx
  simp only [M.text, List.length_append, M.chars_len] at hx'
  have H := Lib.hid (number_any (s.size : Int) h hz.1 hz.2 (by omega))
  have hsz : s.size ≤ 1000000000 := by omega
  have HX : Hid ((xs ++ M.num s.size).length + s.size ≤ 1000000000) := by rw [Hid, List.length_append]; omega
  clear h hx hx' hz hs
  go_enter Tryz.func84, Tryz.ntmps84
  go_wp2_with fail
  refine H.out.mono ?_; rintro e w1 ⟨rfl, hw, hb⟩
  change Writes B w1 g (xs ++ M.num s.size) at hw
  obtain ⟨a, c, hb1, ho1⟩ := hw.ex
  have hle := hw.le
  have d0 : w1.cell? ⟨g, 0, none⟩ = some (.slice a (xs ++ M.num s.size).length c) := hb1.cell 0
  have d1 : w1.frozen? ⟨g, 0, none⟩ = false := hb1.frozen 0
  have dl : g < w1.heap.size := hb1.lt
  have HB1 := Lib.hid hb1
  have HO1 := Lib.hid ho1
  have HWR := Lib.hid hb
  clear hw hb hb1 ho1
  generalize hk : (xs ++ M.num s.size).length = k at d0 HB1 HO1 HX
  have HK := Lib.hid hk
  clear hk
  go_wp2_with (refine wpList_append_str rfl (.tmp 12) (.tmp 13) 22 9 rfl B 5 Tryz.underlying22 Tryz.underlying9 infoU8 a k c _ (by simp [Act.eval]) HO1.out s (by simp [Act.eval]) (by have := HX.out; unfold maxLen; omega) (by have := HX.out; omega) (by omega) ?_
               intro a' cap w4 hr4 ht4 hn4
               have NE := own_blk HO1.out HB1.out (by decide)
               have q2 : w4.cell? ⟨g, 0, none⟩ = some (.slice a k c) := (ht4.out.cell (p := ⟨g, 0, none⟩) dl NE).trans d0
               have q2f : w4.frozen? ⟨g, 0, none⟩ = false := (ht4.out.frozen (p := ⟨g, 0, none⟩) dl NE).trans d1)
  go_end0
  have hkk := HK.out
  subst hkk
  have := Writes.stored (ys := M.chars s) (n' := (xs ++ M.num s.size).length + s.size) hle HB1.out HO1.out (Below.refl _ _) (by rw [List.length_append (bs := M.chars s), M.chars_len]) (by rw [List.map_append, chars_cells]; exact hr4.out) ht4.out hn4.out
  rw [List.append_assoc] at this
  exact ⟨rfl, this.1, HWR.out.trans this.2⟩
end Go.Proofs.YthlifflapgccbaaGreat
