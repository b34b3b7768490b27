/- CodeBack, for any image and any bytes. -/
import Derived.Test.YthlifflapgccbaaGreatL15
import Derived.Test.YthlifflapgccbaaGreatDecLess
import Derived.Test.YthlifflapgccbaaGreatSameW
namespace Go.Proofs.YthlifflapgccbaaGreat
set_option linter.unusedVariables false
set_option linter.unusedSimpArgs false
open Go.ChangeShapes Go.WideShapes Go.ChangeAt Go.RowKit
open M (W)
/-- Bytes that lie in old memory, and where, if there are four. -/
structure BysR (B : Nat) (w : World) (a : Option Addr) (n c : Nat) (L : List Int) : Prop where
  len : L.length = n
  bytes : M.Bytes L
  raw : 4 ≤ n → ∃ r o, a = some ⟨r, o, none⟩ ∧ r < B ∧ Raw w r o c L
theorem BysR.keep {B : Nat} {w w' : World} {a : Option Addr} {n c : Nat} {L : List Int} (h : BysR B w a n c L) (hb : Below B w w') (hB : B ≤ w.heap.size) : BysR B w' a n c L :=
  ⟨h.len, h.bytes, fun hn => by
    obtain ⟨r, o, h1, h2, h3⟩ := h.raw hn
    exact ⟨r, o, h1, h2, Nat.lt_of_lt_of_le h2 (Nat.le_trans hB hb.size), h3.le, fun j hj => (World.cell?_of_block (w := w) (hb.block r h2)).trans (h3.cells j hj)⟩⟩
theorem BysR.up {B C : Nat} {w : World} {a : Option Addr} {n c : Nat} {L : List Int} (h : BysR B w a n c L) (hB : B ≤ C) : BysR C w a n c L :=
  ⟨h.len, h.bytes, fun hn => by
    obtain ⟨r, o, h1, h2, h3⟩ := h.raw hn
    exact ⟨r, o, h1, Nat.lt_of_lt_of_le h2 hB, h3⟩⟩
theorem decB {B : Nat} {w : World} {ba : Option Addr} {bn bc : Nat} {LB : List Int} (hb : BysR B w ba bn bc LB) (hl : bn ≤ 100000000) :
    Calls Tryz.prog 4 #[.slice ba bn bc] w fun e w' => Still w w' ∧ ((∃ (v : ImgV) (m : M.Img), e = .returned (.tuple #[.agg v.cells, .int .i64 0]) ∧ ImgQ (Fresh w w') w' v m ∧ M.Good LB m) ∨ (e = .returned (.tuple #[.agg #[.slice none 0 0, .slice none 0 0, .slice none 0 0, .slice none 0 0, .slice none 0 0, .int .i64 0, .int .i64 0], .int .i64 20]) ∧ ∀ m, ¬ M.Good LB m)) := by
  by_cases h4 : 4 ≤ bn
  · obtain ⟨r, o, rfl, h2, h3⟩ := hb.raw h4
    have e := hb.len
    subst e
    exact decode_any h3 hb.bytes hl
  · exact (decode_less (by omega) w ba bc).mono fun e w' ⟨h1, h2⟩ => ⟨h2, .inr ⟨h1, fun m hm => by
      have h5 := congrArg List.length hm.1
      rw [List.length_append, hb.len] at h5
      simp [M.bel4] at h5
      omega⟩⟩
theorem good_one {L : List Int} {m m' : M.Img} (h : M.Good L m) (h' : M.Good L m') : m' = m :=
  (M.pre_Img m' m [] [] h'.2.1 h.2.1 (by rw [List.append_nil, List.append_nil]; exact List.append_cancel_left (h'.1.symm.trans h.1))).1
end Go.Proofs.YthlifflapgccbaaGreat
