/- What HeapRoom wants of Alloc: a heap of one layout. -/
import Derived.Test.YtmfhjfkghljoeaaMakes
namespace Go.Proofs.Ytmfhjfkghljoeaa
set_option linter.unusedVariables false
open Go.ChangeShapes Go.WideShapes Go.ChangeAt Go.RowKit
open M (W)

/-- In wr stands, at g, a heap of n words with one layout of the kind kd, top of which are taken; w is the world of the call's beginning. -/
def Room (w wr : World) (g n : Nat) (kd : Int) (top : Nat) : Prop :=
  ∃ s : St, HpIs wr s ∧ s.g = g ∧ s.n = n ∧ s.top = top ∧ s.m = 1 ∧ s.lk 0 = kd ∧ s.ln 0 = 0 ∧ Below w.heap.size w wr ∧ w.heap.size ≤ s.g ∧ w.heap.size ≤ s.gw
/-- An object stands at k. -/
def RoomIs (wr : World) (g : Nat) (k : Int) : Prop := ∃ s : St, HpIs wr s ∧ s.g = g ∧ s.is k = true
def M.room (kd z : Int) : Int := if kd = 3 then 1 + (z + 7) / 8 else 1 + z
theorem Room.below {w wr : World} {g n top : Nat} {kd : Int} (h : Room w wr g n kd top) : Below w.heap.size w wr := by obtain ⟨s, _, _, _, _, _, _, _, h, _⟩ := h; exact h
theorem Room.top_le {w wr : World} {g n top : Nat} {kd : Int} (h : Room w wr g n kd top) : top ≤ n := by obtain ⟨s, h, _, rfl, rfl, _⟩ := h; exact h.top_le
theorem Room.n_le {w wr : World} {g n top : Nat} {kd : Int} (h : Room w wr g n kd top) : n ≤ 65536 := by obtain ⟨s, h, _, rfl, rfl, _⟩ := h; exact h.n_le
theorem room_need {s : St} {kd : Int} (h1 : s.m = 1) (h2 : s.lk 0 = kd) (h3 : s.ln 0 = 0) (hk : kd = 2 ∨ kd = 3) (z : Int) :
    (z < 0 → s.needE 0 z = 1) ∧ (65536 < z → s.needE 0 z = 2) ∧ (0 ≤ z → z ≤ 65536 → s.needE 0 z = 0 ∧ s.need 0 z = M.room kd z) := by
  unfold St.needE St.need St.kind St.len
  rw [h1]
  simp only [Int.toNat_zero]
  rw [if_pos (by omega), h2, if_pos (by omega)]
  unfold M.needE M.need M.room
  refine ⟨fun h => by rw [if_pos (by omega)], fun h => by rw [if_neg (by omega), if_pos h], fun h h' => ⟨by rw [if_neg (by omega), if_neg (by omega)], ?_⟩⟩
  rw [if_neg (by omega), if_neg (by omega)]
theorem room_lays (w : World) (kd : Int) : Lays (w.alloc (.cells #[.int .i64 kd, .int .i64 0] 40)) (some ⟨w.heap.size, 0, none⟩) 1 (fun _ => kd) (fun _ => 0) :=
  ⟨fun _ => ⟨w.heap.size, 0, rfl, by simp, fun j hj => by
    have hb := Blk.new w 40 #[.int .i64 kd, .int .i64 0]
    obtain rfl : j = 0 := by omega
    exact ⟨hb.cell 0, hb.cell 1⟩⟩⟩
theorem room_new (w : World) (n cap : Nat) (kd : Int) (hk : kd = 2 ∨ kd = 3) (hn : n ≤ 4000) : Calls Try.prog 12 #[.int .i64 n, .slice (some ⟨w.heap.size, 0, none⟩) 1 cap] (w.alloc (.cells #[.int .i64 kd, .int .i64 0] 40)) fun e w' =>
    ∃ g, e = .returned (.tuple #[.pointer (some ⟨g, 0, none⟩), .int .i64 0]) ∧ Room w w' g n kd 0 := by
  refine (new_ok n _ 1 cap (fun _ => kd) (fun _ => 0) _ (by omega) (by decide) (room_lays w kd) (fun j hj => by rcases hk with rfl | rfl <;> decide)).mono fun e w' ⟨s, h1, h2, h3, h4, h5, h6, h7, h8, h9, h10, h11, h12, h13⟩ => ⟨s.g, h1, s, h2, rfl, h7, h8, h11, by rw [h12], by rw [h13], ?_, ?_, ?_⟩
  · exact ((Below.refl _ w).alloc (Nat.le_refl _) _).trans ((Still.below h3).mono (by simp))
  · simp at h4; omega
  · simp at h5; omega
theorem room_neg {w wr : World} {g n top : Nat} {kd : Int} (h : Room w wr g n kd top) (hk : kd = 2 ∨ kd = 3) (z : Int) (hz : z < 0) : Calls Try.prog 43 #[.pointer (some ⟨g, 0, none⟩), .int .i64 0, .int .i64 z] wr fun e w' => e = .returned (.tuple #[.int .i64 0, .int .i64 1]) ∧ Room w w' g n kd top := by
  obtain ⟨s, hs, rfl, h1, h2, h3, h4, h5, h6, h7, h8⟩ := h
  have he := (room_need h3 h4 h5 hk z).1 hz
  have := alloc_err s 0 z wr hs (by rw [he]; decide)
  rw [he] at this
  exact this.mono fun e w' ⟨he, hw⟩ => ⟨he, s, hs.still hw, rfl, h1, h2, h3, h4, h5, Turn.own hw h6 (Nat.le_refl _) (fun _ e => e.elim), h7, h8⟩
theorem room_big {w wr : World} {g n top : Nat} {kd : Int} (h : Room w wr g n kd top) (hk : kd = 2 ∨ kd = 3) (z : Int) (hz : 65536 < z) : Calls Try.prog 43 #[.pointer (some ⟨g, 0, none⟩), .int .i64 0, .int .i64 z] wr fun e w' => e = .returned (.tuple #[.int .i64 0, .int .i64 2]) ∧ Room w w' g n kd top := by
  obtain ⟨s, hs, rfl, h1, h2, h3, h4, h5, h6, h7, h8⟩ := h
  have he := (room_need h3 h4 h5 hk z).2.1 hz
  have := alloc_err s 0 z wr hs (by rw [he]; decide)
  rw [he] at this
  exact this.mono fun e w' ⟨he, hw⟩ => ⟨he, s, hs.still hw, rfl, h1, h2, h3, h4, h5, Turn.own hw h6 (Nat.le_refl _) (fun _ e => e.elim), h7, h8⟩
theorem room_full {w wr : World} {g n top : Nat} {kd : Int} (h : Room w wr g n kd top) (hk : kd = 2 ∨ kd = 3) (z : Int) (hz : 0 ≤ z) (hz2 : z ≤ 65536) (hf : (n : Int) - top < M.room kd z) : Calls Try.prog 43 #[.pointer (some ⟨g, 0, none⟩), .int .i64 0, .int .i64 z] wr fun e w' => e = .returned (.tuple #[.int .i64 0, .int .i64 3]) ∧ Room w w' g n kd top := by
  obtain ⟨s, hs, rfl, h1, h2, h3, h4, h5, h6, h7, h8⟩ := h
  obtain ⟨he, hn⟩ := (room_need h3 h4 h5 hk z).2.2 hz hz2
  have := alloc_full s 0 z wr hs he (by rw [hn, h1, h2]; exact hf)
  exact this.mono fun e w' ⟨he, hw⟩ => ⟨he, s, hs.still hw, rfl, h1, h2, h3, h4, h5, Turn.own hw h6 (Nat.le_refl _) (fun _ e => e.elim), h7, h8⟩
theorem room_ok {w wr : World} {g n top D : Nat} {kd : Int} (h : Room w wr g n kd top) (hk : kd = 2 ∨ kd = 3) (z : Int) (hz : 0 ≤ z) (hz2 : z ≤ 65536) (hD : M.room kd z = D) (hf : D + top ≤ n) : Calls Try.prog 43 #[.pointer (some ⟨g, 0, none⟩), .int .i64 0, .int .i64 z] wr fun e w' => e = .returned (.tuple #[.int .i64 top, .int .i64 0]) ∧ Room w w' g n kd (top + D) ∧ RoomIs w' g top := by
  obtain ⟨s, hs, rfl, rfl, rfl, h3, h4, h5, h6, h7, h8⟩ := h
  obtain ⟨he, hn⟩ := (room_need h3 h4 h5 hk z).2.2 hz hz2
  have hD1 : 1 ≤ D := by unfold M.room at hD; split at hD <;> omega
  have := alloc_ok s 0 z D wr hs he (by rw [hn, hD]) (by omega) hD1
  refine this.mono fun e w' ⟨he, hw, ht⟩ => ⟨he, ⟨_, hw, rfl, rfl, rfl, h3, h4, h5, ht.own h6 (Nat.le_refl _) (by rintro k (rfl | rfl) <;> assumption), h7, h8⟩, ⟨_, hw, rfl, ?_⟩⟩
  show M.inSet (M.putIn s.hx s.top) s.top = true
  have := hs.n_le
  rw [M.putIn_in _ _ (by omega)]
  simp
theorem room_is {wr : World} {g : Nat} {k : Int} (h : RoomIs wr g k) : Calls Try.prog 28 #[.pointer (some ⟨g, 0, none⟩), .int .i64 k] wr fun e w' => e = .returned (.bool true) ∧ w' = wr := by
  obtain ⟨s, hs, rfl, hk⟩ := h
  have := is_any s k wr hs
  rwa [hk] at this
theorem room_top {w wr : World} {g n top : Nat} {kd : Int} (h : Room w wr g n kd top) : Calls Try.prog 15 #[.pointer (some ⟨g, 0, none⟩)] wr fun e w' => e = .returned (.int .i64 top) ∧ w' = wr := by
  obtain ⟨s, hs, rfl, h1, rfl, _⟩ := h
  exact top_any s wr hs
end Go.Proofs.Ytmfhjfkghljoeaa
