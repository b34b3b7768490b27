/- The writer: an instruction. -/
import Derived.Test.YthlifflapgccbaaGreatWrParts
import Derived.Test.YthlifflapgccbaaGreatL06
import Derived.Lib.OthersKept
namespace Go.Proofs.YthlifflapgccbaaGreat
set_option linter.unusedVariables false
open Go.ChangeShapes Go.WideShapes Go.ChangeAt Go.RowKit
open M (W)
theorem Turn.iterAt {S : Nat → Prop} {w w' : World} (h : Turn S w w') {k : Nat} (hk : k < w.heap.size → S k) (s : ByteArray) (pos : Nat) : Turn S w (w'.iterAt k s pos) :=
  ⟨h.os, h.tape, h.output, by rw [Lib.iterAt_size]; exact h.size, fun i hi hn => (Lib.iterAt_other w' k i s pos (fun e => hn (by subst e; exact hk hi))).trans (h.block i hi hn)⟩
theorem Mine.back {w w' : World} {g b k : Nat} {a : Option Addr} {n c : Nat} (h : Mine w' g b) (hg : Blk w g 95 #[.slice a n c]) (t : Turn (fun j => j = k) w w') (hk : k ≠ g) : Mine w g b := by
  rcases h with h | ⟨a2, n2, c2, h2, o2⟩
  · exact .inl h
  · exact .inr ⟨a2, n2, c2, by
      have := t.block g hg.lt (fun e => hk e.symm)
      unfold Blk at h2 ⊢
      rwa [← this], o2⟩
theorem Wrote.side {B g k : Nat} {w W W' : World} {a : Option Addr} {n c : Nat} (h : Wrote B w W g) (t : Turn (fun b => b = k) W W') (hk : w.heap.size ≤ k) (hB : B ≤ w.heap.size) (hg : k ≠ g) (hb : Blk W g 95 #[.slice a n c]) : Wrote B w W' g :=
  ⟨h.below.trans (t.below (Nat.le_trans hB h.below.size) (fun j hj => by omega)), ⟨t.os.trans h.turn.os, t.tape.trans h.turn.tape, t.output.trans h.turn.output, Nat.le_trans h.turn.size t.size, fun j hj hn => (t.block j (Nat.lt_of_lt_of_le hj h.turn.size) (by omega)).trans (h.turn.block j hj hn)⟩, fun b hm => h.mine b (hm.back hb t hg)⟩
theorem Writes.side {B g k : Nat} {xs : List Int} {w w' : World} (h : Writes B w g xs) (t : Turn (fun b => b = k) w w') (hk : ¬ Mine w g k) : Writes B w' g xs := by
  obtain ⟨a, c, hb, ho⟩ := h.ex
  refine ⟨⟨a, c, hb.keep t (fun e => hk (.inl e.symm)), own_keep ho t (fun b hb' e => hk (.inr ⟨a, _, c, hb, by subst e; exact hb'⟩))⟩, h.le⟩
theorem uses_letters (op : Int) : ∀ c ∈ (M.uses op).data.toList, c = 68 ∨ c = 65 ∨ c = 66 ∨ c = 67 ∨ c = 78 ∨ c = 76 ∨ c = 77 ∨ c = 108 := by
  unfold M.uses
  split <;> decide
/-- Where the writer of an instruction stands: its box, and what it has of the letters. -/
structure Spell (B : Nat) (w : World) (g i : Nat) (t : TypeId) (cs : Array Value) (xs : List Int) (k : Nat) (u : ByteArray) (f : UInt8 → List Int) (pos : Nat) (W : World) : Prop where
  at_ : At B w g i t cs (xs ++ (u.data.toList.take pos).flatMap f) W
  it : W.heap[k]? = some (.stringIter u pos)
  nm : ¬ Mine W g k
  le : pos ≤ u.size
theorem Writes.notMine {B g k : Nat} {xs : List Int} {w : World} (h : Writes B w g xs) (hk : w.heap.size ≤ k) : ¬ Mine w g k := by
  obtain ⟨a, c, hb, ho⟩ := h.ex
  have hl := hb.lt
  rintro (e | ⟨a2, n2, c2, h2, o2⟩)
  · omega
  · obtain ⟨_, e⟩ := h2.inj hb
    simp at e
    obtain ⟨rfl, rfl, rfl⟩ := e
    have := (ho.lt _ o2).2
    omega
theorem At.side {B g i k : Nat} {t : TypeId} {cs : Array Value} {xs : List Int} {w W W' : World} (h : At B w g i t cs xs W) (hB : B ≤ w.heap.size) (hk : w.heap.size ≤ k) (hm : ¬ Mine W g k) (hi : i ≠ k) (s : Turn (fun b => b = k) W W') : At B w g i t cs xs W' := by
  obtain ⟨a, c, hb, ho⟩ := h.wr.ex
  have hg : k ≠ g := fun e => hm (.inl e)
  exact ⟨h.wr.side s hm, h.wo.side s hk hB hg hb, h.bx.keep s hi, fun e => h.nm (e.back hb s hg)⟩
theorem Spell.start {B g i : Nat} {t : TypeId} {cs : Array Value} {xs : List Int} {w W : World} (h : At B w g i t cs xs W) (hB : B ≤ w.heap.size) (u : ByteArray) (f : UInt8 → List Int) : Spell B w g i t cs xs W.heap.size u f 0 (W.iter u 0) := by
  obtain ⟨a, c, hb, ho⟩ := h.wr.ex
  have hm := h.wr.notMine (Nat.le_refl _)
  have hg : W.heap.size ≠ g := fun e => hm (.inl e)
  have hi := h.bx.lt
  have ts : Turn (fun b => b = W.heap.size) W (W.iter u 0) := (Turn.refl _ W).alloc _
  refine ⟨?_, World.iter_heap W u 0, fun e => hm (e.back hb ts hg), by omega⟩
  simpa using h.side hB h.wo.below.size hm (by omega) ts
theorem Spell.next {B g i k : Nat} {t : TypeId} {cs : Array Value} {xs : List Int} {u : ByteArray} {f : UInt8 → List Int} {pos : Nat} {w W : World} (h : Spell B w g i t cs xs k u f pos W) (hB : B ≤ w.heap.size) (hk : w.heap.size ≤ k) (hi : i ≠ k) (hl : pos < u.size) {W' : World}
    (hw : Writes B W' g (xs ++ (u.data.toList.take (pos + 1)).flatMap f)) (ho : Wrote B (W.iterAt k u (pos + 1)) W' g) : Spell B w g i t cs xs k u f (pos + 1) W' := by
  have ts : Turn (fun b => b = k) W (W.iterAt k u (pos + 1)) := (Turn.refl (fun b => b = k) W).iterAt (k := k) (fun _ => rfl) u (pos + 1)
  have ha := h.at_.side hB hk h.nm hi ts
  obtain ⟨a, c, hb, _⟩ := h.at_.wr.ex
  have hg : k ≠ g := fun e => h.nm (.inl e)
  have hn : ¬ Mine (W.iterAt k u (pos + 1)) g k := fun e => h.nm (e.back hb ts hg)
  have hkl : k < W.heap.size := (Array.getElem?_eq_some_iff.1 h.it).1
  refine ⟨ha.next hw ho, ?_, fun e => ?_, hl⟩
  · rw [ho.turn.block k (by rw [Lib.iterAt_size]; exact hkl) hn]
    exact Lib.iterAt_heap W k u pos (pos + 1) h.it
  · rcases ho.mine k e with e | e
    · exact hn e
    · rw [Lib.iterAt_size] at e; omega
theorem take_letter (u : ByteArray) (f : UInt8 → List Int) (pos : Nat) (h : pos < u.size) : (u.data.toList.take (pos + 1)).flatMap f = (u.data.toList.take pos).flatMap f ++ f (u[pos]'h) := by
  have : u.data.toList[pos]? = some (u[pos]'h) := by
    rw [Array.getElem?_toList]
    exact Array.getElem?_eq_getElem h
  rw [List.take_add_one, this]
  simp
theorem letter_mem (u : ByteArray) (pos : Nat) (h : pos < u.size) : u[pos]'h ∈ u.data.toList := by
  have : u.data.toList[pos]? = some (u[pos]'h) := by
    rw [Array.getElem?_toList]
    exact Array.getElem?_eq_getElem h
  exact List.mem_of_getElem? this
set_option maxRecDepth 100000 in
set_option maxHeartbeats 2000000 in
theorem instr_any {B g : Nat} {xs : List Int} {w : World} {la : Option Addr} {ln lc : Nat} {ma : Option Addr} {mn mc : Nat} {va : Option Addr} {vn vc : Nat} {x : M.Ins} (h : Writes B w g xs) (hp : InsIs B w [.int .i64 x.op, .int .i64 x.d, .int .i64 x.a, .int .i64 x.b, .int .i64 x.c, .int .i64 x.n, .slice la ln lc, .slice ma mn mc, .slice va vn vc] x) (hx : (xs ++ M.bIns x).length ≤ 1000000000) :
    Calls Tryz.prog 110 #[.pointer (some ⟨g, 0, none⟩), .agg #[.int .i64 x.op, .int .i64 x.d, .int .i64 x.a, .int .i64 x.b, .int .i64 x.c, .int .i64 x.n, .slice la ln lc, .slice ma mn mc, .slice va vn vc]] w fun e w' => e = .returned (.tuple #[]) ∧ Writes B w' g (xs ++ M.bIns x) ∧ Wrote B w w' g := by
  have hop : In64 x.op := by
    obtain ⟨la', ln', lc', ma', mn', mc', va', vn', vc', he, hl, hm, hv, ⟨k0, _⟩, _⟩ := hp
    exact k0
  have HP := Lib.hid hp
  have hB := h.at
  have HB := Lib.hid hB
  have H0 := Lib.hid (At.start h 70 #[.int .i64 x.op, .int .i64 x.d, .int .i64 x.a, .int .i64 x.b, .int .i64 x.c, .int .i64 x.n, .slice la ln lc, .slice ma mn mc, .slice va vn vc])
  have HX := Lib.hid hx
  have hx' := hx
  simp only [M.bIns, List.length_append] at hx'
  have HY := Lib.hid (number_any x.op H0.out.wr hop.1 hop.2 (by omega))
  have HLET := Lib.hid (uses_letters x.op)
  have hxall : Hid (∀ pos, (xs ++ M.num x.op ++ ((M.uses x.op).data.toList.take pos).flatMap (M.field x)).length ≤ 1000000000) := fun pos => by
    have h1 : ((M.uses x.op).data.toList.flatMap (M.field x)).length = (((M.uses x.op).data.toList.take pos).flatMap (M.field x)).length + (((M.uses x.op).data.toList.drop pos).flatMap (M.field x)).length := by
      rw [← List.length_append, ← List.flatMap_append, List.take_append_drop]
    simp only [List.length_append]
    omega
  have HE : Hid (M.bIns x = M.num x.op ++ (M.uses x.op).data.toList.flatMap (M.field x)) := rfl
  have HU := Lib.hid (fun W => uses_any x.op W)
  clear h hp hx hx' hB hop
  generalize M.bIns x = bi at *
  generalize hu : M.uses x.op = u at *
  go_enter Tryz.func110, Tryz.ntmps110
  go_wp2_with fail
  refine HY.out.mono ?_; rintro e w1 ⟨rfl, v1, k1⟩
  have v1' : Writes B w1 g (xs ++ M.num x.op) := v1
  have H1 := Lib.hid (H0.out.next v1' k1)
  clear v1'
  obtain ⟨bl, b0⟩ : w.heap.size < w1.heap.size ∧ w1.cell? ⟨w.heap.size, 0, none⟩ = some (.int .i64 x.op) := ⟨H1.out.bx.lt, H1.out.bx.cell 0⟩
  clear v1 k1
  go_wp2_with fail
  refine (HU.out _).mono ?_; rintro e w2 ⟨rfl, rfl⟩
  go_wp2_with fail
  go_loopw [5] (fun _ wr => ∃ pos, Spell B w g w.heap.size 70 #[.int .i64 x.op, .int .i64 x.d, .int .i64 x.a, .int .i64 x.b, .int .i64 x.c, .int .i64 x.n, .slice la ln lc, .slice ma mn mc, .slice va vn vc] (xs ++ M.num x.op) w2.heap.size u (M.field x) pos wr) (fun _ wr => u.size - wr.iterPos w2.heap.size)
  case atStart => exact ⟨0, Spell.start H1.out HB.out u (M.field x)⟩
  case round =>
    obtain ⟨pos, hs⟩ := hrel
    have hit := hs.it
    have hit0 := Lib.hid hs.it
    have hk : w.heap.size ≤ w2.heap.size := H1.out.wo.below.size
    by_cases hlt : pos < u.size
    · have hlet := HLET.out _ (letter_mem u pos hlt)
      have hasc : (u[pos]'hlt).toNat < 128 := by rcases hlet with e | e | e | e | e | e | e | e <;> rw [e] <;> decide
      have hnx : ∀ ty, (Instr.next (.pointer (some ⟨w2.heap.size, 0, none⟩)) true ty).run Tryz.prog wr = _ := fun ty => Lib.run_next_ascii_at wr w2.heap.size u pos ty hit hlt hasc
      have ts : Turn (fun b => b = w2.heap.size) wr (wr.iterAt w2.heap.size u (pos + 1)) := (Turn.refl (fun b => b = w2.heap.size) wr).iterAt (k := w2.heap.size) (fun _ => rfl) u (pos + 1)
      have hbl2 : w.heap.size ≠ w2.heap.size := by omega
      have ha := hs.at_.side HB.out hk hs.nm hbl2 ts
      have hbx := ha.bx
      have hwrt := ha.wr
      have hHF := Lib.hid (field_any (u[pos]'hlt) hlet hwrt (HP.out.keep ha.wo.below HB.out) (by rw [List.append_assoc, ← take_letter u (M.field x) pos hlt]; exact hxall.out _))
      rw [List.append_assoc, ← take_letter u (M.field x) pos hlt] at hHF
      have hnext := Lib.hid (fun W' => hs.next (W' := W') HB.out hk hbl2 hlt)
      obtain ⟨W, hWd⟩ : ∃ W, wr.iterAt w2.heap.size u (pos + 1) = W := ⟨_, rfl⟩
      rw [hWd] at hnx hHF hbx hnext
      generalize hR : u[pos]'hlt = R at hnx hHF
      obtain ⟨e0, e1, e2, e3, e4, e5, e6, e7, e8, e9⟩ := insBox hbx
      clear hs hit ts ha hbx hwrt hlet hasc hWd hk
      go_wp2_with fail
      refine hHF.out.mono ?_; rintro e w3 ⟨rfl, v3, k3⟩
      have HS := Lib.hid (hnext.out w3 v3 k3)
      clear v3 k3 hnext hHF e0 e1 e2 e3 e4 e5 e6 e7 e8 e9 hnx
      go_wp2_with fail
      go_roundw
      case rel => exact ⟨pos + 1, HS.out⟩
      case measure => simp [World.iterPos, HS.out.it, hit0.out]; omega
    · have hnx : ∀ ty, (Instr.next (.pointer (some ⟨w2.heap.size, 0, none⟩)) true ty).run Tryz.prog wr = _ := fun ty => Lib.run_next_end_at wr w2.heap.size u pos ty hit hlt
      obtain rfl : pos = u.size := by have := hs.le; omega
      have hall : u.data.toList.take u.size = u.data.toList := List.take_of_length_le (by rw [Array.length_toList]; exact Nat.le_refl _)
      have hw := hs.at_.wr
      rw [hall, List.append_assoc, ← HE.out] at hw
      have HW := Lib.hid (And.intro hw hs.at_.wo)
      clear hs hit hw hall
      go_wp2_with fail
      go_end0
      exact ⟨rfl, HW.out.1, HW.out.2⟩
end Go.Proofs.YthlifflapgccbaaGreat
