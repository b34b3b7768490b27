/- An empty image as bytes. -/
import Derived.Test.YtjeehbcbflofpaaCode2L
namespace Go.Proofs.Ytjeehbcbflofpaa
set_option linter.unusedVariables false
open Go.ChangeShapes Go.WideShapes Go.ChangeAt Go.RowKit
open M (W)
theorem Wrote.refl (B : Nat) (w : World) (g : Nat) : Wrote B w w g := ⟨Below.refl _ _, Turn.refl _ _, fun b h => .inl h⟩
theorem Writes.alloc {B g : Nat} {xs : List Int} {w : World} (h : Writes B w g xs) (o : Obj) : Writes B (w.alloc o) g xs := by
  obtain ⟨a, c, hb, ho⟩ := h.ex
  exact ⟨⟨a, c, hb.alloc o, own_keep ho ((Still.refl w).alloc o) (fun _ _ e => e)⟩, h.le⟩
theorem Writes.at {B g : Nat} {xs : List Int} {w : World} (h : Writes B w g xs) : B ≤ w.heap.size := by
  obtain ⟨a, c, hb, ho⟩ := h.ex
  have := hb.lt; have := h.le; omega
/-- An object made behind the writer is not the writer's own, and stands. -/
theorem Writes.behind {B g : Nat} {xs : List Int} {w : World} (h : Writes B w g xs) (cs : Array Value) (t : TypeId) : Wrote B w (w.alloc (.cells cs t)) g ∧ ¬ Mine (w.alloc (.cells cs t)) g w.heap.size := by
  obtain ⟨a, c, hb, ho⟩ := h.ex
  have hl := hb.lt
  have hm : ∀ b, Mine (w.alloc (.cells cs t)) g b → Mine w g b := by
    rintro b (e | ⟨a2, n2, c2, h2, o2⟩)
    · exact .inl e
    · refine .inr ⟨a2, n2, c2, ?_, o2⟩
      have := (Below.heap_alloc w (.cells cs t) g hl)
      exact this.symm.trans h2
  refine ⟨⟨(Still.below ((Still.refl w).alloc _)).mono h.at, (Turn.refl _ w).alloc _, fun b e => .inl (hm b e)⟩, fun e => ?_⟩
  rcases hm _ e with e | ⟨a2, n2, c2, h2, o2⟩
  · omega
  · obtain ⟨_, e⟩ := h2.inj hb
    simp at e
    obtain ⟨rfl, rfl, rfl⟩ := e
    have := (ho.lt _ o2).2
    omega
theorem Lit.alloc {B g : Nat} {xs : List Int} {w : World} (h : Lit B w g xs) (o : Obj) : Lit B (w.alloc o) g xs := by
  obtain ⟨s, hb, h1, h2, h3⟩ := h.ex
  exact ⟨⟨s, hb.alloc o, h1, by simp; omega, fun j u hj => (Still.cell ((Still.refl w).alloc o) (p := ⟨s, j, none⟩) h2).trans (h3 j u hj)⟩, h.le⟩
theorem Lit.behind {B g : Nat} {xs : List Int} {w : World} (h : Lit B w g xs) (cs : Array Value) (t : TypeId) : Wrote B w (w.alloc (.cells cs t)) g ∧ ¬ Mine (w.alloc (.cells cs t)) g w.heap.size := by
  obtain ⟨s, hb, h1, h2, h3⟩ := h.ex
  have hl := hb.lt
  have hm : ∀ b, Mine (w.alloc (.cells cs t)) g b → Mine w g b := by
    rintro b (e | ⟨a2, n2, c2, h2, o2⟩)
    · exact .inl e
    · refine .inr ⟨a2, n2, c2, ?_, o2⟩
      have := (Below.heap_alloc w (.cells cs t) g hl)
      exact this.symm.trans h2
  refine ⟨⟨(Still.below ((Still.refl w).alloc _)).mono (by have := h.le; omega), (Turn.refl _ w).alloc _, fun b e => .inl (hm b e)⟩, fun e => ?_⟩
  rcases hm _ e with e | ⟨a2, n2, c2, h4, o2⟩
  · omega
  · obtain ⟨_, e⟩ := h4.inj hb
    simp at e
    obtain ⟨rfl, rfl, rfl⟩ := e
    simp [Value.ownBlock] at o2
    omega
structure ImgAt (B : Nat) (w : World) (g i : Nat) (xs : List Int) (W : World) : Prop where
  wr : Writes B W g xs
  wo : Wrote B w W g
  bx : Blk W i 27 #[.slice none 0 0, .slice none 0 0, .slice none 0 0, .slice none 0 0, .slice none 0 0, .int .i64 0, .int .i64 0]
  nm : ¬ Mine W g i
theorem ImgAt.next {B g i : Nat} {xs ys : List Int} {w W W' : World} (h : ImgAt B w g i xs W) (hw : Writes B W' g ys) (k : Wrote B W W' g) : ImgAt B w g i ys W' :=
  ⟨hw, h.wo.trans k, (k.blk h.bx h.nm).1, (k.blk h.bx h.nm).2⟩
set_option maxRecDepth 100000 in
theorem image_nil {B g : Nat} {xs : List Int} {w : World} (h : Lit B w g xs) (hx : xs.length ≤ 1000) :
    Calls Try.prog 19 #[.pointer (some ⟨g, 0, none⟩), .agg #[.slice none 0 0, .slice none 0 0, .slice none 0 0, .slice none 0 0, .slice none 0 0, .int .i64 0, .int .i64 0]] w fun e w' => e = .returned (.tuple #[]) ∧ Writes B w' g (xs ++ [0, 0, 0, 0, 0, 0, 0]) ∧ Wrote B w w' g := by
  have H0 : Hid (Lit B (w.alloc (.cells #[.slice none 0 0, .slice none 0 0, .slice none 0 0, .slice none 0 0, .slice none 0 0, .int .i64 0, .int .i64 0] 27)) g xs ∧ Wrote B w (w.alloc (.cells #[.slice none 0 0, .slice none 0 0, .slice none 0 0, .slice none 0 0, .slice none 0 0, .int .i64 0, .int .i64 0] 27)) g ∧ Blk (w.alloc (.cells #[.slice none 0 0, .slice none 0 0, .slice none 0 0, .slice none 0 0, .slice none 0 0, .int .i64 0, .int .i64 0] 27)) w.heap.size 27 #[.slice none 0 0, .slice none 0 0, .slice none 0 0, .slice none 0 0, .slice none 0 0, .int .i64 0, .int .i64 0] ∧ ¬ Mine (w.alloc (.cells #[.slice none 0 0, .slice none 0 0, .slice none 0 0, .slice none 0 0, .slice none 0 0, .int .i64 0, .int .i64 0] 27)) g w.heap.size) := ⟨h.alloc _, (h.behind _ _).1, Blk.new w _ _, (h.behind _ _).2⟩
  have HX := Lib.hid hx
  clear h hx
  go_enter Try.func19, Try.ntmps19
  go_wp2_with fail
  refine (putT_lit _ H0.out.1 (by have := HX.out; (try simp); omega)).mono ?_; rintro e w1 ⟨rfl, v1, k1⟩
  have H1 : Hid (ImgAt B w g w.heap.size (xs ++ [0]) w1) := ⟨v1, H0.out.2.1.trans k1, (k1.blk H0.out.2.2.1 H0.out.2.2.2).1, (k1.blk H0.out.2.2.1 H0.out.2.2.2).2⟩
  obtain ⟨h0, c0, c1, c2, c3, c4, c5, c6⟩ := nilBox H1.out.bx
  clear v1 k1
  go_wp2_with fail
  clear h0 c0 c1 c2 c3 c4 c5 c6
  refine (putS_nil _ H1.out.wr (by have := HX.out; (try simp); omega)).mono ?_; rintro e w2 ⟨rfl, v2, k2⟩
  have H2 := Lib.hid (H1.out.next v2 k2)
  obtain ⟨h0, c0, c1, c2, c3, c4, c5, c6⟩ := nilBox H2.out.bx
  clear v2 k2
  go_wp2_with fail
  clear h0 c0 c1 c2 c3 c4 c5 c6
  refine (putX_nil _ H2.out.wr (by have := HX.out; (try simp); omega)).mono ?_; rintro e w3 ⟨rfl, v3, k3⟩
  have H3 := Lib.hid (H2.out.next v3 k3)
  obtain ⟨h0, c0, c1, c2, c3, c4, c5, c6⟩ := nilBox H3.out.bx
  clear v3 k3
  go_wp2_with fail
  clear h0 c0 c1 c2 c3 c4 c5 c6
  refine (putX_nil _ H3.out.wr (by have := HX.out; (try simp); omega)).mono ?_; rintro e w4 ⟨rfl, v4, k4⟩
  have H4 := Lib.hid (H3.out.next v4 k4)
  obtain ⟨h0, c0, c1, c2, c3, c4, c5, c6⟩ := nilBox H4.out.bx
  clear v4 k4
  go_wp2_with fail
  clear h0 c0 c1 c2 c3 c4 c5 c6
  refine (putF_nil _ H4.out.wr (by have := HX.out; (try simp); omega)).mono ?_; rintro e w5 ⟨rfl, v5, k5⟩
  have H5 := Lib.hid (H4.out.next v5 k5)
  obtain ⟨h0, c0, c1, c2, c3, c4, c5, c6⟩ := nilBox H5.out.bx
  clear v5 k5
  go_wp2_with fail
  clear h0 c0 c1 c2 c3 c4 c5 c6
  refine (number_0 H5.out.wr (by have := HX.out; (try simp); omega)).mono ?_; rintro e w6 ⟨rfl, v6, k6⟩
  have H6 := Lib.hid (H5.out.next v6 k6)
  obtain ⟨h0, c0, c1, c2, c3, c4, c5, c6⟩ := nilBox H6.out.bx
  clear v6 k6
  go_wp2_with fail
  clear h0 c0 c1 c2 c3 c4 c5 c6
  refine (number_0 H6.out.wr (by have := HX.out; (try simp); omega)).mono ?_; rintro e w7 ⟨rfl, v7, k7⟩
  have H7 := Lib.hid (H6.out.next v7 k7)
  obtain ⟨h0, c0, c1, c2, c3, c4, c5, c6⟩ := nilBox H7.out.bx
  clear v7 k7
  go_wp2_with fail
  clear h0 c0 c1 c2 c3 c4 c5 c6
  go_end0
  refine ⟨rfl, ?_, H7.out.wo⟩
  have := H7.out.wr
  simpa [List.append_assoc] using this
end Go.Proofs.Ytjeehbcbflofpaa
