/- Lemmas, put together: Vst Vsp. -/
import Derived.Test.YtilfmnlbnfhkpaaGreatDoorV2
import Derived.Test.YtilfmnlbnfhkpaaGreatDoorVnw
import Derived.Test.YtilfmnlbnfhkpaaGreatDoorVwh
import Derived.Test.YtilfmnlbnfhkpaaGreatDoorV1
/- A walk through an image: its box, the types' words, what is known of the slots. -/
namespace Go.Proofs.YtilfmnlbnfhkpaaGreatDoor
set_option linter.unusedVariables false
set_option linter.unusedSimpArgs false
open Go.ChangeShapes Go.WideShapes Go.ChangeAt Go.RowKit
open Vf (K nth nth_nat tyAt atK isK numT oneT le beginK tsub)
/-- Which shapes a type's words have. -/
theorem ofL_has : ∀ (xs : List Int) (R : Nat → Nat) (x : Nat), (∀ s ∈ xs, 0 ≤ s) → (Vf.has (xs.foldl (fun R s => Vf.add1 R s.toNat) R) x = true ↔ Vf.has R x = true ∨ (x : Int) ∈ xs)
  | [], R, x, _ => by simp
  | s :: xs, R, x, h => by
    rw [List.foldl_cons, ofL_has xs _ x fun t ht => h t (by simp [ht]), Vf.has_add1]
    obtain ⟨k, rfl⟩ := Int.eq_ofNat_of_zero_le (h s (by simp))
    rw [Int.toNat_natCast, Bool.or_eq_true, decide_eq_true_eq, List.mem_cons]
    constructor
    · rintro ((e | e) | e)
      · exact .inl e
      · exact .inr (.inl (by rw [e]))
      · exact .inr (.inr e)
    · rintro (e | e | e)
      · exact .inl (.inl e)
      · exact .inl (.inr (by omega))
      · exact .inr e
theorem ofL_mem {xs : List Int} (h : ∀ s ∈ xs, 0 ≤ s) (x : Nat) : Vf.has (ofL xs) x = true ↔ (x : Int) ∈ xs := by
  unfold ofL
  rw [ofL_has xs Vf.zero x h, Vf.has_zero]
  simp
/-- Shapes that rows of bits can tell. -/
def Fit8 (t : M.Ty) : Prop := ∀ s ∈ t.shapes, 0 ≤ s ∧ s < 512
theorem wsub_iff {a b : M.Ty} (ha : Fit8 a) (hb : Fit8 b) : WSub a.imm (ofL a.shapes) b.imm (ofL b.shapes) ↔ le a b = true := by
  unfold WSub le tsub
  rw [Bool.and_eq_true, Vf.subB_iff]
  constructor
  · rintro ⟨h1, h2⟩
    refine ⟨by cases h : a.imm <;> simp_all, fun s hs => ?_⟩
    obtain ⟨k, rfl⟩ := Int.eq_ofNat_of_zero_le (ha s hs).1
    exact (ofL_mem (fun s hs => (hb s hs).1) k).1 (h2 k (by have := (ha _ hs).2; omega) ((ofL_mem (fun s hs => (ha s hs).1) k).2 hs))
  · rintro ⟨h1, h2⟩
    refine ⟨fun e => by rw [e] at h1; simpa using h1, fun x hx h => ?_⟩
    exact (ofL_mem (fun s hs => (hb s hs).1) x).2 (h2 _ ((ofL_mem (fun s hs => (ha s hs).1) x).1 h))
/-- Words in memory: a type's, that rows of bits can tell. -/
def TyK (w : World) (b : Nat) (t : M.Ty) : Prop := TyW w b t ∧ Fit8 t
theorem TyK.keep {w w' : World} {b : Nat} {t : M.Ty} {S : Nat → Prop} (h : TyK w b t) (u : Turn S w w') (hs : ¬ S b) : TyK w' b t := ⟨WordsAt.keep h.1 u hs, h.2⟩
/-- What the slots' blocks say. -/
def Kn (w : World) (l : List (Option Nat)) (k : K) : Prop := l.length = k.length ∧ ∀ i : Nat, i < l.length → (l[i]? = some none ∧ k[i]? = some none) ∨ ∃ b t, l[i]? = some (some b) ∧ k[i]? = some (some t) ∧ TyK w b t
theorem Kn.keep {w w' : World} {l : List (Option Nat)} {k : K} {S : Nat → Prop} (h : Kn w l k) (u : Turn S w w') (hs : ∀ b im R, WordsAt w b im R → ¬ S b) : Kn w' l k := ⟨h.1, fun i hi => by
  rcases h.2 i hi with e | ⟨b, t, e1, e2, e3⟩
  · exact .inl e
  · exact .inr ⟨b, t, e1, e2, e3.keep u (hs _ _ _ e3.1)⟩⟩
theorem Kn.slot {w : World} {l : List (Option Nat)} {k : K} (h : Kn w l k) (i : Int) : (slotAt l i = none ∧ atK k i = none) ∨ ∃ b t, slotAt l i = some b ∧ atK k i = some t ∧ TyK w b t := by
  unfold slotAt atK
  by_cases h0 : 0 ≤ i
  · rw [if_pos h0, if_pos h0]
    by_cases hi : i.toNat < l.length
    · rcases h.2 i.toNat hi with ⟨e1, e2⟩ | ⟨b, t, e1, e2, e3⟩
      · rw [e1, e2]; exact .inl ⟨rfl, rfl⟩
      · rw [e1, e2]; exact .inr ⟨b, t, rfl, rfl, e3⟩
    · rw [List.getElem?_eq_none (by omega), List.getElem?_eq_none (by have := h.1; omega)]
      exact .inl ⟨rfl, rfl⟩
  · rw [if_neg h0, if_neg h0]
    exact .inl ⟨rfl, rfl⟩
theorem Kn.set {w : World} {l : List (Option Nat)} {k : K} (h : Kn w l k) {i : Nat} {b : Nat} {t : M.Ty} (hb : TyK w b t) : Kn w (l.set i (some b)) (k.set i (some t)) := by
  refine ⟨by rw [List.length_set, List.length_set]; exact h.1, fun j hj => ?_⟩
  rw [List.length_set] at hj
  by_cases e : i = j
  · subst e
    rw [List.getElem?_set_self hj, List.getElem?_set_self (by have := h.1; omega)]
    exact .inr ⟨b, t, rfl, rfl, hb⟩
  · rw [List.getElem?_set_ne e, List.getElem?_set_ne e]
    exact h.2 j hj
theorem hasK_iff {w : World} {l : List (Option Nat)} {k : K} (h : Kn w l k) (i : Int) : hasB i l.length = true ↔ Vf.hasK k i := by
  rw [hasB_iff, h.1]
  exact Iff.rfl
/-- What of a walk does not change. -/
structure WkC where
  v : ImgV
  m : M.Img
  X : Nat
  r1 : Nat
  rc : Nat
  r2 : Nat
  ac : Nat
  bs : List Nat
  cs : List Nat
  b0 : Nat
  c0 : Nat
  B : Nat
  L : Nat
/-- A function's cells. -/
structure FV where
  pa : Option Addr
  pn : Nat
  pc : Nat
  res : Int
  slots : Int
  ba : Option Addr
  bn : Nat
  bc : Nat
abbrev WkC.cells (c : WkC) (g : FV) (fi bi ii : Int) (v0 v1 v2 v3 v4 : Value) : Array Value :=
  #[.slice c.v.ta c.v.tn c.v.tc, .slice c.v.sa c.v.sn c.v.sc, .slice c.v.xa c.v.xn c.v.xc, .slice c.v.na c.v.nn c.v.nc, .slice c.v.fa c.v.fn c.v.fc, .int .i64 c.v.main, .int .i64 c.v.exn, .slice (some ⟨c.r1, 0, none⟩) c.v.tn c.rc, .slice (some ⟨c.r2, 0, none⟩) c.v.sn c.ac, .pointer (some ⟨c.b0, 0, none⟩), .pointer (some ⟨c.c0, 0, none⟩), .slice g.pa g.pn g.pc, .int .i64 g.res, .int .i64 g.slots, .slice g.ba g.bn g.bc, .int .i64 fi, .int .i64 bi, .int .i64 ii, v0, v1, v2, v3, v4]
structure RowsAt (c : WkC) (w : World) : Prop where
  rt : ∀ (k b : Nat), c.bs[k]? = some b → w.cell? ⟨c.r1, k, none⟩ = some (.pointer (some ⟨b, 0, none⟩))
  ra : ∀ (k b : Nat), c.cs[k]? = some b → w.cell? ⟨c.r2, k, none⟩ = some (.pointer (some ⟨b, 0, none⟩))
  wt : ∀ (k b : Nat) (t : M.Ty), c.bs[k]? = some b → c.m.types[k]? = some t → TyW w b t
  wa : ∀ (k b : Nat), c.cs[k]? = some b → TyW w b (oneT k)
  lb : c.bs.length = c.m.types.length
  lc : c.cs.length = c.m.shapes.length
  img : ImgIs c.B w c.v c.m
  le : c.B ≤ c.X ∧ c.X < c.L ∧ c.L ≤ w.heap.size
  l1 : c.r1 < c.L ∧ c.r1 ≠ c.X ∧ c.r2 < c.L ∧ c.r2 ≠ c.X
  lbs : ∀ b ∈ c.bs, b < c.L ∧ b ≠ c.X
  lcs : ∀ b ∈ c.cs, b < c.L ∧ b ≠ c.X
  z1 : c.bs[0]? = some c.b0
  z2 : c.cs[0]? = some c.c0
  ok : ∀ t ∈ c.m.types, Fit8 t
  few : c.m.types.length ≤ 1024 ∧ c.m.shapes.length ≤ 512
  zero : c.m.types[0]? = some numT
/-- What is written into the walk's box, or into what came later. -/
def Far (c : WkC) (S : Nat → Prop) : Prop := ∀ j, S j → j = c.X ∨ c.L ≤ j
theorem RowsAt.keep {c : WkC} {w w' : World} (h : RowsAt c w) {S : Nat → Prop} (t : Turn S w w') (hS : Far c S) : RowsAt c w' where
  rt := fun k b e => (t.cell (p := ⟨c.r1, k, none⟩) (Nat.lt_of_lt_of_le h.l1.1 h.le.2.2) (fun e => by have := h.l1; rcases hS _ e with e | e; exact this.2.1 e; exact absurd this.1 (Nat.not_lt.2 e))).trans (h.rt k b e)
  ra := fun k b e => (t.cell (p := ⟨c.r2, k, none⟩) (Nat.lt_of_lt_of_le h.l1.2.2.1 h.le.2.2) (fun e => by have := h.l1; rcases hS _ e with e | e; exact this.2.2.2 e; exact absurd this.2.2.1 (Nat.not_lt.2 e))).trans (h.ra k b e)
  wt := fun k b x e e2 => WordsAt.keep (h.wt k b x e e2) t fun e3 => by
    have := h.lbs b (List.mem_of_getElem? e)
    rcases hS _ e3 with e4 | e4
    · exact this.2 e4
    · exact absurd this.1 (Nat.not_lt.2 e4)
  wa := fun k b e => WordsAt.keep (h.wa k b e) t fun e3 => by
    have := h.lcs b (List.mem_of_getElem? e)
    rcases hS _ e3 with e4 | e4
    · exact this.2 e4
    · exact absurd this.1 (Nat.not_lt.2 e4)
  lb := h.lb
  lc := h.lc
  img := h.img.keep (t.below (by have := h.le; omega) fun j e => by have := h.le; rcases hS _ e with e | e <;> omega) (by have := h.le; omega)
  le := ⟨h.le.1, h.le.2.1, Nat.le_trans h.le.2.2 t.size⟩
  l1 := h.l1
  lbs := h.lbs
  lcs := h.lcs
  z1 := h.z1
  z2 := h.z2
  ok := h.ok
  few := h.few
  zero := h.zero
end Go.Proofs.YtilfmnlbnfhkpaaGreatDoor
/- What an instruction needs, and does: a number's; an answer's. -/
namespace Go.Proofs.YtilfmnlbnfhkpaaGreatDoor
set_option linter.unusedVariables false
set_option linter.unusedSimpArgs false
open Go.ChangeShapes Go.WideShapes Go.ChangeAt Go.RowKit
open Vf (K nth nth_nat tyAt atK isK numT oneT le beginK tsub)
/-- Where a walk stands within a block. -/
structure WkAt (c : WkC) (w : World) (f : M.Fn) (g : FV) (fi bi ii : Int) (N r T Y : Nat) (l : List (Option Nat)) (k : K) : Prop where
  rows : RowsAt c w
  box : Blk w c.X 77 (c.cells g fi bi ii (.func (.func 101) #[] #[.pointer (some ⟨N, 0, none⟩)]) (.func (.func 103) #[] #[.pointer (some ⟨N, 0, none⟩)]) (.func (.func 104) #[] #[.pointer (some ⟨N, 0, none⟩)]) (.func (.func 105) #[] #[.pointer (some ⟨N, 0, none⟩), .pointer (some ⟨T, 0, none⟩)]) (.func (.func 106) #[] #[.pointer (some ⟨T, 0, none⟩), .pointer (some ⟨Y, 0, none⟩)]))
  fn : g.res = f.result ∧ g.slots = f.slots ∧ g.pn ≤ maxLen ∧ g.bn ≤ maxLen
  par : Ints c.B w g.pa g.pn f.params
  blk : Lies c.B w 2 (BkIs c.B w) g.ba g.bn f.blocks
  now : NowAt w N r l
  typed : Blk w T 70 #[.func (.func 101) #[] #[.pointer (some ⟨N, 0, none⟩)]]
  types : Blk w Y 68 #[.slice (some ⟨c.r1, 0, none⟩) c.v.tn c.rc]
  far : c.L ≤ N ∧ c.L ≤ r ∧ c.L ≤ T ∧ c.L ≤ Y
  ne : T ≠ N ∧ N ≠ r ∧ T ≠ r ∧ Y ≠ N ∧ Y ≠ r
  kn : Kn w l k
  ok : fnB c.m.types.length f = true
theorem WkAt.still {c : WkC} {w w' : World} {f : M.Fn} {g : FV} {fi bi ii : Int} {N r T Y : Nat} {l : List (Option Nat)} {k : K} (h : WkAt c w f g fi bi ii N r T Y l k) (t : Still w w') : WkAt c w' f g fi bi ii N r T Y l k :=
  ⟨h.rows.keep t (fun _ e => e.elim), t.blk h.box, h.fn, h.par.keep ((Still.below t).mono (by have := h.rows.le; omega)) (by have := h.rows.le; omega), Lies.keep h.blk ((Still.below t).mono (by have := h.rows.le; omega)) (by have := h.rows.le; omega) (fun cs x _ h1 => h1.keep ((Still.below t).mono (by have := h.rows.le; omega)) (by have := h.rows.le; omega)), h.now.keep t (fun e => e) (fun e => e), t.blk h.typed, t.blk h.types, h.far, h.ne, h.kn.keep t (fun _ _ _ _ e => e), h.ok⟩
def StepR (c : WkC) (f : M.Fn) (N r : Nat) (k : K) (x : M.Ins) (w : World) (e : Ending) (w' : World) : Prop :=
  (Vf.Needs c.m f k x ∧ e = .returned (.tuple #[]) ∧ (∃ r' l', NowAt w' N r' l' ∧ Kn w' l' (Vf.next c.m k x) ∧ (r' = r ∨ w.heap.size ≤ r')) ∧ Turn (fun j => j = N ∨ j = r) w w') ∨ (¬ Vf.Needs c.m f k x ∧ e = .panicked [{ v := wrongV, recovered := false }] ∧ Turn (fun j => j = N ∨ j = r) w w')
/-- An instruction is asked, and done, as the rules say. -/
def StepOk (c : WkC) (x : M.Ins) : Prop := ∀ (w : World) (f : M.Fn) (g : FV) (fi bi ii : Int) (N r T Y : Nat) (l : List (Option Nat)) (k : K) (la : Option Addr) (ln lc : Nat) (ma : Option Addr) (mn mc : Nat) (va : Option Addr) (vn vc : Nat), WkAt c w f g fi bi ii N r T Y l k → InsIs c.B w [.int .i64 x.op, .int .i64 x.d, .int .i64 x.a, .int .i64 x.b, .int .i64 x.c, .int .i64 x.n, .slice la ln lc, .slice ma mn mc, .slice va vn vc] x →
  Calls Tryz.prog 71 #[.pointer (some ⟨c.X, 0, none⟩), .agg #[.int .i64 x.op, .int .i64 x.d, .int .i64 x.a, .int .i64 x.b, .int .i64 x.c, .int .i64 x.n, .slice la ln lc, .slice ma mn mc, .slice va vn vc]] w (StepR c f N r k x w)
/-- A block of slots is not one of words. -/
theorem NowAt.words {w : World} {N r : Nat} {l : List (Option Nat)} (h : NowAt w N r l) : ∀ b im R, WordsAt w b im R → ¬ (b = N ∨ b = r) := fun b im R hb e => by
  rcases e with e | e
  · exact words_ne hb h.box (by decide) e
  · exact words_ne hb h.row (by decide) e
theorem W_63 (n : Int) : (M.W n == n) = true ↔ Vf.Is63 n := by
  unfold M.W Vf.Is63
  rw [beq_iff_eq]
  omega
theorem is63_any (n : Int) (w : World) : Calls Tryz.prog 108 #[.int .i64 n] w fun e w' => e = .returned (.bool (M.W n == n)) ∧ w' = w := by
  go_enter Tryz.func108, Tryz.ntmps108
  go_wp2_with fail
  refine (wrap_any n w).mono ?_; rintro e w1 ⟨rfl, rfl⟩
  go_wp2_with fail
  go_ret
  exact ⟨rfl, rfl⟩
set_option maxRecDepth 100000 in
set_option maxHeartbeats 8000000 in
theorem step_const (c : WkC) (x : M.Ins) (hop : x.op = 1) : StepOk c x := by
  intro w f g fi bi ii N r T Y l k la ln lc ma mn mc va vn vc h hx
  have HH := Lib.hid h
  have HOP := Lib.hid hop
  have HNE : Hid (Vf.Needs c.m f k x = (Vf.Is63 x.n ∧ Vf.hasK k x.d)) := by show _ = _; unfold Vf.Needs; rw [if_pos hop]
  have HNX : Hid (Vf.next c.m k x = Vf.setK k x.d numT) := by show _ = _; unfold Vf.next; rw [if_pos (.inl hop)]
  have S1 : Hid (Still w (w.alloc (.cells #[.int .i64 x.op, .int .i64 x.d, .int .i64 x.a, .int .i64 x.b, .int .i64 x.c, .int .i64 x.n, .slice la ln lc, .slice ma mn mc, .slice va vn vc] 43)) ∧ Blk (w.alloc (.cells #[.int .i64 x.op, .int .i64 x.d, .int .i64 x.a, .int .i64 x.b, .int .i64 x.c, .int .i64 x.n, .slice la ln lc, .slice ma mn mc, .slice va vn vc] 43)) w.heap.size 43 #[.int .i64 x.op, .int .i64 x.d, .int .i64 x.a, .int .i64 x.b, .int .i64 x.c, .int .i64 x.n, .slice la ln lc, .slice ma mn mc, .slice va vn vc]) := ⟨(Still.refl w).alloc _, Blk.new w _ _⟩
  obtain ⟨X, hX⟩ : ∃ X, c.X = X := ⟨_, rfl⟩
  have HX := Lib.hid hX
  have c1 := S1.out.2.cell 1
  rw [hop] at S1 c1 ⊢
  rw [hX]
  clear hx
  generalize x.d = d at *
  generalize x.n = xn at *
  clear h hop hX
  go_enter Tryz.func71, Tryz.ntmps71
  go_wp2_with fail
  generalize w.alloc (.cells #[.int .i64 1, .int .i64 d, .int .i64 x.a, .int .i64 x.b, .int .i64 x.c, .int .i64 xn, .slice la ln lc, .slice ma mn mc, .slice va vn vc] 43) = w1 at S1 c1 ⊢
  obtain ⟨K0, hK0⟩ : ∃ K0, w.heap.size = K0 := ⟨_, rfl⟩
  rw [hK0] at S1 c1
  rw [hK0]
  have HK0 := Lib.hid hK0
  clear hK0
  have H1 := Lib.hid (HH.out.still S1.out.1)
  refine (is63_any xn w1).mono ?_; rintro e w2 ⟨rfl, rfl⟩
  cases hb : (M.W xn == xn) with
  | false =>
    go_wp2_with fail
    refine (need_no _).mono ?_; rintro e w3 ⟨rfl, rfl⟩
    refine ⟨rfl, .inr ⟨fun e => ?_, rfl, S1.out.1.turn⟩⟩
    rw [HNE.out] at e
    rw [(W_63 xn).2 e.1] at hb
    cases hb
  | true =>
    have H63 : Hid (Vf.Is63 xn) := (W_63 xn).1 hb
    go_wp2_with fail
    refine (need_yes _).mono ?_; rintro e w3 ⟨rfl, rfl⟩
    clear hb
    obtain ⟨wD, hwD⟩ : ∃ wD, w3.drew = wD := ⟨_, rfl⟩
    have SD : Hid (Still w3 wD) := by rw [← hwD]; exact (Still.refl w3).drew
    have H2 := Lib.hid (H1.out.still SD.out)
    obtain ⟨b0, hb0⟩ : ∃ b0, c.b0 = b0 := ⟨_, rfl⟩
    have HB0 := Lib.hid hb0
    have x19 : wD.cell? ⟨X, 19, none⟩ = some (.func (.func 103) #[] #[.pointer (some ⟨N, 0, none⟩)]) := by rw [← HX.out]; exact H2.out.box.cell 19
    have x9 : wD.cell? ⟨X, 9, none⟩ = some (.pointer (some ⟨b0, 0, none⟩)) := by rw [← HX.out, ← hb0]; exact H2.out.box.cell 9
    have k1 : wD.cell? ⟨K0, 1, none⟩ = some (.int .i64 d) := (SD.out.blk S1.out.2).cell 1
    have lX : X < wD.heap.size := by have := H2.out.box.lt; rwa [HX.out] at this
    have lK : K0 < wD.heap.size := (SD.out.blk S1.out.2).lt
    have henter : ∀ (args : Array Value) (W : World), (callFunc 103 args).run Tryz.prog W = .ok (.enter 103 args) W := enters_of Tryz.func103 (by kernel_rfl) rfl
    have HGV := Lib.hid (give_any H2.out.now H2.out.ne.2.1 d (some b0))
    clear c1 hb0
    go_wp2_with fail
    refine wp_region_held_drew (S := fun W => W.cell? ⟨X, 19, none⟩ = some (.func (.func 103) #[] #[.pointer (some ⟨N, 0, none⟩)]) ∧ W.cell? ⟨X, 9, none⟩ = some (.pointer (some ⟨b0, 0, none⟩)) ∧ W.cell? ⟨K0, 1, none⟩ = some (.int .i64 d)) (by kernel_rfl) (by rw [hwD]; exact ⟨x19, x9, k1⟩) (fun hHeld => ?_)
    try simp only [Act.put, List.getElem_toArray, List.getElem_cons_succ, List.getElem_cons_zero, List.setIfInBounds_toArray, List.set_cons_zero, List.set_cons_succ]
    rw [hwD] at hHeld ⊢
    clear hwD
    refine wpAnyH_take (i := 0) (v := ?_) rfl (by kernel_rfl) (by kernel_rfl) (by kernel_rfl) (fun _ _ _ h => h) (Or.inl ⟨by rfl, ?_⟩) (by assumption) ?_
    rotate_left
    · intro w hSw; (try dsimp only at hSw); go_simp; try with_reducible rfl
    try simp only [Act.put, List.getElem_toArray, List.getElem_cons_succ, List.getElem_cons_zero, List.setIfInBounds_toArray, List.set_cons_zero, List.set_cons_succ]
    refine wpAnyH_take (i := 1) (v := ?_) rfl (by kernel_rfl) (by kernel_rfl) (by kernel_rfl) (fun _ _ _ h => h) (Or.inl ⟨by rfl, ?_⟩) (by assumption) ?_
    rotate_left
    · intro w hSw; (try dsimp only at hSw); go_simp; try with_reducible rfl
    try simp only [Act.put, List.getElem_toArray, List.getElem_cons_succ, List.getElem_cons_zero, List.setIfInBounds_toArray, List.set_cons_zero, List.set_cons_succ]
    refine wpAnyH_take (i := 2) (v := ?_) rfl (by kernel_rfl) (by kernel_rfl) (by kernel_rfl) (fun _ _ _ h => h) (Or.inl ⟨by rfl, ?_⟩) (by assumption) ?_
    rotate_left
    · intro w hSw; (try dsimp only at hSw); go_simp; try with_reducible rfl
    try simp only [Act.put, List.getElem_toArray, List.getElem_cons_succ, List.getElem_cons_zero, List.setIfInBounds_toArray, List.set_cons_zero, List.set_cons_succ]
    refine wpAnyH_take (i := 3) (v := ?_) rfl (by kernel_rfl) (by kernel_rfl) (by kernel_rfl) (fun _ _ _ h => h) (Or.inl ⟨by rfl, ?_⟩) (by assumption) ?_
    rotate_left
    · intro w hSw; (try dsimp only at hSw); go_simp; try with_reducible rfl
    try simp only [Act.put, List.getElem_toArray, List.getElem_cons_succ, List.getElem_cons_zero, List.setIfInBounds_toArray, List.set_cons_zero, List.set_cons_succ]
    refine wpAnyH_take (i := 4) (v := ?_) rfl (by kernel_rfl) (by kernel_rfl) (by kernel_rfl) (fun _ _ _ h => h) (Or.inl ⟨by rfl, ?_⟩) (by assumption) ?_
    rotate_left
    · intro w hSw; (try dsimp only at hSw); go_simp; try with_reducible rfl
    try simp only [Act.put, List.getElem_toArray, List.getElem_cons_succ, List.getElem_cons_zero, List.setIfInBounds_toArray, List.set_cons_zero, List.set_cons_succ]
    refine wpAnyH_take (i := 5) (v := ?_) rfl (by kernel_rfl) (by kernel_rfl) (by kernel_rfl) (fun _ _ _ h => h) (Or.inl ⟨by rfl, ?_⟩) (by assumption) ?_
    rotate_left
    · intro w hSw; (try dsimp only at hSw); go_simp; try with_reducible rfl
    try simp only [Act.put, List.getElem_toArray, List.getElem_cons_succ, List.getElem_cons_zero, List.setIfInBounds_toArray, List.set_cons_zero, List.set_cons_succ]
    refine wpAnyH_take (i := 6) (v := ?_) rfl (by kernel_rfl) (by kernel_rfl) (by kernel_rfl) (fun _ _ _ h => h) (Or.inl ⟨by rfl, ?_⟩) (by assumption) ?_
    rotate_left
    · intro w hSw; (try dsimp only at hSw); go_simp; try with_reducible rfl
    try simp only [Act.put, List.getElem_toArray, List.getElem_cons_succ, List.getElem_cons_zero, List.setIfInBounds_toArray, List.set_cons_zero, List.set_cons_succ]
    refine wpAnyH_take (i := 7) (v := ?_) rfl (by kernel_rfl) (by kernel_rfl) (by kernel_rfl) (fun _ _ _ h => h) (Or.inl ⟨by rfl, ?_⟩) (by assumption) ?_
    rotate_left
    · intro w hSw; (try dsimp only at hSw); go_simp; try with_reducible rfl
    try simp only [Act.put, List.getElem_toArray, List.getElem_cons_succ, List.getElem_cons_zero, List.setIfInBounds_toArray, List.set_cons_zero, List.set_cons_succ]
    refine wpAnyH_take (i := 8) (v := ?_) rfl (by kernel_rfl) (by kernel_rfl) (by kernel_rfl) (fun _ _ _ h => h) (Or.inl ⟨by rfl, ?_⟩) (by assumption) ?_
    rotate_left
    · intro w hSw; (try dsimp only at hSw); go_simp; try with_reducible rfl
    try simp only [Act.put, List.getElem_toArray, List.getElem_cons_succ, List.getElem_cons_zero, List.setIfInBounds_toArray, List.set_cons_zero, List.set_cons_succ]
    refine wpAnyH_take (i := 9) (v := ?_) rfl (by kernel_rfl) (by kernel_rfl) (by kernel_rfl) (fun _ _ _ h => h) (Or.inl ⟨by rfl, ?_⟩) (by assumption) ?_
    rotate_left
    · intro w hSw; (try dsimp only at hSw); go_simp; try with_reducible rfl
    try simp only [Act.put, List.getElem_toArray, List.getElem_cons_succ, List.getElem_cons_zero, List.setIfInBounds_toArray, List.set_cons_zero, List.set_cons_succ]
    refine wpAnyH_take (i := 10) (v := ?_) rfl (by kernel_rfl) (by kernel_rfl) (by kernel_rfl) (fun _ _ _ h => h) (Or.inl ⟨by rfl, ?_⟩) (by assumption) ?_
    rotate_left
    · intro w hSw; (try dsimp only at hSw); go_simp; try with_reducible rfl
    try simp only [Act.put, List.getElem_toArray, List.getElem_cons_succ, List.getElem_cons_zero, List.setIfInBounds_toArray, List.set_cons_zero, List.set_cons_succ]
    refine wpAnyH_ready (rs := [11]) (by kernel_rfl) (by simp) ?_
    refine AllReadyH.cons rfl (fun K hK => ?_) AllReadyH.nil
    go_simp
    refine HGV.out.mono ?_; rintro e w5 (⟨hb, rfl, hn5, t5⟩ | ⟨hb, rfl, rfl⟩)
    · have H5 := Lib.hid (And.intro hb (And.intro hn5 t5))
      have hKr : K0 ≠ r := fun e => by have h1 := HH.out.now.row.lt; have h2 := HK0.out; omega
      have hXr : X ≠ r := fun e => by have h1 := HH.out.far.2.1; have h2 := HH.out.rows.le.2.1; rw [HX.out] at h2; omega
      have hH5 : w5.cell? ⟨X, 19, none⟩ = some (.func (.func 103) #[] #[.pointer (some ⟨N, 0, none⟩)]) ∧ w5.cell? ⟨X, 9, none⟩ = some (.pointer (some ⟨b0, 0, none⟩)) ∧ w5.cell? ⟨K0, 1, none⟩ = some (.int .i64 d) := ⟨(t5.cell (p := ⟨X, 19, none⟩) lX hXr).trans hHeld.1, (t5.cell (p := ⟨X, 9, none⟩) lX hXr).trans hHeld.2.1, (t5.cell (p := ⟨K0, 1, none⟩) lK hKr).trans hHeld.2.2⟩
      clear hb hn5 t5 hHeld
      refine hK.out _ _ hH5 (fun hHeld => ?_)
      clear hK K
      refine wpAnyH_done (by kernel_rfl) ?_ _
      clear hHeld hH5 x19 x9 k1 lX lK
      go_wp2_with fail
      go_end0
      refine .inl ⟨?_, rfl, ⟨r, _, H5.out.2.1, ?_, .inl rfl⟩, (S1.out.1.turn.trans SD.out.turn).trans (H5.out.2.2.mono fun _ _ e => .inr e)⟩
      · rw [HNE.out]
        exact ⟨H63.out, (hasK_iff HH.out.kn d).1 H5.out.1⟩
      · rw [HNX.out]
        have hk5 := H2.out.kn.keep H5.out.2.2 (fun b im R hb e => H2.out.now.words b im R hb (.inr e))
        have hr := H2.out.rows
        have hz : TyK wD b0 numT := ⟨hr.wt 0 b0 numT (by rw [← HB0.out]; exact hr.z1) hr.zero, fun s hs => by simp [numT] at hs⟩
        exact hk5.set (hz.keep H5.out.2.2 (fun e => H2.out.now.words _ _ _ hz.1 (.inr e)))
    · refine ⟨rfl, .inr ⟨fun e => ?_, rfl, (S1.out.1.trans SD.out).turn⟩⟩
      rw [HNE.out] at e
      rw [(hasK_iff HH.out.kn d).2 e.2] at hb
      cases hb
end Go.Proofs.YtilfmnlbnfhkpaaGreatDoor
