/- Lemmas, put together: Vst Vsp Vsr Vnu Vrw Vto Vtb. -/
import Derived.Test.YtglalgjffkoneaaGreatDoorV2
import Derived.Test.YtglalgjffkoneaaGreatDoorVnw
import Derived.Test.YtglalgjffkoneaaGreatDoorVwh
import Derived.Test.YtglalgjffkoneaaGreatDoorV1
/- A walk through an image: its box, the types' words, what is known of the slots. -/
namespace Go.Proofs.YtglalgjffkoneaaGreatDoor
set_option linter.unusedVariables false
set_option linter.unusedSimpArgs false
open Go.ChangeShapes Go.WideShapes Go.ChangeAt Go.RowKit
open Vf (K nth nth_nat tyAt atK isK numT oneT le beginK tsub)
/-- Which shapes a type's words have. -/
theorem ofL_has : ∀ (xs : List Int) (R : Nat → Nat) (x : Nat), (∀ s ∈ xs, 0 ≤ s) → (Vf.has (xs.foldl (fun R s => Vf.add1 R s.toNat) R) x = true ↔ Vf.has R x = true ∨ (x : Int) ∈ xs)
  | [], R, x, _ => by simp
  | s :: xs, R, x, h => by
    rw [List.foldl_cons, ofL_has xs _ x fun t ht => h t (by simp [ht]), Vf.has_add1]
    obtain ⟨k, rfl⟩ := Int.eq_ofNat_of_zero_le (h s (by simp))
    rw [Int.toNat_natCast, Bool.or_eq_true, decide_eq_true_eq, List.mem_cons]
    constructor
    · rintro ((e | e) | e)
      · exact .inl e
      · exact .inr (.inl (by rw [e]))
      · exact .inr (.inr e)
    · rintro (e | e | e)
      · exact .inl (.inl e)
      · exact .inl (.inr (by omega))
      · exact .inr e
theorem ofL_mem {xs : List Int} (h : ∀ s ∈ xs, 0 ≤ s) (x : Nat) : Vf.has (ofL xs) x = true ↔ (x : Int) ∈ xs := by
  unfold ofL
  rw [ofL_has xs Vf.zero x h, Vf.has_zero]
  simp
/-- Shapes that rows of bits can tell. -/
def Fit8 (t : M.Ty) : Prop := ∀ s ∈ t.shapes, 0 ≤ s ∧ s < 512
theorem wsub_iff {a b : M.Ty} (ha : Fit8 a) (hb : Fit8 b) : WSub a.imm (ofL a.shapes) b.imm (ofL b.shapes) ↔ le a b = true := by
  unfold WSub le tsub
  rw [Bool.and_eq_true, Vf.subB_iff]
  constructor
  · rintro ⟨h1, h2⟩
    refine ⟨by cases h : a.imm <;> simp_all, fun s hs => ?_⟩
    obtain ⟨k, rfl⟩ := Int.eq_ofNat_of_zero_le (ha s hs).1
    exact (ofL_mem (fun s hs => (hb s hs).1) k).1 (h2 k (by have := (ha _ hs).2; omega) ((ofL_mem (fun s hs => (ha s hs).1) k).2 hs))
  · rintro ⟨h1, h2⟩
    refine ⟨fun e => by rw [e] at h1; simpa using h1, fun x hx h => ?_⟩
    exact (ofL_mem (fun s hs => (hb s hs).1) x).2 (h2 _ ((ofL_mem (fun s hs => (ha s hs).1) x).1 h))
/-- Words in memory: a type's, that rows of bits can tell. -/
def TyK (w : World) (b : Nat) (t : M.Ty) : Prop := TyW w b t ∧ Fit8 t
theorem TyK.keep {w w' : World} {b : Nat} {t : M.Ty} {S : Nat → Prop} (h : TyK w b t) (u : Turn S w w') (hs : ¬ S b) : TyK w' b t := ⟨WordsAt.keep h.1 u hs, h.2⟩
/-- What the slots' blocks say. -/
def Kn (w : World) (l : List (Option Nat)) (k : K) : Prop := l.length = k.length ∧ ∀ i : Nat, i < l.length → (l[i]? = some none ∧ k[i]? = some none) ∨ ∃ b t, l[i]? = some (some b) ∧ k[i]? = some (some t) ∧ TyK w b t
theorem Kn.keep {w w' : World} {l : List (Option Nat)} {k : K} {S : Nat → Prop} (h : Kn w l k) (u : Turn S w w') (hs : ∀ b im R, WordsAt w b im R → ¬ S b) : Kn w' l k := ⟨h.1, fun i hi => by
  rcases h.2 i hi with e | ⟨b, t, e1, e2, e3⟩
  · exact .inl e
  · exact .inr ⟨b, t, e1, e2, e3.keep u (hs _ _ _ e3.1)⟩⟩
theorem Kn.slot {w : World} {l : List (Option Nat)} {k : K} (h : Kn w l k) (i : Int) : (slotAt l i = none ∧ atK k i = none) ∨ ∃ b t, slotAt l i = some b ∧ atK k i = some t ∧ TyK w b t := by
  unfold slotAt atK
  by_cases h0 : 0 ≤ i
  · rw [if_pos h0, if_pos h0]
    by_cases hi : i.toNat < l.length
    · rcases h.2 i.toNat hi with ⟨e1, e2⟩ | ⟨b, t, e1, e2, e3⟩
      · rw [e1, e2]; exact .inl ⟨rfl, rfl⟩
      · rw [e1, e2]; exact .inr ⟨b, t, rfl, rfl, e3⟩
    · rw [List.getElem?_eq_none (by omega), List.getElem?_eq_none (by have := h.1; omega)]
      exact .inl ⟨rfl, rfl⟩
  · rw [if_neg h0, if_neg h0]
    exact .inl ⟨rfl, rfl⟩
theorem Kn.set {w : World} {l : List (Option Nat)} {k : K} (h : Kn w l k) {i : Nat} {b : Nat} {t : M.Ty} (hb : TyK w b t) : Kn w (l.set i (some b)) (k.set i (some t)) := by
  refine ⟨by rw [List.length_set, List.length_set]; exact h.1, fun j hj => ?_⟩
  rw [List.length_set] at hj
  by_cases e : i = j
  · subst e
    rw [List.getElem?_set_self hj, List.getElem?_set_self (by have := h.1; omega)]
    exact .inr ⟨b, t, rfl, rfl, hb⟩
  · rw [List.getElem?_set_ne e, List.getElem?_set_ne e]
    exact h.2 j hj
theorem hasK_iff {w : World} {l : List (Option Nat)} {k : K} (h : Kn w l k) (i : Int) : hasB i l.length = true ↔ Vf.hasK k i := by
  rw [hasB_iff, h.1]
  exact Iff.rfl
/-- The table by which the lowest bit of a row is told. -/
def Tz (w : World) : Prop := ∀ j : Nat, j < 64 → w.cell? ⟨1, j, none⟩ = some (.int .u8 (Lib.deBruijn64tab.getD j 0 : Nat))
theorem Tz.keep {w w' : World} {S : Nat → Prop} (h : Tz w) (t : Turn S w w') (hs : ¬ S 1) : Tz w' := fun j hj =>
  (t.cell (p := ⟨1, j, none⟩) (World.block_lt_of_cell? _ _ (h j hj)) hs).trans (h j hj)
theorem Tz.lt {w : World} (h : Tz w) : 1 < w.heap.size := World.block_lt_of_cell? _ _ (h 0 (by decide))
/-- What is known of slots speaks of shapes that there are. -/
def InT (m : M.Img) (t : M.Ty) : Prop := ∀ s ∈ t.shapes, 0 ≤ s ∧ s < m.shapes.length
def InK (m : M.Img) (k : K) : Prop := ∀ t, some t ∈ k → InT m t
structure InM (m : M.Img) : Prop where
  types : ∀ t ∈ m.types, InT m t
  shapes : 0 < m.shapes.length
theorem inT_num (m : M.Img) : InT m numT := fun s hs => by simp [numT] at hs
theorem InM.at {m : M.Img} (h : InM m) (n : Int) : InT m (tyAt m n) := by
  unfold tyAt
  cases hn : nth m.types n with
  | none => exact inT_num m
  | some t =>
    obtain ⟨k, rfl, hk⟩ := Vf.nth_some hn
    exact h.types t (List.mem_of_getElem? hk)
theorem atK_mem {k : K} {i : Int} {t : M.Ty} (h : atK k i = some t) : some t ∈ k := by
  unfold atK at h
  split at h
  · obtain ⟨o, ho, h2⟩ := Option.join_eq_some_iff.1 h |> fun e => (⟨_, e, rfl⟩ : ∃ o, k[i.toNat]? = some o ∧ o = some t)
    subst h2
    exact List.mem_of_getElem? ho
  · cases h
theorem InK.at {m : M.Img} {k : K} (h : InK m k) {i : Int} {t : M.Ty} (e : atK k i = some t) : InT m t := h t (atK_mem e)
theorem InK.set {m : M.Img} {k : K} (h : InK m k) (i : Int) {t : M.Ty} (ht : InT m t) : InK m (Vf.setK k i t) := fun x hx => by
  rcases List.mem_or_eq_of_mem_set hx with e | e
  · exact h x e
  · rw [Option.some.inj e]; exact ht
theorem InK.keep {m : M.Img} {k : K} (h : InK m k) (live : List Int) : InK m (Vf.keepK k live) := by
  unfold Vf.keepK
  have gen : ∀ (live : List Int) (acc : K), InK m acc → InK m (live.foldl (fun acc s => acc.set s.toNat (atK k s)) acc) := fun live => by
    induction live with
    | nil => exact fun acc h => h
    | cons s l ih =>
      intro acc ha
      refine ih _ fun x hx => ?_
      rcases List.mem_or_eq_of_mem_set hx with e | e
      · exact ha x e
      · exact h.at e.symm
  exact gen live _ fun x hx => by have := List.eq_of_mem_replicate hx; cases this
theorem InM.all {m : M.Img} (h : InM m) (n : Int) : ∀ (ss : List Int), InT m (Vf.allT m n ss) := by
  have gen : ∀ (ss : List Int) (t : M.Ty), InT m t → InT m (ss.foldl (fun t s => Vf.joinT t (Vf.fieldT m n s)) t) := fun ss => by
    induction ss with
    | nil => exact fun t h => h
    | cons s l ih =>
      intro t ht
      refine ih _ fun x hx => ?_
      have hx : x ∈ Vf.joinL (t.shapes ++ (Vf.fieldT m n s).shapes) := hx
      rw [(Vf.joinL_spec _).2, List.mem_append] at hx
      rcases hx with e | e
      · exact ht x e
      · exact h.at _ x e
  exact fun ss => gen ss _ fun s hs => by simp at hs
theorem InK.next {m : M.Img} (hm : InM m) {f : M.Fn} {k : K} (h : InK m k) {x : M.Ins} (hn : Vf.Needs m f k x) : InK m (Vf.next m k x) := by
  have one : ∀ {s : Int} {y : M.Sh}, nth m.shapes s = some y → InT m (oneT s) := fun {s y} e => by
    obtain ⟨j, rfl, hj⟩ := Vf.nth_some e
    intro z hz
    obtain rfl : z = (j : Int) := by simpa [oneT] using hz
    have := (List.getElem?_eq_some_iff.1 hj).1
    omega
  unfold Vf.next
  split
  · exact h.set _ (inT_num m)
  split
  · refine (h.keep _).set _ fun z hz => ?_
    obtain rfl : z = 0 := by simpa [oneT] using hz
    have := hm.shapes
    omega
  split
  · refine h.set _ ?_
    cases ha : atK k x.a with
    | none => exact inT_num m
    | some t => exact h.at ha
  split
  · rename_i e
    refine (h.keep _).set _ ?_
    unfold Vf.Needs at hn
    rcases e with e | e <;> simp only [e] at hn
    · obtain ⟨y, hy, _⟩ := hn.1
      exact one hy
    · obtain ⟨y, hy, _⟩ := hn.2.1
      exact one hy
  split
  · exact h.set _ (hm.all _ _)
  split
  · exact h.set _ (hm.all _ _)
  split
  · exact (h.keep _).set _ (hm.at _)
  · exact h
theorem InM.begin {m : M.Img} (h : InM m) (inn : List Int) : InK m (beginK m inn) := fun t ht => by
  unfold beginK at ht
  obtain ⟨n, _, hn⟩ := List.mem_map.1 ht
  split at hn
  · cases hn
  · rw [← Option.some.inj hn]; exact h.at n
/-- What of a walk does not change. -/
structure WkC where
  v : ImgV
  m : M.Img
  X : Nat
  r1 : Nat
  rc : Nat
  r2 : Nat
  ac : Nat
  bs : List Nat
  cs : List Nat
  b0 : Nat
  c0 : Nat
  B : Nat
  L : Nat
/-- A function's cells. -/
structure FV where
  pa : Option Addr
  pn : Nat
  pc : Nat
  res : Int
  slots : Int
  ba : Option Addr
  bn : Nat
  bc : Nat
abbrev WkC.cells (c : WkC) (g : FV) (fi bi ii : Int) (v0 v1 v2 v3 v4 : Value) : Array Value :=
  #[.slice c.v.ta c.v.tn c.v.tc, .slice c.v.sa c.v.sn c.v.sc, .slice c.v.xa c.v.xn c.v.xc, .slice c.v.na c.v.nn c.v.nc, .slice c.v.fa c.v.fn c.v.fc, .int .i64 c.v.main, .int .i64 c.v.exn, .slice (some ⟨c.r1, 0, none⟩) c.v.tn c.rc, .slice (some ⟨c.r2, 0, none⟩) c.v.sn c.ac, .pointer (some ⟨c.b0, 0, none⟩), .pointer (some ⟨c.c0, 0, none⟩), .slice g.pa g.pn g.pc, .int .i64 g.res, .int .i64 g.slots, .slice g.ba g.bn g.bc, .int .i64 fi, .int .i64 bi, .int .i64 ii, v0, v1, v2, v3, v4]
structure RowsAt (c : WkC) (w : World) : Prop where
  rt : ∀ (k b : Nat), c.bs[k]? = some b → w.cell? ⟨c.r1, k, none⟩ = some (.pointer (some ⟨b, 0, none⟩))
  ra : ∀ (k b : Nat), c.cs[k]? = some b → w.cell? ⟨c.r2, k, none⟩ = some (.pointer (some ⟨b, 0, none⟩))
  wt : ∀ (k b : Nat) (t : M.Ty), c.bs[k]? = some b → c.m.types[k]? = some t → TyW w b t
  wa : ∀ (k b : Nat), c.cs[k]? = some b → TyW w b (oneT k)
  lb : c.bs.length = c.m.types.length
  lc : c.cs.length = c.m.shapes.length
  img : ImgIs c.B w c.v c.m
  le : c.B ≤ c.X ∧ c.X < c.L ∧ c.L ≤ w.heap.size
  l1 : c.r1 < c.L ∧ c.r1 ≠ c.X ∧ c.r2 < c.L ∧ c.r2 ≠ c.X
  lbs : ∀ b ∈ c.bs, b < c.L ∧ b ≠ c.X
  lcs : ∀ b ∈ c.cs, b < c.L ∧ b ≠ c.X
  z1 : c.bs[0]? = some c.b0
  z2 : c.cs[0]? = some c.c0
  ok : ∀ t ∈ c.m.types, Fit8 t
  few : c.m.types.length ≤ 1024 ∧ c.m.shapes.length ≤ 512
  zero : c.m.types[0]? = some numT
  tab : Tz w
  tabB : 1 < c.B
  inM : InM c.m
/-- What is written into the walk's box, or into what came later. -/
def Far (c : WkC) (S : Nat → Prop) : Prop := ∀ j, S j → j = c.X ∨ c.L ≤ j
theorem RowsAt.keep {c : WkC} {w w' : World} (h : RowsAt c w) {S : Nat → Prop} (t : Turn S w w') (hS : Far c S) : RowsAt c w' where
  rt := fun k b e => (t.cell (p := ⟨c.r1, k, none⟩) (Nat.lt_of_lt_of_le h.l1.1 h.le.2.2) (fun e => by have := h.l1; rcases hS _ e with e | e; exact this.2.1 e; exact absurd this.1 (Nat.not_lt.2 e))).trans (h.rt k b e)
  ra := fun k b e => (t.cell (p := ⟨c.r2, k, none⟩) (Nat.lt_of_lt_of_le h.l1.2.2.1 h.le.2.2) (fun e => by have := h.l1; rcases hS _ e with e | e; exact this.2.2.2 e; exact absurd this.2.2.1 (Nat.not_lt.2 e))).trans (h.ra k b e)
  wt := fun k b x e e2 => WordsAt.keep (h.wt k b x e e2) t fun e3 => by
    have := h.lbs b (List.mem_of_getElem? e)
    rcases hS _ e3 with e4 | e4
    · exact this.2 e4
    · exact absurd this.1 (Nat.not_lt.2 e4)
  wa := fun k b e => WordsAt.keep (h.wa k b e) t fun e3 => by
    have := h.lcs b (List.mem_of_getElem? e)
    rcases hS _ e3 with e4 | e4
    · exact this.2 e4
    · exact absurd this.1 (Nat.not_lt.2 e4)
  lb := h.lb
  lc := h.lc
  img := h.img.keep (t.below (by have := h.le; omega) fun j e => by have := h.le; rcases hS _ e with e | e <;> omega) (by have := h.le; omega)
  le := ⟨h.le.1, h.le.2.1, Nat.le_trans h.le.2.2 t.size⟩
  l1 := h.l1
  lbs := h.lbs
  lcs := h.lcs
  z1 := h.z1
  z2 := h.z2
  ok := h.ok
  few := h.few
  zero := h.zero
  tab := h.tab.keep t fun e => by have h1 := h.le; have h2 := h.tabB; rcases hS _ e with e | e <;> omega
  tabB := h.tabB
  inM := h.inM
end Go.Proofs.YtglalgjffkoneaaGreatDoor
/- What an instruction needs, and does: a number's; an answer's. -/
namespace Go.Proofs.YtglalgjffkoneaaGreatDoor
set_option linter.unusedVariables false
set_option linter.unusedSimpArgs false
open Go.ChangeShapes Go.WideShapes Go.ChangeAt Go.RowKit
open Vf (K nth nth_nat tyAt atK isK numT oneT le beginK tsub)
/-- Where a walk stands within a block. -/
structure WkAt (c : WkC) (w : World) (f : M.Fn) (g : FV) (fi bi ii : Int) (N r T Y : Nat) (l : List (Option Nat)) (k : K) : Prop where
  rows : RowsAt c w
  box : Blk w c.X 67 (c.cells g fi bi ii (.func (.func 84) #[] #[.pointer (some ⟨N, 0, none⟩)]) (.func (.func 86) #[] #[.pointer (some ⟨N, 0, none⟩)]) (.func (.func 87) #[] #[.pointer (some ⟨N, 0, none⟩)]) (.func (.func 88) #[] #[.pointer (some ⟨N, 0, none⟩), .pointer (some ⟨T, 0, none⟩)]) (.func (.func 89) #[] #[.pointer (some ⟨T, 0, none⟩), .pointer (some ⟨Y, 0, none⟩)]))
  fn : g.res = f.result ∧ g.slots = f.slots ∧ g.pn ≤ maxLen ∧ g.bn ≤ maxLen
  par : Ints c.B w g.pa g.pn f.params
  blk : Lies c.B w 2 (BkIs c.B w) g.ba g.bn f.blocks
  now : NowAt w N r l
  typed : Blk w T 60 #[.func (.func 84) #[] #[.pointer (some ⟨N, 0, none⟩)]]
  types : Blk w Y 58 #[.slice (some ⟨c.r1, 0, none⟩) c.v.tn c.rc]
  far : c.L ≤ N ∧ c.L ≤ r ∧ c.L ≤ T ∧ c.L ≤ Y
  ne : T ≠ N ∧ N ≠ r ∧ T ≠ r ∧ Y ≠ N ∧ Y ≠ r
  kn : Kn w l k
  ok : fnB c.m.types.length f = true
  inK : InK c.m k
theorem WkAt.still {c : WkC} {w w' : World} {f : M.Fn} {g : FV} {fi bi ii : Int} {N r T Y : Nat} {l : List (Option Nat)} {k : K} (h : WkAt c w f g fi bi ii N r T Y l k) (t : Still w w') : WkAt c w' f g fi bi ii N r T Y l k :=
  ⟨h.rows.keep t (fun _ e => e.elim), t.blk h.box, h.fn, h.par.keep ((Still.below t).mono (by have := h.rows.le; omega)) (by have := h.rows.le; omega), Lies.keep h.blk ((Still.below t).mono (by have := h.rows.le; omega)) (by have := h.rows.le; omega) (fun cs x _ h1 => h1.keep ((Still.below t).mono (by have := h.rows.le; omega)) (by have := h.rows.le; omega)), h.now.keep t (fun e => e) (fun e => e), t.blk h.typed, t.blk h.types, h.far, h.ne, h.kn.keep t (fun _ _ _ _ e => e), h.ok, h.inK⟩
def StepR (c : WkC) (f : M.Fn) (N r : Nat) (k : K) (x : M.Ins) (w : World) (e : Ending) (w' : World) : Prop :=
  (Vf.Needs c.m f k x ∧ e = .returned (.tuple #[]) ∧ (∃ r' l', NowAt w' N r' l' ∧ Kn w' l' (Vf.next c.m k x) ∧ (r' = r ∨ w.heap.size ≤ r')) ∧ Turn (fun j => j = N ∨ j = r) w w') ∨ (¬ Vf.Needs c.m f k x ∧ e = .panicked [{ v := wrongV, recovered := false }] ∧ Turn (fun j => j = N ∨ j = r) w w')
/-- An instruction is asked, and done, as the rules say. -/
def StepOk (c : WkC) (x : M.Ins) : Prop := ∀ (w : World) (f : M.Fn) (g : FV) (fi bi ii : Int) (N r T Y : Nat) (l : List (Option Nat)) (k : K) (la : Option Addr) (ln lc : Nat) (ma : Option Addr) (mn mc : Nat) (va : Option Addr) (vn vc : Nat), WkAt c w f g fi bi ii N r T Y l k → InsIs c.B w [.int .i64 x.op, .int .i64 x.d, .int .i64 x.a, .int .i64 x.b, .int .i64 x.c, .int .i64 x.n, .slice la ln lc, .slice ma mn mc, .slice va vn vc] x →
  Calls Tryz.prog 59 #[.pointer (some ⟨c.X, 0, none⟩), .agg #[.int .i64 x.op, .int .i64 x.d, .int .i64 x.a, .int .i64 x.b, .int .i64 x.c, .int .i64 x.n, .slice la ln lc, .slice ma mn mc, .slice va vn vc]] w (StepR c f N r k x w)
/-- A block of slots is not one of words. -/
theorem NowAt.words {w : World} {N r : Nat} {l : List (Option Nat)} (h : NowAt w N r l) : ∀ b im R, WordsAt w b im R → ¬ (b = N ∨ b = r) := fun b im R hb e => by
  rcases e with e | e
  · exact words_ne hb h.box (by decide) e
  · exact words_ne hb h.row (by decide) e
theorem W_63 (n : Int) : (M.W n == n) = true ↔ Vf.Is63 n := by
  unfold M.W Vf.Is63
  rw [beq_iff_eq]
  omega
theorem is63_any (n : Int) (w : World) : Calls Tryz.prog 91 #[.int .i64 n] w fun e w' => e = .returned (.bool (M.W n == n)) ∧ w' = w := by
  go_enter Tryz.func91, Tryz.ntmps91
  go_wp2_with fail
  refine (wrap_any n w).mono ?_; rintro e w1 ⟨rfl, rfl⟩
  go_wp2_with fail
  go_ret
  exact ⟨rfl, rfl⟩
set_option maxRecDepth 100000 in
set_option maxHeartbeats 8000000 in
theorem step_const (c : WkC) (x : M.Ins) (hop : x.op = 1) : StepOk c x := by
  intro w f g fi bi ii N r T Y l k la ln lc ma mn mc va vn vc h hx
  have HH := Lib.hid h
  have HOP := Lib.hid hop
  have HNE : Hid (Vf.Needs c.m f k x = (Vf.Is63 x.n ∧ Vf.hasK k x.d)) := by show _ = _; unfold Vf.Needs; rw [if_pos hop]
  have HNX : Hid (Vf.next c.m k x = Vf.setK k x.d numT) := by show _ = _; unfold Vf.next; rw [if_pos (.inl hop)]
  have S1 : Hid (Still w (w.alloc (.cells #[.int .i64 x.op, .int .i64 x.d, .int .i64 x.a, .int .i64 x.b, .int .i64 x.c, .int .i64 x.n, .slice la ln lc, .slice ma mn mc, .slice va vn vc] 36)) ∧ Blk (w.alloc (.cells #[.int .i64 x.op, .int .i64 x.d, .int .i64 x.a, .int .i64 x.b, .int .i64 x.c, .int .i64 x.n, .slice la ln lc, .slice ma mn mc, .slice va vn vc] 36)) w.heap.size 36 #[.int .i64 x.op, .int .i64 x.d, .int .i64 x.a, .int .i64 x.b, .int .i64 x.c, .int .i64 x.n, .slice la ln lc, .slice ma mn mc, .slice va vn vc]) := ⟨(Still.refl w).alloc _, Blk.new w _ _⟩
  obtain ⟨X, hX⟩ : ∃ X, c.X = X := ⟨_, rfl⟩
  have HX := Lib.hid hX
  have c1 := S1.out.2.cell 1
  rw [hop] at S1 c1 ⊢
  rw [hX]
  clear hx
  generalize x.d = d at *
  generalize x.n = xn at *
  clear h hop hX
  go_enter Tryz.func59, Tryz.ntmps59
  go_wp2_with fail
  generalize w.alloc (.cells #[.int .i64 1, .int .i64 d, .int .i64 x.a, .int .i64 x.b, .int .i64 x.c, .int .i64 xn, .slice la ln lc, .slice ma mn mc, .slice va vn vc] 36) = w1 at S1 c1 ⊢
  obtain ⟨K0, hK0⟩ : ∃ K0, w.heap.size = K0 := ⟨_, rfl⟩
  rw [hK0] at S1 c1
  rw [hK0]
  have HK0 := Lib.hid hK0
  clear hK0
  have H1 := Lib.hid (HH.out.still S1.out.1)
  refine (is63_any xn w1).mono ?_; rintro e w2 ⟨rfl, rfl⟩
  cases hb : (M.W xn == xn) with
  | false =>
    go_wp2_with fail
    refine (need_no _).mono ?_; rintro e w3 ⟨rfl, rfl⟩
    refine ⟨rfl, .inr ⟨fun e => ?_, rfl, S1.out.1.turn⟩⟩
    rw [HNE.out] at e
    rw [(W_63 xn).2 e.1] at hb
    cases hb
  | true =>
    have H63 : Hid (Vf.Is63 xn) := (W_63 xn).1 hb
    go_wp2_with fail
    refine (need_yes _).mono ?_; rintro e w3 ⟨rfl, rfl⟩
    clear hb
    obtain ⟨wD, hwD⟩ : ∃ wD, w3.drew = wD := ⟨_, rfl⟩
    have SD : Hid (Still w3 wD) := by rw [← hwD]; exact (Still.refl w3).drew
    have H2 := Lib.hid (H1.out.still SD.out)
    obtain ⟨b0, hb0⟩ : ∃ b0, c.b0 = b0 := ⟨_, rfl⟩
    have HB0 := Lib.hid hb0
    have x19 : wD.cell? ⟨X, 19, none⟩ = some (.func (.func 86) #[] #[.pointer (some ⟨N, 0, none⟩)]) := by rw [← HX.out]; exact H2.out.box.cell 19
    have x9 : wD.cell? ⟨X, 9, none⟩ = some (.pointer (some ⟨b0, 0, none⟩)) := by rw [← HX.out, ← hb0]; exact H2.out.box.cell 9
    have k1 : wD.cell? ⟨K0, 1, none⟩ = some (.int .i64 d) := (SD.out.blk S1.out.2).cell 1
    have lX : X < wD.heap.size := by have := H2.out.box.lt; rwa [HX.out] at this
    have lK : K0 < wD.heap.size := (SD.out.blk S1.out.2).lt
    have henter : ∀ (args : Array Value) (W : World), (callFunc 86 args).run Tryz.prog W = .ok (.enter 86 args) W := enters_of Tryz.func86 (by kernel_rfl) rfl
    have HGV := Lib.hid (give_any H2.out.now H2.out.ne.2.1 d (some b0))
    clear c1 hb0
    go_wp2_with fail
    refine wp_region_held_drew (S := fun W => W.cell? ⟨X, 19, none⟩ = some (.func (.func 86) #[] #[.pointer (some ⟨N, 0, none⟩)]) ∧ W.cell? ⟨X, 9, none⟩ = some (.pointer (some ⟨b0, 0, none⟩)) ∧ W.cell? ⟨K0, 1, none⟩ = some (.int .i64 d)) (by kernel_rfl) (by rw [hwD]; exact ⟨x19, x9, k1⟩) (fun hHeld => ?_)
    try simp only [Act.put, List.getElem_toArray, List.getElem_cons_succ, List.getElem_cons_zero, List.setIfInBounds_toArray, List.set_cons_zero, List.set_cons_succ]
    rw [hwD] at hHeld ⊢
    clear hwD
    refine wpAnyH_take (i := 0) (v := ?_) rfl (by kernel_rfl) (by kernel_rfl) (by kernel_rfl) (fun _ _ _ h => h) (Or.inl ⟨by rfl, ?_⟩) (by assumption) ?_
    rotate_left
    · intro w hSw; (try dsimp only at hSw); go_simp; try with_reducible rfl
    try simp only [Act.put, List.getElem_toArray, List.getElem_cons_succ, List.getElem_cons_zero, List.setIfInBounds_toArray, List.set_cons_zero, List.set_cons_succ]
    refine wpAnyH_take (i := 1) (v := ?_) rfl (by kernel_rfl) (by kernel_rfl) (by kernel_rfl) (fun _ _ _ h => h) (Or.inl ⟨by rfl, ?_⟩) (by assumption) ?_
    rotate_left
    · intro w hSw; (try dsimp only at hSw); go_simp; try with_reducible rfl
    try simp only [Act.put, List.getElem_toArray, List.getElem_cons_succ, List.getElem_cons_zero, List.setIfInBounds_toArray, List.set_cons_zero, List.set_cons_succ]
    refine wpAnyH_take (i := 2) (v := ?_) rfl (by kernel_rfl) (by kernel_rfl) (by kernel_rfl) (fun _ _ _ h => h) (Or.inl ⟨by rfl, ?_⟩) (by assumption) ?_
    rotate_left
    · intro w hSw; (try dsimp only at hSw); go_simp; try with_reducible rfl
    try simp only [Act.put, List.getElem_toArray, List.getElem_cons_succ, List.getElem_cons_zero, List.setIfInBounds_toArray, List.set_cons_zero, List.set_cons_succ]
    refine wpAnyH_take (i := 3) (v := ?_) rfl (by kernel_rfl) (by kernel_rfl) (by kernel_rfl) (fun _ _ _ h => h) (Or.inl ⟨by rfl, ?_⟩) (by assumption) ?_
    rotate_left
    · intro w hSw; (try dsimp only at hSw); go_simp; try with_reducible rfl
    try simp only [Act.put, List.getElem_toArray, List.getElem_cons_succ, List.getElem_cons_zero, List.setIfInBounds_toArray, List.set_cons_zero, List.set_cons_succ]
    refine wpAnyH_take (i := 4) (v := ?_) rfl (by kernel_rfl) (by kernel_rfl) (by kernel_rfl) (fun _ _ _ h => h) (Or.inl ⟨by rfl, ?_⟩) (by assumption) ?_
    rotate_left
    · intro w hSw; (try dsimp only at hSw); go_simp; try with_reducible rfl
    try simp only [Act.put, List.getElem_toArray, List.getElem_cons_succ, List.getElem_cons_zero, List.setIfInBounds_toArray, List.set_cons_zero, List.set_cons_succ]
    refine wpAnyH_take (i := 5) (v := ?_) rfl (by kernel_rfl) (by kernel_rfl) (by kernel_rfl) (fun _ _ _ h => h) (Or.inl ⟨by rfl, ?_⟩) (by assumption) ?_
    rotate_left
    · intro w hSw; (try dsimp only at hSw); go_simp; try with_reducible rfl
    try simp only [Act.put, List.getElem_toArray, List.getElem_cons_succ, List.getElem_cons_zero, List.setIfInBounds_toArray, List.set_cons_zero, List.set_cons_succ]
    refine wpAnyH_take (i := 6) (v := ?_) rfl (by kernel_rfl) (by kernel_rfl) (by kernel_rfl) (fun _ _ _ h => h) (Or.inl ⟨by rfl, ?_⟩) (by assumption) ?_
    rotate_left
    · intro w hSw; (try dsimp only at hSw); go_simp; try with_reducible rfl
    try simp only [Act.put, List.getElem_toArray, List.getElem_cons_succ, List.getElem_cons_zero, List.setIfInBounds_toArray, List.set_cons_zero, List.set_cons_succ]
    refine wpAnyH_take (i := 7) (v := ?_) rfl (by kernel_rfl) (by kernel_rfl) (by kernel_rfl) (fun _ _ _ h => h) (Or.inl ⟨by rfl, ?_⟩) (by assumption) ?_
    rotate_left
    · intro w hSw; (try dsimp only at hSw); go_simp; try with_reducible rfl
    try simp only [Act.put, List.getElem_toArray, List.getElem_cons_succ, List.getElem_cons_zero, List.setIfInBounds_toArray, List.set_cons_zero, List.set_cons_succ]
    refine wpAnyH_take (i := 8) (v := ?_) rfl (by kernel_rfl) (by kernel_rfl) (by kernel_rfl) (fun _ _ _ h => h) (Or.inl ⟨by rfl, ?_⟩) (by assumption) ?_
    rotate_left
    · intro w hSw; (try dsimp only at hSw); go_simp; try with_reducible rfl
    try simp only [Act.put, List.getElem_toArray, List.getElem_cons_succ, List.getElem_cons_zero, List.setIfInBounds_toArray, List.set_cons_zero, List.set_cons_succ]
    refine wpAnyH_take (i := 9) (v := ?_) rfl (by kernel_rfl) (by kernel_rfl) (by kernel_rfl) (fun _ _ _ h => h) (Or.inl ⟨by rfl, ?_⟩) (by assumption) ?_
    rotate_left
    · intro w hSw; (try dsimp only at hSw); go_simp; try with_reducible rfl
    try simp only [Act.put, List.getElem_toArray, List.getElem_cons_succ, List.getElem_cons_zero, List.setIfInBounds_toArray, List.set_cons_zero, List.set_cons_succ]
    refine wpAnyH_take (i := 10) (v := ?_) rfl (by kernel_rfl) (by kernel_rfl) (by kernel_rfl) (fun _ _ _ h => h) (Or.inl ⟨by rfl, ?_⟩) (by assumption) ?_
    rotate_left
    · intro w hSw; (try dsimp only at hSw); go_simp; try with_reducible rfl
    try simp only [Act.put, List.getElem_toArray, List.getElem_cons_succ, List.getElem_cons_zero, List.setIfInBounds_toArray, List.set_cons_zero, List.set_cons_succ]
    refine wpAnyH_ready (rs := [11]) (by kernel_rfl) (by simp) ?_
    refine AllReadyH.cons rfl (fun K hK => ?_) AllReadyH.nil
    go_simp
    refine HGV.out.mono ?_; rintro e w5 (⟨hb, rfl, hn5, t5⟩ | ⟨hb, rfl, rfl⟩)
    · have H5 := Lib.hid (And.intro hb (And.intro hn5 t5))
      have hKr : K0 ≠ r := fun e => by have h1 := HH.out.now.row.lt; have h2 := HK0.out; omega
      have hXr : X ≠ r := fun e => by have h1 := HH.out.far.2.1; have h2 := HH.out.rows.le.2.1; rw [HX.out] at h2; omega
      have hH5 : w5.cell? ⟨X, 19, none⟩ = some (.func (.func 86) #[] #[.pointer (some ⟨N, 0, none⟩)]) ∧ w5.cell? ⟨X, 9, none⟩ = some (.pointer (some ⟨b0, 0, none⟩)) ∧ w5.cell? ⟨K0, 1, none⟩ = some (.int .i64 d) := ⟨(t5.cell (p := ⟨X, 19, none⟩) lX hXr).trans hHeld.1, (t5.cell (p := ⟨X, 9, none⟩) lX hXr).trans hHeld.2.1, (t5.cell (p := ⟨K0, 1, none⟩) lK hKr).trans hHeld.2.2⟩
      clear hb hn5 t5 hHeld
      refine hK.out _ _ hH5 (fun hHeld => ?_)
      clear hK K
      refine wpAnyH_done (by kernel_rfl) ?_ _
      clear hHeld hH5 x19 x9 k1 lX lK
      go_wp2_with fail
      go_end0
      refine .inl ⟨?_, rfl, ⟨r, _, H5.out.2.1, ?_, .inl rfl⟩, (S1.out.1.turn.trans SD.out.turn).trans (H5.out.2.2.mono fun _ _ e => .inr e)⟩
      · rw [HNE.out]
        exact ⟨H63.out, (hasK_iff HH.out.kn d).1 H5.out.1⟩
      · rw [HNX.out]
        have hk5 := H2.out.kn.keep H5.out.2.2 (fun b im R hb e => H2.out.now.words b im R hb (.inr e))
        have hr := H2.out.rows
        have hz : TyK wD b0 numT := ⟨hr.wt 0 b0 numT (by rw [← HB0.out]; exact hr.z1) hr.zero, fun s hs => by simp [numT] at hs⟩
        exact hk5.set (hz.keep H5.out.2.2 (fun e => H2.out.now.words _ _ _ hz.1 (.inr e)))
    · refine ⟨rfl, .inr ⟨fun e => ?_, rfl, (S1.out.1.trans SD.out).turn⟩⟩
      rw [HNE.out] at e
      rw [(hasK_iff HH.out.kn d).2 e.2] at hb
      cases hb
end Go.Proofs.YtglalgjffkoneaaGreatDoor
/- What an instruction needs, and does: an answer's. -/
namespace Go.Proofs.YtglalgjffkoneaaGreatDoor
set_option linter.unusedVariables false
set_option linter.unusedSimpArgs false
open Go.ChangeShapes Go.WideShapes Go.ChangeAt Go.RowKit
open Vf (K nth nth_nat tyAt atK isK numT oneT le beginK tsub)
set_option maxRecDepth 100000 in
set_option maxHeartbeats 8000000 in
theorem leave_ret (c : WkC) (x : M.Ins) (hop : x.op = 22) (w : World) (f : M.Fn) (g : FV) (fi bi ii : Int) (N r T Y : Nat) (l : List (Option Nat)) (k : K) (la : Option Addr) (ln lc : Nat) (ma : Option Addr) (mn mc : Nat) (va : Option Addr) (vn vc : Nat) (h : WkAt c w f g fi bi ii N r T Y l k) :
    Calls Tryz.prog 95 #[.pointer (some ⟨c.X, 0, none⟩), .agg #[.int .i64 22, .int .i64 x.d, .int .i64 x.a, .int .i64 x.b, .int .i64 x.c, .int .i64 x.n, .slice la ln lc, .slice ma mn mc, .slice va vn vc]] w (StepR c f N r k x w) := by
  have HH := Lib.hid h
  have HNE : Hid (Vf.Needs c.m f k x = isK k x.a (tyAt c.m f.result)) := by show _ = _; unfold Vf.Needs; rw [hop]; rfl
  have HNX : Hid (Vf.next c.m k x = k) := by show _ = _; unfold Vf.next; rw [hop]; rfl
  have S1 : Hid (Still w (w.alloc (.cells #[.int .i64 22, .int .i64 x.d, .int .i64 x.a, .int .i64 x.b, .int .i64 x.c, .int .i64 x.n, .slice la ln lc, .slice ma mn mc, .slice va vn vc] 36)) ∧ Blk (w.alloc (.cells #[.int .i64 22, .int .i64 x.d, .int .i64 x.a, .int .i64 x.b, .int .i64 x.c, .int .i64 x.n, .slice la ln lc, .slice ma mn mc, .slice va vn vc] 36)) w.heap.size 36 #[.int .i64 22, .int .i64 x.d, .int .i64 x.a, .int .i64 x.b, .int .i64 x.c, .int .i64 x.n, .slice la ln lc, .slice ma mn mc, .slice va vn vc]) := ⟨(Still.refl w).alloc _, Blk.new w _ _⟩
  obtain ⟨X, hX⟩ : ∃ X, c.X = X := ⟨_, rfl⟩
  have HX := Lib.hid hX
  rw [hX]
  generalize x.a = a at *
  obtain ⟨kf, hkf, hkl⟩ : ∃ kf : Nat, f.result = kf ∧ kf < c.m.types.length := by
    have h1 := h.ok
    unfold fnB at h1
    simp only [Bool.and_eq_true] at h1
    obtain ⟨e1, e2⟩ := (hasB_iff _ _).1 h1.1.2
    obtain ⟨kf, hkf⟩ := Int.eq_ofNat_of_zero_le e1
    exact ⟨kf, hkf, by omega⟩
  obtain ⟨tb, htb⟩ : ∃ tb, c.bs[kf]? = some tb := ⟨_, List.getElem?_eq_getElem (by rw [h.rows.lb]; exact hkl)⟩
  obtain ⟨tt, htt⟩ : ∃ tt, c.m.types[kf]? = some tt := ⟨_, List.getElem?_eq_getElem hkl⟩
  have HTB : Hid (c.bs[kf]? = some tb ∧ c.m.types[kf]? = some tt ∧ tyAt c.m f.result = tt) := ⟨htb, htt, by unfold tyAt; rw [hkf, nth_nat, htt]; rfl⟩
  obtain ⟨r1, hr1⟩ : ∃ r1, c.r1 = r1 := ⟨_, rfl⟩
  have HR1 := Lib.hid hr1
  obtain ⟨tn, htn⟩ : ∃ tn, c.v.tn = tn := ⟨_, rfl⟩
  have HTN := Lib.hid htn
  have hktn : kf < tn := by have := h.rows.img.types.len; omega
  have HKF := Lib.hid hkf
  clear h hop hX hkf htb htt hr1 htn hkl
  go_enter Tryz.func95, Tryz.ntmps95
  go_wp2_with fail
  generalize w.alloc (.cells #[.int .i64 22, .int .i64 x.d, .int .i64 a, .int .i64 x.b, .int .i64 x.c, .int .i64 x.n, .slice la ln lc, .slice ma mn mc, .slice va vn vc] 36) = w1 at S1 ⊢
  obtain ⟨K0, hK0⟩ : ∃ K0, w.heap.size = K0 := ⟨_, rfl⟩
  rw [hK0] at S1
  rw [hK0]
  have HK0 := Lib.hid hK0
  clear hK0
  have H1 := Lib.hid (HH.out.still S1.out.1)
  have x7 : w1.cell? ⟨X, 7, none⟩ = some (.slice (some ⟨r1, 0, none⟩) tn c.rc) := by rw [← HX.out, ← HR1.out, ← HTN.out]; exact H1.out.box.cell 7
  have x12 : w1.cell? ⟨X, 12, none⟩ = some (.int .i64 kf) := by rw [← HX.out, ← HKF.out, ← HH.out.fn.1]; exact H1.out.box.cell 12
  have xr : w1.cell? ⟨r1, kf, none⟩ = some (.pointer (some ⟨tb, 0, none⟩)) := by rw [← HR1.out]; exact H1.out.rows.rt kf tb HTB.out.1
  have y7 : w1.drew.cell? ⟨X, 7, none⟩ = some (.slice (some ⟨r1, 0, none⟩) tn c.rc) := x7
  have y12 : w1.drew.cell? ⟨X, 12, none⟩ = some (.int .i64 kf) := x12
  have yr : w1.drew.cell? ⟨r1, kf, none⟩ = some (.pointer (some ⟨tb, 0, none⟩)) := xr
  have lX : X < w1.heap.size := by rw [← HX.out]; exact H1.out.box.lt
  have lr : r1 < w1.heap.size := World.block_lt_of_cell? _ _ xr
  have hki : (kf : Int) < tn := by omega
  go_region
  have c0 : w1.drew.cell? ⟨K0, 0, none⟩ = some (.int .i64 22) := S1.out.2.cell 0
  have c0' : w1.cell? ⟨K0, 0, none⟩ = some (.int .i64 22) := S1.out.2.cell 0
  clear x7 x12 xr y7 y12 yr
  have SD1 : Hid (Still w1 w1.drew) := (Still.refl w1).drew
  go_wp2_with fail
  generalize w1.drew = w2 at SD1 c0 ⊢
  clear c0 c0'
  obtain ⟨wD, hwD⟩ : ∃ wD, w2.drew = wD := ⟨_, rfl⟩
  have SD : Hid (Still w1 wD) := by rw [← hwD]; exact SD1.out.drew
  have H2 := Lib.hid (H1.out.still SD.out)
  have x18 : wD.cell? ⟨X, 18, none⟩ = some (.func (.func 84) #[] #[.pointer (some ⟨N, 0, none⟩)]) := by rw [← HX.out]; exact H2.out.box.cell 18
  have k2 : wD.cell? ⟨K0, 2, none⟩ = some (.int .i64 a) := (SD.out.blk S1.out.2).cell 2
  have lK : K0 < wD.heap.size := (SD.out.blk S1.out.2).lt
  have lXD : X < wD.heap.size := by rw [← HX.out]; exact H2.out.box.lt
  have henter : ∀ (args : Array Value) (W : World), (callFunc 84 args).run Tryz.prog W = .ok (.enter 84 args) W := enters_of Tryz.func84 (by kernel_rfl) rfl
  have HTY := Lib.hid (typed_any H2.out.now a)
  clear lX lr
  refine wp_region_held_drew (S := fun W => W.cell? ⟨X, 18, none⟩ = some (.func (.func 84) #[] #[.pointer (some ⟨N, 0, none⟩)]) ∧ W.cell? ⟨K0, 2, none⟩ = some (.int .i64 a)) (by kernel_rfl) (by rw [hwD]; exact ⟨x18, k2⟩) (fun hHeld => ?_)
  try simp only [Act.put, List.getElem_toArray, List.getElem_cons_succ, List.getElem_cons_zero, List.setIfInBounds_toArray, List.set_cons_zero, List.set_cons_succ]
  rw [hwD] at hHeld ⊢
  clear hwD
  refine wpAnyH_take (i := 0) (v := ?_) rfl (by kernel_rfl) (by kernel_rfl) (by kernel_rfl) (fun _ _ _ h => h) (Or.inl ⟨by rfl, ?_⟩) (by assumption) ?_
  rotate_left
  · intro w hSw; (try dsimp only at hSw); go_simp; try with_reducible rfl
  try simp only [Act.put, List.getElem_toArray, List.getElem_cons_succ, List.getElem_cons_zero, List.setIfInBounds_toArray, List.set_cons_zero, List.set_cons_succ]
  refine wpAnyH_take (i := 1) (v := ?_) rfl (by kernel_rfl) (by kernel_rfl) (by kernel_rfl) (fun _ _ _ h => h) (Or.inl ⟨by rfl, ?_⟩) (by assumption) ?_
  rotate_left
  · intro w hSw; (try dsimp only at hSw); go_simp; try with_reducible rfl
  try simp only [Act.put, List.getElem_toArray, List.getElem_cons_succ, List.getElem_cons_zero, List.setIfInBounds_toArray, List.set_cons_zero, List.set_cons_succ]
  refine wpAnyH_take (i := 2) (v := ?_) rfl (by kernel_rfl) (by kernel_rfl) (by kernel_rfl) (fun _ _ _ h => h) (Or.inl ⟨by rfl, ?_⟩) (by assumption) ?_
  rotate_left
  · intro w hSw; (try dsimp only at hSw); go_simp; try with_reducible rfl
  try simp only [Act.put, List.getElem_toArray, List.getElem_cons_succ, List.getElem_cons_zero, List.setIfInBounds_toArray, List.set_cons_zero, List.set_cons_succ]
  refine wpAnyH_take (i := 3) (v := ?_) rfl (by kernel_rfl) (by kernel_rfl) (by kernel_rfl) (fun _ _ _ h => h) (Or.inl ⟨by rfl, ?_⟩) (by assumption) ?_
  rotate_left
  · intro w hSw; (try dsimp only at hSw); go_simp; try with_reducible rfl
  try simp only [Act.put, List.getElem_toArray, List.getElem_cons_succ, List.getElem_cons_zero, List.setIfInBounds_toArray, List.set_cons_zero, List.set_cons_succ]
  refine wpAnyH_take (i := 4) (v := ?_) rfl (by kernel_rfl) (by kernel_rfl) (by kernel_rfl) (fun _ _ _ h => h) (Or.inl ⟨by rfl, ?_⟩) (by assumption) ?_
  rotate_left
  · intro w hSw; (try dsimp only at hSw); go_simp; try with_reducible rfl
  try simp only [Act.put, List.getElem_toArray, List.getElem_cons_succ, List.getElem_cons_zero, List.setIfInBounds_toArray, List.set_cons_zero, List.set_cons_succ]
  refine wpAnyH_take (i := 5) (v := ?_) rfl (by kernel_rfl) (by kernel_rfl) (by kernel_rfl) (fun _ _ _ h => h) (Or.inl ⟨by rfl, ?_⟩) (by assumption) ?_
  rotate_left
  · intro w hSw; (try dsimp only at hSw); go_simp; try with_reducible rfl
  try simp only [Act.put, List.getElem_toArray, List.getElem_cons_succ, List.getElem_cons_zero, List.setIfInBounds_toArray, List.set_cons_zero, List.set_cons_succ]
  refine wpAnyH_take (i := 6) (v := ?_) rfl (by kernel_rfl) (by kernel_rfl) (by kernel_rfl) (fun _ _ _ h => h) (Or.inl ⟨by rfl, ?_⟩) (by assumption) ?_
  rotate_left
  · intro w hSw; (try dsimp only at hSw); go_simp; try with_reducible rfl
  try simp only [Act.put, List.getElem_toArray, List.getElem_cons_succ, List.getElem_cons_zero, List.setIfInBounds_toArray, List.set_cons_zero, List.set_cons_succ]
  refine wpAnyH_take (i := 8) (v := ?_) rfl (by kernel_rfl) (by kernel_rfl) (by kernel_rfl) (fun _ _ _ h => h) (Or.inl ⟨by rfl, ?_⟩) (by assumption) ?_
  rotate_left
  · intro w hSw; (try dsimp only at hSw); go_simp; try with_reducible rfl
  try simp only [Act.put, List.getElem_toArray, List.getElem_cons_succ, List.getElem_cons_zero, List.setIfInBounds_toArray, List.set_cons_zero, List.set_cons_succ]
  refine wpAnyH_ready (rs := [7]) (by kernel_rfl) (by simp) ?_
  refine AllReadyH.cons rfl (fun K hK => ?_) AllReadyH.nil
  go_simp
  refine HTY.out.mono ?_; rintro e w5 ⟨⟨b, hb5, rfl⟩ | ⟨h5, rfl⟩, rfl⟩
  rotate_left
  · refine ⟨rfl, .inr ⟨fun e => ?_, rfl, (S1.out.1.trans SD.out).turn⟩⟩
    rw [HNE.out] at e
    obtain ⟨y, e1, _⟩ := e
    rcases HH.out.kn.slot a with ⟨_, e2⟩ | ⟨b, t, e2, _, _⟩
    · rw [e1] at e2; cases e2
    · rw [h5] at e2; cases e2
  obtain ⟨ty, hty, htk⟩ : ∃ ty, atK k a = some ty ∧ TyK w5 b ty := by
    rcases H2.out.kn.slot a with ⟨e1, _⟩ | ⟨b', t, e1, e2, e3⟩
    · rw [hb5] at e1; cases e1
    · rw [hb5] at e1
      obtain rfl := Option.some.inj e1
      exact ⟨t, e2, e3⟩
  have HTYK := Lib.hid (And.intro hty htk)
  have HW := Lib.hid (within_any htk.1 (H2.out.rows.wt kf tb tt HTB.out.1 HTB.out.2.1))
  have HLE : Hid (WSub ty.imm (ofL ty.shapes) tt.imm (ofL tt.shapes) ↔ le ty tt = true) := wsub_iff htk.2 (H2.out.rows.ok tt (List.mem_of_getElem? HTB.out.2.1))
  clear hb5 hty htk
  refine hK.out _ _ hHeld (fun hHeld => ?_)
  clear hK K
  refine wpAnyH_ready (rs := [9]) (by kernel_rfl) (by simp) ?_
  refine AllReadyH.cons rfl (fun K hK => ?_) AllReadyH.nil
  go_simp
  refine HW.out.mono ?_; rintro e w6 ⟨rb, rfl, hrb, t6⟩
  have HRB := Lib.hid hrb
  have T6 := Lib.hid t6
  have hH6 : w6.cell? ⟨X, 18, none⟩ = some (.func (.func 84) #[] #[.pointer (some ⟨N, 0, none⟩)]) ∧ w6.cell? ⟨K0, 2, none⟩ = some (.int .i64 a) := ⟨(t6.cell (p := ⟨X, 18, none⟩) lXD).trans hHeld.1, (t6.cell (p := ⟨K0, 2, none⟩) lK).trans hHeld.2⟩
  clear hrb t6 hHeld
  refine hK.out _ _ hH6 (fun hHeld => ?_)
  clear hK K
  refine wpAnyH_ready (rs := [10]) (by kernel_rfl) (by simp) ?_
  refine AllReadyH.cons rfl (fun K hK => ?_) AllReadyH.nil
  go_simp
  have TT : Hid (Still w w6) := (S1.out.1.trans SD.out).trans T6.out
  cases rb with
  | false =>
    refine (need_no _).mono ?_; rintro e w7 ⟨rfl, rfl⟩
    refine ⟨rfl, .inr ⟨fun e => ?_, rfl, TT.out.turn⟩⟩
    rw [HNE.out, HTB.out.2.2] at e
    obtain ⟨y, e1, e2⟩ := e
    rw [HTYK.out.1] at e1
    obtain rfl := Option.some.inj e1
    exact absurd (HRB.out.2 (HLE.out.2 e2)) (by decide)
  | true =>
    refine (need_yes _).mono ?_; rintro e w7 ⟨rfl, rfl⟩
    refine hK.out _ _ hHeld (fun hHeld => ?_)
    clear hK K
    refine wpAnyH_done (by kernel_rfl) ?_ _
    clear hHeld hH6
    go_wp2_with fail
    go_end0
    have H7 := HH.out.still TT.out
    refine .inl ⟨?_, rfl, ⟨r, l, H7.now, by rw [HNX.out]; exact H7.kn, .inl rfl⟩, TT.out.turn⟩
    rw [HNE.out, HTB.out.2.2]
    exact ⟨ty, HTYK.out.1, HLE.out.1 (HRB.out.1 (by first | rfl | trivial))⟩
set_option maxRecDepth 100000 in
set_option maxHeartbeats 8000000 in
theorem step_ret (c : WkC) (x : M.Ins) (hop : x.op = 22) : StepOk c x := by
  intro w f g fi bi ii N r T Y l k la ln lc ma mn mc va vn vc h hx
  have S1 : Hid (Still w (w.alloc (.cells #[.int .i64 22, .int .i64 x.d, .int .i64 x.a, .int .i64 x.b, .int .i64 x.c, .int .i64 x.n, .slice la ln lc, .slice ma mn mc, .slice va vn vc] 36)) ∧ Blk (w.alloc (.cells #[.int .i64 22, .int .i64 x.d, .int .i64 x.a, .int .i64 x.b, .int .i64 x.c, .int .i64 x.n, .slice la ln lc, .slice ma mn mc, .slice va vn vc] 36)) w.heap.size 36 #[.int .i64 22, .int .i64 x.d, .int .i64 x.a, .int .i64 x.b, .int .i64 x.c, .int .i64 x.n, .slice la ln lc, .slice ma mn mc, .slice va vn vc]) := ⟨(Still.refl w).alloc _, Blk.new w _ _⟩
  have HL := Lib.hid (leave_ret c x hop _ f g fi bi ii N r T Y l k la ln lc ma mn mc va vn vc (h.still S1.out.1))
  rw [hop]
  have c0 := S1.out.2.cell 0
  have c1 := S1.out.2.cell 1
  have c2 := S1.out.2.cell 2
  have c3 := S1.out.2.cell 3
  have c4 := S1.out.2.cell 4
  have c5 := S1.out.2.cell 5
  have c6 := S1.out.2.cell 6
  have c7 := S1.out.2.cell 7
  have c8 := S1.out.2.cell 8
  have HSR : Hid (∀ e W, StepR c f N r k x (w.alloc (.cells #[.int .i64 22, .int .i64 x.d, .int .i64 x.a, .int .i64 x.b, .int .i64 x.c, .int .i64 x.n, .slice la ln lc, .slice ma mn mc, .slice va vn vc] 36)) e W → StepR c f N r k x w e W) := fun e W hs => by
    rcases hs with ⟨h1, h2, ⟨r', l', h3, h4, h5⟩, h6⟩ | ⟨h1, h2, h3⟩
    · exact .inl ⟨h1, h2, ⟨r', l', h3, h4, h5.elim .inl fun e => .inr (Nat.le_trans S1.out.1.size e)⟩, S1.out.1.turn.trans h6⟩
    · exact .inr ⟨h1, h2, S1.out.1.turn.trans h3⟩
  clear h hx hop
  go_enter Tryz.func59, Tryz.ntmps59
  go_wp2_with fail
  clear c0 c1 c2 c3 c4 c5 c6 c7 c8
  refine HL.out.mono ?_; rintro e w5 hs
  have hs2 := HSR.out _ _ hs
  clear hs
  rcases hs2 with ⟨h1, rfl, h3, h4⟩ | ⟨h1, rfl, h3⟩
  · have HS := Lib.hid (And.intro h1 (And.intro h3 h4))
    clear h1 h3 h4
    go_wp2_with fail
    go_end0
    exact .inl ⟨HS.out.1, rfl, HS.out.2.1, HS.out.2.2⟩
  · exact ⟨rfl, .inr ⟨h1, rfl, h3⟩⟩
end Go.Proofs.YtglalgjffkoneaaGreatDoor
/- numbers: slots that are numbers. -/
namespace Go.Proofs.YtglalgjffkoneaaGreatDoor
set_option linter.unusedVariables false
set_option linter.unusedSimpArgs false
open Go.ChangeShapes Go.WideShapes Go.ChangeAt Go.RowKit
open Vf (K nth nth_nat tyAt atK isK numT oneT le beginK tsub)
/-- The words of numbers. -/
theorem num_tyk {c : WkC} {w : World} (h : RowsAt c w) : TyK w c.b0 numT := ⟨h.wt 0 c.b0 numT h.z1 h.zero, fun s hs => by simp [numT] at hs⟩
set_option maxRecDepth 100000 in
set_option maxHeartbeats 8000000 in
theorem numbers_any (c : WkC) {w : World} {f : M.Fn} {g : FV} {fi bi ii : Int} {N r T Y : Nat} {l : List (Option Nat)} {k : K} (h : WkAt c w f g fi bi ii N r T Y l k) {B : Nat} {a : Option Addr} {n cc : Nat} {slots : List Int} (hs : Ints B w a n slots) (hB : B ≤ w.heap.size) (hn : n ≤ maxLen) :
    Calls Tryz.prog 92 #[.pointer (some ⟨c.X, 0, none⟩), .slice a n cc] w (AskR (∀ s ∈ slots, isK k s numT) w) := by
  have HH := Lib.hid h
  have HS := Lib.hid (And.intro hs hB)
  have HLEN : Hid (slots.length = n) := hs.len
  have hn63 : n ≤ 9223372036854775807 := by unfold maxLen at hn; omega
  obtain ⟨X, hX⟩ : ∃ X, c.X = X := ⟨_, rfl⟩
  have HX := Lib.hid hX
  obtain ⟨b0, hb0⟩ : ∃ b0, c.b0 = b0 := ⟨_, rfl⟩
  have HB0 := Lib.hid hb0
  rw [hX]
  clear h hs hB hn hX hb0
  go_enter Tryz.func92, Tryz.ntmps92
  go_wp2_with fail
  go_loopw [5, 8] (fun _ z wr => ∃ i : Nat, z = .int .i64 i ∧ i ≤ n ∧ (∀ s ∈ slots.take i, isK k s numT) ∧ Still w wr) (fun _ z _ => n - (intOf z).toNat)
  case atStart => exact ⟨0, rfl, Nat.zero_le _, by simp, Still.refl _⟩
  case round =>
    obtain ⟨i, rfl, hi, hall, ht⟩ := hrel
    have HT := Lib.hid (And.intro hall ht)
    by_cases hlt : i < n
    · obtain ⟨b1, off1, rfl, hb1, hc1⟩ := ints_cell HS.out.1 (by omega)
      obtain ⟨s, hsv⟩ : ∃ s, slots.getD i 0 = s := ⟨_, rfl⟩
      have hil : i < slots.length := by have := HLEN.out; omega
      have HSI : Hid (slots[i]? = some s ∧ s ∈ slots) := by
        have e : slots[i]? = some s := by rw [← hsv]; simp [List.getD, List.getElem?_eq_getElem hil]
        exact ⟨e, List.mem_of_getElem? e⟩
      have d1 : wr.cell? ⟨b1, off1 + i, none⟩ = some (.int .i64 s) := (ht.cell (p := ⟨b1, off1 + i, none⟩) (Nat.lt_of_lt_of_le hb1 HS.out.2)).trans (by rw [← hsv]; exact hc1 i hlt)
      have l1 := World.block_lt_of_cell? _ _ d1
      have hii : (i : Int) < n := by omega
      have HLT := Lib.hid hlt
      obtain ⟨wD, hwD⟩ : ∃ wD, wr.drew = wD := ⟨_, rfl⟩
      have SD : Hid (Still w wD) := by rw [← hwD]; exact ht.drew
      have H2 := Lib.hid (HH.out.still SD.out)
      have x18 : wD.cell? ⟨X, 18, none⟩ = some (.func (.func 84) #[] #[.pointer (some ⟨N, 0, none⟩)]) := by rw [← HX.out]; exact H2.out.box.cell 18
      have x9 : wD.cell? ⟨X, 9, none⟩ = some (.pointer (some ⟨b0, 0, none⟩)) := by rw [← HX.out, ← HB0.out]; exact H2.out.box.cell 9
      have lX : X < wD.heap.size := by rw [← HX.out]; exact H2.out.box.lt
      have henter : ∀ (args : Array Value) (W : World), (callFunc 84 args).run Tryz.prog W = .ok (.enter 84 args) W := enters_of Tryz.func84 (by kernel_rfl) rfl
      have HTY := Lib.hid (typed_any H2.out.now s)
      clear hc1 hsv hil ht hall
      go_wp2_with fail
      refine wp_region_held_drew (S := fun W => W.cell? ⟨X, 18, none⟩ = some (.func (.func 84) #[] #[.pointer (some ⟨N, 0, none⟩)]) ∧ W.cell? ⟨X, 9, none⟩ = some (.pointer (some ⟨b0, 0, none⟩))) (by kernel_rfl) (by rw [hwD]; exact ⟨x18, x9⟩) (fun hHeld => ?_)
      try simp only [Act.put, List.getElem_toArray, List.getElem_cons_succ, List.getElem_cons_zero, List.setIfInBounds_toArray, List.set_cons_zero, List.set_cons_succ]
      rw [hwD] at hHeld ⊢
      clear hwD
      refine wpAnyH_take (i := 0) (v := ?_) rfl (by kernel_rfl) (by kernel_rfl) (by kernel_rfl) (fun _ _ _ h => h) (Or.inl ⟨by rfl, ?_⟩) (by assumption) ?_
      rotate_left
      · intro w hSw; (try dsimp only at hSw); go_simp; try with_reducible rfl
      try simp only [Act.put, List.getElem_toArray, List.getElem_cons_succ, List.getElem_cons_zero, List.setIfInBounds_toArray, List.set_cons_zero, List.set_cons_succ]
      refine wpAnyH_take (i := 1) (v := ?_) rfl (by kernel_rfl) (by kernel_rfl) (by kernel_rfl) (fun _ _ _ h => h) (Or.inl ⟨by rfl, ?_⟩) (by assumption) ?_
      rotate_left
      · intro w hSw; (try dsimp only at hSw); go_simp; try with_reducible rfl
      try simp only [Act.put, List.getElem_toArray, List.getElem_cons_succ, List.getElem_cons_zero, List.setIfInBounds_toArray, List.set_cons_zero, List.set_cons_succ]
      refine wpAnyH_take (i := 2) (v := ?_) rfl (by kernel_rfl) (by kernel_rfl) (by kernel_rfl) (fun _ _ _ h => h) (Or.inl ⟨by rfl, ?_⟩) (by assumption) ?_
      rotate_left
      · intro w hSw; (try dsimp only at hSw); go_simp; try with_reducible rfl
      try simp only [Act.put, List.getElem_toArray, List.getElem_cons_succ, List.getElem_cons_zero, List.setIfInBounds_toArray, List.set_cons_zero, List.set_cons_succ]
      refine wpAnyH_take (i := 3) (v := ?_) rfl (by kernel_rfl) (by kernel_rfl) (by kernel_rfl) (fun _ _ _ h => h) (Or.inl ⟨by rfl, ?_⟩) (by assumption) ?_
      rotate_left
      · intro w hSw; (try dsimp only at hSw); go_simp; try with_reducible rfl
      try simp only [Act.put, List.getElem_toArray, List.getElem_cons_succ, List.getElem_cons_zero, List.setIfInBounds_toArray, List.set_cons_zero, List.set_cons_succ]
      refine wpAnyH_take (i := 4) (v := ?_) rfl (by kernel_rfl) (by kernel_rfl) (by kernel_rfl) (fun _ _ _ h => h) (Or.inl ⟨by rfl, ?_⟩) (by assumption) ?_
      rotate_left
      · intro w hSw; (try dsimp only at hSw); go_simp; try with_reducible rfl
      try simp only [Act.put, List.getElem_toArray, List.getElem_cons_succ, List.getElem_cons_zero, List.setIfInBounds_toArray, List.set_cons_zero, List.set_cons_succ]
      refine wpAnyH_take (i := 5) (v := ?_) rfl (by kernel_rfl) (by kernel_rfl) (by kernel_rfl) (fun _ _ _ h => h) (Or.inl ⟨by rfl, ?_⟩) (by assumption) ?_
      rotate_left
      · intro w hSw; (try dsimp only at hSw); go_simp; try with_reducible rfl
      try simp only [Act.put, List.getElem_toArray, List.getElem_cons_succ, List.getElem_cons_zero, List.setIfInBounds_toArray, List.set_cons_zero, List.set_cons_succ]
      refine wpAnyH_take (i := 7) (v := ?_) rfl (by kernel_rfl) (by kernel_rfl) (by kernel_rfl) (fun _ _ _ h => h) (Or.inl ⟨by rfl, ?_⟩) (by assumption) ?_
      rotate_left
      · intro w hSw; (try dsimp only at hSw); go_simp; try with_reducible rfl
      try simp only [Act.put, List.getElem_toArray, List.getElem_cons_succ, List.getElem_cons_zero, List.setIfInBounds_toArray, List.set_cons_zero, List.set_cons_succ]
      refine wpAnyH_take (i := 8) (v := ?_) rfl (by kernel_rfl) (by kernel_rfl) (by kernel_rfl) (fun _ _ _ h => h) (Or.inl ⟨by rfl, ?_⟩) (by assumption) ?_
      rotate_left
      · intro w hSw; (try dsimp only at hSw); go_simp; try with_reducible rfl
      try simp only [Act.put, List.getElem_toArray, List.getElem_cons_succ, List.getElem_cons_zero, List.setIfInBounds_toArray, List.set_cons_zero, List.set_cons_succ]
      refine wpAnyH_take (i := 9) (v := ?_) rfl (by kernel_rfl) (by kernel_rfl) (by kernel_rfl) (fun _ _ _ h => h) (Or.inl ⟨by rfl, ?_⟩) (by assumption) ?_
      rotate_left
      · intro w hSw; (try dsimp only at hSw); go_simp; try with_reducible rfl
      try simp only [Act.put, List.getElem_toArray, List.getElem_cons_succ, List.getElem_cons_zero, List.setIfInBounds_toArray, List.set_cons_zero, List.set_cons_succ]
      refine wpAnyH_take (i := 10) (v := ?_) rfl (by kernel_rfl) (by kernel_rfl) (by kernel_rfl) (fun _ _ _ h => h) (Or.inl ⟨by rfl, ?_⟩) (by assumption) ?_
      rotate_left
      · intro w hSw; (try dsimp only at hSw); go_simp; try with_reducible rfl
      try simp only [Act.put, List.getElem_toArray, List.getElem_cons_succ, List.getElem_cons_zero, List.setIfInBounds_toArray, List.set_cons_zero, List.set_cons_succ]
      refine wpAnyH_ready (rs := [6]) (by kernel_rfl) (by simp) ?_
      refine AllReadyH.cons rfl (fun K hK => ?_) AllReadyH.nil
      go_simp
      refine HTY.out.mono ?_; rintro e w5 ⟨⟨b, hb5, rfl⟩ | ⟨h5, rfl⟩, rfl⟩
      rotate_left
      · refine ⟨rfl, SD.out, .inr ⟨fun e => ?_, rfl⟩⟩
        obtain ⟨y, e1, _⟩ := e s HSI.out.2
        rcases HH.out.kn.slot s with ⟨_, e2⟩ | ⟨b, t, e2, _, _⟩
        · rw [e1] at e2; cases e2
        · rw [h5] at e2; cases e2
      obtain ⟨ty, hty, htk⟩ : ∃ ty, atK k s = some ty ∧ TyK w5 b ty := by
        rcases H2.out.kn.slot s with ⟨e1, _⟩ | ⟨b', t, e1, e2, e3⟩
        · rw [hb5] at e1; cases e1
        · rw [hb5] at e1
          obtain rfl := Option.some.inj e1
          exact ⟨t, e2, e3⟩
      have HTYK := Lib.hid (And.intro hty htk)
      have HNT := num_tyk H2.out.rows
      have HW := Lib.hid (within_any htk.1 HNT.1)
      rw [HB0.out] at HW
      have HLE : Hid (WSub ty.imm (ofL ty.shapes) numT.imm (ofL numT.shapes) ↔ le ty numT = true) := wsub_iff htk.2 HNT.2
      clear hb5 hty htk HNT
      refine hK.out _ _ hHeld (fun hHeld => ?_)
      clear hK K
      refine wpAnyH_ready (rs := [11]) (by kernel_rfl) (by simp) ?_
      refine AllReadyH.cons rfl (fun K hK => ?_) AllReadyH.nil
      go_simp
      refine HW.out.mono ?_; rintro e w6 ⟨rb, rfl, hrb, t6⟩
      have HRB := Lib.hid hrb
      have T6 : Hid (Still w w6) := SD.out.trans t6
      have hH6 : w6.cell? ⟨X, 18, none⟩ = some (.func (.func 84) #[] #[.pointer (some ⟨N, 0, none⟩)]) ∧ w6.cell? ⟨X, 9, none⟩ = some (.pointer (some ⟨b0, 0, none⟩)) := ⟨(t6.cell (p := ⟨X, 18, none⟩) lX).trans hHeld.1, (t6.cell (p := ⟨X, 9, none⟩) lX).trans hHeld.2⟩
      clear hrb t6 hHeld
      refine hK.out _ _ hH6 (fun hHeld => ?_)
      clear hK K
      refine wpAnyH_ready (rs := [12]) (by kernel_rfl) (by simp) ?_
      refine AllReadyH.cons rfl (fun K hK => ?_) AllReadyH.nil
      go_simp
      cases rb with
      | false =>
        refine (need_no _).mono ?_; rintro e w7 ⟨rfl, rfl⟩
        refine ⟨rfl, T6.out, .inr ⟨fun e => ?_, rfl⟩⟩
        obtain ⟨y, e1, e2⟩ := e s HSI.out.2
        rw [HTYK.out.1] at e1
        obtain rfl := Option.some.inj e1
        exact absurd (HRB.out.2 (HLE.out.2 e2)) (by decide)
      | true =>
        refine (need_yes _).mono ?_; rintro e w7 ⟨rfl, rfl⟩
        refine hK.out _ _ hHeld (fun hHeld => ?_)
        clear hK K
        refine wpAnyH_done (by kernel_rfl) ?_ _
        clear hHeld hH6 x18 x9 lX d1 l1
        go_wp2_with fail
        go_roundw
        case rel =>
          refine ⟨i + 1, by go_num, by have := HLT.out; omega, fun s' hs' => ?_, T6.out⟩
          rw [List.take_add_one, HSI.out.1, Option.toList_some] at hs'
          rcases List.mem_append.1 hs' with e | e
          · exact HT.out.1 s' e
          · rw [List.mem_singleton.1 e]; exact ⟨ty, HTYK.out.1, HLE.out.1 (HRB.out.1 (by first | rfl | trivial))⟩
        case measure => have := HLT.out; simp [intOf]; omega
    · obtain rfl : n = i := by omega
      have x6 : decide ((n : Int) < n) = false := decide_eq_false (by omega)
      have x6' : decide (n < n) = false := decide_eq_false (by omega)
      have HALL : Hid (∀ s ∈ slots, isK k s numT) := by
        have := hall
        rwa [List.take_of_length_le (by rw [HLEN.out]; exact Nat.le_refl _)] at this
      clear hlt ht hall
      go_wp2_with fail
      go_end0
      exact ⟨HT.out.2, .inl ⟨HALL.out, rfl⟩⟩
end Go.Proofs.YtglalgjffkoneaaGreatDoor
/- row: slots of types that are within these. -/
namespace Go.Proofs.YtglalgjffkoneaaGreatDoor
set_option linter.unusedVariables false
set_option linter.unusedSimpArgs false
open Go.ChangeShapes Go.WideShapes Go.ChangeAt Go.RowKit
open Vf (K nth nth_nat tyAt atK isK numT oneT le beginK tsub RowK)
set_option maxRecDepth 100000 in
set_option maxHeartbeats 8000000 in
theorem row_any (c : WkC) {w : World} {f : M.Fn} {g : FV} {fi bi ii : Int} {N r T Y : Nat} {l : List (Option Nat)} {k : K} (h : WkAt c w f g fi bi ii N r T Y l k) {B : Nat} {a : Option Addr} {n cc : Nat} {slots : List Int} (hs : Ints B w a n slots) {a2 : Option Addr} {n2 cc2 : Nat} {want : List Int} (hs2 : Ints B w a2 n2 want) (hB : B ≤ w.heap.size) (hn : n ≤ maxLen) (hin : ∀ x ∈ want, 0 ≤ x ∧ x < c.m.types.length) :
    Calls Tryz.prog 130 #[.pointer (some ⟨c.X, 0, none⟩), .slice a n cc, .slice a2 n2 cc2] w (AskR (RowK c.m k slots want) w) := by
  have HH := Lib.hid h
  have HS := Lib.hid (And.intro hs (And.intro hs2 hB))
  have HLEN : Hid (slots.length = n ∧ want.length = n2) := ⟨hs.len, hs2.len⟩
  have HIN := Lib.hid hin
  have hn63 : n ≤ 9223372036854775807 := by unfold maxLen at hn; omega
  obtain ⟨X, hX⟩ : ∃ X, c.X = X := ⟨_, rfl⟩
  have HX := Lib.hid hX
  obtain ⟨r1, hr1⟩ : ∃ r1, c.r1 = r1 := ⟨_, rfl⟩
  obtain ⟨rc, hrc⟩ : ∃ rc, c.rc = rc := ⟨_, rfl⟩
  obtain ⟨tn, htn⟩ : ∃ tn, c.v.tn = tn := ⟨_, rfl⟩
  have HR1 : Hid (c.r1 = r1 ∧ c.rc = rc ∧ c.v.tn = tn) := ⟨hr1, hrc, htn⟩
  rw [hX]
  clear h hs hs2 hB hn hX hr1 hrc htn hin
  go_enter Tryz.func130, Tryz.ntmps130
  by_cases hnn : n = n2
  rotate_left
  · have x0 : ((n : Int) == (n2 : Int)) = false := by rw [beq_eq_false_iff_ne]; omega
    go_wp2_with fail
    refine (need_no _).mono ?_; rintro e w7 ⟨rfl, hw7⟩; subst w7
    refine ⟨rfl, Still.refl _, .inr ⟨fun e => hnn ?_, rfl⟩⟩
    have h1 := e.1
    have h2 := HLEN.out
    omega
  · subst hnn
    have x0 : ((n : Int) == (n : Int)) = true := by simp
    go_wp2_with fail
    refine (need_yes _).mono ?_; rintro e w7 ⟨rfl, hw7⟩; subst w7
    go_wp2_with fail
    go_loopw [6, 7, 16] (fun _ _ z wr => ∃ i : Nat, z = .int .i64 i ∧ i ≤ n ∧ (∀ (j : Nat) (s x : Int), j < i → slots[j]? = some s → want[j]? = some x → isK k s (tyAt c.m x)) ∧ Still w wr) (fun _ _ z _ => n - (intOf z).toNat)
    case atStart => exact ⟨0, rfl, Nat.zero_le _, fun j s x hj => absurd hj (Nat.not_lt_zero _), Still.refl _⟩
    case round =>
      obtain ⟨i, rfl, hi, hall, ht⟩ := hrel
      have HT := Lib.hid (And.intro hall ht)
      by_cases hlt : i < n
      · obtain ⟨b1, off1, rfl, hb1, hc1⟩ := ints_cell HS.out.1 (by omega)
        obtain ⟨b2, off2, rfl, hb2, hc2⟩ := ints_cell HS.out.2.1 (by omega)
        have hil : i < slots.length := by have := HLEN.out; omega
        have hil2 : i < want.length := by have := HLEN.out; omega
        obtain ⟨s, hsv⟩ : ∃ s, slots.getD i 0 = s := ⟨_, rfl⟩
        obtain ⟨x, hxv⟩ : ∃ x, want.getD i 0 = x := ⟨_, rfl⟩
        have e1 : slots[i]? = some s := by rw [← hsv]; simp [List.getD, List.getElem?_eq_getElem hil]
        have e2 : want[i]? = some x := by rw [← hxv]; simp [List.getD, List.getElem?_eq_getElem hil2]
        obtain ⟨hx0, hxt⟩ := HIN.out x (List.mem_of_getElem? e2)
        obtain ⟨m, rfl⟩ := Int.eq_ofNat_of_zero_le hx0
        have hml : m < c.m.types.length := by omega
        have HSI : Hid (slots[i]? = some s ∧ want[i]? = some (m : Int)) := ⟨e1, e2⟩
        have hmt : m < tn := by have h1 := HR1.out.2.2; have h2 := HH.out.rows.img; have h3 := h2.types.len; omega
        have hmi : (m : Int) < (tn : Int) := by omega
        obtain ⟨bm, hbm⟩ : ∃ b, c.bs[m]? = some b := ⟨_, List.getElem?_eq_getElem (by have := HH.out.rows.lb; omega)⟩
        obtain ⟨tm, htm⟩ : ∃ t, c.m.types[m]? = some t := ⟨_, List.getElem?_eq_getElem hml⟩
        have HM : Hid (c.bs[m]? = some bm ∧ c.m.types[m]? = some tm) := ⟨hbm, htm⟩
        have d1 : wr.cell? ⟨b1, off1 + i, none⟩ = some (.int .i64 s) := (ht.cell (p := ⟨b1, off1 + i, none⟩) (Nat.lt_of_lt_of_le hb1 HS.out.2.2)).trans (by rw [← hsv]; exact hc1 i hlt)
        have l1 := World.block_lt_of_cell? _ _ d1
        have hii : (i : Int) < n := by omega
        have HLT := Lib.hid hlt
        obtain ⟨wD, hwD⟩ : ∃ wD, wr.drew = wD := ⟨_, rfl⟩
        have SD : Hid (Still w wD) := by rw [← hwD]; exact ht.drew
        have H2 := Lib.hid (HH.out.still SD.out)
        have HSW : Hid (∀ {W : World}, Still w W → W.cell? ⟨X, 18, none⟩ = some (.func (.func 84) #[] #[.pointer (some ⟨N, 0, none⟩)]) ∧ W.cell? ⟨X, 7, none⟩ = some (.slice (some ⟨r1, 0, none⟩) tn rc) ∧ W.cell? ⟨b2, off2 + i, none⟩ = some (.int .i64 (m : Int)) ∧ W.cell? ⟨r1, m, none⟩ = some (.pointer (some ⟨bm, 0, none⟩))) := fun {W} t => by
          have H3 := HH.out.still t
          refine ⟨by rw [← HX.out]; exact H3.box.cell 18, by rw [← HX.out, ← HR1.out.1, ← HR1.out.2.1, ← HR1.out.2.2]; exact H3.box.cell 7, (t.cell (p := ⟨b2, off2 + i, none⟩) (Nat.lt_of_lt_of_le hb2 HS.out.2.2)).trans ((hc2 i hlt).trans (by rw [hxv])), by rw [← HR1.out.1]; exact H3.rows.rt m bm hbm⟩
        have hS0 := HSW.out SD.out
        have henter : ∀ (args : Array Value) (W : World), (callFunc 84 args).run Tryz.prog W = .ok (.enter 84 args) W := enters_of Tryz.func84 (by kernel_rfl) rfl
        have HTY := Lib.hid (typed_any H2.out.now s)
        have lX : X < wD.heap.size := by rw [← HX.out]; exact H2.out.box.lt
        clear hc1 hc2 hsv hxv hil hil2 ht hall e1 e2 hx0 hxt hml hbm htm hb1 hb2
        go_wp2_with fail
        refine wp_region_held_drew (S := fun W => W.cell? ⟨X, 18, none⟩ = some (.func (.func 84) #[] #[.pointer (some ⟨N, 0, none⟩)]) ∧ W.cell? ⟨X, 7, none⟩ = some (.slice (some ⟨r1, 0, none⟩) tn rc) ∧ W.cell? ⟨b2, off2 + i, none⟩ = some (.int .i64 (m : Int)) ∧ W.cell? ⟨r1, m, none⟩ = some (.pointer (some ⟨bm, 0, none⟩))) (by kernel_rfl) (by rw [hwD]; exact hS0) (fun hHeld => ?_)
        try simp only [Act.put, List.getElem_toArray, List.getElem_cons_succ, List.getElem_cons_zero, List.setIfInBounds_toArray, List.set_cons_zero, List.set_cons_succ]
        rw [hwD] at hHeld ⊢
        clear hwD hS0
        refine wpAnyH_take (i := 0) (v := ?_) rfl (by kernel_rfl) (by kernel_rfl) (by kernel_rfl) (fun _ _ _ h => h) (Or.inl ⟨by rfl, ?_⟩) (by assumption) ?_
        rotate_left
        · intro w hSw; (try dsimp only at hSw); go_simp; try with_reducible rfl
        try simp only [Act.put, List.getElem_toArray, List.getElem_cons_succ, List.getElem_cons_zero, List.setIfInBounds_toArray, List.set_cons_zero, List.set_cons_succ]
        refine wpAnyH_take (i := 1) (v := ?_) rfl (by kernel_rfl) (by kernel_rfl) (by kernel_rfl) (fun _ _ _ h => h) (Or.inl ⟨by rfl, ?_⟩) (by assumption) ?_
        rotate_left
        · intro w hSw; (try dsimp only at hSw); go_simp; try with_reducible rfl
        try simp only [Act.put, List.getElem_toArray, List.getElem_cons_succ, List.getElem_cons_zero, List.setIfInBounds_toArray, List.set_cons_zero, List.set_cons_succ]
        refine wpAnyH_take (i := 2) (v := ?_) rfl (by kernel_rfl) (by kernel_rfl) (by kernel_rfl) (fun _ _ _ h => h) (Or.inl ⟨by rfl, ?_⟩) (by assumption) ?_
        rotate_left
        · intro w hSw; (try dsimp only at hSw); go_simp; try with_reducible rfl
        try simp only [Act.put, List.getElem_toArray, List.getElem_cons_succ, List.getElem_cons_zero, List.setIfInBounds_toArray, List.set_cons_zero, List.set_cons_succ]
        refine wpAnyH_take (i := 3) (v := ?_) rfl (by kernel_rfl) (by kernel_rfl) (by kernel_rfl) (fun _ _ _ h => h) (Or.inl ⟨by rfl, ?_⟩) (by assumption) ?_
        rotate_left
        · intro w hSw; (try dsimp only at hSw); go_simp; try with_reducible rfl
        try simp only [Act.put, List.getElem_toArray, List.getElem_cons_succ, List.getElem_cons_zero, List.setIfInBounds_toArray, List.set_cons_zero, List.set_cons_succ]
        refine wpAnyH_take (i := 4) (v := ?_) rfl (by kernel_rfl) (by kernel_rfl) (by kernel_rfl) (fun _ _ _ h => h) (Or.inl ⟨by rfl, ?_⟩) (by assumption) ?_
        rotate_left
        · intro w hSw; (try dsimp only at hSw); go_simp; try with_reducible rfl
        try simp only [Act.put, List.getElem_toArray, List.getElem_cons_succ, List.getElem_cons_zero, List.setIfInBounds_toArray, List.set_cons_zero, List.set_cons_succ]
        refine wpAnyH_take (i := 5) (v := ?_) rfl (by kernel_rfl) (by kernel_rfl) (by kernel_rfl) (fun _ _ _ h => h) (Or.inl ⟨by rfl, ?_⟩) (by assumption) ?_
        rotate_left
        · intro w hSw; (try dsimp only at hSw); go_simp; try with_reducible rfl
        try simp only [Act.put, List.getElem_toArray, List.getElem_cons_succ, List.getElem_cons_zero, List.setIfInBounds_toArray, List.set_cons_zero, List.set_cons_succ]
        refine wpAnyH_take (i := 7) (v := ?_) rfl (by kernel_rfl) (by kernel_rfl) (by kernel_rfl) (fun _ _ _ h => h) (Or.inl ⟨by rfl, ?_⟩) (by assumption) ?_
        rotate_left
        · intro w hSw; (try dsimp only at hSw); go_simp; try with_reducible rfl
        try simp only [Act.put, List.getElem_toArray, List.getElem_cons_succ, List.getElem_cons_zero, List.setIfInBounds_toArray, List.set_cons_zero, List.set_cons_succ]
        refine wpAnyH_take (i := 8) (v := ?_) rfl (by kernel_rfl) (by kernel_rfl) (by kernel_rfl) (fun _ _ _ h => h) (Or.inl ⟨by rfl, ?_⟩) (by assumption) ?_
        rotate_left
        · intro w hSw; (try dsimp only at hSw); go_simp; try with_reducible rfl
        try simp only [Act.put, List.getElem_toArray, List.getElem_cons_succ, List.getElem_cons_zero, List.setIfInBounds_toArray, List.set_cons_zero, List.set_cons_succ]
        refine wpAnyH_take (i := 9) (v := ?_) rfl (by kernel_rfl) (by kernel_rfl) (by kernel_rfl) (fun _ _ _ h => h) (Or.inl ⟨by rfl, ?_⟩) (by assumption) ?_
        rotate_left
        · intro w hSw; (try dsimp only at hSw); go_simp; try with_reducible rfl
        try simp only [Act.put, List.getElem_toArray, List.getElem_cons_succ, List.getElem_cons_zero, List.setIfInBounds_toArray, List.set_cons_zero, List.set_cons_succ]
        refine wpAnyH_take (i := 10) (v := ?_) rfl (by kernel_rfl) (by kernel_rfl) (by kernel_rfl) (fun _ _ _ h => h) (Or.inl ⟨by rfl, ?_⟩) (by assumption) ?_
        rotate_left
        · intro w hSw; (try dsimp only at hSw); go_simp; try with_reducible rfl
        try simp only [Act.put, List.getElem_toArray, List.getElem_cons_succ, List.getElem_cons_zero, List.setIfInBounds_toArray, List.set_cons_zero, List.set_cons_succ]
        refine wpAnyH_take (i := 11) (v := ?_) rfl (by kernel_rfl) (by kernel_rfl) (by kernel_rfl) (fun _ _ _ h => h) (Or.inl ⟨by rfl, ?_⟩) (by assumption) ?_
        rotate_left
        · intro w hSw; (try dsimp only at hSw); go_simp; try with_reducible rfl
        try simp only [Act.put, List.getElem_toArray, List.getElem_cons_succ, List.getElem_cons_zero, List.setIfInBounds_toArray, List.set_cons_zero, List.set_cons_succ]
        refine wpAnyH_take (i := 12) (v := ?_) rfl (by kernel_rfl) (by kernel_rfl) (by kernel_rfl) (fun _ _ _ h => h) (Or.inl ⟨by rfl, ?_⟩) (by assumption) ?_
        rotate_left
        · intro w hSw; (try dsimp only at hSw); go_simp; try with_reducible rfl
        try simp only [Act.put, List.getElem_toArray, List.getElem_cons_succ, List.getElem_cons_zero, List.setIfInBounds_toArray, List.set_cons_zero, List.set_cons_succ]
        refine wpAnyH_take (i := 13) (v := ?_) rfl (by kernel_rfl) (by kernel_rfl) (by kernel_rfl) (fun _ _ _ h => h) (Or.inl ⟨by rfl, ?_⟩) (by assumption) ?_
        rotate_left
        · intro w hSw; (try dsimp only at hSw); go_simp; try with_reducible rfl
        try simp only [Act.put, List.getElem_toArray, List.getElem_cons_succ, List.getElem_cons_zero, List.setIfInBounds_toArray, List.set_cons_zero, List.set_cons_succ]
        refine wpAnyH_take (i := 14) (v := ?_) rfl (by kernel_rfl) (by kernel_rfl) (by kernel_rfl) (fun _ _ _ h => h) (Or.inl ⟨by rfl, ?_⟩) (by assumption) ?_
        rotate_left
        · intro w hSw; (try dsimp only at hSw); go_simp; try with_reducible rfl
        try simp only [Act.put, List.getElem_toArray, List.getElem_cons_succ, List.getElem_cons_zero, List.setIfInBounds_toArray, List.set_cons_zero, List.set_cons_succ]
        refine wpAnyH_take (i := 15) (v := ?_) rfl (by kernel_rfl) (by kernel_rfl) (by kernel_rfl) (fun _ _ _ h => h) (Or.inl ⟨by rfl, ?_⟩) (by assumption) ?_
        rotate_left
        · intro w hSw; (try dsimp only at hSw); go_simp; try with_reducible rfl
        try simp only [Act.put, List.getElem_toArray, List.getElem_cons_succ, List.getElem_cons_zero, List.setIfInBounds_toArray, List.set_cons_zero, List.set_cons_succ]
        refine wpAnyH_take (i := 16) (v := ?_) rfl (by kernel_rfl) (by kernel_rfl) (by kernel_rfl) (fun _ _ _ h => h) (Or.inl ⟨by rfl, ?_⟩) (by assumption) ?_
        rotate_left
        · intro w hSw; (try dsimp only at hSw); go_simp; try with_reducible rfl
        try simp only [Act.put, List.getElem_toArray, List.getElem_cons_succ, List.getElem_cons_zero, List.setIfInBounds_toArray, List.set_cons_zero, List.set_cons_succ]
        refine wpAnyH_ready (rs := [6]) (by kernel_rfl) (by simp) ?_
        refine AllReadyH.cons rfl (fun K hK => ?_) AllReadyH.nil
        go_simp
        refine HTY.out.mono ?_; rintro e w5 ⟨⟨b, hb5, rfl⟩ | ⟨h5, rfl⟩, rfl⟩
        rotate_left
        · refine ⟨rfl, SD.out, .inr ⟨fun e => ?_, rfl⟩⟩
          obtain ⟨y, e1, _⟩ := e.2 i s _ HSI.out.1 HSI.out.2
          rcases HH.out.kn.slot s with ⟨_, e2⟩ | ⟨b, t, e2, _, _⟩
          · rw [e1] at e2; cases e2
          · rw [h5] at e2; cases e2
        obtain ⟨ty, hty, htk⟩ : ∃ ty, atK k s = some ty ∧ TyK w5 b ty := by
          rcases H2.out.kn.slot s with ⟨e1, _⟩ | ⟨b', t, e1, e2, e3⟩
          · rw [hb5] at e1; cases e1
          · rw [hb5] at e1
            obtain rfl := Option.some.inj e1
            exact ⟨t, e2, e3⟩
        have HTYK := Lib.hid (And.intro hty htk)
        have HNT : TyK w5 bm tm := ⟨H2.out.rows.wt m bm tm HM.out.1 HM.out.2, H2.out.rows.ok tm (List.mem_of_getElem? HM.out.2)⟩
        have HW := Lib.hid (within_any htk.1 HNT.1)
        have HLE : Hid (WSub ty.imm (ofL ty.shapes) tm.imm (ofL tm.shapes) ↔ le ty tm = true) := wsub_iff htk.2 HNT.2
        have HTA : Hid (tyAt c.m (m : Int) = tm) := by show tyAt _ _ = _; unfold tyAt; rw [nth_nat, HM.out.2]; rfl
        clear hb5 hty htk HNT
        refine hK.out _ _ hHeld (fun hHeld => ?_)
        clear hK K
        refine wpAnyH_ready (rs := [17]) (by kernel_rfl) (by simp) ?_
        refine AllReadyH.cons rfl (fun K hK => ?_) AllReadyH.nil
        go_simp
        refine HW.out.mono ?_; rintro e w6 ⟨rb, rfl, hrb, t6⟩
        have HRB := Lib.hid hrb
        have T6 : Hid (Still w w6) := SD.out.trans t6
        have hH6 := HSW.out T6.out
        clear hrb t6 hHeld
        refine hK.out _ _ hH6 (fun hHeld => ?_)
        clear hK K
        refine wpAnyH_ready (rs := [18]) (by kernel_rfl) (by simp) ?_
        refine AllReadyH.cons rfl (fun K hK => ?_) AllReadyH.nil
        go_simp
        cases rb with
        | false =>
          refine (need_no _).mono ?_; rintro e w7 ⟨rfl, rfl⟩
          refine ⟨rfl, T6.out, .inr ⟨fun e => ?_, rfl⟩⟩
          obtain ⟨y, e1, e2⟩ := e.2 i s _ HSI.out.1 HSI.out.2
          rw [HTYK.out.1] at e1
          obtain rfl := Option.some.inj e1
          rw [HTA.out] at e2
          exact absurd (HRB.out.2 (HLE.out.2 e2)) (by decide)
        | true =>
          refine (need_yes _).mono ?_; rintro e w7 ⟨rfl, rfl⟩
          refine hK.out _ _ hHeld (fun hHeld => ?_)
          clear hK K
          refine wpAnyH_done (by kernel_rfl) ?_ _
          clear hHeld hH6 lX d1 l1
          go_wp2_with fail
          go_roundw
          case rel =>
            refine ⟨i + 1, by go_num, by have := HLT.out; omega, fun j s' x' hj h1 h2 => ?_, T6.out⟩
            rcases Nat.lt_succ_iff_lt_or_eq.1 hj with e | rfl
            · exact HT.out.1 j s' x' e h1 h2
            · obtain rfl := Option.some.inj (HSI.out.1.symm.trans h1)
              obtain rfl := Option.some.inj (HSI.out.2.symm.trans h2)
              rw [HTA.out]
              exact ⟨ty, HTYK.out.1, HLE.out.1 (HRB.out.1 (by first | rfl | trivial))⟩
          case measure => have := HLT.out; simp [intOf]; omega
      · obtain rfl : n = i := by omega
        have x6 : decide ((n : Int) < n) = false := decide_eq_false (by omega)
        have x6' : decide (n < n) = false := decide_eq_false (by omega)
        have HALL : Hid (RowK c.m k slots want) := ⟨HLEN.out.1.trans HLEN.out.2.symm, fun j s x h1 h2 => hall j s x (by have := (List.getElem?_eq_some_iff.1 h1).1; have := HLEN.out.1; omega) h1 h2⟩
        clear hlt ht hall
        go_wp2_with fail
        go_end0
        exact ⟨HT.out.2, .inl ⟨HALL.out, rfl⟩⟩
end Go.Proofs.YtglalgjffkoneaaGreatDoor
/- to: a block that all slots fit. -/
namespace Go.Proofs.YtglalgjffkoneaaGreatDoor
set_option linter.unusedVariables false
set_option linter.unusedSimpArgs false
open Go.ChangeShapes Go.WideShapes Go.ChangeAt Go.RowKit
open Vf (K nth nth_nat tyAt atK isK numT oneT le beginK tsub RowK FitsK)
/-- A block's words are of one type alone. -/
theorem words_same {w : World} {b : Nat} {im im' : Bool} {R R' : Nat → Nat} (h : WordsAt w b im R) (h' : WordsAt w b im' R') : im = im' ∧ ∀ x, x < 512 → Vf.has R x = Vf.has R' x := by
  refine ⟨?_, fun x hx => ?_⟩
  · have e := h.imm.symm.trans h'.imm
    injection e with e
    injection e
  · have e := (h.at (x / 64) (by omega)).symm.trans (h'.at (x / 64) (by omega))
    injection e with e
    injection e with _ e
    unfold Vf.has
    rw [Int.ofNat.inj e]
theorem wsub_same {w : World} {a b : Nat} {ia ja ib jb : Bool} {Ra Sa Rb Sb : Nat → Nat} (h1 : WordsAt w a ia Ra) (h2 : WordsAt w a ja Sa) (h3 : WordsAt w b ib Rb) (h4 : WordsAt w b jb Sb) (h : WSub ia Ra ib Rb) : WSub ja Sa jb Sb := by
  obtain ⟨e1, e2⟩ := words_same h1 h2
  obtain ⟨e3, e4⟩ := words_same h3 h4
  subst e1; subst e3
  exact ⟨h.1, fun x hx e => by rw [← e4 x hx]; exact h.2 x hx (by rw [e2 x hx]; exact e)⟩
theorem env_of (w : World) : ∃ D, Env w D ∧ ∀ b im R, WordsAt w b im R → ∃ im' R', D b = some (im', R') := by
  classical
  refine ⟨fun b => if h : ∃ p : Bool × (Nat → Nat), WordsAt w b p.1 p.2 then some h.choose else none, ⟨fun b im R e => ?_⟩, fun b im R h => ?_⟩
  · split at e
    · rename_i hh
      have hs := hh.choose_spec
      rw [Option.some.inj e] at hs
      exact hs
    · cases e
  · have hh : ∃ p : Bool × (Nat → Nat), WordsAt w b p.1 p.2 := ⟨(im, R), h⟩
    exact ⟨hh.choose.1, hh.choose.2, by simp only [dif_pos hh]⟩
theorem fits_iff {{c : WkC}} {{w : World}} {{f : M.Fn}} {{g : FV}} {{fi bi ii : Int}} {{N r T Y : Nat}} {{l : List (Option Nat)}} {{k : K}} (h : WkAt c w f g fi bi ii N r T Y l k) {D : Nat → Option (Bool × (Nat → Nat))} (hE : Env w D) (hA : ∀ b im R, WordsAt w b im R → ∃ im' R', D b = some (im', R')) {ins : List Int} (hin : ∀ x ∈ ins, x = -1 ∨ 0 ≤ x ∧ x < c.bs.length) :
    Fits D l c.bs ins ↔ ∀ (j : Nat) (n : Int), ins[j]? = some n → n ≠ -1 → isK k j (tyAt c.m n) := by
  refine forall_congr' fun j => forall_congr' fun n => forall_congr' fun hj => forall_congr' fun hne => ?_
  obtain ⟨h0, hlt⟩ := (hin n (List.mem_of_getElem? hj)).resolve_left hne
  obtain ⟨m, rfl⟩ := Int.eq_ofNat_of_zero_le h0
  obtain ⟨bm, hbm⟩ : ∃ b, c.bs[m]? = some b := ⟨_, List.getElem?_eq_getElem (by omega)⟩
  obtain ⟨tm, htm⟩ : ∃ t, c.m.types[m]? = some t := ⟨_, List.getElem?_eq_getElem (by have := h.rows.lb; omega)⟩
  have hTM : TyK w bm tm := ⟨h.rows.wt m bm tm hbm htm, h.rows.ok tm (List.mem_of_getElem? htm)⟩
  have hTA : tyAt c.m (m : Int) = tm := by unfold tyAt; rw [nth_nat, htm]; rfl
  rw [hTA, show ((m : Int).toNat) = m from Int.toNat_natCast m]
  obtain ⟨i2, R2, e2⟩ := hA _ _ _ hTM.1
  rcases h.kn.slot (j : Int) with ⟨s1, s2⟩ | ⟨b, t, s1, s2, s3⟩
  · constructor
    · rintro ⟨b, e, _⟩
      rw [s1] at e; cases e
    · rintro ⟨t, e, _⟩
      rw [s2] at e; cases e
  · obtain ⟨i1, R1, e1⟩ := hA _ _ _ s3.1
    constructor
    · rintro ⟨b', e, t', et, hd⟩
      obtain rfl := Option.some.inj (s1.symm.trans e)
      obtain rfl := Option.some.inj (hbm.symm.trans et)
      exact ⟨t, s2, (wsub_iff s3.2 hTM.2).1 (wsub_same (hE.at_ _ _ _ e1) s3.1 (hE.at_ _ _ _ e2) hTM.1 (hd _ _ _ _ e1 e2))⟩
    · rintro ⟨t', e, hle⟩
      obtain rfl := Option.some.inj (s2.symm.trans e)
      exact ⟨b, s1, bm, hbm, fun im R im' R' d1 d2 => wsub_same s3.1 (hE.at_ _ _ _ d1) hTM.1 (hE.at_ _ _ _ d2) ((wsub_iff s3.2 hTM.2).2 hle)⟩
/-- The slots fit a row of types. -/
theorem fitK_any {{c : WkC}} {{w : World}} {{f : M.Fn}} {{g : FV}} {{fi bi ii : Int}} {{N r T Y : Nat}} {{l : List (Option Nat)}} {{k : K}} (h : WkAt c w f g fi bi ii N r T Y l k) {B : Nat} {a : Option Addr} {n cc : Nat} {ins : List Int} (hl : Ints B w a n ins) (hn : n ≤ maxLen) (hB : B ≤ w.heap.size) (hin : ∀ x ∈ ins, x = -1 ∨ 0 ≤ x ∧ x < c.m.types.length) :
    Calls Tryz.prog 89 #[.slice a n cc, .pointer (some ⟨T, 0, none⟩), .pointer (some ⟨Y, 0, none⟩)] w (AskR (∀ (j : Nat) (x : Int), ins[j]? = some x → x ≠ -1 → isK k j (tyAt c.m x)) w) := by
  obtain ⟨D, hE, hA⟩ := env_of w
  have hlen : c.bs.length = c.v.tn := h.rows.lb.trans h.rows.img.types.len
  refine (fit_any (ts := c.bs) (D := D) (yr := c.r1) (yc := c.rc) h.now hE (fun b hb => ?_) h.typed ⟨hlen ▸ h.types, h.rows.rt, Nat.lt_of_lt_of_le h.rows.l1.1 h.rows.le.2.2, fun b hb => ?_, by rw [h.rows.lb]; exact h.rows.few.1⟩ hl hn hB (fun x hx => by rw [h.rows.lb]; exact hin x hx)).mono ?_
  · obtain ⟨i, hi⟩ := List.mem_iff_getElem?.1 hb
    rcases h.kn.2 i (List.getElem?_eq_some_iff.1 hi).1 with ⟨e, _⟩ | ⟨b', t, e, _, e3⟩
    · rw [hi] at e; cases e
    · rw [hi] at e
      obtain rfl := Option.some.inj (Option.some.inj e)
      exact hA _ _ _ e3.1
  · obtain ⟨i, hi⟩ := List.mem_iff_getElem?.1 hb
    have hil := (List.getElem?_eq_some_iff.1 hi).1
    exact hA _ _ _ (h.rows.wt i b _ hi (List.getElem?_eq_getElem (by have := h.rows.lb; omega)))
  · rintro e w' ⟨t, q⟩
    rw [fits_iff h hE hA (fun x hx => by rw [h.rows.lb]; exact hin x hx)] at q
    exact ⟨t, q⟩
end Go.Proofs.YtglalgjffkoneaaGreatDoor
/- to: a block that all slots fit. -/
namespace Go.Proofs.YtglalgjffkoneaaGreatDoor
set_option linter.unusedVariables false
set_option linter.unusedSimpArgs false
open Go.ChangeShapes Go.WideShapes Go.ChangeAt Go.RowKit
open Vf (K nth nth_nat tyAt atK isK numT oneT le beginK tsub RowK FitsK)
theorem nth_has {α : Type} {l : List α} {n : Nat} (hl : l.length = n) {i : Int} (h : hasB i n = false) : nth l i = none := by
  unfold nth
  split
  · rename_i h0
    refine List.getElem?_eq_none ?_
    have h1 : ¬ (0 ≤ i ∧ i < n) := fun e => by rw [(hasB_iff i n).2 e] at h; cases h
    omega
  · rfl
theorem fnB_in {nT : Nat} {f : M.Fn} (h : fnB nT f = true) {b : M.Bk} (hb : b ∈ f.blocks) : ∀ x ∈ b.inn, x = -1 ∨ 0 ≤ x ∧ x < nT := fun x hx => by
  unfold fnB at h
  simp only [Bool.and_eq_true, decide_eq_true_eq] at h
  have h1 := List.all_eq_true.1 h.2.2.2.1 b hb
  unfold bkB at h1
  rw [Bool.and_eq_true] at h1
  have h2 := List.all_eq_true.1 h1.2 x hx
  unfold innB at h2
  rw [Bool.or_eq_true, hasB_iff] at h2
  exact h2.imp (fun e => by simpa using e) fun e => e
set_option maxRecDepth 100000 in
set_option maxHeartbeats 8000000 in
theorem to_any (c : WkC) {w : World} {f : M.Fn} {g : FV} {fi bi ii : Int} {N r T Y : Nat} {l : List (Option Nat)} {k : K} (h : WkAt c w f g fi bi ii N r T Y l k) (block : Int) :
    Calls Tryz.prog 135 #[.pointer (some ⟨c.X, 0, none⟩), .int .i64 block] w (AskR (FitsK c.m f k block) w) := by
  have HH := Lib.hid h
  obtain ⟨X, hX⟩ : ∃ X, c.X = X := ⟨_, rfl⟩
  have HX := Lib.hid hX
  obtain ⟨ba, hba⟩ : ∃ ba, g.ba = ba := ⟨_, rfl⟩
  obtain ⟨bn, hbn⟩ : ∃ bn, g.bn = bn := ⟨_, rfl⟩
  obtain ⟨bc, hbc⟩ : ∃ bc, g.bc = bc := ⟨_, rfl⟩
  have HG : Hid (g.ba = ba ∧ g.bn = bn ∧ g.bc = bc) := ⟨hba, hbn, hbc⟩
  have HL : Hid (f.blocks.length = bn) := by show _ = _; rw [← hbn]; exact h.blk.len
  have x14 : w.cell? ⟨X, 14, none⟩ = some (.slice ba bn bc) := by rw [← hX, ← hba, ← hbn, ← hbc]; exact h.box.cell 14
  have lX : X < w.heap.size := by rw [← hX]; exact h.box.lt
  have henter : ∀ (args : Array Value) (W : World), (callFunc 89 args).run Tryz.prog W = .ok (.enter 89 args) W := enters_of Tryz.func89 (by kernel_rfl) rfl
  rw [hX]
  clear h hX hba hbn hbc
  go_enter Tryz.func135, Tryz.ntmps135
  go_wp2_with fail
  refine (hasBk_any _ _ _ _ _).mono ?_; rintro e w2 ⟨rfl, hw2⟩; subst w2
  cases hb : hasB block bn with
  | false =>
    have HN : Hid (nth f.blocks block = none) := nth_has HL.out hb
    go_wp2_with fail
    refine (need_no _).mono ?_; rintro e w2 ⟨rfl, hw2⟩; subst w2
    refine ⟨rfl, Still.refl _, .inr ⟨fun e => ?_, rfl⟩⟩
    obtain ⟨y, e1, _⟩ := e
    rw [HN.out] at e1
    cases e1
  | true =>
    obtain ⟨h0, h1⟩ := (hasB_iff _ _).1 hb
    obtain ⟨m, rfl⟩ := Int.eq_ofNat_of_zero_le h0
    have hmn : m < bn := by omega
    obtain ⟨x, hx⟩ : ∃ x, f.blocks[m]? = some x := ⟨_, List.getElem?_eq_getElem (by have := HL.out; omega)⟩
    obtain ⟨bb, ob, hba, hbB, hbx⟩ := HH.out.blk.at_ (by have := HG.out.2.1; omega)
    obtain rfl : ba = some ⟨bb, ob, none⟩ := HG.out.1.symm.trans hba
    obtain ⟨cs, q1, q2, q3⟩ := hbx m x hx
    obtain ⟨ia, inn, ic, ca, cn, cc, rfl, hinn, hcn, hii, hci⟩ := q2
    have k0 : w.cell? ⟨bb, ob + m * 2, none⟩ = some (.slice ia inn ic) := q3 0 (by decide)
    have HIN : Hid (Ints c.B w ia inn x.inn ∧ inn ≤ maxLen ∧ ∀ y ∈ x.inn, y = -1 ∨ 0 ≤ y ∧ y < c.m.types.length) := ⟨hii, hinn, fnB_in HH.out.ok (List.mem_of_getElem? hx)⟩
    have HXM : Hid (nth f.blocks (m : Int) = some x) := (nth_nat f.blocks m).trans hx
    have lb : bb < w.heap.size := Nat.lt_of_lt_of_le hbB (by have := HH.out.rows.le; omega)
    clear hba hbB hbx q1 q3 hii hinn hci hcn hx hb h0
    go_wp2_with fail
    refine (need_yes _).mono ?_; rintro e w2 ⟨rfl, hw2⟩; subst w2
    obtain ⟨wD, hwD⟩ : ∃ wD, w.drew = wD := ⟨_, rfl⟩
    have SD : Hid (Still w wD) := by rw [← hwD]; exact (Still.refl w).drew
    have H2 := Lib.hid (HH.out.still SD.out)
    have hS0 : wD.cell? ⟨X, 22, none⟩ = some (.func (.func 89) #[] #[.pointer (some ⟨T, 0, none⟩), .pointer (some ⟨Y, 0, none⟩)]) ∧ wD.cell? ⟨X, 14, none⟩ = some (.slice (some ⟨bb, ob, none⟩) bn bc) ∧ wD.cell? ⟨bb, ob + m * 2, none⟩ = some (.slice ia inn ic) := ⟨by rw [← HX.out]; exact H2.out.box.cell 22, (SD.out.cell (p := ⟨X, 14, none⟩) lX).trans x14, (SD.out.cell (p := ⟨bb, ob + m * 2, none⟩) lb).trans k0⟩
    have HF := Lib.hid (fitK_any H2.out (cc := ic) (HIN.out.1.keep ((Still.below SD.out).mono (by have := HH.out.rows.le; omega)) (by have := HH.out.rows.le; omega)) HIN.out.2.1 (by have := H2.out.rows.le; omega) HIN.out.2.2)
    go_wp2_with fail
    refine wp_region_held_drew (S := fun W => W.cell? ⟨X, 22, none⟩ = some (.func (.func 89) #[] #[.pointer (some ⟨T, 0, none⟩), .pointer (some ⟨Y, 0, none⟩)]) ∧ W.cell? ⟨X, 14, none⟩ = some (.slice (some ⟨bb, ob, none⟩) bn bc) ∧ W.cell? ⟨bb, ob + m * 2, none⟩ = some (.slice ia inn ic)) (by kernel_rfl) (by rw [hwD]; exact hS0) (fun hHeld => ?_)
    try simp only [Act.put, List.getElem_toArray, List.getElem_cons_succ, List.getElem_cons_zero, List.setIfInBounds_toArray, List.set_cons_zero, List.set_cons_succ]
    rw [hwD] at hHeld ⊢
    clear hwD hS0
    refine wpAnyH_take (i := 0) (v := ?_) rfl (by kernel_rfl) (by kernel_rfl) (by kernel_rfl) (fun _ _ _ h => h) (Or.inl ⟨by rfl, ?_⟩) (by assumption) ?_
    rotate_left
    · intro w hSw; (try dsimp only at hSw); go_simp; try with_reducible rfl
    try simp only [Act.put, List.getElem_toArray, List.getElem_cons_succ, List.getElem_cons_zero, List.setIfInBounds_toArray, List.set_cons_zero, List.set_cons_succ]
    refine wpAnyH_take (i := 1) (v := ?_) rfl (by kernel_rfl) (by kernel_rfl) (by kernel_rfl) (fun _ _ _ h => h) (Or.inl ⟨by rfl, ?_⟩) (by assumption) ?_
    rotate_left
    · intro w hSw; (try dsimp only at hSw); go_simp; try with_reducible rfl
    try simp only [Act.put, List.getElem_toArray, List.getElem_cons_succ, List.getElem_cons_zero, List.setIfInBounds_toArray, List.set_cons_zero, List.set_cons_succ]
    refine wpAnyH_take (i := 2) (v := ?_) rfl (by kernel_rfl) (by kernel_rfl) (by kernel_rfl) (fun _ _ _ h => h) (Or.inl ⟨by rfl, ?_⟩) (by assumption) ?_
    rotate_left
    · intro w hSw; (try dsimp only at hSw); go_simp; try with_reducible rfl
    try simp only [Act.put, List.getElem_toArray, List.getElem_cons_succ, List.getElem_cons_zero, List.setIfInBounds_toArray, List.set_cons_zero, List.set_cons_succ]
    refine wpAnyH_take (i := 3) (v := ?_) rfl (by kernel_rfl) (by kernel_rfl) (by kernel_rfl) (fun _ _ _ h => h) (Or.inl ⟨by rfl, ?_⟩) (by assumption) ?_
    rotate_left
    · intro w hSw; (try dsimp only at hSw); go_simp; try with_reducible rfl
    try simp only [Act.put, List.getElem_toArray, List.getElem_cons_succ, List.getElem_cons_zero, List.setIfInBounds_toArray, List.set_cons_zero, List.set_cons_succ]
    refine wpAnyH_take (i := 4) (v := ?_) rfl (by kernel_rfl) (by kernel_rfl) (by kernel_rfl) (fun _ _ _ h => h) (Or.inl ⟨by rfl, ?_⟩) (by assumption) ?_
    rotate_left
    · intro w hSw; (try dsimp only at hSw); go_simp; try with_reducible rfl
    try simp only [Act.put, List.getElem_toArray, List.getElem_cons_succ, List.getElem_cons_zero, List.setIfInBounds_toArray, List.set_cons_zero, List.set_cons_succ]
    refine wpAnyH_take (i := 5) (v := ?_) rfl (by kernel_rfl) (by kernel_rfl) (by kernel_rfl) (fun _ _ _ h => h) (Or.inl ⟨by rfl, ?_⟩) (by assumption) ?_
    rotate_left
    · intro w hSw; (try dsimp only at hSw); go_simp; try with_reducible rfl
    try simp only [Act.put, List.getElem_toArray, List.getElem_cons_succ, List.getElem_cons_zero, List.setIfInBounds_toArray, List.set_cons_zero, List.set_cons_succ]
    refine wpAnyH_take (i := 6) (v := ?_) rfl (by kernel_rfl) (by kernel_rfl) (by kernel_rfl) (fun _ _ _ h => h) (Or.inl ⟨by rfl, ?_⟩) (by assumption) ?_
    rotate_left
    · intro w hSw; (try dsimp only at hSw); go_simp; try with_reducible rfl
    try simp only [Act.put, List.getElem_toArray, List.getElem_cons_succ, List.getElem_cons_zero, List.setIfInBounds_toArray, List.set_cons_zero, List.set_cons_succ]
    refine wpAnyH_take (i := 7) (v := ?_) rfl (by kernel_rfl) (by kernel_rfl) (by kernel_rfl) (fun _ _ _ h => h) (Or.inl ⟨by rfl, ?_⟩) (by assumption) ?_
    rotate_left
    · intro w hSw; (try dsimp only at hSw); go_simp; try with_reducible rfl
    try simp only [Act.put, List.getElem_toArray, List.getElem_cons_succ, List.getElem_cons_zero, List.setIfInBounds_toArray, List.set_cons_zero, List.set_cons_succ]
    refine wpAnyH_take (i := 8) (v := ?_) rfl (by kernel_rfl) (by kernel_rfl) (by kernel_rfl) (fun _ _ _ h => h) (Or.inl ⟨by rfl, ?_⟩) (by assumption) ?_
    rotate_left
    · intro w hSw; (try dsimp only at hSw); go_simp; try with_reducible rfl
    try simp only [Act.put, List.getElem_toArray, List.getElem_cons_succ, List.getElem_cons_zero, List.setIfInBounds_toArray, List.set_cons_zero, List.set_cons_succ]
    refine wpAnyH_take (i := 9) (v := ?_) rfl (by kernel_rfl) (by kernel_rfl) (by kernel_rfl) (fun _ _ _ h => h) (Or.inl ⟨by rfl, ?_⟩) (by assumption) ?_
    rotate_left
    · intro w hSw; (try dsimp only at hSw); go_simp; try with_reducible rfl
    try simp only [Act.put, List.getElem_toArray, List.getElem_cons_succ, List.getElem_cons_zero, List.setIfInBounds_toArray, List.set_cons_zero, List.set_cons_succ]
    refine wpAnyH_take (i := 10) (v := ?_) rfl (by kernel_rfl) (by kernel_rfl) (by kernel_rfl) (fun _ _ _ h => h) (Or.inl ⟨by rfl, ?_⟩) (by assumption) ?_
    rotate_left
    · intro w hSw; (try dsimp only at hSw); go_simp; try with_reducible rfl
    try simp only [Act.put, List.getElem_toArray, List.getElem_cons_succ, List.getElem_cons_zero, List.setIfInBounds_toArray, List.set_cons_zero, List.set_cons_succ]
    refine wpAnyH_take (i := 11) (v := ?_) rfl (by kernel_rfl) (by kernel_rfl) (by kernel_rfl) (fun _ _ _ h => h) (Or.inl ⟨by rfl, ?_⟩) (by assumption) ?_
    rotate_left
    · intro w hSw; (try dsimp only at hSw); go_simp; try with_reducible rfl
    try simp only [Act.put, List.getElem_toArray, List.getElem_cons_succ, List.getElem_cons_zero, List.setIfInBounds_toArray, List.set_cons_zero, List.set_cons_succ]
    refine wpAnyH_take (i := 12) (v := ?_) rfl (by kernel_rfl) (by kernel_rfl) (by kernel_rfl) (fun _ _ _ h => h) (Or.inl ⟨by rfl, ?_⟩) (by assumption) ?_
    rotate_left
    · intro w hSw; (try dsimp only at hSw); go_simp; try with_reducible rfl
    try simp only [Act.put, List.getElem_toArray, List.getElem_cons_succ, List.getElem_cons_zero, List.setIfInBounds_toArray, List.set_cons_zero, List.set_cons_succ]
    refine wpAnyH_take (i := 13) (v := ?_) rfl (by kernel_rfl) (by kernel_rfl) (by kernel_rfl) (fun _ _ _ h => h) (Or.inl ⟨by rfl, ?_⟩) (by assumption) ?_
    rotate_left
    · intro w hSw; (try dsimp only at hSw); go_simp; try with_reducible rfl
    try simp only [Act.put, List.getElem_toArray, List.getElem_cons_succ, List.getElem_cons_zero, List.setIfInBounds_toArray, List.set_cons_zero, List.set_cons_succ]
    refine wpAnyH_ready (rs := [14]) (by kernel_rfl) (by simp) ?_
    refine AllReadyH.cons rfl (fun K hK => ?_) AllReadyH.nil
    go_simp
    refine HF.out.mono ?_; rintro e w5 ⟨t5, ⟨hp, rfl⟩ | ⟨hp, rfl⟩⟩
    rotate_left
    · refine ⟨rfl, SD.out.trans t5, .inr ⟨fun e => hp ?_, rfl⟩⟩
      obtain ⟨y, e1, e2⟩ := e
      obtain rfl := Option.some.inj (HXM.out.symm.trans e1)
      exact e2
    have T5 : Hid (Still w w5) := SD.out.trans t5
    have HP : Hid (FitsK c.m f k (m : Int)) := ⟨x, HXM.out, hp⟩
    have hS5 : w5.cell? ⟨X, 22, none⟩ = some (.func (.func 89) #[] #[.pointer (some ⟨T, 0, none⟩), .pointer (some ⟨Y, 0, none⟩)]) ∧ w5.cell? ⟨X, 14, none⟩ = some (.slice (some ⟨bb, ob, none⟩) bn bc) ∧ w5.cell? ⟨bb, ob + m * 2, none⟩ = some (.slice ia inn ic) := ⟨(t5.cell (p := ⟨X, 22, none⟩) (Nat.lt_of_lt_of_le lX SD.out.size)).trans hHeld.1, (t5.cell (p := ⟨X, 14, none⟩) (Nat.lt_of_lt_of_le lX SD.out.size)).trans hHeld.2.1, (t5.cell (p := ⟨bb, ob + m * 2, none⟩) (Nat.lt_of_lt_of_le lb SD.out.size)).trans hHeld.2.2⟩
    clear hHeld hp t5
    refine hK.out _ _ hS5 (fun hHeld => ?_)
    clear hK K
    refine wpAnyH_done (by kernel_rfl) ?_ _
    go_wp2_with fail
    go_end0
    exact ⟨T5.out, .inl ⟨HP.out, rfl⟩⟩
end Go.Proofs.YtglalgjffkoneaaGreatDoor
