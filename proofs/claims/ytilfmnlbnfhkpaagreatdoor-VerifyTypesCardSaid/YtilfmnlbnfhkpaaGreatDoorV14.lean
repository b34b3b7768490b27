/- Lemmas, put together: OpenImg Vot. -/
import Derived.Test.YtilfmnlbnfhkpaaGreatDoorV1
import Derived.Test.YtilfmnlbnfhkpaaGreatDoorRows
import Derived.WalkKit
import Derived.Deep.Slices
import Derived.Deep.SlicePairs
import Derived.Deep.Fields
import Derived.ChangeSame
import Derived.ProofKit
import Derived.OpenShut
import Derived.ShutString
import Derived.ChangeOld
import Derived.Lib.SmallJoins
import Derived.SizedLaws
import Derived.Test.YtilfmnlbnfhkpaaGreatDoorV13
/- An image as an argument. -/
namespace Go.Proofs.YtilfmnlbnfhkpaaGreatDoor
set_option linter.unusedVariables false
set_option linter.unusedSimpArgs false
open Go.ChangeShapes Go.WideShapes Go.ChangeAt Go.RowKit Go.Deep
theorem many_list {α : Type} {p : Nat → α → Prop} : ∀ (n : Nat), (∀ i, i < n → ∃ x, p i x) → ∃ xs : List α, xs.length = n ∧ ∀ i x, xs[i]? = some x → p i x
  | 0, _ => ⟨[], rfl, fun i x h => by simp at h⟩
  | n + 1, h => by
    obtain ⟨xs, hl, hx⟩ := many_list n (fun i hi => h i (by omega))
    obtain ⟨y, hy⟩ := h n (by omega)
    refine ⟨xs ++ [y], by simp [hl], fun i x hi => ?_⟩
    by_cases hin : i < n
    · rw [List.getElem?_append_left (by omega)] at hi
      exact hx i x hi
    · rw [List.getElem?_append_right (by omega)] at hi
      have : i = n := by
        have := (List.getElem?_eq_some_iff.1 hi).1
        simp at this; omega
      subst this
      simp [hl] at hi
      subst hi
      exact hy
/-- Every list and text of an image has a length that a machine can hold. -/
def M.fitN (n : Nat) : Prop := n ≤ 1048576
def M.fitTy (t : M.Ty) : Prop := M.fitN t.shapes.length
def M.fitSh (s : M.Sh) : Prop := M.fitN s.fields.length ∧ M.fitN s.name.size
def M.fitIns (x : M.Ins) : Prop := M.fitN x.l.length ∧ M.fitN x.m.length ∧ M.fitN x.v.length
def M.fitBk (b : M.Bk) : Prop := M.fitN b.inn.length ∧ M.fitN b.code.length ∧ ∀ x ∈ b.code, M.fitIns x
def M.fitFn (f : M.Fn) : Prop := M.fitN f.params.length ∧ M.fitN f.blocks.length ∧ ∀ b ∈ f.blocks, M.fitBk b
def M.fitImg (m : M.Img) : Prop := (M.fitN m.types.length ∧ M.fitN m.shapes.length ∧ M.fitN m.strings.length ∧ M.fitN m.names.length ∧ M.fitN m.funcs.length) ∧ (∀ t ∈ m.types, M.fitTy t) ∧ (∀ s ∈ m.shapes, M.fitSh s) ∧ (∀ s ∈ m.strings, M.fitN s.size) ∧ (∀ s ∈ m.names, M.fitN s.size) ∧ ∀ f ∈ m.funcs, M.fitFn f
theorem Lies.left {α : Type} {B k : Nat} {w : World} {P : List Value → α → Prop} {q : α → Prop} {a : Option Addr} {n : Nat} {xs : List α} (h : Lies B w k (fun cs z => P cs z ∧ q z) a n xs) : Lies B w k P a n xs ∧ ∀ z ∈ xs, q z :=
  ⟨⟨h.len, fun hn => by
    obtain ⟨b, off, ha, hB, hx⟩ := h.at_ hn
    refine ⟨b, off, ha, hB, fun i x hi => ?_⟩
    obtain ⟨cs, h1, h2, h3⟩ := hx i x hi
    exact ⟨cs, h1, h2.1, h3⟩⟩, fun z hz => by
    obtain ⟨cs, h1⟩ := h.all z hz
    exact h1.2⟩
theorem bulk_one {H : Type} (d : DataW H) : 1 ≤ Rows.uptoBulk d := by
  cases d with
  | lit l => cases l <;> simp [Rows.uptoBulk]
  | nil => simp [Rows.uptoBulk]
  | ptr d => simp [Rows.uptoBulk]
  | slice elems spare => simp [Rows.uptoBulk]
  | agg parts => simp [Rows.uptoBulk]
  | iface t d => simp [Rows.uptoBulk]
  | map entries => simp [Rows.uptoBulk]
  | held h => simp [Rows.uptoBulk]
theorem bulk_part {H : Type} {d : DataW H} : ∀ {l : List (DataW H)}, d ∈ l → Rows.uptoBulk d ≤ Rows.uptoBulkAll l
  | x :: r, h => by
    simp only [Rows.uptoBulkAll]
    rcases List.mem_cons.1 h with e | e
    · subst e; omega
    · have := bulk_part e; omega
theorem bulk_length {H : Type} : ∀ (l : List (DataW H)), l.length ≤ Rows.uptoBulkAll l
  | [] => by simp [Rows.uptoBulkAll]
  | x :: r => by have := bulk_one x; have := bulk_length r; simp only [Rows.uptoBulkAll, List.length_cons]; omega
section
variable {H : Type} {enc : TypeId × Value → H} {w : World} {fuel : Nat} {v : Value} {cs : List Value} {x : DataW H × List MemPlace}
theorem open_lies {α : Type} {t e : TypeId} {k : Nat} {P : List Value → α → Prop} {q : α → Prop} (ht : Tryz.prog.underlying t = some (.slice e)) (hk : Tryz.prog.cellsOf e = k) (h0 : 0 < k)
    (h : DataW.trod enc Tryz.prog w 0 (fun _ => true) true fuel t [v] = some x) (hs : Rows.uptoBulk x.1 ≤ 1048576)
    (hP : ∀ (fuel' : Nat) (cs : List Value) (y : DataW H × List MemPlace), DataW.trod enc Tryz.prog w 0 (fun _ => true) true fuel' e cs = some y → Rows.uptoBulk y.1 ≤ 1048576 → ∃ z, P cs z ∧ q z) :
    ∃ a n c xs, v = .slice a n c ∧ n ≤ maxLen ∧ M.fitN n ∧ Lies w.heap.size w k P a n xs ∧ ∀ z ∈ xs, q z := by
  rcases open_slice ht h with ⟨hcs, _⟩ | ⟨ad, l, c, m, n, D, Pl, hcs, _, hl, hm, hmm, hxx, hx⟩
  · simp at hcs
    exact ⟨_, _, _, [], hcs, Nat.zero_le _, Nat.zero_le _, ⟨rfl, fun h => absurd h (Nat.lt_irrefl _)⟩, fun z hz => by simp at hz⟩
  · simp at hcs hmm
    subst hmm
    subst hxx
    rw [hk] at hx
    simp only [Rows.uptoBulk] at hs
    have hln : l ≤ 1048576 := by
      have := bulk_length ((List.range l).map D)
      simp only [List.length_map, List.length_range] at this
      omega
    obtain ⟨b, off, spot⟩ := ad
    have hcell : ∀ i, i < l → ∃ cs : List Value, cs.length = k ∧ (∃ z, P cs z ∧ q z) ∧ ∀ j, j < k → w.cell? (((⟨b, off, spot⟩ : Addr).add (i * k)).add j) = cs[j]? := fun i hi => by
      obtain ⟨cs', h1, h2⟩ := hx i (by omega)
      obtain ⟨_, h3, h4⟩ := World.cells?_some h1
      have hmem : D i ∈ (List.range l).map D := List.mem_map.2 ⟨i, List.mem_range.2 hi, rfl⟩
      have := bulk_part hmem
      exact ⟨cs', h3, hP _ _ _ h2 (by show Rows.uptoBulk (D i) ≤ 1048576; omega), h4⟩
    obtain ⟨xs, hxl, hxs⟩ := many_list (p := fun i (z : α) => ∃ cs : List Value, cs.length = k ∧ (P cs z ∧ q z) ∧ ∀ j, j < k → w.cell? (((⟨b, off, spot⟩ : Addr).add (i * k)).add j) = cs[j]?) l (fun i hi => by
      obtain ⟨cs, h1, ⟨z, h2⟩, h3⟩ := hcell i (by omega)
      exact ⟨z, cs, h1, h2, h3⟩)
    have hL : Lies w.heap.size w k (fun cs z => P cs z ∧ q z) (some ⟨b, off, spot⟩) l xs := by
      refine ⟨hxl, fun hn => ?_⟩
      obtain ⟨cs0, h1, _, h3⟩ := hcell 0 (by omega)
      have c0 := h3 0 h0
      rw [List.getElem?_eq_getElem (by omega)] at c0
      have hspot : spot = none := by simpa [Addr.add] using World.cell?_spot c0
      subst hspot
      refine ⟨b, off, rfl, ?_, fun i z hi => ?_⟩
      · have := World.block_lt_of_cell? w _ c0
        simpa [Go.WideShapes.add_plain] using this
      · obtain ⟨cs, g1, g2, g3⟩ := hxs i z hi
        refine ⟨cs, g1, g2, fun j hj => ?_⟩
        have := g3 j hj
        rwa [Go.WideShapes.add_plain, Go.WideShapes.add_plain] at this
    exact ⟨_, l, m, xs, hcs, by omega, hln, hL.left.1, hL.left.2⟩
theorem open_num {t : TypeId} (ht : Tryz.prog.underlying t = some (.int .i64)) (h : DataW.trod enc Tryz.prog w 0 (fun _ => true) true fuel t cs = some x) : ∃ z, cs = [.int .i64 z] ∧ In64 z := by
  obtain ⟨z, e, _, hw⟩ := DataW.trod_int ht h
  refine ⟨z, e, ?_⟩
  have h1 : IntKind.i64.min = -9223372036854775808 := rfl
  simp [Lit.wf, h1] at hw
  exact hw
theorem open_text {t : TypeId} (ht : Tryz.prog.underlying t = some .string) (h : DataW.trod enc Tryz.prog w 0 (fun _ => true) true fuel t cs = some x) (hs : Rows.uptoBulk x.1 ≤ 1048576) : ∃ s : ByteArray, cs = [.string s] ∧ s.size ≤ maxLen ∧ M.fitN s.size := by
  obtain ⟨s, e, hx, h1⟩ := DataW.trod_string ht h
  refine ⟨s, e, h1, ?_⟩
  rw [hx] at hs
  have : s.data.toList.length ≤ 1048576 := by simp only [Rows.uptoBulk] at hs; omega
  rw [Array.length_toList] at this
  exact this
theorem imgInts (h : DataW.trod enc Tryz.prog w 0 (fun _ => true) true fuel 22 [v] = some x) (hs : Rows.uptoBulk x.1 ≤ 1048576) : ∃ a n c xs, v = .slice a n c ∧ n ≤ maxLen ∧ M.fitN n ∧ Ints w.heap.size w a n xs := by
  obtain ⟨a, n, c, xs, h1, h2, h3, h4, _⟩ := open_lies (k := 1) (P := IntIs) (q := fun _ => True) Tryz.underlying22 (by kernel_rfl) (by decide) h hs fun _ _ _ h _ => by
    obtain ⟨z, hz⟩ := open_num Tryz.underlying3 h
    exact ⟨z, hz, trivial⟩
  exact ⟨a, n, c, xs, h1, h2, h3, h4⟩
theorem imgTxts (h : DataW.trod enc Tryz.prog w 0 (fun _ => true) true fuel 33 [v] = some x) (hs : Rows.uptoBulk x.1 ≤ 1048576) : ∃ a n c xs, v = .slice a n c ∧ n ≤ maxLen ∧ M.fitN n ∧ Txts w.heap.size w a n xs ∧ ∀ s ∈ xs, M.fitN s.size :=
  open_lies (k := 1) (P := TxIs) (q := fun s => M.fitN s.size) Tryz.underlying33 (by kernel_rfl) (by decide) h hs fun _ _ _ h hs => by
    obtain ⟨s, e, h1, h2⟩ := open_text Tryz.underlying9 h hs
    exact ⟨s, ⟨e, h1⟩, h2⟩
theorem field_bulk {xs : List (DataW H × List MemPlace)} {pl : List MemPlace} (hs : Rows.uptoBulk ((.agg (xs.map (·.1)), pl) : DataW H × List MemPlace).1 ≤ 1048576) (j : Nat) {y : DataW H × List MemPlace} (hy : xs[j]? = some y) : Rows.uptoBulk y.1 ≤ 1048576 := by
  simp only [Rows.uptoBulk] at hs
  have := bulk_part (d := y.1) (l := xs.map (·.1)) (List.mem_map.2 ⟨y, List.mem_of_getElem? hy, rfl⟩)
  omega
theorem dInt : Tryz.prog.cellsOf 3 = 1 := by kernel_rfl
theorem dI64 : Tryz.prog.cellsOf 2 = 1 := by kernel_rfl
theorem dInts : Tryz.prog.cellsOf 22 = 1 := by kernel_rfl
theorem dBool : Tryz.prog.cellsOf 4 = 1 := by kernel_rfl
theorem dStr : Tryz.prog.cellsOf 9 = 1 := by kernel_rfl
theorem dStrs : Tryz.prog.cellsOf 33 = 1 := by kernel_rfl
theorem dTys : Tryz.prog.cellsOf 31 = 1 := by kernel_rfl
theorem dShs : Tryz.prog.cellsOf 32 = 1 := by kernel_rfl
theorem dFns : Tryz.prog.cellsOf 34 = 1 := by kernel_rfl
theorem dBks : Tryz.prog.cellsOf 50 = 1 := by kernel_rfl
theorem dInss : Tryz.prog.cellsOf 53 = 1 := by kernel_rfl
theorem dTy : Tryz.prog.cellsOf 24 = 2 := by kernel_rfl
theorem dSh : Tryz.prog.cellsOf 49 = 3 := by kernel_rfl
theorem dIns : Tryz.prog.cellsOf 43 = 9 := by kernel_rfl
theorem dBk : Tryz.prog.cellsOf 55 = 2 := by kernel_rfl
theorem dFn : Tryz.prog.cellsOf 52 = 4 := by kernel_rfl
theorem dImg : Tryz.prog.cellsOf 36 = 7 := by kernel_rfl
theorem imgTy (h : DataW.trod enc Tryz.prog w 0 (fun _ => true) true fuel 24 cs = some x) (hs : Rows.uptoBulk x.1 ≤ 1048576) : ∃ t, TyIs w.heap.size w cs t ∧ M.fitTy t := by
  obtain ⟨xs, n, _, hxe, hlen, hxl, hg⟩ := DataW.trod_struct Tryz.underlying24 h
  rw [dTy] at hlen
  obtain ⟨v0, v1, rfl⟩ := cells2 cs hlen
  have hx : ∀ i, i < 2 → ∃ y, xs[i]? = some y := fun i hi => ⟨_, List.getElem?_eq_getElem (by rw [hxl]; exact hi)⟩
  subst hxe
  obtain ⟨y0, g0⟩ := hx 0 (by decide)
  obtain ⟨y1, g1⟩ := hx 1 (by decide)
  have h0 := (hg 0 _ rfl).trans g0
  have s0 := field_bulk hs 0 g0
  have h1 := (hg 1 _ rfl).trans g1
  have s1 := field_bulk hs 1 g1
  simp only [List.getElem_toArray, List.getElem_cons_zero, List.getElem_cons_succ, dBool, dInt, dI64, dInts, dStr, dInss, dBks, List.drop_zero, List.drop_succ_cons, List.take_succ_cons, List.take_zero] at h0 h1
  obtain ⟨i0, e0, _⟩ := DataW.trod_bool Tryz.underlying4 h0
  obtain ⟨a1, n1, c1, z1, rfl, l1, f1, p1⟩ := imgInts h1 s1
  simp only [List.cons.injEq, and_true] at e0
  exact ⟨⟨i0, z1⟩, ⟨a1, n1, c1, by rw [e0], l1, p1⟩, (by have h := f1; rw [← p1.len] at h; exact h)⟩
theorem imgSh (h : DataW.trod enc Tryz.prog w 0 (fun _ => true) true fuel 49 cs = some x) (hs : Rows.uptoBulk x.1 ≤ 1048576) : ∃ t, ShIs w.heap.size w cs t ∧ M.fitSh t := by
  obtain ⟨xs, n, _, hxe, hlen, hxl, hg⟩ := DataW.trod_struct Tryz.underlying49 h
  rw [dSh] at hlen
  obtain ⟨v0, v1, v2, rfl⟩ := cells3 cs hlen
  have hx : ∀ i, i < 3 → ∃ y, xs[i]? = some y := fun i hi => ⟨_, List.getElem?_eq_getElem (by rw [hxl]; exact hi)⟩
  subst hxe
  obtain ⟨y0, g0⟩ := hx 0 (by decide)
  obtain ⟨y1, g1⟩ := hx 1 (by decide)
  obtain ⟨y2, g2⟩ := hx 2 (by decide)
  have h0 := (hg 0 _ rfl).trans g0
  have s0 := field_bulk hs 0 g0
  have h1 := (hg 1 _ rfl).trans g1
  have s1 := field_bulk hs 1 g1
  have h2 := (hg 2 _ rfl).trans g2
  have s2 := field_bulk hs 2 g2
  simp only [List.getElem_toArray, List.getElem_cons_zero, List.getElem_cons_succ, dBool, dInt, dI64, dInts, dStr, dInss, dBks, List.drop_zero, List.drop_succ_cons, List.take_succ_cons, List.take_zero] at h0 h1 h2
  obtain ⟨i0, e0, k0⟩ := open_num Tryz.underlying3 h0
  obtain ⟨a1, n1, c1, z1, rfl, l1, f1, p1⟩ := imgInts h1 s1
  obtain ⟨i2, e2, k2, f2⟩ := open_text Tryz.underlying9 h2 s2
  simp only [List.cons.injEq, and_true] at e0 e2
  exact ⟨⟨i0, z1, i2⟩, ⟨a1, n1, c1, by rw [e0, e2], l1, k0, k2, p1⟩, ⟨(by have h := f1; rw [← p1.len] at h; exact h), f2⟩⟩
theorem imgIns (h : DataW.trod enc Tryz.prog w 0 (fun _ => true) true fuel 43 cs = some x) (hs : Rows.uptoBulk x.1 ≤ 1048576) : ∃ t, InsIs w.heap.size w cs t ∧ M.fitIns t := by
  obtain ⟨xs, n, _, hxe, hlen, hxl, hg⟩ := DataW.trod_struct Tryz.underlying43 h
  rw [dIns] at hlen
  obtain ⟨v0, v1, v2, v3, v4, v5, v6, v7, v8, rfl⟩ := cells9 cs hlen
  have hx : ∀ i, i < 9 → ∃ y, xs[i]? = some y := fun i hi => ⟨_, List.getElem?_eq_getElem (by rw [hxl]; exact hi)⟩
  subst hxe
  obtain ⟨y0, g0⟩ := hx 0 (by decide)
  obtain ⟨y1, g1⟩ := hx 1 (by decide)
  obtain ⟨y2, g2⟩ := hx 2 (by decide)
  obtain ⟨y3, g3⟩ := hx 3 (by decide)
  obtain ⟨y4, g4⟩ := hx 4 (by decide)
  obtain ⟨y5, g5⟩ := hx 5 (by decide)
  obtain ⟨y6, g6⟩ := hx 6 (by decide)
  obtain ⟨y7, g7⟩ := hx 7 (by decide)
  obtain ⟨y8, g8⟩ := hx 8 (by decide)
  have h0 := (hg 0 _ rfl).trans g0
  have s0 := field_bulk hs 0 g0
  have h1 := (hg 1 _ rfl).trans g1
  have s1 := field_bulk hs 1 g1
  have h2 := (hg 2 _ rfl).trans g2
  have s2 := field_bulk hs 2 g2
  have h3 := (hg 3 _ rfl).trans g3
  have s3 := field_bulk hs 3 g3
  have h4 := (hg 4 _ rfl).trans g4
  have s4 := field_bulk hs 4 g4
  have h5 := (hg 5 _ rfl).trans g5
  have s5 := field_bulk hs 5 g5
  have h6 := (hg 6 _ rfl).trans g6
  have s6 := field_bulk hs 6 g6
  have h7 := (hg 7 _ rfl).trans g7
  have s7 := field_bulk hs 7 g7
  have h8 := (hg 8 _ rfl).trans g8
  have s8 := field_bulk hs 8 g8
  simp only [List.getElem_toArray, List.getElem_cons_zero, List.getElem_cons_succ, dBool, dInt, dI64, dInts, dStr, dInss, dBks, List.drop_zero, List.drop_succ_cons, List.take_succ_cons, List.take_zero] at h0 h1 h2 h3 h4 h5 h6 h7 h8
  obtain ⟨i0, e0, k0⟩ := open_num Tryz.underlying3 h0
  obtain ⟨i1, e1, k1⟩ := open_num Tryz.underlying3 h1
  obtain ⟨i2, e2, k2⟩ := open_num Tryz.underlying3 h2
  obtain ⟨i3, e3, k3⟩ := open_num Tryz.underlying3 h3
  obtain ⟨i4, e4, k4⟩ := open_num Tryz.underlying3 h4
  obtain ⟨i5, e5, k5⟩ := open_num Tryz.underlying2 h5
  obtain ⟨a6, n6, c6, z6, rfl, l6, f6, p6⟩ := imgInts h6 s6
  obtain ⟨a7, n7, c7, z7, rfl, l7, f7, p7⟩ := imgInts h7 s7
  obtain ⟨a8, n8, c8, z8, rfl, l8, f8, p8⟩ := imgInts h8 s8
  simp only [List.cons.injEq, and_true] at e0 e1 e2 e3 e4 e5
  exact ⟨⟨i0, i1, i2, i3, i4, i5, z6, z7, z8⟩, ⟨a6, n6, c6, a7, n7, c7, a8, n8, c8, by rw [e0, e1, e2, e3, e4, e5], l6, l7, l8, ⟨k0, k1, k2, k3, k4, k5⟩, p6, p7, p8⟩, ⟨(by have h := f6; rw [← p6.len] at h; exact h), (by have h := f7; rw [← p7.len] at h; exact h), (by have h := f8; rw [← p8.len] at h; exact h)⟩⟩
theorem imgBk (h : DataW.trod enc Tryz.prog w 0 (fun _ => true) true fuel 55 cs = some x) (hs : Rows.uptoBulk x.1 ≤ 1048576) : ∃ t, BkIs w.heap.size w cs t ∧ M.fitBk t := by
  obtain ⟨xs, n, _, hxe, hlen, hxl, hg⟩ := DataW.trod_struct Tryz.underlying55 h
  rw [dBk] at hlen
  obtain ⟨v0, v1, rfl⟩ := cells2 cs hlen
  have hx : ∀ i, i < 2 → ∃ y, xs[i]? = some y := fun i hi => ⟨_, List.getElem?_eq_getElem (by rw [hxl]; exact hi)⟩
  subst hxe
  obtain ⟨y0, g0⟩ := hx 0 (by decide)
  obtain ⟨y1, g1⟩ := hx 1 (by decide)
  have h0 := (hg 0 _ rfl).trans g0
  have s0 := field_bulk hs 0 g0
  have h1 := (hg 1 _ rfl).trans g1
  have s1 := field_bulk hs 1 g1
  simp only [List.getElem_toArray, List.getElem_cons_zero, List.getElem_cons_succ, dBool, dInt, dI64, dInts, dStr, dInss, dBks, List.drop_zero, List.drop_succ_cons, List.take_succ_cons, List.take_zero] at h0 h1
  obtain ⟨a0, n0, c0, z0, rfl, l0, f0, p0⟩ := imgInts h0 s0
  obtain ⟨a1, n1, c1, z1, rfl, l1, f1, p1, q1⟩ := open_lies (P := InsIs w.heap.size w) (q := M.fitIns) Tryz.underlying53 dIns (by decide) h1 s1 fun _ _ _ h hs => imgIns h hs
  exact ⟨⟨z0, z1⟩, ⟨a0, n0, c0, a1, n1, c1, rfl, l0, l1, p0, p1⟩, ⟨(by have h := f0; rw [← p0.len] at h; exact h), (by have h := f1; rw [← p1.len] at h; exact h), q1⟩⟩
theorem imgFn (h : DataW.trod enc Tryz.prog w 0 (fun _ => true) true fuel 52 cs = some x) (hs : Rows.uptoBulk x.1 ≤ 1048576) : ∃ t, FnIs w.heap.size w cs t ∧ M.fitFn t := by
  obtain ⟨xs, n, _, hxe, hlen, hxl, hg⟩ := DataW.trod_struct Tryz.underlying52 h
  rw [dFn] at hlen
  obtain ⟨v0, v1, v2, v3, rfl⟩ := cells4 cs hlen
  have hx : ∀ i, i < 4 → ∃ y, xs[i]? = some y := fun i hi => ⟨_, List.getElem?_eq_getElem (by rw [hxl]; exact hi)⟩
  subst hxe
  obtain ⟨y0, g0⟩ := hx 0 (by decide)
  obtain ⟨y1, g1⟩ := hx 1 (by decide)
  obtain ⟨y2, g2⟩ := hx 2 (by decide)
  obtain ⟨y3, g3⟩ := hx 3 (by decide)
  have h0 := (hg 0 _ rfl).trans g0
  have s0 := field_bulk hs 0 g0
  have h1 := (hg 1 _ rfl).trans g1
  have s1 := field_bulk hs 1 g1
  have h2 := (hg 2 _ rfl).trans g2
  have s2 := field_bulk hs 2 g2
  have h3 := (hg 3 _ rfl).trans g3
  have s3 := field_bulk hs 3 g3
  simp only [List.getElem_toArray, List.getElem_cons_zero, List.getElem_cons_succ, dBool, dInt, dI64, dInts, dStr, dInss, dBks, List.drop_zero, List.drop_succ_cons, List.take_succ_cons, List.take_zero] at h0 h1 h2 h3
  obtain ⟨a0, n0, c0, z0, rfl, l0, f0, p0⟩ := imgInts h0 s0
  obtain ⟨i1, e1, k1⟩ := open_num Tryz.underlying3 h1
  obtain ⟨i2, e2, k2⟩ := open_num Tryz.underlying3 h2
  obtain ⟨a3, n3, c3, z3, rfl, l3, f3, p3, q3⟩ := open_lies (P := BkIs w.heap.size w) (q := M.fitBk) Tryz.underlying50 dBk (by decide) h3 s3 fun _ _ _ h hs => imgBk h hs
  simp only [List.cons.injEq, and_true] at e1 e2
  exact ⟨⟨z0, i1, i2, z3⟩, ⟨a0, n0, c0, a3, n3, c3, by rw [e1, e2], l0, l3, k1, k2, p0, p3⟩, ⟨(by have h := f0; rw [← p0.len] at h; exact h), (by have h := f3; rw [← p3.len] at h; exact h), q3⟩⟩
theorem img_cells (h : DataW.trod enc Tryz.prog w 0 (fun _ => true) true fuel 36 cs = some x) (hs : Rows.uptoBulk x.1 ≤ 1048576) : ∃ v m, cs = (ImgV.cells v).toList ∧ ImgIs w.heap.size w v m ∧ M.fitImg m := by
  obtain ⟨xs, n, _, hxe, hlen, hxl, hg⟩ := DataW.trod_struct Tryz.underlying36 h
  rw [dImg] at hlen
  obtain ⟨v0, v1, v2, v3, v4, v5, v6, rfl⟩ := cells7 cs hlen
  have hx : ∀ i, i < 7 → ∃ y, xs[i]? = some y := fun i hi => ⟨_, List.getElem?_eq_getElem (by rw [hxl]; exact hi)⟩
  subst hxe
  obtain ⟨y0, g0⟩ := hx 0 (by decide)
  obtain ⟨y1, g1⟩ := hx 1 (by decide)
  obtain ⟨y2, g2⟩ := hx 2 (by decide)
  obtain ⟨y3, g3⟩ := hx 3 (by decide)
  obtain ⟨y4, g4⟩ := hx 4 (by decide)
  obtain ⟨y5, g5⟩ := hx 5 (by decide)
  obtain ⟨y6, g6⟩ := hx 6 (by decide)
  have h0 := (hg 0 _ rfl).trans g0
  have s0 := field_bulk hs 0 g0
  have h1 := (hg 1 _ rfl).trans g1
  have s1 := field_bulk hs 1 g1
  have h2 := (hg 2 _ rfl).trans g2
  have s2 := field_bulk hs 2 g2
  have h3 := (hg 3 _ rfl).trans g3
  have s3 := field_bulk hs 3 g3
  have h4 := (hg 4 _ rfl).trans g4
  have s4 := field_bulk hs 4 g4
  have h5 := (hg 5 _ rfl).trans g5
  have s5 := field_bulk hs 5 g5
  have h6 := (hg 6 _ rfl).trans g6
  have s6 := field_bulk hs 6 g6
  simp only [List.getElem_toArray, List.getElem_cons_zero, List.getElem_cons_succ, dInt, dTys, dShs, dStrs, dFns, List.drop_zero, List.drop_succ_cons, List.take_succ_cons, List.take_zero] at h0 h1 h2 h3 h4 h5 h6
  obtain ⟨ta, tn, tc, ts, rfl, l0, f0, p0, q0⟩ := open_lies (P := TyIs w.heap.size w) (q := M.fitTy) Tryz.underlying31 dTy (by decide) h0 s0 fun _ _ _ h hs => imgTy h hs
  obtain ⟨sa, sn, sc, ss, rfl, l1, f1, p1, q1⟩ := open_lies (P := ShIs w.heap.size w) (q := M.fitSh) Tryz.underlying32 dSh (by decide) h1 s1 fun _ _ _ h hs => imgSh h hs
  obtain ⟨xa, xn, xc, xs2, rfl, l2, f2, p2, q2⟩ := imgTxts h2 s2
  obtain ⟨na, nn, nc, ns, rfl, l3, f3, p3, q3⟩ := imgTxts h3 s3
  obtain ⟨fa, fn, fc, fs, rfl, l4, f4, p4, q4⟩ := open_lies (P := FnIs w.heap.size w) (q := M.fitFn) Tryz.underlying34 dFn (by decide) h4 s4 fun _ _ _ h hs => imgFn h hs
  obtain ⟨i5, e5, w5⟩ := open_num Tryz.underlying3 h5
  obtain ⟨i6, e6, w6⟩ := open_num Tryz.underlying3 h6
  simp only [List.cons.injEq, and_true] at e5 e6
  refine ⟨⟨ta, tn, tc, sa, sn, sc, xa, xn, xc, na, nn, nc, fa, fn, fc, i5, i6⟩, ⟨ts, ss, xs2, ns, fs, i5, i6⟩, by rw [e5, e6], ⟨rfl, rfl, w5, w6, ⟨l0, l1, l2, l3, l4⟩, p0, p1, p2, p3, p4⟩, ⟨by have h := f0; rw [← p0.len] at h; exact h, by have h := f1; rw [← p1.len] at h; exact h, by have h := f2; rw [← p2.len] at h; exact h, by have h := f3; rw [← p3.len] at h; exact h, by have h := f4; rw [← p4.len] at h; exact h⟩, q0, q1, q2, q3, q4⟩
end
end Go.Proofs.YtilfmnlbnfhkpaaGreatDoor
/- A type as an argument, of however many shapes. -/
namespace Go.Proofs.YtilfmnlbnfhkpaaGreatDoor
set_option linter.unusedVariables false
set_option linter.unusedSimpArgs false
open Go.ChangeShapes Go.WideShapes Go.ChangeAt Go.RowKit Go.Deep
section
variable {H : Type} {enc : TypeId × Value → H} {w : World} {fuel : Nat} {v : Value} {cs : List Value} {x : DataW H × List MemPlace}
theorem ints_arg (h : DataW.trod enc Tryz.prog w 0 (fun _ => true) true fuel 22 [v] = some x) : ∃ a n c xs, v = .slice a n c ∧ TyArg w a n c xs := by
  rcases open_slice Tryz.underlying22 h with ⟨hcs, _⟩ | ⟨ad, l, c, m, n, D, Pl, hcs, _, hl, hm, hmm, hxx, hx⟩
  · simp at hcs
    exact ⟨_, _, _, [], hcs, ⟨⟨rfl, fun h => absurd h (Nat.lt_irrefl _)⟩, Nat.zero_le _, Nat.le_refl _, Nat.zero_le _⟩⟩
  · simp at hcs hmm
    subst hmm
    rw [show Tryz.prog.cellsOf 3 = 1 by kernel_rfl] at hx
    obtain ⟨b, off, spot⟩ := ad
    have hcell : ∀ i, i < l → ∃ z : Int, In64 z ∧ w.cell? ((⟨b, off, spot⟩ : Addr).add i) = some (.int .i64 z) := fun i hi => by
      obtain ⟨cs', h1, h2⟩ := hx i (by omega)
      obtain ⟨_, h3, h4⟩ := World.cells?_some h1
      obtain ⟨z, hz, hzw⟩ := open_num Tryz.underlying3 h2
      subst hz
      have := h4 0 (by decide)
      simp [Addr.add] at this
      exact ⟨z, hzw, by simpa [Addr.add] using this⟩
    obtain ⟨xs, hxl, hxs⟩ := many_list (p := fun i (z : Int) => In64 z ∧ w.cell? ((⟨b, off, spot⟩ : Addr).add i) = some (.int .i64 z)) l hcell
    refine ⟨_, l, m, xs, hcs, ⟨hxl, fun hn => ?_⟩, by omega, by omega, by omega⟩
    obtain ⟨z0, _, c0⟩ := hcell 0 (by omega)
    have hspot : spot = none := by simpa [Addr.add] using World.cell?_spot c0
    subst hspot
    refine ⟨b, off, rfl, ?_, fun i z hi => ?_⟩
    · have := World.block_lt_of_cell? w _ c0
      simpa [Go.WideShapes.add_plain] using this
    · obtain ⟨g1, g2⟩ := hxs i z hi
      refine ⟨[.int .i64 z], rfl, ⟨rfl, g1⟩, fun j hj => ?_⟩
      obtain rfl : j = 0 := by omega
      rw [Go.WideShapes.add_plain] at g2
      simpa using g2
theorem type_open (h : DataW.trod enc Tryz.prog w 0 (fun _ => true) true fuel 24 cs = some x) : ∃ im a n c xs, cs = [.bool im, .slice a n c] ∧ TyArg w a n c xs := by
  obtain ⟨xs, n, _, hxe, hlen, hxl, hg⟩ := DataW.trod_struct Tryz.underlying24 h
  rw [dTy] at hlen
  obtain ⟨v0, v1, rfl⟩ := cells2 cs hlen
  have hx : ∀ i, i < 2 → ∃ y, xs[i]? = some y := fun i hi => ⟨_, List.getElem?_eq_getElem (by rw [hxl]; exact hi)⟩
  subst hxe
  obtain ⟨y0, g0⟩ := hx 0 (by decide)
  obtain ⟨y1, g1⟩ := hx 1 (by decide)
  have h0 := (hg 0 _ rfl).trans g0
  have h1 := (hg 1 _ rfl).trans g1
  simp only [List.getElem_toArray, List.getElem_cons_zero, List.getElem_cons_succ, dBool, dInts, List.drop_zero, List.drop_succ_cons, List.take_succ_cons, List.take_zero] at h0 h1
  obtain ⟨i0, e0, _⟩ := DataW.trod_bool Tryz.underlying4 h0
  obtain ⟨a1, n1, c1, z1, rfl, p1⟩ := ints_arg h1
  simp only [List.cons.injEq, and_true] at e0
  exact ⟨i0, a1, n1, c1, z1, by rw [e0], p1⟩
end
end Go.Proofs.YtilfmnlbnfhkpaaGreatDoor
