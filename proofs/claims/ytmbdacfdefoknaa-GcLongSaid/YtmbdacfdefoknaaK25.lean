/- Lemmas, put together: LongW Long2W. -/
import Derived.Test.YtmbdacfdefoknaaK24
import Derived.Test.YtmbdacfdefoknaaK23
/- A chain of any length, and a ring, are kept whole, from wherever they are held. -/
namespace Go.Proofs.Ytmbdacfdefoknaa
set_option linter.unusedVariables false
open Go.ChangeShapes Go.WideShapes Go.ChangeAt Go.RowKit
open M (W)

section
variable {w0 w w' : World} {g gw n : Nat} {K N : Int} {s s' : St} {L L' : List RO}
theorem Owned.allocT (h : Owned w0 w g gw n K N s L) (k : Nat) (hK : K = 1 ∧ N = k ∨ K = 2) (hk : k ≤ 65536) (hf : 1 + k ≤ n - s.top) :
    Calls Try.prog 39 #[.pointer (some ⟨g, 0, none⟩), .int .i64 0, .int .i64 k] w fun e w' => e = .returned (.tuple #[.int .i64 s.top, .int .i64 0]) ∧ Turn (fun k => k = g ∨ k = gw) w w' ∧ ∃ s', Owned w0 w' g gw n K N s' (L ++ [M.objF s.top 0 k (List.replicate k 1)]) ∧ s'.top = s.top + (1 + k) := by
  have hr := right_alloc h.right 0 k (by have := h.kind.1; rw [show ((0 : Nat) : Int) = 0 from rfl, this]; omega) (h.needs k (by omega) hk) (by rw [h.en]; exact hf)
  rw [h.ptr] at hr
  refine hr.mono ?_
  rintro e w' ⟨rfl, hr, t⟩
  exact ⟨rfl, t.mono fun k _ e => by rw [← h.eg, ← h.egw]; exact e, _, h.step hr t ⟨rfl, rfl, rfl, rfl, rfl, rfl⟩, rfl⟩
theorem Owned.setT (h : Owned w0 w g gw n K N s L) {k j v : Nat} {o : RO} (hk : L[k]? = some o) (hj : j < o.fs.length) (hv : v < 18446744073709551616) (hf : s.fits v = true) :
    Calls Try.prog 41 #[.pointer (some ⟨g, 0, none⟩), .int .i64 o.at_, .int .i64 j, .int .u64 v] w fun e w' => e = .returned (.int .i64 0) ∧ Turn (fun k => k = g ∨ k = gw) w w' ∧ ∃ s', Owned w0 w' g gw n K N s' (L.set k { o with fs := o.fs.set j v }) ∧ s'.top = s.top := by
  have hr := right_set h.right hk hj hv hf
  rw [h.ptr] at hr
  refine hr.mono ?_
  rintro e w' ⟨rfl, hr, t⟩
  exact ⟨rfl, t.mono fun k _ e => .inr (by rw [← h.egw]; exact e), _, h.step hr (t.mono fun _ _ e => .inr e) ⟨rfl, rfl, rfl, rfl, rfl, rfl⟩, rfl⟩
theorem Owned.keepInts (h : Owned w0 w g gw n K N s L) (t : Turn (fun b => b = g ∨ b = gw) w w') {B : Nat} {v : Value} {k : Nat} {xs : List Value} (ho : w.ownsRow B 3 1 v k xs) : w'.ownsRow B 3 1 v k xs :=
  h.right.own_keep (t.mono fun k _ e => by rw [h.eg, h.egw]; exact e) ho
end
/-- The ring: the object number i + 1 points at the one number nx i, and holds i; where only the first m of them are set so. -/
def M.nxt (back : Bool) (n i : Nat) : Nat := if back then (i + n - 1) % n else (i + 1) % n
def M.link (back : Bool) (n j i : Nat) : RO := M.objF (3 * (i + 1)) 0 2 (if i < j then [6 * (M.nxt back n i + 1), 2 * i + 1] else [1, 1])
def M.ring (back : Bool) (n j : Nat) : List RO := M.objF 0 0 2 [1, 1] :: (List.range n).map (M.link back n j)
theorem nxt_lt {back : Bool} {n i : Nat} (h : 0 < n) : M.nxt back n i < n := by
  unfold M.nxt; split <;> exact Nat.mod_lt _ h
theorem ring_get {back : Bool} {n j i : Nat} (h : i < n) : (M.ring back n j)[i + 1]? = some (M.link back n j i) := by
  unfold M.ring
  rw [List.getElem?_cons_succ, List.getElem?_map, List.getElem?_range h]; rfl
theorem ring_mem {back : Bool} {n j i : Nat} (h : i < n) : M.link back n j i ∈ M.ring back n j := List.mem_of_getElem? (ring_get h)
/-- The two fields of one more are set. -/
theorem ring_step {back : Bool} {n j : Nat} (h : j < n) : ((M.ring back n j).set (j + 1) (M.objF (3 * (j + 1)) 0 2 [6 * (M.nxt back n j + 1), 1])).set (j + 1) (M.objF (3 * (j + 1)) 0 2 [6 * (M.nxt back n j + 1), 2 * j + 1]) = M.ring back n (j + 1) := by
  rw [List.set_set]
  unfold M.ring
  rw [List.set_cons_succ]
  congr 1
  apply List.ext_getElem?
  intro i
  rw [List.getElem?_set, List.getElem?_map, List.getElem?_map, List.length_map, List.length_range]
  by_cases hi : i < n
  · rw [List.getElem?_range hi]
    by_cases e : j = i
    · subst e
      rw [if_pos rfl, if_pos h]
      unfold M.link
      rw [Option.map_some, if_pos (by omega)]
    · rw [if_neg e]
      unfold M.link
      simp only [Option.map_some]
      by_cases e2 : i < j
      · rw [if_pos e2, if_pos (by omega)]
      · rw [if_neg e2, if_neg (by omega)]
  · rw [List.getElem?_eq_none (l := List.range n) (by simp; omega)]
    rw [if_neg (by omega)]; rfl
/-- So many steps from i0 on. -/
def M.walk (back : Bool) (n i0 : Nat) : Nat → Nat
  | 0 => i0
  | k + 1 => M.nxt back n (M.walk back n i0 k)
theorem walk_lt {back : Bool} {n i0 : Nat} (h : i0 < n) : ∀ k, M.walk back n i0 k < n
  | 0 => h
  | k + 1 => nxt_lt (by omega)
theorem walk_eq {back : Bool} {n i0 : Nat} (h : i0 < n) : ∀ k, k ≤ n → M.walk back n i0 k = if back then (i0 + (n - k)) % n else (i0 + k) % n
  | 0, _ => by
    unfold M.walk
    cases back
    · simp [Nat.mod_eq_of_lt h]
    · simp [Nat.mod_eq_of_lt h]
  | k + 1, hk => by
    rw [M.walk, walk_eq h k (by omega)]
    unfold M.nxt
    cases back
    · simp only [Bool.false_eq_true, if_false]
      rw [Nat.mod_add_mod, Nat.add_assoc]
    · simp only [if_true]
      have e : (i0 + (n - k)) % n + n - 1 = (i0 + (n - k)) % n + (n - 1) := by omega
      rw [e, Nat.mod_add_mod, show i0 + (n - k) + (n - 1) = (i0 + (n - (k + 1))) + n by omega, Nat.add_mod_right]
theorem walk_end {back : Bool} {n i0 : Nat} (h : i0 < n) : M.walk back n i0 n = i0 := by
  rw [walk_eq h n (Nat.le_refl _)]
  cases back <;> simp [Nat.mod_eq_of_lt h]
theorem walk_all {back : Bool} {n i0 j : Nat} (h : i0 < n) (hj : j < n) : ∃ k, M.walk back n i0 k = j := by
  by_cases e : j < i0
  · cases back
    · refine ⟨j + n - i0, ?_⟩
      rw [walk_eq h _ (by omega)]
      simp only [Bool.false_eq_true, if_false]
      rw [show i0 + (j + n - i0) = j + n by omega, Nat.add_mod_right, Nat.mod_eq_of_lt hj]
    · refine ⟨i0 - j, ?_⟩
      rw [walk_eq h _ (by omega)]
      simp only [if_true]
      rw [show i0 + (n - (i0 - j)) = j + n by omega, Nat.add_mod_right, Nat.mod_eq_of_lt hj]
  · cases back
    · refine ⟨j - i0, ?_⟩
      rw [walk_eq h _ (by omega)]
      simp only [Bool.false_eq_true, if_false]
      rw [show i0 + (j - i0) = j by omega, Nat.mod_eq_of_lt hj]
    · by_cases e2 : j = i0
      · exact ⟨0, by unfold M.walk; omega⟩
      · refine ⟨n - (j - i0), ?_⟩
        rw [walk_eq h _ (by omega)]
        simp only [if_true]
        rw [show i0 + (n - (n - (j - i0))) = j by omega, Nat.mod_eq_of_lt hj]
/-- From one of the ring all of it is reached, and nothing else. -/
theorem ring_mk {back : Bool} {n i0 : Nat} (h : i0 < n) {mk : Nat → Bool} (hm : ∀ b, mk b = true ↔ M.Rch (M.ring back n n) [6 * (i0 + 1)] b) : mk 0 = false ∧ ∀ i, i < n → mk (3 * (i + 1)) = true := by
  have hw : ∀ k, M.Rch (M.ring back n n) [6 * (i0 + 1)] (3 * (M.walk back n i0 k + 1)) := by
    intro k
    induction k with
    | zero =>
      have := M.Rch.root (L := M.ring back n n) (rl := [6 * (i0 + 1)]) (v := 6 * (i0 + 1)) (by simp) (by omega)
      rwa [show 6 * (i0 + 1) / 2 = 3 * (i0 + 1) by omega] at this
    | succ k ih =>
      have hl := walk_lt (back := back) h k
      have := M.Rch.field (L := M.ring back n n) (rl := [6 * (i0 + 1)]) (o := M.link back n n (M.walk back n i0 k)) (v := 6 * (M.nxt back n (M.walk back n i0 k) + 1)) (ring_mem hl) ih (by unfold M.link M.objF; simp [hl]) (by omega)
      rwa [show 6 * (M.nxt back n (M.walk back n i0 k) + 1) / 2 = 3 * (M.walk back n i0 (k + 1) + 1) by rw [M.walk]; omega] at this
  refine ⟨?_, fun i hi => ?_⟩
  · cases h0 : mk 0 with
    | false => rfl
    | true =>
      exfalso
      have key : ∀ b, M.Rch (M.ring back n n) [6 * (i0 + 1)] b → 3 ≤ b := by
        intro b hb
        induction hb with
        | @root v hv he => simp at hv; omega
        | @field o v ho _ hv he ih =>
          unfold M.ring at ho
          rcases List.mem_cons.1 ho with e | ho
          · subst e; simp [M.objF] at ih
          · obtain ⟨i, hi, e⟩ := List.mem_map.1 ho
            subst e
            have hi' := List.mem_range.1 hi
            simp [M.link, M.objF, hi'] at hv
            omega
      have := key 0 ((hm 0).1 h0)
      omega
  · obtain ⟨k, hk⟩ := walk_all (back := back) h hi
    have := hw k
    rw [hk] at this
    exact (hm _).2 this
/-- Where the ring is moved: one object down. -/
theorem range_tof {w0 w : World} {g gw q : Nat} {s : St} {L : List RO} (ho : Owned w0 w g gw q 1 2 s L) {back : Bool} {n : Nat} {mk : Nat → Bool} (hm : ∀ i, i < n → mk (3 * (i + 1)) = true) : ∀ m, m ≤ n → ∀ a, M.tof s mk ((List.range m).map (M.link back n n)) (3 * (a + 1)) = 3 * min a m
  | 0, _, a => by simp [M.tof]
  | m + 1, hmn, a => by
    have hz : s.sz (M.link back n n m) = 3 := by
      unfold St.sz St.need
      show (M.need (s.kind 0) (s.len 0) 2).toNat = 3
      rw [ho.kind.1, ho.kind.2]; rfl
    rw [List.range_succ, List.map_append, tof_append, range_tof ho hm m (by omega) a]
    rw [List.map_cons, List.map_nil, M.tof, M.tof, hz]
    by_cases e : m < a
    · rw [if_pos ⟨hm m (by omega), show 3 * (m + 1) < 3 * (a + 1) by omega⟩]; omega
    · rw [if_neg (fun x => e (by have h1 : 3 * (m + 1) < 3 * (a + 1) := x.2; omega))]; omega
def M.sunk (back : Bool) (n i : Nat) : RO := M.objF (3 * i) 0 2 [6 * M.nxt back n i, 2 * i + 1]
theorem ring_moved {w0 w : World} {g gw q : Nat} {s : St} {L : List RO} (ho : Owned w0 w g gw q 1 2 s L) {back : Bool} {n i0 : Nat} (h : i0 < n) {mk : Nat → Bool} (hm : ∀ b, mk b = true ↔ M.Rch (M.ring back n n) [6 * (i0 + 1)] b) :
    (∀ a, a ≤ n → M.tof s mk (M.ring back n n) (3 * (a + 1)) = 3 * a) ∧ M.slid mk (M.tof s mk (M.ring back n n)) (M.ring back n n) = (List.range n).map (M.sunk back n) := by
  obtain ⟨m0, ma⟩ := ring_mk h hm
  have ht : ∀ a, a ≤ n → M.tof s mk (M.ring back n n) (3 * (a + 1)) = 3 * a := fun a ha => by
    unfold M.ring
    rw [M.tof, if_neg (fun x => by have h1 : mk 0 = true := x.1; rw [m0] at h1; simp at h1), range_tof ho ma n (Nat.le_refl _) a]
    omega
  refine ⟨ht, ?_⟩
  generalize M.tof s mk (M.ring back n n) = t at *
  unfold M.ring
  rw [slid_cons]
  rw [if_neg (fun h1 => by have h2 : mk 0 = true := h1; rw [m0] at h2; simp at h2)]
  unfold M.slid
  rw [List.filter_eq_self.2 (fun o ho => by
    obtain ⟨i, hi, rfl⟩ := List.mem_map.1 ho
    exact ma i (List.mem_range.1 hi)), List.map_map]
  refine List.map_congr_left fun i hi => ?_
  have hi' := List.mem_range.1 hi
  have hx := nxt_lt (back := back) (n := n) (i := i) (by omega)
  show (M.link back n n i).goes t = _
  unfold M.link RO.goes M.objF M.sunk M.objF
  rw [if_pos hi']
  have e1 : M.ren t (6 * (M.nxt back n i + 1)) = 6 * M.nxt back n i := by
    unfold M.ren
    rw [if_pos (by omega), show 6 * (M.nxt back n i + 1) / 2 = 3 * (M.nxt back n i + 1) by omega, ht _ (by omega)]; omega
  have e2 : M.ren t (2 * i + 1) = 2 * i + 1 := by unfold M.ren; rw [if_neg (by omega)]
  simp only [List.map_cons, List.map_nil, e1, e2, ht i (by omega)]
end Go.Proofs.Ytmbdacfdefoknaa
/- The walk of GcLong. -/
namespace Go.Proofs.Ytmbdacfdefoknaa
set_option linter.unusedVariables false
open Go.ChangeShapes Go.WideShapes Go.ChangeAt Go.RowKit
open M (W)

theorem imm_lit (k : Nat) (hk : k ≤ 65536) (w : World) : Calls Try.prog 38 #[.int .i64 k] w fun e w' => e = .returned (.int .u64 (2 * k + 1 : Nat)) ∧ w' = w := by
  have := imm_any (k : Int) w
  rwa [show (2 * (k : Int) + 1) % 18446744073709551616 = ((2 * k + 1 : Nat) : Int) by omega] at this
/-- One more of the ring is set: the first field, and the second. -/
theorem ring_set1 {w w0 : World} {g gw Z : Nat} {s : St} {back : Bool} {n j k : Nat} (h : Owned w0 w g gw Z 1 2 s (M.ring back n j)) (hj : j < n) (hk : M.nxt back n j = k) (hkn : k < n) (hn : n ≤ 400) :
    Calls Try.prog 41 #[.pointer (some ⟨g, 0, none⟩), .int .i64 (3 * (j + 1) : Nat), .int .i64 0, .int .u64 (2 * (3 * (k + 1)) : Nat)] w fun e w' => e = .returned (.int .i64 0) ∧ Turn (fun k => k = g ∨ k = gw) w w' ∧ ∃ s', Owned w0 w' g gw Z 1 2 s' ((M.ring back n j).set (j + 1) (M.objF (3 * (j + 1)) 0 2 [6 * (M.nxt back n j + 1), 1])) ∧ s'.top = s.top := by
  have := h.setT (k := j + 1) (j := 0) (v := 2 * (3 * (k + 1))) (o := M.link back n j j) (ring_get hj) (by unfold M.link M.objF; simp) (by omega) (h.right.fits_at (o := M.link back n j k) (ring_mem hkn) (by show ((2 * (3 * (k + 1)) : Nat) : Int) / 2 = ((3 * (k + 1) : Nat) : Int); omega))
  refine this.mono ?_
  rintro e w' ⟨rfl, t, s', h', ht⟩
  refine ⟨rfl, t, s', ?_, ht⟩
  have e1 : ({ M.link back n j j with fs := (M.link back n j j).fs.set 0 (2 * (3 * (k + 1))) } : RO) = M.objF (3 * (j + 1)) 0 2 [6 * (M.nxt back n j + 1), 1] := by
    unfold M.link M.objF
    rw [if_neg (by omega), hk, show 2 * (3 * (k + 1)) = 6 * (k + 1) by omega]; rfl
  rw [e1] at h'
  exact h'
theorem ring_set2 {w w0 : World} {g gw Z : Nat} {s : St} {back : Bool} {n j : Nat} (h : Owned w0 w g gw Z 1 2 s ((M.ring back n j).set (j + 1) (M.objF (3 * (j + 1)) 0 2 [6 * (M.nxt back n j + 1), 1]))) (hj : j < n) (hn : n ≤ 400) :
    Calls Try.prog 41 #[.pointer (some ⟨g, 0, none⟩), .int .i64 (3 * (j + 1) : Nat), .int .i64 1, .int .u64 (2 * j + 1 : Nat)] w fun e w' => e = .returned (.int .i64 0) ∧ Turn (fun k => k = g ∨ k = gw) w w' ∧ ∃ s', Owned w0 w' g gw Z 1 2 s' (M.ring back n (j + 1)) ∧ s'.top = s.top := by
  have hl : (M.ring back n j).length = n + 1 := by unfold M.ring; simp
  have := h.setT (k := j + 1) (j := 1) (v := 2 * j + 1) (o := M.objF (3 * (j + 1)) 0 2 [6 * (M.nxt back n j + 1), 1]) (by rw [List.getElem?_set, if_pos rfl, if_pos (by omega)]) (by unfold M.objF; simp) (by omega) (fits_odd _ (by omega))
  refine this.mono ?_
  rintro e w' ⟨rfl, t, s', h', ht⟩
  refine ⟨rfl, t, s', ?_, ht⟩
  rw [← ring_step hj]
  exact h'
theorem ring_row {w : World} {B b n c j : Nat} (h : w.ownsRow B 3 1 (.slice (some ⟨b, 0, none⟩) n c) n (M.ints ((List.range n).map fun i => 3 * (i + 1)))) (hj : j < n) : w.cell? ⟨b, j, none⟩ = some (.int .i64 (3 * (j + 1) : Nat)) ∧ b < w.heap.size := by
  obtain ⟨b9, e9, h8, _, _, h9⟩ := ints_at h (by simp) hj
  injection e9 with e9
  injection e9 with e9
  subst e9
  rw [h9, List.getD_eq_getElem?_getD, List.getElem?_map, List.getElem?_range hj]
  exact ⟨rfl, h8⟩
theorem Owned.keepOwn {w0 w w' : World} {g gw n : Nat} {K N : Int} {s : St} {L : List RO} (h : Owned w0 w g gw n K N s L) {B k : Nat} {v : Value} {xs : List Value} (ho : w.ownsRow B 3 1 v k xs) (hB : w0.heap.size ≤ B) (t : Turn (fun b => v.ownBlock = some b) w w') : Owned w0 w' g gw n K N s L :=
  ⟨{ h.right with hp := h.right.hp.keep t (own_type ho h.right.hp.blk (by decide)) (own_type ho h.right.hp.words (by decide)) (own_type ho h.right.hp.lays (by decide)) }, h.eg, h.egw, h.bg, h.bgw, t.own h.below (Nat.le_refl _) (fun b hb => by have := (ho.lt b hb).1; omega), h.en, h.em, h.elk, h.eln⟩
theorem nxt_int (back : Bool) {j sn k : Nat} (hn1 : 1 ≤ sn) (hn4 : sn ≤ 400) (hk : M.nxt back sn j = k) : (if back = true then ((j : Int) + (sn : Int) - 1).tmod (sn : Int) else ((j : Int) + 1).tmod (sn : Int)) = (k : Int) := by
  rw [← hk]
  unfold M.nxt
  cases back
  · simp only [Bool.false_eq_true, if_false]
    exact (Int.ofNat_tmod (j + 1) sn).symm
  · simp only [if_true]
    rw [show (j : Int) + (sn : Int) - 1 = ((j + sn - 1 : Nat) : Int) by omega, ← Int.ofNat_tmod]
theorem idx_lit (hold : Int) {n : Nat} (h : 1 ≤ n) (h4 : n ≤ 400) : ∃ i0 : Nat, wrap64 ((IntKind.u64.wrap hold).tmod (n : Int)) = i0 ∧ i0 < n := by
  have h1 : 0 ≤ IntKind.u64.wrap hold := by rw [IntKind.wrap_u64]; omega
  obtain ⟨u, hu⟩ : ∃ u : Nat, IntKind.u64.wrap hold = u := ⟨(IntKind.u64.wrap hold).toNat, by omega⟩
  have := Nat.mod_lt u (show 0 < n by omega)
  refine ⟨u % n, ?_, this⟩
  rw [hu, ← Int.ofNat_tmod]
  unfold wrap64
  omega
theorem step_lit (back : Bool) {sn i : Nat} (hn1 : 1 ≤ sn) (hn4 : sn ≤ 400) (hi : i < sn) : ∃ i1 : Nat, ((i : Int) + 1).tmod (sn : Int) = i1 ∧ i1 < sn ∧ (if back = true then ((i1 : Int) + (sn : Int) - 2).tmod (sn : Int) = (M.nxt back sn i : Int) else i1 = M.nxt back sn i) := by
  have hlt := Nat.mod_lt (i + 1) (show 0 < sn by omega)
  refine ⟨(i + 1) % sn, (Int.ofNat_tmod (i + 1) sn).symm, hlt, ?_⟩
  unfold M.nxt
  cases back
  · rfl
  · simp only [if_true]
    by_cases e : sn = 1
    · subst e; simp [Nat.mod_one]
    · rw [show (((i + 1) % sn : Nat) : Int) + (sn : Int) - 2 = (((i + 1) % sn + (sn - 2) : Nat) : Int) by omega, ← Int.ofNat_tmod, Nat.mod_add_mod, show i + 1 + (sn - 2) = i + sn - 1 by omega]
set_option maxRecDepth 100000 in
set_option maxHeartbeats 4000000 in
theorem gcLong_w (q hold : Int) (back : Bool) (w : World) (q1 : -9223372036854775808 ≤ q) (q2 : q ≤ 9223372036854775807) (g1 : -9223372036854775808 ≤ hold) (g2 : hold ≤ 9223372036854775807) :
    Calls Try.prog 11 #[.int .i64 q, .int .i64 hold, .bool back] w fun e w' => e = .returned (.bool true) ∧ Below w.heap.size w w' := by
  obtain ⟨p, hp⟩ : ∃ p : Int, (if 400 < q then (400 : Int) else q) = p := ⟨_, rfl⟩
  have hp4 : p ≤ 400 := by rw [← hp]; split <;> omega
  obtain ⟨n, hn⟩ : ∃ n : Nat, (if 1 < p then p else 1) = (n : Int) := ⟨(if 1 < p then p else 1).toNat, by split <;> omega⟩
  have hn1 : 1 ≤ n := by split at hn <;> omega
  have hn4 : n ≤ 400 := by split at hn <;> omega
  obtain ⟨Z, hZ⟩ : ∃ Z, 3 * n + 3 = Z := ⟨_, rfl⟩
  have hZ2 : Z ≤ 65536 := by omega
  have e3 : (3 : Int) * (n : Int) + 3 = (Z : Int) := by omega
  have HZ := Lib.hid hZ
  have HN := Lib.hid (And.intro hn1 hn4)
  clear hZ hp4
  go_enter Try.func11, Try.ntmps11
  go_wp2_with fail
  refine (owned_new w Z 1 2 hZ2 (by decide) _).mono ?_; rintro e w1 ⟨g, gw, s, rfl, h1, ht1⟩
  have H1 := Lib.hid h1
  have T1 := Lib.hid ht1
  have HA := Lib.hid (h1.allocT 2 (.inl ⟨rfl, rfl⟩) (by decide) (by have := HZ.out; omega))
  clear h1 ht1 hp hn e3
  go_wp2_with fail
  refine HA.out.mono ?_; rintro e w2 ⟨rfl, t2, s2, h2, ht2⟩
  have hb2 : w.heap.size ≤ g ∧ g < w2.heap.size ∧ gw < w2.heap.size := by
    have a1 := h2.right.hp.blk.lt
    have a2 := h2.right.hp.words.lt
    have a3 := h2.bg
    rw [h2.eg] at a1
    rw [h2.egw] at a2
    exact ⟨a3, a1, a2⟩
  have h2' : Owned w w2 g gw Z 1 2 s2 (M.objF 0 0 2 [1, 1] :: (List.range 0).map (M.link back n 0)) := by
    have := h2
    rw [T1.out] at this
    exact this
  have H2 := Lib.hid h2'
  have T2 : Hid (s2.top = 3) := by rw [ht2, T1.out]; rfl
  clear t2 h2 ht2 HA h2'
  go_wp2_with fail
  go_loopw [9, 41] (fun t v wr => ∃ (j : Nat) (s : St) (a : Option Addr) (m c : Nat), v = .int .i64 j ∧ t = .slice a m c ∧ m = j ∧ j ≤ n ∧ Owned w wr g gw Z 1 2 s (M.objF 0 0 2 [1, 1] :: (List.range j).map (M.link back n 0)) ∧ s.top = 3 * (j + 1) ∧ wr.ownsRow w2.heap.size 3 1 (.slice a m c) m (M.ints ((List.range j).map fun i => 3 * (i + 1))) ∧ w2.heap.size ≤ wr.heap.size) (fun _ v _ => n - (intOf v).toNat)
  case atStart => exact ⟨0, s2, none, 0, 0, rfl, rfl, rfl, by omega, H2.out, T2.out, World.ownsRow_nil _ _ _ _, Nat.le_refl _⟩
  case round =>
    obtain ⟨j, s3, sa, sn, sc, rfl, rfl, rfl, hj, ho, htop, hrow, hsz⟩ := hrel
    have HO := Lib.hid ho
    have HT := Lib.hid htop
    have HROW := Lib.hid hrow
    by_cases hlt : sn < n
    · have HA := Lib.hid (ho.allocT 2 (.inl ⟨rfl, rfl⟩) (by decide) (by have := HZ.out; omega))
      rw [HT.out] at HA
      clear ho htop hrow
      obtain ⟨v, hv⟩ : ∃ v, 3 * (sn + 1) = v := ⟨_, rfl⟩
      rw [hv] at HA
      have HV := Lib.hid hv
      clear hv
      go_wp2_with fail
      refine HA.out.mono ?_; rintro e w4 ⟨rfl, t4, s4, h4, ht4⟩
      have HO4 := Lib.hid (And.intro h4 ht4)
      have HR4 := Lib.hid (HO.out.keepInts t4 HROW.out)
      have hs4 := t4.size
      clear t4 h4 ht4 HA
      go_wp2_with (first
        | (at_builtin; refine wpList_append_form rfl (.tmp 50) (.tmp 52) 58 rfl w2.heap.size 3 1 8 (.int .i64 0) Try.underlying58 infoI rfl (by decide) sa sn sc _ rfl (own_keep HR4.out ((Still.refl w4).alloc (.cells #[.int .i64 v] 3)) (fun _ _ e => e)) ⟨w4.heap.size, 0, none⟩ 1 1 [.int .i64 v] rfl rfl (cell_one_new _ _ _) (by simp [Value.oneCell']) (by decide) (by unfold maxLen; omega) (by omega) (by simp; omega) ?_
           intro g9 c9 w9 hown9 ht9 hnew9))
      go_roundw
      case rel =>
        have hk := own_keep HR4.out ((Still.refl w4).alloc (.cells #[.int .i64 v] 3)) (fun _ _ e => e)
        have h9 := (HO4.out.1.still ((Still.refl w4).alloc (.cells #[.int .i64 v] 3))).keepOwn hk (Nat.le_trans hb2.1 (Nat.le_of_lt hb2.2.1)) ht9.out
        have el : (M.objF 0 0 2 [1, 1] :: (List.range sn).map (M.link back n 0)) ++ [M.objF v 0 2 (List.replicate 2 1)] = M.objF 0 0 2 [1, 1] :: (List.range (sn + 1)).map (M.link back n 0) := by
          rw [List.range_succ, List.map_append, List.cons_append, ← HV.out]
          simp [M.link]
        rw [el] at h9
        refine ⟨sn + 1, s4, some ⟨g9, 0, none⟩, sn + 1, c9, by go_num, rfl, rfl, by omega, h9, by have := HO4.out.2; have := HV.out; omega, ?_, by have := ht9.out.size; simp at this; omega⟩
        rw [List.range_succ, List.map_append]
        have := hown9.out
        rw [← HV.out] at this
        simpa [M.ints] using this
      case measure => simp [intOf]; omega
    · obtain rfl : sn = n := by omega
      have h3 : Owned w wr g gw Z 1 2 s3 (M.ring back sn 0) := ho
      have H3 := Lib.hid h3
      have hZt : s3.top = Z := by rw [htop]; have := HZ.out; omega
      have HT3 := Lib.hid hZt
      clear ho htop hrow h3 hZt
      go_wp2_with fail
      generalize wr = w5 at *
      go_loopw [12, 13, 56] (fun _ _ v wr => ∃ (j : Nat) (s : St), v = .int .i64 j ∧ j ≤ sn ∧ Owned w wr g gw Z 1 2 s (M.ring back sn j) ∧ s.top = Z ∧ wr.ownsRow w2.heap.size 3 1 (.slice sa sn sc) sn (M.ints ((List.range sn).map fun i => 3 * (i + 1)))) (fun _ _ v _ => sn - (intOf v).toNat)
      case atStart => exact ⟨0, s3, rfl, by omega, H3.out, HT3.out, HROW.out⟩
      case round =>
        obtain ⟨j, s6, rfl, hj, ho, htop, hrow⟩ := hrel
        have HO := Lib.hid ho
        have HT := Lib.hid htop
        have HROW6 := Lib.hid hrow
        by_cases hlt : j < sn
        · obtain ⟨k, hk⟩ : ∃ k, M.nxt back sn j = k := ⟨_, rfl⟩
          have hkn : k < sn := by rw [← hk]; exact nxt_lt (by omega)
          have hlr : ∀ i, i < sn → ((List.range sn).map fun i => 3 * (i + 1)).getD i 0 = 3 * (i + 1) := fun i hi => by
            rw [List.getD_eq_getElem?_getD, List.getElem?_map, List.getElem?_range hi]; rfl
          obtain ⟨b, rfl, hb, hle, hmx, hcj⟩ := ints_at hrow (by simp) hlt
          obtain ⟨b', hbe, hb', _, _, hck⟩ := ints_at hrow (by simp) hkn
          obtain rfl : b = b' := by injection hbe with e; injection e
          rw [hlr j hlt] at hcj
          rw [hlr k hkn] at hck
          unfold maxLen at hmx
          have HK := Lib.hid hk
          obtain ⟨y1, hy1⟩ : ∃ y, 3 * (j + 1) = y := ⟨_, rfl⟩
          obtain ⟨y2, hy2⟩ : ∃ y, 3 * (k + 1) = y := ⟨_, rfl⟩
          rw [hy1] at hcj
          rw [hy2] at hck
          have HY := Lib.hid (And.intro hy1 hy2)
          have hyb : y1 ≤ 65536 ∧ y2 ≤ 65536 := by omega
          obtain ⟨yb1, yb2⟩ := hyb
          clear hbe hb' ho htop hrow hlr hy1 hy2
          have hback := nxt_int back hn1 hn4 hk
          cases back
          · have m1 : ((j : Int) + 1).tmod (sn : Int) = (k : Int) := by simpa using hback
            have hz : ((sn : Int) == 0) = false := beq_eq_false_iff_ne.2 (by omega)
            have HOD := HO.out.still (Turn.drew (Still.refl wr) : Still wr wr.drew)
            have hS1 := ring_set1 HOD hlt hk hkn hn4
            rw [HY.out.1, HY.out.2] at hS1
            have HS1 := Lib.hid hS1
            have HPT := Lib.hid (ptr_lit y2 yb2 wr.drew)
            have HIM := Lib.hid (imm_lit j (by omega))
            have HWD : Hid (Owned w wr.drew g gw Z 1 2 s6 (M.ring false sn j)) := HOD
            have dj : wr.drew.cell? ⟨b, j, none⟩ = some (.int .i64 y1) := hcj
            have dk : wr.drew.cell? ⟨b, k, none⟩ = some (.int .i64 y2) := hck
            have dl : b < wr.drew.heap.size := hb
            have HRD : Hid (wr.drew.ownsRow w2.heap.size 3 1 (.slice (some ⟨b, 0, none⟩) sn sc) sn (M.ints ((List.range sn).map fun i => 3 * (i + 1)))) := HROW6.out
            obtain ⟨p2, hp2⟩ : ∃ p, 2 * y2 = p := ⟨_, rfl⟩
            rw [hp2] at HS1 HPT
            obtain ⟨jm, hjm⟩ : ∃ jm, 2 * j + 1 = jm := ⟨_, rfl⟩
            rw [hjm] at HIM
            have HJM := Lib.hid hjm
            clear hback hk HOD hS1 hcj hck hb hp2 hjm
            go_wp2_with fail
            refine wp_region_any (by kernel_rfl) ?_
            change wpAny _ _ _ _ _ _ _ (World.drew _)
            refine wpAny_take (i := 0) (v := ?_) rfl (by kernel_rfl) (by kernel_rfl) (by kernel_rfl) (fun _ _ _ h => h) (Or.inl ⟨by rfl, ?_⟩) ?_
            rotate_left
            · intro w; go_simp; try with_reducible rfl
            go_simp
            refine wpAny_take (i := 1) (v := ?_) rfl (by kernel_rfl) (by kernel_rfl) (by kernel_rfl) (fun _ _ _ h => h) (Or.inl ⟨by rfl, ?_⟩) ?_
            rotate_left
            · intro w; go_simp; try with_reducible rfl
            go_simp
            refine wpAny_take (i := 2) (v := ?_) rfl (by kernel_rfl) (by kernel_rfl) (by kernel_rfl) (fun _ _ _ h => h) (Or.inl ⟨by rfl, ?_⟩) ?_
            rotate_left
            · intro w; go_simp; try with_reducible rfl
            go_simp
            refine wpAny_take (i := 3) (v := ?_) rfl (by kernel_rfl) (by kernel_rfl) (by kernel_rfl) (fun _ _ _ h => h) (Or.inl ⟨by rfl, ?_⟩) ?_
            rotate_left
            · intro w; go_simp; try with_reducible rfl
            go_simp
            refine wpAny_take (i := 5) (v := ?_) rfl (by kernel_rfl) (by kernel_rfl) (by kernel_rfl) (fun _ _ _ h => h) (Or.inl ⟨by rfl, ?_⟩) ?_
            rotate_left
            · intro w; go_simp; try with_reducible rfl
            go_simp
            refine wpAny_take (i := 6) (v := ?_) rfl (by kernel_rfl) (by kernel_rfl) (by kernel_rfl) (fun _ _ _ h => h) (Or.inl ⟨by rfl, ?_⟩) ?_
            rotate_left
            · intro w; go_simp; try with_reducible rfl
            go_simp
            refine wpAny_take (i := 7) (v := ?_) rfl (by kernel_rfl) (by kernel_rfl) (by kernel_rfl) (fun _ _ _ h => h) (Or.inl ⟨by rfl, ?_⟩) ?_
            rotate_left
            · intro w; go_simp; try with_reducible rfl
            go_simp
            refine wpAny_ready (rs := [4, 8]) (by kernel_rfl) (by simp) ?_
            refine AllReady.cons rfl (fun K hK => ?_) (AllReady.cons rfl (fun K hK => ?_) AllReady.nil)
            · go_simp
              refine hK _ _ ?_; clear hK K
              refine wpAny_ready (rs := [8]) (by kernel_rfl) (by simp) ?_
              refine AllReady.cons rfl (fun K hK => ?_) AllReady.nil
              go_simp
              refine hK _ _ ?_; clear hK K
              refine wpAny_ready (rs := [9]) (by kernel_rfl) (by simp) ?_
              refine AllReady.cons rfl (fun K hK => ?_) AllReady.nil
              go_simp
              go_wp2_with (first | (go_at_call 37; (with_reducible refine HPT.out.mono ?_); rintro e w7 ⟨rfl, rfl⟩) | (go_at_call 41; (with_reducible refine HS1.out.mono ?_); rintro e w8 ⟨rfl, t8, s8, h8, ht8⟩; have HR8 := Lib.hid (HWD.out.keepInts t8 HRD.out); obtain ⟨ej, el⟩ := ring_row HR8.out hlt; rw [HY.out.1] at ej; rw [← HY.out.1] at h8; have hS2 := ring_set2 h8 hlt hn4; rw [HY.out.1, HJM.out] at hS2; have HS2 := Lib.hid hS2; have HT8 := Lib.hid ht8; have HO8 := Lib.hid h8; clear t8 h8 ht8 hS2 HS1) | (go_at_call 38; (with_reducible refine (HIM.out _).mono ?_); rintro e w7 ⟨rfl, rfl⟩) | (go_at_call 41; (with_reducible refine HS2.out.mono ?_); rintro e w10 ⟨rfl, t10, s10, h10, ht10⟩; have HE := Lib.hid (And.intro h10 (ht10.trans HT8.out)); have HR10 := Lib.hid (HO8.out.keepInts t10 HR8.out); clear t10 h10 ht10 HS2))
              refine wpAny_ready (rs := [10]) (by kernel_rfl) (by simp) ?_
              refine AllReady.cons rfl (fun K hK => ?_) AllReady.nil
              go_simp
              go_wp2_with (first | (go_at_call 37; (with_reducible refine HPT.out.mono ?_); rintro e w7 ⟨rfl, rfl⟩) | (go_at_call 41; (with_reducible refine HS1.out.mono ?_); rintro e w8 ⟨rfl, t8, s8, h8, ht8⟩; have HR8 := Lib.hid (HWD.out.keepInts t8 HRD.out); obtain ⟨ej, el⟩ := ring_row HR8.out hlt; rw [HY.out.1] at ej; rw [← HY.out.1] at h8; have hS2 := ring_set2 h8 hlt hn4; rw [HY.out.1, HJM.out] at hS2; have HS2 := Lib.hid hS2; have HT8 := Lib.hid ht8; have HO8 := Lib.hid h8; clear t8 h8 ht8 hS2 HS1) | (go_at_call 38; (with_reducible refine (HIM.out _).mono ?_); rintro e w7 ⟨rfl, rfl⟩) | (go_at_call 41; (with_reducible refine HS2.out.mono ?_); rintro e w10 ⟨rfl, t10, s10, h10, ht10⟩; have HE := Lib.hid (And.intro h10 (ht10.trans HT8.out)); have HR10 := Lib.hid (HO8.out.keepInts t10 HR8.out); clear t10 h10 ht10 HS2))
              refine wpAny_take (i := 11) (v := ?_) rfl (by kernel_rfl) (by kernel_rfl) (by kernel_rfl) (fun _ _ _ h => h) (Or.inl ⟨by rfl, ?_⟩) ?_
              rotate_left
              · intro w; go_simp; try with_reducible rfl
              go_simp
              refine wpAny_take (i := 12) (v := ?_) rfl (by kernel_rfl) (by kernel_rfl) (by kernel_rfl) (fun _ _ _ h => h) (Or.inl ⟨by rfl, ?_⟩) ?_
              rotate_left
              · intro w; go_simp; try with_reducible rfl
              go_simp
              refine wpAny_take (i := 13) (v := ?_) rfl (by kernel_rfl) (by kernel_rfl) (by kernel_rfl) (fun _ _ _ h => h) (Or.inl ⟨by rfl, ?_⟩) ?_
              rotate_left
              · intro w; go_simp; try with_reducible rfl
              go_simp
              refine wpAny_take (i := 14) (v := ?_) rfl (by kernel_rfl) (by kernel_rfl) (by kernel_rfl) (fun _ _ _ h => h) (Or.inl ⟨by rfl, ?_⟩) ?_
              rotate_left
              · intro w; go_simp; try with_reducible rfl
              go_simp
              refine wpAny_take (i := 15) (v := ?_) rfl (by kernel_rfl) (by kernel_rfl) (by kernel_rfl) (fun _ _ _ h => h) (Or.inl ⟨by rfl, ?_⟩) ?_
              rotate_left
              · intro w; go_simp; try with_reducible rfl
              go_simp
              refine wpAny_take (i := 16) (v := ?_) rfl (by kernel_rfl) (by kernel_rfl) (by kernel_rfl) (fun _ _ _ h => h) (Or.inl ⟨by rfl, ?_⟩) ?_
              rotate_left
              · intro w; go_simp; try with_reducible rfl
              go_simp
              refine wpAny_take (i := 18) (v := ?_) rfl (by kernel_rfl) (by kernel_rfl) (by kernel_rfl) (fun _ _ _ h => h) (Or.inl ⟨by rfl, ?_⟩) ?_
              rotate_left
              · intro w; go_simp; try with_reducible rfl
              go_simp
              refine wpAny_ready (rs := [17, 19]) (by kernel_rfl) (by simp) ?_
              refine AllReady.cons rfl (fun K hK => ?_) (AllReady.cons rfl (fun K hK => ?_) AllReady.nil)
              · go_simp
                refine hK _ _ ?_; clear hK K
                refine wpAny_ready (rs := [19]) (by kernel_rfl) (by simp) ?_
                refine AllReady.cons rfl (fun K hK => ?_) AllReady.nil
                go_simp
                go_wp2_with (first | (go_at_call 37; (with_reducible refine HPT.out.mono ?_); rintro e w7 ⟨rfl, rfl⟩) | (go_at_call 41; (with_reducible refine HS1.out.mono ?_); rintro e w8 ⟨rfl, t8, s8, h8, ht8⟩; have HR8 := Lib.hid (HWD.out.keepInts t8 HRD.out); obtain ⟨ej, el⟩ := ring_row HR8.out hlt; rw [HY.out.1] at ej; rw [← HY.out.1] at h8; have hS2 := ring_set2 h8 hlt hn4; rw [HY.out.1, HJM.out] at hS2; have HS2 := Lib.hid hS2; have HT8 := Lib.hid ht8; have HO8 := Lib.hid h8; clear t8 h8 ht8 hS2 HS1) | (go_at_call 38; (with_reducible refine (HIM.out _).mono ?_); rintro e w7 ⟨rfl, rfl⟩) | (go_at_call 41; (with_reducible refine HS2.out.mono ?_); rintro e w10 ⟨rfl, t10, s10, h10, ht10⟩; have HE := Lib.hid (And.intro h10 (ht10.trans HT8.out)); have HR10 := Lib.hid (HO8.out.keepInts t10 HR8.out); clear t10 h10 ht10 HS2))
                refine wpAny_ready (rs := [20]) (by kernel_rfl) (by simp) ?_
                refine AllReady.cons rfl (fun K hK => ?_) AllReady.nil
                go_simp
                go_wp2_with (first | (go_at_call 37; (with_reducible refine HPT.out.mono ?_); rintro e w7 ⟨rfl, rfl⟩) | (go_at_call 41; (with_reducible refine HS1.out.mono ?_); rintro e w8 ⟨rfl, t8, s8, h8, ht8⟩; have HR8 := Lib.hid (HWD.out.keepInts t8 HRD.out); obtain ⟨ej, el⟩ := ring_row HR8.out hlt; rw [HY.out.1] at ej; rw [← HY.out.1] at h8; have hS2 := ring_set2 h8 hlt hn4; rw [HY.out.1, HJM.out] at hS2; have HS2 := Lib.hid hS2; have HT8 := Lib.hid ht8; have HO8 := Lib.hid h8; clear t8 h8 ht8 hS2 HS1) | (go_at_call 38; (with_reducible refine (HIM.out _).mono ?_); rintro e w7 ⟨rfl, rfl⟩) | (go_at_call 41; (with_reducible refine HS2.out.mono ?_); rintro e w10 ⟨rfl, t10, s10, h10, ht10⟩; have HE := Lib.hid (And.intro h10 (ht10.trans HT8.out)); have HR10 := Lib.hid (HO8.out.keepInts t10 HR8.out); clear t10 h10 ht10 HS2))
                refine wpAny_take (i := 21) (v := ?_) rfl (by kernel_rfl) (by kernel_rfl) (by kernel_rfl) (fun _ _ _ h => h) (Or.inl ⟨by rfl, ?_⟩) ?_
                rotate_left
                · intro w; go_simp; try with_reducible rfl
                go_simp
                refine wpAny_take (i := 22) (v := ?_) rfl (by kernel_rfl) (by kernel_rfl) (by kernel_rfl) (fun _ _ _ h => h) (Or.inl ⟨by rfl, ?_⟩) ?_
                rotate_left
                · intro w; go_simp; try with_reducible rfl
                go_simp
                refine wpAny_done (by kernel_rfl) ?_ _
                go_wp2_with fail
                go_roundw
                case rel => exact ⟨j + 1, s10, by go_num, by omega, HE.out.1, HE.out.2.trans HT.out, HR10.out⟩
                case measure => simp [intOf]; omega
              · go_simp
                go_wp2_with (first | (go_at_call 37; (with_reducible refine HPT.out.mono ?_); rintro e w7 ⟨rfl, rfl⟩) | (go_at_call 41; (with_reducible refine HS1.out.mono ?_); rintro e w8 ⟨rfl, t8, s8, h8, ht8⟩; have HR8 := Lib.hid (HWD.out.keepInts t8 HRD.out); obtain ⟨ej, el⟩ := ring_row HR8.out hlt; rw [HY.out.1] at ej; rw [← HY.out.1] at h8; have hS2 := ring_set2 h8 hlt hn4; rw [HY.out.1, HJM.out] at hS2; have HS2 := Lib.hid hS2; have HT8 := Lib.hid ht8; have HO8 := Lib.hid h8; clear t8 h8 ht8 hS2 HS1) | (go_at_call 38; (with_reducible refine (HIM.out _).mono ?_); rintro e w7 ⟨rfl, rfl⟩) | (go_at_call 41; (with_reducible refine HS2.out.mono ?_); rintro e w10 ⟨rfl, t10, s10, h10, ht10⟩; have HE := Lib.hid (And.intro h10 (ht10.trans HT8.out)); have HR10 := Lib.hid (HO8.out.keepInts t10 HR8.out); clear t10 h10 ht10 HS2))
                refine wpAny_ready (rs := [17]) (by kernel_rfl) (by simp) ?_
                refine AllReady.cons rfl (fun K hK => ?_) AllReady.nil
                go_simp
                refine hK _ _ ?_; clear hK K
                refine wpAny_ready (rs := [20]) (by kernel_rfl) (by simp) ?_
                refine AllReady.cons rfl (fun K hK => ?_) AllReady.nil
                go_simp
                go_wp2_with (first | (go_at_call 37; (with_reducible refine HPT.out.mono ?_); rintro e w7 ⟨rfl, rfl⟩) | (go_at_call 41; (with_reducible refine HS1.out.mono ?_); rintro e w8 ⟨rfl, t8, s8, h8, ht8⟩; have HR8 := Lib.hid (HWD.out.keepInts t8 HRD.out); obtain ⟨ej, el⟩ := ring_row HR8.out hlt; rw [HY.out.1] at ej; rw [← HY.out.1] at h8; have hS2 := ring_set2 h8 hlt hn4; rw [HY.out.1, HJM.out] at hS2; have HS2 := Lib.hid hS2; have HT8 := Lib.hid ht8; have HO8 := Lib.hid h8; clear t8 h8 ht8 hS2 HS1) | (go_at_call 38; (with_reducible refine (HIM.out _).mono ?_); rintro e w7 ⟨rfl, rfl⟩) | (go_at_call 41; (with_reducible refine HS2.out.mono ?_); rintro e w10 ⟨rfl, t10, s10, h10, ht10⟩; have HE := Lib.hid (And.intro h10 (ht10.trans HT8.out)); have HR10 := Lib.hid (HO8.out.keepInts t10 HR8.out); clear t10 h10 ht10 HS2))
                refine wpAny_take (i := 21) (v := ?_) rfl (by kernel_rfl) (by kernel_rfl) (by kernel_rfl) (fun _ _ _ h => h) (Or.inl ⟨by rfl, ?_⟩) ?_
                rotate_left
                · intro w; go_simp; try with_reducible rfl
                go_simp
                refine wpAny_take (i := 22) (v := ?_) rfl (by kernel_rfl) (by kernel_rfl) (by kernel_rfl) (fun _ _ _ h => h) (Or.inl ⟨by rfl, ?_⟩) ?_
                rotate_left
                · intro w; go_simp; try with_reducible rfl
                go_simp
                refine wpAny_done (by kernel_rfl) ?_ _
                go_wp2_with fail
                go_roundw
                case rel => exact ⟨j + 1, s10, by go_num, by omega, HE.out.1, HE.out.2.trans HT.out, HR10.out⟩
                case measure => simp [intOf]; omega
            · go_simp
              refine hK _ _ ?_; clear hK K
              refine wpAny_ready (rs := [4, 9]) (by kernel_rfl) (by simp) ?_
              refine AllReady.cons rfl (fun K hK => ?_) (AllReady.cons rfl (fun K hK => ?_) AllReady.nil)
              · go_simp
                refine hK _ _ ?_; clear hK K
                refine wpAny_ready (rs := [9]) (by kernel_rfl) (by simp) ?_
                refine AllReady.cons rfl (fun K hK => ?_) AllReady.nil
                go_simp
                go_wp2_with (first | (go_at_call 37; (with_reducible refine HPT.out.mono ?_); rintro e w7 ⟨rfl, rfl⟩) | (go_at_call 41; (with_reducible refine HS1.out.mono ?_); rintro e w8 ⟨rfl, t8, s8, h8, ht8⟩; have HR8 := Lib.hid (HWD.out.keepInts t8 HRD.out); obtain ⟨ej, el⟩ := ring_row HR8.out hlt; rw [HY.out.1] at ej; rw [← HY.out.1] at h8; have hS2 := ring_set2 h8 hlt hn4; rw [HY.out.1, HJM.out] at hS2; have HS2 := Lib.hid hS2; have HT8 := Lib.hid ht8; have HO8 := Lib.hid h8; clear t8 h8 ht8 hS2 HS1) | (go_at_call 38; (with_reducible refine (HIM.out _).mono ?_); rintro e w7 ⟨rfl, rfl⟩) | (go_at_call 41; (with_reducible refine HS2.out.mono ?_); rintro e w10 ⟨rfl, t10, s10, h10, ht10⟩; have HE := Lib.hid (And.intro h10 (ht10.trans HT8.out)); have HR10 := Lib.hid (HO8.out.keepInts t10 HR8.out); clear t10 h10 ht10 HS2))
                refine wpAny_ready (rs := [10]) (by kernel_rfl) (by simp) ?_
                refine AllReady.cons rfl (fun K hK => ?_) AllReady.nil
                go_simp
                go_wp2_with (first | (go_at_call 37; (with_reducible refine HPT.out.mono ?_); rintro e w7 ⟨rfl, rfl⟩) | (go_at_call 41; (with_reducible refine HS1.out.mono ?_); rintro e w8 ⟨rfl, t8, s8, h8, ht8⟩; have HR8 := Lib.hid (HWD.out.keepInts t8 HRD.out); obtain ⟨ej, el⟩ := ring_row HR8.out hlt; rw [HY.out.1] at ej; rw [← HY.out.1] at h8; have hS2 := ring_set2 h8 hlt hn4; rw [HY.out.1, HJM.out] at hS2; have HS2 := Lib.hid hS2; have HT8 := Lib.hid ht8; have HO8 := Lib.hid h8; clear t8 h8 ht8 hS2 HS1) | (go_at_call 38; (with_reducible refine (HIM.out _).mono ?_); rintro e w7 ⟨rfl, rfl⟩) | (go_at_call 41; (with_reducible refine HS2.out.mono ?_); rintro e w10 ⟨rfl, t10, s10, h10, ht10⟩; have HE := Lib.hid (And.intro h10 (ht10.trans HT8.out)); have HR10 := Lib.hid (HO8.out.keepInts t10 HR8.out); clear t10 h10 ht10 HS2))
                refine wpAny_take (i := 11) (v := ?_) rfl (by kernel_rfl) (by kernel_rfl) (by kernel_rfl) (fun _ _ _ h => h) (Or.inl ⟨by rfl, ?_⟩) ?_
                rotate_left
                · intro w; go_simp; try with_reducible rfl
                go_simp
                refine wpAny_take (i := 12) (v := ?_) rfl (by kernel_rfl) (by kernel_rfl) (by kernel_rfl) (fun _ _ _ h => h) (Or.inl ⟨by rfl, ?_⟩) ?_
                rotate_left
                · intro w; go_simp; try with_reducible rfl
                go_simp
                refine wpAny_take (i := 13) (v := ?_) rfl (by kernel_rfl) (by kernel_rfl) (by kernel_rfl) (fun _ _ _ h => h) (Or.inl ⟨by rfl, ?_⟩) ?_
                rotate_left
                · intro w; go_simp; try with_reducible rfl
                go_simp
                refine wpAny_take (i := 14) (v := ?_) rfl (by kernel_rfl) (by kernel_rfl) (by kernel_rfl) (fun _ _ _ h => h) (Or.inl ⟨by rfl, ?_⟩) ?_
                rotate_left
                · intro w; go_simp; try with_reducible rfl
                go_simp
                refine wpAny_take (i := 15) (v := ?_) rfl (by kernel_rfl) (by kernel_rfl) (by kernel_rfl) (fun _ _ _ h => h) (Or.inl ⟨by rfl, ?_⟩) ?_
                rotate_left
                · intro w; go_simp; try with_reducible rfl
                go_simp
                refine wpAny_take (i := 16) (v := ?_) rfl (by kernel_rfl) (by kernel_rfl) (by kernel_rfl) (fun _ _ _ h => h) (Or.inl ⟨by rfl, ?_⟩) ?_
                rotate_left
                · intro w; go_simp; try with_reducible rfl
                go_simp
                refine wpAny_take (i := 18) (v := ?_) rfl (by kernel_rfl) (by kernel_rfl) (by kernel_rfl) (fun _ _ _ h => h) (Or.inl ⟨by rfl, ?_⟩) ?_
                rotate_left
                · intro w; go_simp; try with_reducible rfl
                go_simp
                refine wpAny_ready (rs := [17, 19]) (by kernel_rfl) (by simp) ?_
                refine AllReady.cons rfl (fun K hK => ?_) (AllReady.cons rfl (fun K hK => ?_) AllReady.nil)
                · go_simp
                  refine hK _ _ ?_; clear hK K
                  refine wpAny_ready (rs := [19]) (by kernel_rfl) (by simp) ?_
                  refine AllReady.cons rfl (fun K hK => ?_) AllReady.nil
                  go_simp
                  go_wp2_with (first | (go_at_call 37; (with_reducible refine HPT.out.mono ?_); rintro e w7 ⟨rfl, rfl⟩) | (go_at_call 41; (with_reducible refine HS1.out.mono ?_); rintro e w8 ⟨rfl, t8, s8, h8, ht8⟩; have HR8 := Lib.hid (HWD.out.keepInts t8 HRD.out); obtain ⟨ej, el⟩ := ring_row HR8.out hlt; rw [HY.out.1] at ej; rw [← HY.out.1] at h8; have hS2 := ring_set2 h8 hlt hn4; rw [HY.out.1, HJM.out] at hS2; have HS2 := Lib.hid hS2; have HT8 := Lib.hid ht8; have HO8 := Lib.hid h8; clear t8 h8 ht8 hS2 HS1) | (go_at_call 38; (with_reducible refine (HIM.out _).mono ?_); rintro e w7 ⟨rfl, rfl⟩) | (go_at_call 41; (with_reducible refine HS2.out.mono ?_); rintro e w10 ⟨rfl, t10, s10, h10, ht10⟩; have HE := Lib.hid (And.intro h10 (ht10.trans HT8.out)); have HR10 := Lib.hid (HO8.out.keepInts t10 HR8.out); clear t10 h10 ht10 HS2))
                  refine wpAny_ready (rs := [20]) (by kernel_rfl) (by simp) ?_
                  refine AllReady.cons rfl (fun K hK => ?_) AllReady.nil
                  go_simp
                  go_wp2_with (first | (go_at_call 37; (with_reducible refine HPT.out.mono ?_); rintro e w7 ⟨rfl, rfl⟩) | (go_at_call 41; (with_reducible refine HS1.out.mono ?_); rintro e w8 ⟨rfl, t8, s8, h8, ht8⟩; have HR8 := Lib.hid (HWD.out.keepInts t8 HRD.out); obtain ⟨ej, el⟩ := ring_row HR8.out hlt; rw [HY.out.1] at ej; rw [← HY.out.1] at h8; have hS2 := ring_set2 h8 hlt hn4; rw [HY.out.1, HJM.out] at hS2; have HS2 := Lib.hid hS2; have HT8 := Lib.hid ht8; have HO8 := Lib.hid h8; clear t8 h8 ht8 hS2 HS1) | (go_at_call 38; (with_reducible refine (HIM.out _).mono ?_); rintro e w7 ⟨rfl, rfl⟩) | (go_at_call 41; (with_reducible refine HS2.out.mono ?_); rintro e w10 ⟨rfl, t10, s10, h10, ht10⟩; have HE := Lib.hid (And.intro h10 (ht10.trans HT8.out)); have HR10 := Lib.hid (HO8.out.keepInts t10 HR8.out); clear t10 h10 ht10 HS2))
                  refine wpAny_take (i := 21) (v := ?_) rfl (by kernel_rfl) (by kernel_rfl) (by kernel_rfl) (fun _ _ _ h => h) (Or.inl ⟨by rfl, ?_⟩) ?_
                  rotate_left
                  · intro w; go_simp; try with_reducible rfl
                  go_simp
                  refine wpAny_take (i := 22) (v := ?_) rfl (by kernel_rfl) (by kernel_rfl) (by kernel_rfl) (fun _ _ _ h => h) (Or.inl ⟨by rfl, ?_⟩) ?_
                  rotate_left
                  · intro w; go_simp; try with_reducible rfl
                  go_simp
                  refine wpAny_done (by kernel_rfl) ?_ _
                  go_wp2_with fail
                  go_roundw
                  case rel => exact ⟨j + 1, s10, by go_num, by omega, HE.out.1, HE.out.2.trans HT.out, HR10.out⟩
                  case measure => simp [intOf]; omega
                · go_simp
                  go_wp2_with (first | (go_at_call 37; (with_reducible refine HPT.out.mono ?_); rintro e w7 ⟨rfl, rfl⟩) | (go_at_call 41; (with_reducible refine HS1.out.mono ?_); rintro e w8 ⟨rfl, t8, s8, h8, ht8⟩; have HR8 := Lib.hid (HWD.out.keepInts t8 HRD.out); obtain ⟨ej, el⟩ := ring_row HR8.out hlt; rw [HY.out.1] at ej; rw [← HY.out.1] at h8; have hS2 := ring_set2 h8 hlt hn4; rw [HY.out.1, HJM.out] at hS2; have HS2 := Lib.hid hS2; have HT8 := Lib.hid ht8; have HO8 := Lib.hid h8; clear t8 h8 ht8 hS2 HS1) | (go_at_call 38; (with_reducible refine (HIM.out _).mono ?_); rintro e w7 ⟨rfl, rfl⟩) | (go_at_call 41; (with_reducible refine HS2.out.mono ?_); rintro e w10 ⟨rfl, t10, s10, h10, ht10⟩; have HE := Lib.hid (And.intro h10 (ht10.trans HT8.out)); have HR10 := Lib.hid (HO8.out.keepInts t10 HR8.out); clear t10 h10 ht10 HS2))
                  refine wpAny_ready (rs := [17]) (by kernel_rfl) (by simp) ?_
                  refine AllReady.cons rfl (fun K hK => ?_) AllReady.nil
                  go_simp
                  refine hK _ _ ?_; clear hK K
                  refine wpAny_ready (rs := [20]) (by kernel_rfl) (by simp) ?_
                  refine AllReady.cons rfl (fun K hK => ?_) AllReady.nil
                  go_simp
                  go_wp2_with (first | (go_at_call 37; (with_reducible refine HPT.out.mono ?_); rintro e w7 ⟨rfl, rfl⟩) | (go_at_call 41; (with_reducible refine HS1.out.mono ?_); rintro e w8 ⟨rfl, t8, s8, h8, ht8⟩; have HR8 := Lib.hid (HWD.out.keepInts t8 HRD.out); obtain ⟨ej, el⟩ := ring_row HR8.out hlt; rw [HY.out.1] at ej; rw [← HY.out.1] at h8; have hS2 := ring_set2 h8 hlt hn4; rw [HY.out.1, HJM.out] at hS2; have HS2 := Lib.hid hS2; have HT8 := Lib.hid ht8; have HO8 := Lib.hid h8; clear t8 h8 ht8 hS2 HS1) | (go_at_call 38; (with_reducible refine (HIM.out _).mono ?_); rintro e w7 ⟨rfl, rfl⟩) | (go_at_call 41; (with_reducible refine HS2.out.mono ?_); rintro e w10 ⟨rfl, t10, s10, h10, ht10⟩; have HE := Lib.hid (And.intro h10 (ht10.trans HT8.out)); have HR10 := Lib.hid (HO8.out.keepInts t10 HR8.out); clear t10 h10 ht10 HS2))
                  refine wpAny_take (i := 21) (v := ?_) rfl (by kernel_rfl) (by kernel_rfl) (by kernel_rfl) (fun _ _ _ h => h) (Or.inl ⟨by rfl, ?_⟩) ?_
                  rotate_left
                  · intro w; go_simp; try with_reducible rfl
                  go_simp
                  refine wpAny_take (i := 22) (v := ?_) rfl (by kernel_rfl) (by kernel_rfl) (by kernel_rfl) (fun _ _ _ h => h) (Or.inl ⟨by rfl, ?_⟩) ?_
                  rotate_left
                  · intro w; go_simp; try with_reducible rfl
                  go_simp
                  refine wpAny_done (by kernel_rfl) ?_ _
                  go_wp2_with fail
                  go_roundw
                  case rel => exact ⟨j + 1, s10, by go_num, by omega, HE.out.1, HE.out.2.trans HT.out, HR10.out⟩
                  case measure => simp [intOf]; omega
              · go_simp
                go_wp2_with (first | (go_at_call 37; (with_reducible refine HPT.out.mono ?_); rintro e w7 ⟨rfl, rfl⟩) | (go_at_call 41; (with_reducible refine HS1.out.mono ?_); rintro e w8 ⟨rfl, t8, s8, h8, ht8⟩; have HR8 := Lib.hid (HWD.out.keepInts t8 HRD.out); obtain ⟨ej, el⟩ := ring_row HR8.out hlt; rw [HY.out.1] at ej; rw [← HY.out.1] at h8; have hS2 := ring_set2 h8 hlt hn4; rw [HY.out.1, HJM.out] at hS2; have HS2 := Lib.hid hS2; have HT8 := Lib.hid ht8; have HO8 := Lib.hid h8; clear t8 h8 ht8 hS2 HS1) | (go_at_call 38; (with_reducible refine (HIM.out _).mono ?_); rintro e w7 ⟨rfl, rfl⟩) | (go_at_call 41; (with_reducible refine HS2.out.mono ?_); rintro e w10 ⟨rfl, t10, s10, h10, ht10⟩; have HE := Lib.hid (And.intro h10 (ht10.trans HT8.out)); have HR10 := Lib.hid (HO8.out.keepInts t10 HR8.out); clear t10 h10 ht10 HS2))
                refine wpAny_ready (rs := [4]) (by kernel_rfl) (by simp) ?_
                refine AllReady.cons rfl (fun K hK => ?_) AllReady.nil
                go_simp
                refine hK _ _ ?_; clear hK K
                refine wpAny_ready (rs := [10]) (by kernel_rfl) (by simp) ?_
                refine AllReady.cons rfl (fun K hK => ?_) AllReady.nil
                go_simp
                go_wp2_with (first | (go_at_call 37; (with_reducible refine HPT.out.mono ?_); rintro e w7 ⟨rfl, rfl⟩) | (go_at_call 41; (with_reducible refine HS1.out.mono ?_); rintro e w8 ⟨rfl, t8, s8, h8, ht8⟩; have HR8 := Lib.hid (HWD.out.keepInts t8 HRD.out); obtain ⟨ej, el⟩ := ring_row HR8.out hlt; rw [HY.out.1] at ej; rw [← HY.out.1] at h8; have hS2 := ring_set2 h8 hlt hn4; rw [HY.out.1, HJM.out] at hS2; have HS2 := Lib.hid hS2; have HT8 := Lib.hid ht8; have HO8 := Lib.hid h8; clear t8 h8 ht8 hS2 HS1) | (go_at_call 38; (with_reducible refine (HIM.out _).mono ?_); rintro e w7 ⟨rfl, rfl⟩) | (go_at_call 41; (with_reducible refine HS2.out.mono ?_); rintro e w10 ⟨rfl, t10, s10, h10, ht10⟩; have HE := Lib.hid (And.intro h10 (ht10.trans HT8.out)); have HR10 := Lib.hid (HO8.out.keepInts t10 HR8.out); clear t10 h10 ht10 HS2))
                refine wpAny_take (i := 11) (v := ?_) rfl (by kernel_rfl) (by kernel_rfl) (by kernel_rfl) (fun _ _ _ h => h) (Or.inl ⟨by rfl, ?_⟩) ?_
                rotate_left
                · intro w; go_simp; try with_reducible rfl
                go_simp
                refine wpAny_take (i := 12) (v := ?_) rfl (by kernel_rfl) (by kernel_rfl) (by kernel_rfl) (fun _ _ _ h => h) (Or.inl ⟨by rfl, ?_⟩) ?_
                rotate_left
                · intro w; go_simp; try with_reducible rfl
                go_simp
                refine wpAny_take (i := 13) (v := ?_) rfl (by kernel_rfl) (by kernel_rfl) (by kernel_rfl) (fun _ _ _ h => h) (Or.inl ⟨by rfl, ?_⟩) ?_
                rotate_left
                · intro w; go_simp; try with_reducible rfl
                go_simp
                refine wpAny_take (i := 14) (v := ?_) rfl (by kernel_rfl) (by kernel_rfl) (by kernel_rfl) (fun _ _ _ h => h) (Or.inl ⟨by rfl, ?_⟩) ?_
                rotate_left
                · intro w; go_simp; try with_reducible rfl
                go_simp
                refine wpAny_take (i := 15) (v := ?_) rfl (by kernel_rfl) (by kernel_rfl) (by kernel_rfl) (fun _ _ _ h => h) (Or.inl ⟨by rfl, ?_⟩) ?_
                rotate_left
                · intro w; go_simp; try with_reducible rfl
                go_simp
                refine wpAny_take (i := 16) (v := ?_) rfl (by kernel_rfl) (by kernel_rfl) (by kernel_rfl) (fun _ _ _ h => h) (Or.inl ⟨by rfl, ?_⟩) ?_
                rotate_left
                · intro w; go_simp; try with_reducible rfl
                go_simp
                refine wpAny_take (i := 18) (v := ?_) rfl (by kernel_rfl) (by kernel_rfl) (by kernel_rfl) (fun _ _ _ h => h) (Or.inl ⟨by rfl, ?_⟩) ?_
                rotate_left
                · intro w; go_simp; try with_reducible rfl
                go_simp
                refine wpAny_ready (rs := [17, 19]) (by kernel_rfl) (by simp) ?_
                refine AllReady.cons rfl (fun K hK => ?_) (AllReady.cons rfl (fun K hK => ?_) AllReady.nil)
                · go_simp
                  refine hK _ _ ?_; clear hK K
                  refine wpAny_ready (rs := [19]) (by kernel_rfl) (by simp) ?_
                  refine AllReady.cons rfl (fun K hK => ?_) AllReady.nil
                  go_simp
                  go_wp2_with (first | (go_at_call 37; (with_reducible refine HPT.out.mono ?_); rintro e w7 ⟨rfl, rfl⟩) | (go_at_call 41; (with_reducible refine HS1.out.mono ?_); rintro e w8 ⟨rfl, t8, s8, h8, ht8⟩; have HR8 := Lib.hid (HWD.out.keepInts t8 HRD.out); obtain ⟨ej, el⟩ := ring_row HR8.out hlt; rw [HY.out.1] at ej; rw [← HY.out.1] at h8; have hS2 := ring_set2 h8 hlt hn4; rw [HY.out.1, HJM.out] at hS2; have HS2 := Lib.hid hS2; have HT8 := Lib.hid ht8; have HO8 := Lib.hid h8; clear t8 h8 ht8 hS2 HS1) | (go_at_call 38; (with_reducible refine (HIM.out _).mono ?_); rintro e w7 ⟨rfl, rfl⟩) | (go_at_call 41; (with_reducible refine HS2.out.mono ?_); rintro e w10 ⟨rfl, t10, s10, h10, ht10⟩; have HE := Lib.hid (And.intro h10 (ht10.trans HT8.out)); have HR10 := Lib.hid (HO8.out.keepInts t10 HR8.out); clear t10 h10 ht10 HS2))
                  refine wpAny_ready (rs := [20]) (by kernel_rfl) (by simp) ?_
                  refine AllReady.cons rfl (fun K hK => ?_) AllReady.nil
                  go_simp
                  go_wp2_with (first | (go_at_call 37; (with_reducible refine HPT.out.mono ?_); rintro e w7 ⟨rfl, rfl⟩) | (go_at_call 41; (with_reducible refine HS1.out.mono ?_); rintro e w8 ⟨rfl, t8, s8, h8, ht8⟩; have HR8 := Lib.hid (HWD.out.keepInts t8 HRD.out); obtain ⟨ej, el⟩ := ring_row HR8.out hlt; rw [HY.out.1] at ej; rw [← HY.out.1] at h8; have hS2 := ring_set2 h8 hlt hn4; rw [HY.out.1, HJM.out] at hS2; have HS2 := Lib.hid hS2; have HT8 := Lib.hid ht8; have HO8 := Lib.hid h8; clear t8 h8 ht8 hS2 HS1) | (go_at_call 38; (with_reducible refine (HIM.out _).mono ?_); rintro e w7 ⟨rfl, rfl⟩) | (go_at_call 41; (with_reducible refine HS2.out.mono ?_); rintro e w10 ⟨rfl, t10, s10, h10, ht10⟩; have HE := Lib.hid (And.intro h10 (ht10.trans HT8.out)); have HR10 := Lib.hid (HO8.out.keepInts t10 HR8.out); clear t10 h10 ht10 HS2))
                  refine wpAny_take (i := 21) (v := ?_) rfl (by kernel_rfl) (by kernel_rfl) (by kernel_rfl) (fun _ _ _ h => h) (Or.inl ⟨by rfl, ?_⟩) ?_
                  rotate_left
                  · intro w; go_simp; try with_reducible rfl
                  go_simp
                  refine wpAny_take (i := 22) (v := ?_) rfl (by kernel_rfl) (by kernel_rfl) (by kernel_rfl) (fun _ _ _ h => h) (Or.inl ⟨by rfl, ?_⟩) ?_
                  rotate_left
                  · intro w; go_simp; try with_reducible rfl
                  go_simp
                  refine wpAny_done (by kernel_rfl) ?_ _
                  go_wp2_with fail
                  go_roundw
                  case rel => exact ⟨j + 1, s10, by go_num, by omega, HE.out.1, HE.out.2.trans HT.out, HR10.out⟩
                  case measure => simp [intOf]; omega
                · go_simp
                  go_wp2_with (first | (go_at_call 37; (with_reducible refine HPT.out.mono ?_); rintro e w7 ⟨rfl, rfl⟩) | (go_at_call 41; (with_reducible refine HS1.out.mono ?_); rintro e w8 ⟨rfl, t8, s8, h8, ht8⟩; have HR8 := Lib.hid (HWD.out.keepInts t8 HRD.out); obtain ⟨ej, el⟩ := ring_row HR8.out hlt; rw [HY.out.1] at ej; rw [← HY.out.1] at h8; have hS2 := ring_set2 h8 hlt hn4; rw [HY.out.1, HJM.out] at hS2; have HS2 := Lib.hid hS2; have HT8 := Lib.hid ht8; have HO8 := Lib.hid h8; clear t8 h8 ht8 hS2 HS1) | (go_at_call 38; (with_reducible refine (HIM.out _).mono ?_); rintro e w7 ⟨rfl, rfl⟩) | (go_at_call 41; (with_reducible refine HS2.out.mono ?_); rintro e w10 ⟨rfl, t10, s10, h10, ht10⟩; have HE := Lib.hid (And.intro h10 (ht10.trans HT8.out)); have HR10 := Lib.hid (HO8.out.keepInts t10 HR8.out); clear t10 h10 ht10 HS2))
                  refine wpAny_ready (rs := [17]) (by kernel_rfl) (by simp) ?_
                  refine AllReady.cons rfl (fun K hK => ?_) AllReady.nil
                  go_simp
                  refine hK _ _ ?_; clear hK K
                  refine wpAny_ready (rs := [20]) (by kernel_rfl) (by simp) ?_
                  refine AllReady.cons rfl (fun K hK => ?_) AllReady.nil
                  go_simp
                  go_wp2_with (first | (go_at_call 37; (with_reducible refine HPT.out.mono ?_); rintro e w7 ⟨rfl, rfl⟩) | (go_at_call 41; (with_reducible refine HS1.out.mono ?_); rintro e w8 ⟨rfl, t8, s8, h8, ht8⟩; have HR8 := Lib.hid (HWD.out.keepInts t8 HRD.out); obtain ⟨ej, el⟩ := ring_row HR8.out hlt; rw [HY.out.1] at ej; rw [← HY.out.1] at h8; have hS2 := ring_set2 h8 hlt hn4; rw [HY.out.1, HJM.out] at hS2; have HS2 := Lib.hid hS2; have HT8 := Lib.hid ht8; have HO8 := Lib.hid h8; clear t8 h8 ht8 hS2 HS1) | (go_at_call 38; (with_reducible refine (HIM.out _).mono ?_); rintro e w7 ⟨rfl, rfl⟩) | (go_at_call 41; (with_reducible refine HS2.out.mono ?_); rintro e w10 ⟨rfl, t10, s10, h10, ht10⟩; have HE := Lib.hid (And.intro h10 (ht10.trans HT8.out)); have HR10 := Lib.hid (HO8.out.keepInts t10 HR8.out); clear t10 h10 ht10 HS2))
                  refine wpAny_take (i := 21) (v := ?_) rfl (by kernel_rfl) (by kernel_rfl) (by kernel_rfl) (fun _ _ _ h => h) (Or.inl ⟨by rfl, ?_⟩) ?_
                  rotate_left
                  · intro w; go_simp; try with_reducible rfl
                  go_simp
                  refine wpAny_take (i := 22) (v := ?_) rfl (by kernel_rfl) (by kernel_rfl) (by kernel_rfl) (fun _ _ _ h => h) (Or.inl ⟨by rfl, ?_⟩) ?_
                  rotate_left
                  · intro w; go_simp; try with_reducible rfl
                  go_simp
                  refine wpAny_done (by kernel_rfl) ?_ _
                  go_wp2_with fail
                  go_roundw
                  case rel => exact ⟨j + 1, s10, by go_num, by omega, HE.out.1, HE.out.2.trans HT.out, HR10.out⟩
                  case measure => simp [intOf]; omega
          · have m1 : ((j : Int) + (sn : Int) - 1).tmod (sn : Int) = (k : Int) := by simpa using hback
            have hz : ((sn : Int) == 0) = false := beq_eq_false_iff_ne.2 (by omega)
            have HOD := HO.out.still (Turn.drew (Still.refl wr) : Still wr wr.drew)
            have hS1 := ring_set1 HOD hlt hk hkn hn4
            rw [HY.out.1, HY.out.2] at hS1
            have HS1 := Lib.hid hS1
            have HPT := Lib.hid (ptr_lit y2 yb2 wr.drew)
            have HIM := Lib.hid (imm_lit j (by omega))
            have HWD : Hid (Owned w wr.drew g gw Z 1 2 s6 (M.ring true sn j)) := HOD
            have dj : wr.drew.cell? ⟨b, j, none⟩ = some (.int .i64 y1) := hcj
            have dk : wr.drew.cell? ⟨b, k, none⟩ = some (.int .i64 y2) := hck
            have dl : b < wr.drew.heap.size := hb
            have HRD : Hid (wr.drew.ownsRow w2.heap.size 3 1 (.slice (some ⟨b, 0, none⟩) sn sc) sn (M.ints ((List.range sn).map fun i => 3 * (i + 1)))) := HROW6.out
            obtain ⟨p2, hp2⟩ : ∃ p, 2 * y2 = p := ⟨_, rfl⟩
            rw [hp2] at HS1 HPT
            obtain ⟨jm, hjm⟩ : ∃ jm, 2 * j + 1 = jm := ⟨_, rfl⟩
            rw [hjm] at HIM
            have HJM := Lib.hid hjm
            clear hback hk HOD hS1 hcj hck hb hp2 hjm
            go_wp2_with fail
            refine wp_region_any (by kernel_rfl) ?_
            change wpAny _ _ _ _ _ _ _ (World.drew _)
            refine wpAny_take (i := 0) (v := ?_) rfl (by kernel_rfl) (by kernel_rfl) (by kernel_rfl) (fun _ _ _ h => h) (Or.inl ⟨by rfl, ?_⟩) ?_
            rotate_left
            · intro w; go_simp; try with_reducible rfl
            go_simp
            refine wpAny_take (i := 1) (v := ?_) rfl (by kernel_rfl) (by kernel_rfl) (by kernel_rfl) (fun _ _ _ h => h) (Or.inl ⟨by rfl, ?_⟩) ?_
            rotate_left
            · intro w; go_simp; try with_reducible rfl
            go_simp
            refine wpAny_take (i := 2) (v := ?_) rfl (by kernel_rfl) (by kernel_rfl) (by kernel_rfl) (fun _ _ _ h => h) (Or.inl ⟨by rfl, ?_⟩) ?_
            rotate_left
            · intro w; go_simp; try with_reducible rfl
            go_simp
            refine wpAny_take (i := 3) (v := ?_) rfl (by kernel_rfl) (by kernel_rfl) (by kernel_rfl) (fun _ _ _ h => h) (Or.inl ⟨by rfl, ?_⟩) ?_
            rotate_left
            · intro w; go_simp; try with_reducible rfl
            go_simp
            refine wpAny_take (i := 5) (v := ?_) rfl (by kernel_rfl) (by kernel_rfl) (by kernel_rfl) (fun _ _ _ h => h) (Or.inl ⟨by rfl, ?_⟩) ?_
            rotate_left
            · intro w; go_simp; try with_reducible rfl
            go_simp
            refine wpAny_take (i := 6) (v := ?_) rfl (by kernel_rfl) (by kernel_rfl) (by kernel_rfl) (fun _ _ _ h => h) (Or.inl ⟨by rfl, ?_⟩) ?_
            rotate_left
            · intro w; go_simp; try with_reducible rfl
            go_simp
            refine wpAny_take (i := 7) (v := ?_) rfl (by kernel_rfl) (by kernel_rfl) (by kernel_rfl) (fun _ _ _ h => h) (Or.inl ⟨by rfl, ?_⟩) ?_
            rotate_left
            · intro w; go_simp; try with_reducible rfl
            go_simp
            refine wpAny_ready (rs := [4, 8]) (by kernel_rfl) (by simp) ?_
            refine AllReady.cons rfl (fun K hK => ?_) (AllReady.cons rfl (fun K hK => ?_) AllReady.nil)
            · go_simp
              refine hK _ _ ?_; clear hK K
              refine wpAny_ready (rs := [8]) (by kernel_rfl) (by simp) ?_
              refine AllReady.cons rfl (fun K hK => ?_) AllReady.nil
              go_simp
              refine hK _ _ ?_; clear hK K
              refine wpAny_ready (rs := [9]) (by kernel_rfl) (by simp) ?_
              refine AllReady.cons rfl (fun K hK => ?_) AllReady.nil
              go_simp
              go_wp2_with (first | (go_at_call 37; (with_reducible refine HPT.out.mono ?_); rintro e w7 ⟨rfl, rfl⟩) | (go_at_call 41; (with_reducible refine HS1.out.mono ?_); rintro e w8 ⟨rfl, t8, s8, h8, ht8⟩; have HR8 := Lib.hid (HWD.out.keepInts t8 HRD.out); obtain ⟨ej, el⟩ := ring_row HR8.out hlt; rw [HY.out.1] at ej; rw [← HY.out.1] at h8; have hS2 := ring_set2 h8 hlt hn4; rw [HY.out.1, HJM.out] at hS2; have HS2 := Lib.hid hS2; have HT8 := Lib.hid ht8; have HO8 := Lib.hid h8; clear t8 h8 ht8 hS2 HS1) | (go_at_call 38; (with_reducible refine (HIM.out _).mono ?_); rintro e w7 ⟨rfl, rfl⟩) | (go_at_call 41; (with_reducible refine HS2.out.mono ?_); rintro e w10 ⟨rfl, t10, s10, h10, ht10⟩; have HE := Lib.hid (And.intro h10 (ht10.trans HT8.out)); have HR10 := Lib.hid (HO8.out.keepInts t10 HR8.out); clear t10 h10 ht10 HS2))
              refine wpAny_ready (rs := [10]) (by kernel_rfl) (by simp) ?_
              refine AllReady.cons rfl (fun K hK => ?_) AllReady.nil
              go_simp
              go_wp2_with (first | (go_at_call 37; (with_reducible refine HPT.out.mono ?_); rintro e w7 ⟨rfl, rfl⟩) | (go_at_call 41; (with_reducible refine HS1.out.mono ?_); rintro e w8 ⟨rfl, t8, s8, h8, ht8⟩; have HR8 := Lib.hid (HWD.out.keepInts t8 HRD.out); obtain ⟨ej, el⟩ := ring_row HR8.out hlt; rw [HY.out.1] at ej; rw [← HY.out.1] at h8; have hS2 := ring_set2 h8 hlt hn4; rw [HY.out.1, HJM.out] at hS2; have HS2 := Lib.hid hS2; have HT8 := Lib.hid ht8; have HO8 := Lib.hid h8; clear t8 h8 ht8 hS2 HS1) | (go_at_call 38; (with_reducible refine (HIM.out _).mono ?_); rintro e w7 ⟨rfl, rfl⟩) | (go_at_call 41; (with_reducible refine HS2.out.mono ?_); rintro e w10 ⟨rfl, t10, s10, h10, ht10⟩; have HE := Lib.hid (And.intro h10 (ht10.trans HT8.out)); have HR10 := Lib.hid (HO8.out.keepInts t10 HR8.out); clear t10 h10 ht10 HS2))
              refine wpAny_take (i := 11) (v := ?_) rfl (by kernel_rfl) (by kernel_rfl) (by kernel_rfl) (fun _ _ _ h => h) (Or.inl ⟨by rfl, ?_⟩) ?_
              rotate_left
              · intro w; go_simp; try with_reducible rfl
              go_simp
              refine wpAny_take (i := 12) (v := ?_) rfl (by kernel_rfl) (by kernel_rfl) (by kernel_rfl) (fun _ _ _ h => h) (Or.inl ⟨by rfl, ?_⟩) ?_
              rotate_left
              · intro w; go_simp; try with_reducible rfl
              go_simp
              refine wpAny_take (i := 13) (v := ?_) rfl (by kernel_rfl) (by kernel_rfl) (by kernel_rfl) (fun _ _ _ h => h) (Or.inl ⟨by rfl, ?_⟩) ?_
              rotate_left
              · intro w; go_simp; try with_reducible rfl
              go_simp
              refine wpAny_take (i := 14) (v := ?_) rfl (by kernel_rfl) (by kernel_rfl) (by kernel_rfl) (fun _ _ _ h => h) (Or.inl ⟨by rfl, ?_⟩) ?_
              rotate_left
              · intro w; go_simp; try with_reducible rfl
              go_simp
              refine wpAny_take (i := 15) (v := ?_) rfl (by kernel_rfl) (by kernel_rfl) (by kernel_rfl) (fun _ _ _ h => h) (Or.inl ⟨by rfl, ?_⟩) ?_
              rotate_left
              · intro w; go_simp; try with_reducible rfl
              go_simp
              refine wpAny_take (i := 16) (v := ?_) rfl (by kernel_rfl) (by kernel_rfl) (by kernel_rfl) (fun _ _ _ h => h) (Or.inl ⟨by rfl, ?_⟩) ?_
              rotate_left
              · intro w; go_simp; try with_reducible rfl
              go_simp
              refine wpAny_take (i := 18) (v := ?_) rfl (by kernel_rfl) (by kernel_rfl) (by kernel_rfl) (fun _ _ _ h => h) (Or.inl ⟨by rfl, ?_⟩) ?_
              rotate_left
              · intro w; go_simp; try with_reducible rfl
              go_simp
              refine wpAny_ready (rs := [17, 19]) (by kernel_rfl) (by simp) ?_
              refine AllReady.cons rfl (fun K hK => ?_) (AllReady.cons rfl (fun K hK => ?_) AllReady.nil)
              · go_simp
                refine hK _ _ ?_; clear hK K
                refine wpAny_ready (rs := [19]) (by kernel_rfl) (by simp) ?_
                refine AllReady.cons rfl (fun K hK => ?_) AllReady.nil
                go_simp
                go_wp2_with (first | (go_at_call 37; (with_reducible refine HPT.out.mono ?_); rintro e w7 ⟨rfl, rfl⟩) | (go_at_call 41; (with_reducible refine HS1.out.mono ?_); rintro e w8 ⟨rfl, t8, s8, h8, ht8⟩; have HR8 := Lib.hid (HWD.out.keepInts t8 HRD.out); obtain ⟨ej, el⟩ := ring_row HR8.out hlt; rw [HY.out.1] at ej; rw [← HY.out.1] at h8; have hS2 := ring_set2 h8 hlt hn4; rw [HY.out.1, HJM.out] at hS2; have HS2 := Lib.hid hS2; have HT8 := Lib.hid ht8; have HO8 := Lib.hid h8; clear t8 h8 ht8 hS2 HS1) | (go_at_call 38; (with_reducible refine (HIM.out _).mono ?_); rintro e w7 ⟨rfl, rfl⟩) | (go_at_call 41; (with_reducible refine HS2.out.mono ?_); rintro e w10 ⟨rfl, t10, s10, h10, ht10⟩; have HE := Lib.hid (And.intro h10 (ht10.trans HT8.out)); have HR10 := Lib.hid (HO8.out.keepInts t10 HR8.out); clear t10 h10 ht10 HS2))
                refine wpAny_ready (rs := [20]) (by kernel_rfl) (by simp) ?_
                refine AllReady.cons rfl (fun K hK => ?_) AllReady.nil
                go_simp
                go_wp2_with (first | (go_at_call 37; (with_reducible refine HPT.out.mono ?_); rintro e w7 ⟨rfl, rfl⟩) | (go_at_call 41; (with_reducible refine HS1.out.mono ?_); rintro e w8 ⟨rfl, t8, s8, h8, ht8⟩; have HR8 := Lib.hid (HWD.out.keepInts t8 HRD.out); obtain ⟨ej, el⟩ := ring_row HR8.out hlt; rw [HY.out.1] at ej; rw [← HY.out.1] at h8; have hS2 := ring_set2 h8 hlt hn4; rw [HY.out.1, HJM.out] at hS2; have HS2 := Lib.hid hS2; have HT8 := Lib.hid ht8; have HO8 := Lib.hid h8; clear t8 h8 ht8 hS2 HS1) | (go_at_call 38; (with_reducible refine (HIM.out _).mono ?_); rintro e w7 ⟨rfl, rfl⟩) | (go_at_call 41; (with_reducible refine HS2.out.mono ?_); rintro e w10 ⟨rfl, t10, s10, h10, ht10⟩; have HE := Lib.hid (And.intro h10 (ht10.trans HT8.out)); have HR10 := Lib.hid (HO8.out.keepInts t10 HR8.out); clear t10 h10 ht10 HS2))
                refine wpAny_take (i := 21) (v := ?_) rfl (by kernel_rfl) (by kernel_rfl) (by kernel_rfl) (fun _ _ _ h => h) (Or.inl ⟨by rfl, ?_⟩) ?_
                rotate_left
                · intro w; go_simp; try with_reducible rfl
                go_simp
                refine wpAny_take (i := 22) (v := ?_) rfl (by kernel_rfl) (by kernel_rfl) (by kernel_rfl) (fun _ _ _ h => h) (Or.inl ⟨by rfl, ?_⟩) ?_
                rotate_left
                · intro w; go_simp; try with_reducible rfl
                go_simp
                refine wpAny_done (by kernel_rfl) ?_ _
                go_wp2_with fail
                go_roundw
                case rel => exact ⟨j + 1, s10, by go_num, by omega, HE.out.1, HE.out.2.trans HT.out, HR10.out⟩
                case measure => simp [intOf]; omega
              · go_simp
                go_wp2_with (first | (go_at_call 37; (with_reducible refine HPT.out.mono ?_); rintro e w7 ⟨rfl, rfl⟩) | (go_at_call 41; (with_reducible refine HS1.out.mono ?_); rintro e w8 ⟨rfl, t8, s8, h8, ht8⟩; have HR8 := Lib.hid (HWD.out.keepInts t8 HRD.out); obtain ⟨ej, el⟩ := ring_row HR8.out hlt; rw [HY.out.1] at ej; rw [← HY.out.1] at h8; have hS2 := ring_set2 h8 hlt hn4; rw [HY.out.1, HJM.out] at hS2; have HS2 := Lib.hid hS2; have HT8 := Lib.hid ht8; have HO8 := Lib.hid h8; clear t8 h8 ht8 hS2 HS1) | (go_at_call 38; (with_reducible refine (HIM.out _).mono ?_); rintro e w7 ⟨rfl, rfl⟩) | (go_at_call 41; (with_reducible refine HS2.out.mono ?_); rintro e w10 ⟨rfl, t10, s10, h10, ht10⟩; have HE := Lib.hid (And.intro h10 (ht10.trans HT8.out)); have HR10 := Lib.hid (HO8.out.keepInts t10 HR8.out); clear t10 h10 ht10 HS2))
                refine wpAny_ready (rs := [17]) (by kernel_rfl) (by simp) ?_
                refine AllReady.cons rfl (fun K hK => ?_) AllReady.nil
                go_simp
                refine hK _ _ ?_; clear hK K
                refine wpAny_ready (rs := [20]) (by kernel_rfl) (by simp) ?_
                refine AllReady.cons rfl (fun K hK => ?_) AllReady.nil
                go_simp
                go_wp2_with (first | (go_at_call 37; (with_reducible refine HPT.out.mono ?_); rintro e w7 ⟨rfl, rfl⟩) | (go_at_call 41; (with_reducible refine HS1.out.mono ?_); rintro e w8 ⟨rfl, t8, s8, h8, ht8⟩; have HR8 := Lib.hid (HWD.out.keepInts t8 HRD.out); obtain ⟨ej, el⟩ := ring_row HR8.out hlt; rw [HY.out.1] at ej; rw [← HY.out.1] at h8; have hS2 := ring_set2 h8 hlt hn4; rw [HY.out.1, HJM.out] at hS2; have HS2 := Lib.hid hS2; have HT8 := Lib.hid ht8; have HO8 := Lib.hid h8; clear t8 h8 ht8 hS2 HS1) | (go_at_call 38; (with_reducible refine (HIM.out _).mono ?_); rintro e w7 ⟨rfl, rfl⟩) | (go_at_call 41; (with_reducible refine HS2.out.mono ?_); rintro e w10 ⟨rfl, t10, s10, h10, ht10⟩; have HE := Lib.hid (And.intro h10 (ht10.trans HT8.out)); have HR10 := Lib.hid (HO8.out.keepInts t10 HR8.out); clear t10 h10 ht10 HS2))
                refine wpAny_take (i := 21) (v := ?_) rfl (by kernel_rfl) (by kernel_rfl) (by kernel_rfl) (fun _ _ _ h => h) (Or.inl ⟨by rfl, ?_⟩) ?_
                rotate_left
                · intro w; go_simp; try with_reducible rfl
                go_simp
                refine wpAny_take (i := 22) (v := ?_) rfl (by kernel_rfl) (by kernel_rfl) (by kernel_rfl) (fun _ _ _ h => h) (Or.inl ⟨by rfl, ?_⟩) ?_
                rotate_left
                · intro w; go_simp; try with_reducible rfl
                go_simp
                refine wpAny_done (by kernel_rfl) ?_ _
                go_wp2_with fail
                go_roundw
                case rel => exact ⟨j + 1, s10, by go_num, by omega, HE.out.1, HE.out.2.trans HT.out, HR10.out⟩
                case measure => simp [intOf]; omega
            · go_simp
              refine hK _ _ ?_; clear hK K
              refine wpAny_ready (rs := [4, 9]) (by kernel_rfl) (by simp) ?_
              refine AllReady.cons rfl (fun K hK => ?_) (AllReady.cons rfl (fun K hK => ?_) AllReady.nil)
              · go_simp
                refine hK _ _ ?_; clear hK K
                refine wpAny_ready (rs := [9]) (by kernel_rfl) (by simp) ?_
                refine AllReady.cons rfl (fun K hK => ?_) AllReady.nil
                go_simp
                go_wp2_with (first | (go_at_call 37; (with_reducible refine HPT.out.mono ?_); rintro e w7 ⟨rfl, rfl⟩) | (go_at_call 41; (with_reducible refine HS1.out.mono ?_); rintro e w8 ⟨rfl, t8, s8, h8, ht8⟩; have HR8 := Lib.hid (HWD.out.keepInts t8 HRD.out); obtain ⟨ej, el⟩ := ring_row HR8.out hlt; rw [HY.out.1] at ej; rw [← HY.out.1] at h8; have hS2 := ring_set2 h8 hlt hn4; rw [HY.out.1, HJM.out] at hS2; have HS2 := Lib.hid hS2; have HT8 := Lib.hid ht8; have HO8 := Lib.hid h8; clear t8 h8 ht8 hS2 HS1) | (go_at_call 38; (with_reducible refine (HIM.out _).mono ?_); rintro e w7 ⟨rfl, rfl⟩) | (go_at_call 41; (with_reducible refine HS2.out.mono ?_); rintro e w10 ⟨rfl, t10, s10, h10, ht10⟩; have HE := Lib.hid (And.intro h10 (ht10.trans HT8.out)); have HR10 := Lib.hid (HO8.out.keepInts t10 HR8.out); clear t10 h10 ht10 HS2))
                refine wpAny_ready (rs := [10]) (by kernel_rfl) (by simp) ?_
                refine AllReady.cons rfl (fun K hK => ?_) AllReady.nil
                go_simp
                go_wp2_with (first | (go_at_call 37; (with_reducible refine HPT.out.mono ?_); rintro e w7 ⟨rfl, rfl⟩) | (go_at_call 41; (with_reducible refine HS1.out.mono ?_); rintro e w8 ⟨rfl, t8, s8, h8, ht8⟩; have HR8 := Lib.hid (HWD.out.keepInts t8 HRD.out); obtain ⟨ej, el⟩ := ring_row HR8.out hlt; rw [HY.out.1] at ej; rw [← HY.out.1] at h8; have hS2 := ring_set2 h8 hlt hn4; rw [HY.out.1, HJM.out] at hS2; have HS2 := Lib.hid hS2; have HT8 := Lib.hid ht8; have HO8 := Lib.hid h8; clear t8 h8 ht8 hS2 HS1) | (go_at_call 38; (with_reducible refine (HIM.out _).mono ?_); rintro e w7 ⟨rfl, rfl⟩) | (go_at_call 41; (with_reducible refine HS2.out.mono ?_); rintro e w10 ⟨rfl, t10, s10, h10, ht10⟩; have HE := Lib.hid (And.intro h10 (ht10.trans HT8.out)); have HR10 := Lib.hid (HO8.out.keepInts t10 HR8.out); clear t10 h10 ht10 HS2))
                refine wpAny_take (i := 11) (v := ?_) rfl (by kernel_rfl) (by kernel_rfl) (by kernel_rfl) (fun _ _ _ h => h) (Or.inl ⟨by rfl, ?_⟩) ?_
                rotate_left
                · intro w; go_simp; try with_reducible rfl
                go_simp
                refine wpAny_take (i := 12) (v := ?_) rfl (by kernel_rfl) (by kernel_rfl) (by kernel_rfl) (fun _ _ _ h => h) (Or.inl ⟨by rfl, ?_⟩) ?_
                rotate_left
                · intro w; go_simp; try with_reducible rfl
                go_simp
                refine wpAny_take (i := 13) (v := ?_) rfl (by kernel_rfl) (by kernel_rfl) (by kernel_rfl) (fun _ _ _ h => h) (Or.inl ⟨by rfl, ?_⟩) ?_
                rotate_left
                · intro w; go_simp; try with_reducible rfl
                go_simp
                refine wpAny_take (i := 14) (v := ?_) rfl (by kernel_rfl) (by kernel_rfl) (by kernel_rfl) (fun _ _ _ h => h) (Or.inl ⟨by rfl, ?_⟩) ?_
                rotate_left
                · intro w; go_simp; try with_reducible rfl
                go_simp
                refine wpAny_take (i := 15) (v := ?_) rfl (by kernel_rfl) (by kernel_rfl) (by kernel_rfl) (fun _ _ _ h => h) (Or.inl ⟨by rfl, ?_⟩) ?_
                rotate_left
                · intro w; go_simp; try with_reducible rfl
                go_simp
                refine wpAny_take (i := 16) (v := ?_) rfl (by kernel_rfl) (by kernel_rfl) (by kernel_rfl) (fun _ _ _ h => h) (Or.inl ⟨by rfl, ?_⟩) ?_
                rotate_left
                · intro w; go_simp; try with_reducible rfl
                go_simp
                refine wpAny_take (i := 18) (v := ?_) rfl (by kernel_rfl) (by kernel_rfl) (by kernel_rfl) (fun _ _ _ h => h) (Or.inl ⟨by rfl, ?_⟩) ?_
                rotate_left
                · intro w; go_simp; try with_reducible rfl
                go_simp
                refine wpAny_ready (rs := [17, 19]) (by kernel_rfl) (by simp) ?_
                refine AllReady.cons rfl (fun K hK => ?_) (AllReady.cons rfl (fun K hK => ?_) AllReady.nil)
                · go_simp
                  refine hK _ _ ?_; clear hK K
                  refine wpAny_ready (rs := [19]) (by kernel_rfl) (by simp) ?_
                  refine AllReady.cons rfl (fun K hK => ?_) AllReady.nil
                  go_simp
                  go_wp2_with (first | (go_at_call 37; (with_reducible refine HPT.out.mono ?_); rintro e w7 ⟨rfl, rfl⟩) | (go_at_call 41; (with_reducible refine HS1.out.mono ?_); rintro e w8 ⟨rfl, t8, s8, h8, ht8⟩; have HR8 := Lib.hid (HWD.out.keepInts t8 HRD.out); obtain ⟨ej, el⟩ := ring_row HR8.out hlt; rw [HY.out.1] at ej; rw [← HY.out.1] at h8; have hS2 := ring_set2 h8 hlt hn4; rw [HY.out.1, HJM.out] at hS2; have HS2 := Lib.hid hS2; have HT8 := Lib.hid ht8; have HO8 := Lib.hid h8; clear t8 h8 ht8 hS2 HS1) | (go_at_call 38; (with_reducible refine (HIM.out _).mono ?_); rintro e w7 ⟨rfl, rfl⟩) | (go_at_call 41; (with_reducible refine HS2.out.mono ?_); rintro e w10 ⟨rfl, t10, s10, h10, ht10⟩; have HE := Lib.hid (And.intro h10 (ht10.trans HT8.out)); have HR10 := Lib.hid (HO8.out.keepInts t10 HR8.out); clear t10 h10 ht10 HS2))
                  refine wpAny_ready (rs := [20]) (by kernel_rfl) (by simp) ?_
                  refine AllReady.cons rfl (fun K hK => ?_) AllReady.nil
                  go_simp
                  go_wp2_with (first | (go_at_call 37; (with_reducible refine HPT.out.mono ?_); rintro e w7 ⟨rfl, rfl⟩) | (go_at_call 41; (with_reducible refine HS1.out.mono ?_); rintro e w8 ⟨rfl, t8, s8, h8, ht8⟩; have HR8 := Lib.hid (HWD.out.keepInts t8 HRD.out); obtain ⟨ej, el⟩ := ring_row HR8.out hlt; rw [HY.out.1] at ej; rw [← HY.out.1] at h8; have hS2 := ring_set2 h8 hlt hn4; rw [HY.out.1, HJM.out] at hS2; have HS2 := Lib.hid hS2; have HT8 := Lib.hid ht8; have HO8 := Lib.hid h8; clear t8 h8 ht8 hS2 HS1) | (go_at_call 38; (with_reducible refine (HIM.out _).mono ?_); rintro e w7 ⟨rfl, rfl⟩) | (go_at_call 41; (with_reducible refine HS2.out.mono ?_); rintro e w10 ⟨rfl, t10, s10, h10, ht10⟩; have HE := Lib.hid (And.intro h10 (ht10.trans HT8.out)); have HR10 := Lib.hid (HO8.out.keepInts t10 HR8.out); clear t10 h10 ht10 HS2))
                  refine wpAny_take (i := 21) (v := ?_) rfl (by kernel_rfl) (by kernel_rfl) (by kernel_rfl) (fun _ _ _ h => h) (Or.inl ⟨by rfl, ?_⟩) ?_
                  rotate_left
                  · intro w; go_simp; try with_reducible rfl
                  go_simp
                  refine wpAny_take (i := 22) (v := ?_) rfl (by kernel_rfl) (by kernel_rfl) (by kernel_rfl) (fun _ _ _ h => h) (Or.inl ⟨by rfl, ?_⟩) ?_
                  rotate_left
                  · intro w; go_simp; try with_reducible rfl
                  go_simp
                  refine wpAny_done (by kernel_rfl) ?_ _
                  go_wp2_with fail
                  go_roundw
                  case rel => exact ⟨j + 1, s10, by go_num, by omega, HE.out.1, HE.out.2.trans HT.out, HR10.out⟩
                  case measure => simp [intOf]; omega
                · go_simp
                  go_wp2_with (first | (go_at_call 37; (with_reducible refine HPT.out.mono ?_); rintro e w7 ⟨rfl, rfl⟩) | (go_at_call 41; (with_reducible refine HS1.out.mono ?_); rintro e w8 ⟨rfl, t8, s8, h8, ht8⟩; have HR8 := Lib.hid (HWD.out.keepInts t8 HRD.out); obtain ⟨ej, el⟩ := ring_row HR8.out hlt; rw [HY.out.1] at ej; rw [← HY.out.1] at h8; have hS2 := ring_set2 h8 hlt hn4; rw [HY.out.1, HJM.out] at hS2; have HS2 := Lib.hid hS2; have HT8 := Lib.hid ht8; have HO8 := Lib.hid h8; clear t8 h8 ht8 hS2 HS1) | (go_at_call 38; (with_reducible refine (HIM.out _).mono ?_); rintro e w7 ⟨rfl, rfl⟩) | (go_at_call 41; (with_reducible refine HS2.out.mono ?_); rintro e w10 ⟨rfl, t10, s10, h10, ht10⟩; have HE := Lib.hid (And.intro h10 (ht10.trans HT8.out)); have HR10 := Lib.hid (HO8.out.keepInts t10 HR8.out); clear t10 h10 ht10 HS2))
                  refine wpAny_ready (rs := [17]) (by kernel_rfl) (by simp) ?_
                  refine AllReady.cons rfl (fun K hK => ?_) AllReady.nil
                  go_simp
                  refine hK _ _ ?_; clear hK K
                  refine wpAny_ready (rs := [20]) (by kernel_rfl) (by simp) ?_
                  refine AllReady.cons rfl (fun K hK => ?_) AllReady.nil
                  go_simp
                  go_wp2_with (first | (go_at_call 37; (with_reducible refine HPT.out.mono ?_); rintro e w7 ⟨rfl, rfl⟩) | (go_at_call 41; (with_reducible refine HS1.out.mono ?_); rintro e w8 ⟨rfl, t8, s8, h8, ht8⟩; have HR8 := Lib.hid (HWD.out.keepInts t8 HRD.out); obtain ⟨ej, el⟩ := ring_row HR8.out hlt; rw [HY.out.1] at ej; rw [← HY.out.1] at h8; have hS2 := ring_set2 h8 hlt hn4; rw [HY.out.1, HJM.out] at hS2; have HS2 := Lib.hid hS2; have HT8 := Lib.hid ht8; have HO8 := Lib.hid h8; clear t8 h8 ht8 hS2 HS1) | (go_at_call 38; (with_reducible refine (HIM.out _).mono ?_); rintro e w7 ⟨rfl, rfl⟩) | (go_at_call 41; (with_reducible refine HS2.out.mono ?_); rintro e w10 ⟨rfl, t10, s10, h10, ht10⟩; have HE := Lib.hid (And.intro h10 (ht10.trans HT8.out)); have HR10 := Lib.hid (HO8.out.keepInts t10 HR8.out); clear t10 h10 ht10 HS2))
                  refine wpAny_take (i := 21) (v := ?_) rfl (by kernel_rfl) (by kernel_rfl) (by kernel_rfl) (fun _ _ _ h => h) (Or.inl ⟨by rfl, ?_⟩) ?_
                  rotate_left
                  · intro w; go_simp; try with_reducible rfl
                  go_simp
                  refine wpAny_take (i := 22) (v := ?_) rfl (by kernel_rfl) (by kernel_rfl) (by kernel_rfl) (fun _ _ _ h => h) (Or.inl ⟨by rfl, ?_⟩) ?_
                  rotate_left
                  · intro w; go_simp; try with_reducible rfl
                  go_simp
                  refine wpAny_done (by kernel_rfl) ?_ _
                  go_wp2_with fail
                  go_roundw
                  case rel => exact ⟨j + 1, s10, by go_num, by omega, HE.out.1, HE.out.2.trans HT.out, HR10.out⟩
                  case measure => simp [intOf]; omega
              · go_simp
                go_wp2_with (first | (go_at_call 37; (with_reducible refine HPT.out.mono ?_); rintro e w7 ⟨rfl, rfl⟩) | (go_at_call 41; (with_reducible refine HS1.out.mono ?_); rintro e w8 ⟨rfl, t8, s8, h8, ht8⟩; have HR8 := Lib.hid (HWD.out.keepInts t8 HRD.out); obtain ⟨ej, el⟩ := ring_row HR8.out hlt; rw [HY.out.1] at ej; rw [← HY.out.1] at h8; have hS2 := ring_set2 h8 hlt hn4; rw [HY.out.1, HJM.out] at hS2; have HS2 := Lib.hid hS2; have HT8 := Lib.hid ht8; have HO8 := Lib.hid h8; clear t8 h8 ht8 hS2 HS1) | (go_at_call 38; (with_reducible refine (HIM.out _).mono ?_); rintro e w7 ⟨rfl, rfl⟩) | (go_at_call 41; (with_reducible refine HS2.out.mono ?_); rintro e w10 ⟨rfl, t10, s10, h10, ht10⟩; have HE := Lib.hid (And.intro h10 (ht10.trans HT8.out)); have HR10 := Lib.hid (HO8.out.keepInts t10 HR8.out); clear t10 h10 ht10 HS2))
                refine wpAny_ready (rs := [4]) (by kernel_rfl) (by simp) ?_
                refine AllReady.cons rfl (fun K hK => ?_) AllReady.nil
                go_simp
                refine hK _ _ ?_; clear hK K
                refine wpAny_ready (rs := [10]) (by kernel_rfl) (by simp) ?_
                refine AllReady.cons rfl (fun K hK => ?_) AllReady.nil
                go_simp
                go_wp2_with (first | (go_at_call 37; (with_reducible refine HPT.out.mono ?_); rintro e w7 ⟨rfl, rfl⟩) | (go_at_call 41; (with_reducible refine HS1.out.mono ?_); rintro e w8 ⟨rfl, t8, s8, h8, ht8⟩; have HR8 := Lib.hid (HWD.out.keepInts t8 HRD.out); obtain ⟨ej, el⟩ := ring_row HR8.out hlt; rw [HY.out.1] at ej; rw [← HY.out.1] at h8; have hS2 := ring_set2 h8 hlt hn4; rw [HY.out.1, HJM.out] at hS2; have HS2 := Lib.hid hS2; have HT8 := Lib.hid ht8; have HO8 := Lib.hid h8; clear t8 h8 ht8 hS2 HS1) | (go_at_call 38; (with_reducible refine (HIM.out _).mono ?_); rintro e w7 ⟨rfl, rfl⟩) | (go_at_call 41; (with_reducible refine HS2.out.mono ?_); rintro e w10 ⟨rfl, t10, s10, h10, ht10⟩; have HE := Lib.hid (And.intro h10 (ht10.trans HT8.out)); have HR10 := Lib.hid (HO8.out.keepInts t10 HR8.out); clear t10 h10 ht10 HS2))
                refine wpAny_take (i := 11) (v := ?_) rfl (by kernel_rfl) (by kernel_rfl) (by kernel_rfl) (fun _ _ _ h => h) (Or.inl ⟨by rfl, ?_⟩) ?_
                rotate_left
                · intro w; go_simp; try with_reducible rfl
                go_simp
                refine wpAny_take (i := 12) (v := ?_) rfl (by kernel_rfl) (by kernel_rfl) (by kernel_rfl) (fun _ _ _ h => h) (Or.inl ⟨by rfl, ?_⟩) ?_
                rotate_left
                · intro w; go_simp; try with_reducible rfl
                go_simp
                refine wpAny_take (i := 13) (v := ?_) rfl (by kernel_rfl) (by kernel_rfl) (by kernel_rfl) (fun _ _ _ h => h) (Or.inl ⟨by rfl, ?_⟩) ?_
                rotate_left
                · intro w; go_simp; try with_reducible rfl
                go_simp
                refine wpAny_take (i := 14) (v := ?_) rfl (by kernel_rfl) (by kernel_rfl) (by kernel_rfl) (fun _ _ _ h => h) (Or.inl ⟨by rfl, ?_⟩) ?_
                rotate_left
                · intro w; go_simp; try with_reducible rfl
                go_simp
                refine wpAny_take (i := 15) (v := ?_) rfl (by kernel_rfl) (by kernel_rfl) (by kernel_rfl) (fun _ _ _ h => h) (Or.inl ⟨by rfl, ?_⟩) ?_
                rotate_left
                · intro w; go_simp; try with_reducible rfl
                go_simp
                refine wpAny_take (i := 16) (v := ?_) rfl (by kernel_rfl) (by kernel_rfl) (by kernel_rfl) (fun _ _ _ h => h) (Or.inl ⟨by rfl, ?_⟩) ?_
                rotate_left
                · intro w; go_simp; try with_reducible rfl
                go_simp
                refine wpAny_take (i := 18) (v := ?_) rfl (by kernel_rfl) (by kernel_rfl) (by kernel_rfl) (fun _ _ _ h => h) (Or.inl ⟨by rfl, ?_⟩) ?_
                rotate_left
                · intro w; go_simp; try with_reducible rfl
                go_simp
                refine wpAny_ready (rs := [17, 19]) (by kernel_rfl) (by simp) ?_
                refine AllReady.cons rfl (fun K hK => ?_) (AllReady.cons rfl (fun K hK => ?_) AllReady.nil)
                · go_simp
                  refine hK _ _ ?_; clear hK K
                  refine wpAny_ready (rs := [19]) (by kernel_rfl) (by simp) ?_
                  refine AllReady.cons rfl (fun K hK => ?_) AllReady.nil
                  go_simp
                  go_wp2_with (first | (go_at_call 37; (with_reducible refine HPT.out.mono ?_); rintro e w7 ⟨rfl, rfl⟩) | (go_at_call 41; (with_reducible refine HS1.out.mono ?_); rintro e w8 ⟨rfl, t8, s8, h8, ht8⟩; have HR8 := Lib.hid (HWD.out.keepInts t8 HRD.out); obtain ⟨ej, el⟩ := ring_row HR8.out hlt; rw [HY.out.1] at ej; rw [← HY.out.1] at h8; have hS2 := ring_set2 h8 hlt hn4; rw [HY.out.1, HJM.out] at hS2; have HS2 := Lib.hid hS2; have HT8 := Lib.hid ht8; have HO8 := Lib.hid h8; clear t8 h8 ht8 hS2 HS1) | (go_at_call 38; (with_reducible refine (HIM.out _).mono ?_); rintro e w7 ⟨rfl, rfl⟩) | (go_at_call 41; (with_reducible refine HS2.out.mono ?_); rintro e w10 ⟨rfl, t10, s10, h10, ht10⟩; have HE := Lib.hid (And.intro h10 (ht10.trans HT8.out)); have HR10 := Lib.hid (HO8.out.keepInts t10 HR8.out); clear t10 h10 ht10 HS2))
                  refine wpAny_ready (rs := [20]) (by kernel_rfl) (by simp) ?_
                  refine AllReady.cons rfl (fun K hK => ?_) AllReady.nil
                  go_simp
                  go_wp2_with (first | (go_at_call 37; (with_reducible refine HPT.out.mono ?_); rintro e w7 ⟨rfl, rfl⟩) | (go_at_call 41; (with_reducible refine HS1.out.mono ?_); rintro e w8 ⟨rfl, t8, s8, h8, ht8⟩; have HR8 := Lib.hid (HWD.out.keepInts t8 HRD.out); obtain ⟨ej, el⟩ := ring_row HR8.out hlt; rw [HY.out.1] at ej; rw [← HY.out.1] at h8; have hS2 := ring_set2 h8 hlt hn4; rw [HY.out.1, HJM.out] at hS2; have HS2 := Lib.hid hS2; have HT8 := Lib.hid ht8; have HO8 := Lib.hid h8; clear t8 h8 ht8 hS2 HS1) | (go_at_call 38; (with_reducible refine (HIM.out _).mono ?_); rintro e w7 ⟨rfl, rfl⟩) | (go_at_call 41; (with_reducible refine HS2.out.mono ?_); rintro e w10 ⟨rfl, t10, s10, h10, ht10⟩; have HE := Lib.hid (And.intro h10 (ht10.trans HT8.out)); have HR10 := Lib.hid (HO8.out.keepInts t10 HR8.out); clear t10 h10 ht10 HS2))
                  refine wpAny_take (i := 21) (v := ?_) rfl (by kernel_rfl) (by kernel_rfl) (by kernel_rfl) (fun _ _ _ h => h) (Or.inl ⟨by rfl, ?_⟩) ?_
                  rotate_left
                  · intro w; go_simp; try with_reducible rfl
                  go_simp
                  refine wpAny_take (i := 22) (v := ?_) rfl (by kernel_rfl) (by kernel_rfl) (by kernel_rfl) (fun _ _ _ h => h) (Or.inl ⟨by rfl, ?_⟩) ?_
                  rotate_left
                  · intro w; go_simp; try with_reducible rfl
                  go_simp
                  refine wpAny_done (by kernel_rfl) ?_ _
                  go_wp2_with fail
                  go_roundw
                  case rel => exact ⟨j + 1, s10, by go_num, by omega, HE.out.1, HE.out.2.trans HT.out, HR10.out⟩
                  case measure => simp [intOf]; omega
                · go_simp
                  go_wp2_with (first | (go_at_call 37; (with_reducible refine HPT.out.mono ?_); rintro e w7 ⟨rfl, rfl⟩) | (go_at_call 41; (with_reducible refine HS1.out.mono ?_); rintro e w8 ⟨rfl, t8, s8, h8, ht8⟩; have HR8 := Lib.hid (HWD.out.keepInts t8 HRD.out); obtain ⟨ej, el⟩ := ring_row HR8.out hlt; rw [HY.out.1] at ej; rw [← HY.out.1] at h8; have hS2 := ring_set2 h8 hlt hn4; rw [HY.out.1, HJM.out] at hS2; have HS2 := Lib.hid hS2; have HT8 := Lib.hid ht8; have HO8 := Lib.hid h8; clear t8 h8 ht8 hS2 HS1) | (go_at_call 38; (with_reducible refine (HIM.out _).mono ?_); rintro e w7 ⟨rfl, rfl⟩) | (go_at_call 41; (with_reducible refine HS2.out.mono ?_); rintro e w10 ⟨rfl, t10, s10, h10, ht10⟩; have HE := Lib.hid (And.intro h10 (ht10.trans HT8.out)); have HR10 := Lib.hid (HO8.out.keepInts t10 HR8.out); clear t10 h10 ht10 HS2))
                  refine wpAny_ready (rs := [17]) (by kernel_rfl) (by simp) ?_
                  refine AllReady.cons rfl (fun K hK => ?_) AllReady.nil
                  go_simp
                  refine hK _ _ ?_; clear hK K
                  refine wpAny_ready (rs := [20]) (by kernel_rfl) (by simp) ?_
                  refine AllReady.cons rfl (fun K hK => ?_) AllReady.nil
                  go_simp
                  go_wp2_with (first | (go_at_call 37; (with_reducible refine HPT.out.mono ?_); rintro e w7 ⟨rfl, rfl⟩) | (go_at_call 41; (with_reducible refine HS1.out.mono ?_); rintro e w8 ⟨rfl, t8, s8, h8, ht8⟩; have HR8 := Lib.hid (HWD.out.keepInts t8 HRD.out); obtain ⟨ej, el⟩ := ring_row HR8.out hlt; rw [HY.out.1] at ej; rw [← HY.out.1] at h8; have hS2 := ring_set2 h8 hlt hn4; rw [HY.out.1, HJM.out] at hS2; have HS2 := Lib.hid hS2; have HT8 := Lib.hid ht8; have HO8 := Lib.hid h8; clear t8 h8 ht8 hS2 HS1) | (go_at_call 38; (with_reducible refine (HIM.out _).mono ?_); rintro e w7 ⟨rfl, rfl⟩) | (go_at_call 41; (with_reducible refine HS2.out.mono ?_); rintro e w10 ⟨rfl, t10, s10, h10, ht10⟩; have HE := Lib.hid (And.intro h10 (ht10.trans HT8.out)); have HR10 := Lib.hid (HO8.out.keepInts t10 HR8.out); clear t10 h10 ht10 HS2))
                  refine wpAny_take (i := 21) (v := ?_) rfl (by kernel_rfl) (by kernel_rfl) (by kernel_rfl) (fun _ _ _ h => h) (Or.inl ⟨by rfl, ?_⟩) ?_
                  rotate_left
                  · intro w; go_simp; try with_reducible rfl
                  go_simp
                  refine wpAny_take (i := 22) (v := ?_) rfl (by kernel_rfl) (by kernel_rfl) (by kernel_rfl) (fun _ _ _ h => h) (Or.inl ⟨by rfl, ?_⟩) ?_
                  rotate_left
                  · intro w; go_simp; try with_reducible rfl
                  go_simp
                  refine wpAny_done (by kernel_rfl) ?_ _
                  go_wp2_with fail
                  go_roundw
                  case rel => exact ⟨j + 1, s10, by go_num, by omega, HE.out.1, HE.out.2.trans HT.out, HR10.out⟩
                  case measure => simp [intOf]; omega
        · obtain rfl : sn = j := by omega
          obtain ⟨i0, hi0, hin⟩ := idx_lit hold hn1 hn4
          have hlr : ((List.range sn).map fun i => 3 * (i + 1)).getD i0 0 = 3 * (i0 + 1) := by
            rw [List.getD_eq_getElem?_getD, List.getElem?_map, List.getElem?_range hin]; rfl
          obtain ⟨b, rfl, hb, hle, hmx, hci⟩ := ints_at hrow (by simp) hin
          rw [hlr] at hci
          unfold maxLen at hmx
          obtain ⟨y, hy⟩ : ∃ y, 3 * (i0 + 1) = y := ⟨_, rfl⟩
          rw [hy] at hci
          have hyb : y ≤ 65536 := by omega
          obtain ⟨p, hp⟩ : ∃ p, 2 * y = p := ⟨_, rfl⟩
          have HPT := Lib.hid (ptr_lit y hyb wr)
          rw [hp] at HPT
          have hp6 : p = 6 * (i0 + 1) := by omega
          have HS1 : Hid (Still wr (wr.alloc (.cells #[.int .u64 p] 33))) := (Still.refl wr).alloc _
          have hrt : RootL (wr.alloc (.cells #[.int .u64 p] 33)) s6 (some ⟨wr.heap.size, 0, none⟩) [p] := right_root_lit ho.right [p] (by simp; omega) (by simp)
          have hco := (ho.still HS1.out).collect (some ⟨wr.heap.size, 0, none⟩) 1 1 [p] rfl hrt (by decide) (by decide) (fun v hv => by
            rw [List.mem_singleton.1 hv, hp6]
            exact ho.right.fits_at (o := M.link back sn sn i0) (ring_mem hin) (by show ((6 * (i0 + 1) : Nat) : Int) / 2 = ((3 * (i0 + 1) : Nat) : Int); omega))
          have HCO := Lib.hid hco
          have HI := Lib.hid (And.intro hi0 (And.intro hin hp6))
          have hz1 : ((sn : Int) == 0) = false := beq_eq_false_iff_ne.2 (by omega)
          clear hrow ho htop hlr hy hp hp6 hrt hco
          go_wp2_with fail
          refine HPT.out.mono ?_; rintro e w6 ⟨rfl, rfl⟩
          go_wp2_with fail
          refine HCO.out.mono ?_; rintro e w7 ⟨mk, gr, hmk, rfl, hrow7, hgr, s7, h7, ht7⟩
          rw [HI.out.2.2] at hmk hrow7
          obtain ⟨htf, hsl⟩ := ring_moved HO.out hin hmk
          rw [hsl] at h7
          have ht7' : s7.top = 3 * sn := by rw [ht7, HT.out, ← HZ.out]; exact htf sn (Nat.le_refl _)
          have hz0 : M.ren (M.tof s6 mk (M.ring back sn sn)) ([6 * (i0 + 1)].getD 0 0) = 6 * i0 := by
            show M.ren _ (6 * (i0 + 1)) = _
            unfold M.ren
            rw [if_pos (by omega), show 6 * (i0 + 1) / 2 = 3 * (i0 + 1) by omega, htf i0 (by omega)]; omega
          have hc0 : w7.cell? ⟨gr, 0, none⟩ = some (.int .u64 (6 * i0 : Nat)) := by rw [hrow7.cell (i := 0) (by decide), hz0]
          have hgl := hrow7.lt
          have HTP := h7.top
          rw [ht7'] at HTP
          have HTP := Lib.hid HTP
          have H7 := Lib.hid h7
          obtain ⟨q3, hq3⟩ : ∃ q3, 3 * sn = q3 := ⟨_, rfl⟩
          have e3 : (3 : Int) * (sn : Int) = (q3 : Int) := by omega
          rw [hq3] at HTP
          obtain ⟨z0, hzz⟩ : ∃ z0, 6 * i0 = z0 := ⟨_, rfl⟩
          rw [hzz] at hc0
          have HZ0 := Lib.hid hzz
          have x1 : ((q3 : Int) != q3) = false := by simp
          clear hmk hrow7 h7 ht7 htf hsl ht7' hz0 hq3 hzz HCO
          go_wp2_with fail
          refine HTP.out.mono ?_; rintro e w8 ⟨rfl, rfl⟩
          go_wp2_with fail
          go_loopw [14, 17, 129] (fun ti tv tc wr' => ∃ (j i z : Nat), j ≤ sn ∧ M.walk back sn i0 j = i ∧ 6 * i = z ∧ tc = .int .i64 j ∧ ti = .int .i64 i ∧ tv = .int .u64 z ∧ Still w8 wr') (fun _ _ c _ => sn - (intOf c).toNat)
          case atStart => exact ⟨0, i0, z0, by omega, rfl, HZ0.out, rfl, rfl, rfl, Still.refl _⟩
          case round =>
            obtain ⟨j, i, z, hj, hi, hz, rfl, rfl, rfl, hst⟩ := hrel
            have hilt : i < sn := by rw [← hi]; exact walk_lt HI.out.2.1 j
            have HST := Lib.hid hst
            by_cases hlt : j < sn
            · obtain ⟨y, hy⟩ : ∃ y, 3 * i = y := ⟨_, rfl⟩
              have hyb : y ≤ 65536 := by omega
              obtain ⟨y2, hy2⟩ : ∃ y, 3 * i = y := ⟨_, rfl⟩
              obtain ⟨m, hm⟩ : ∃ m, 2 * i + 1 = m := ⟨_, rfl⟩
              obtain ⟨k, hk⟩ : ∃ k, M.nxt back sn i = k := ⟨_, rfl⟩
              obtain ⟨z2, hz2⟩ : ∃ z2, 6 * k = z2 := ⟨_, rfl⟩
              have HAT : Hid (∀ W, Calls Try.prog 43 #[.int .u64 z] W fun e w' => e = .returned (.int .i64 y) ∧ w' = W) := fun W => by
                have := at_twice y hyb W
                rwa [show 2 * y = z by omega] at this
              have hmem : M.sunk back sn i ∈ (List.range sn).map (M.sunk back sn) := List.mem_map.2 ⟨i, List.mem_range.2 hilt, rfl⟩
              have HG1 : Hid (∀ W, Still w8 W → Calls Try.prog 42 #[.pointer (some ⟨g, 0, none⟩), .int .i64 y, .int .i64 1] W fun e w' => e = .returned (.tuple #[.int .u64 m, .int .i64 0]) ∧ Still W w') := fun W hW => by
                have := (H7.out.still hW).get (j := 1) hmem (by unfold M.sunk M.objF; simp)
                rw [← hy, ← hm]; exact this
              have HG0 : Hid (∀ W, Still w8 W → Calls Try.prog 42 #[.pointer (some ⟨g, 0, none⟩), .int .i64 y, .int .i64 0] W fun e w' => e = .returned (.tuple #[.int .u64 z2, .int .i64 0]) ∧ Still W w') := fun W hW => by
                have := (H7.out.still hW).get (j := 0) hmem (by unfold M.sunk M.objF; simp)
                rw [← hy, ← hz2, ← hk]; exact this
              have HIM : Hid (∀ W, Calls Try.prog 38 #[.int .i64 i] W fun e w' => e = .returned (.int .u64 m) ∧ w' = W) := fun W => by
                have := imm_lit i (by omega) W
                rwa [hm] at this
              have hstep := step_lit back hn1 hn4 hilt
              have HK := Lib.hid hk
              rw [hk] at hstep
              obtain ⟨i1, hi1, hi1n, hi2⟩ := hstep
              have x2 : ((m : Int) != m) = false := by simp
              have HX := Lib.hid (And.intro hi hz2)
              clear hi hz hy hy2 hm hz2 hst hmem hk
              go_wp2_with fail
              refine (HAT.out _).mono ?_; rintro e w9 ⟨rfl, rfl⟩
              go_wp2_with fail
              refine (HG1.out _ HST.out).mono ?_; rintro e w10 ⟨rfl, t10⟩
              have HT10 := Lib.hid (HST.out.trans t10)
              clear t10
              go_wp2_with fail
              refine (HIM.out _).mono ?_; rintro e w11 ⟨rfl, rfl⟩
              cases back
              · have m2 : i1 = k := by simpa using hi2
                clear hi2
                go_wp2_with fail
                refine (HAT.out _).mono ?_; rintro e w12 ⟨rfl, rfl⟩
                go_wp2_with fail
                refine (HG0.out _ HT10.out).mono ?_; rintro e w13 ⟨rfl, t13⟩
                go_wp2_with fail
                go_roundw
                case rel => exact ⟨j + 1, k, z2, by omega, by rw [M.walk, HX.out.1]; exact HK.out, HX.out.2, by go_num, rfl, rfl, HT10.out.trans t13⟩
                case measure => simp [intOf]; omega
              · have m2 : ((i1 : Int) + (sn : Int) - 2).tmod (sn : Int) = (k : Int) := by simpa using hi2
                clear hi2
                go_wp2_with fail
                refine (HAT.out _).mono ?_; rintro e w12 ⟨rfl, rfl⟩
                go_wp2_with fail
                refine (HG0.out _ HT10.out).mono ?_; rintro e w13 ⟨rfl, t13⟩
                go_wp2_with fail
                go_roundw
                case rel => exact ⟨j + 1, k, z2, by omega, by rw [M.walk, HX.out.1]; exact HK.out, HX.out.2, by go_num, rfl, rfl, HT10.out.trans t13⟩
                case measure => simp [intOf]; omega
            · obtain rfl : sn = j := by omega
              have e0 : z = z0 := by rw [← hz, ← HZ0.out, ← hi, walk_end HI.out.2.1]
              subst e0
              have hc9 : wr.cell? ⟨gr, 0, none⟩ = some (.int .u64 z) := by rw [hst.cell (p := ⟨gr, 0, none⟩) hgl]; exact hc0
              have hgl9 : gr < wr.heap.size := Nat.lt_of_lt_of_le hgl hst.size
              have x2 : ((z : Int) == z) = true := by simp
              clear hi hz hst
              go_wp2_with fail
              refine (lives3_any _).mono ?_; rintro e w12 ⟨rfl, b12⟩
              go_wp2_with fail
              go_ret
              have hb9 := (H7.out.still HST.out).below
              exact ⟨rfl, hb9.trans (b12.mono hb9.size)⟩
end Go.Proofs.Ytmbdacfdefoknaa
