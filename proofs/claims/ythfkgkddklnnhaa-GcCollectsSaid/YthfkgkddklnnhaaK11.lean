/- Lemmas, put together: Gc1 Gc2 Ties. -/
import Derived.Test.YthfkgkddklnnhaaK10
import Derived.StillTailTactics
import Derived.Deep.RegionWith
import Derived.Deep.LoopGhost
/- A collector in memory; the contracts of gc's small functions. -/
namespace Go.Proofs.Ythfkgkddklnnhaa
set_option linter.unusedVariables false
open Go.ChangeShapes Go.WideShapes Go.ChangeAt Go.RowKit
open M (W)

/-- A collector: the block of its struct, that of its roots, how many, and which. -/
structure Cl where
  g : Nat
  gr : Nat
  r : Nat
  rs : Nat → Nat
abbrev Cl.ptr (c : Cl) : Value := .pointer (some ⟨c.g, 0, none⟩)
def Cl.cell (c : Cl) (s : St) (i : Nat) : Value := if i = 0 then s.ptr else if i = 1 then .slice (some ⟨c.gr, 0, none⟩) c.r c.r else .bool (decide (s.kind ((i - 2 : Nat) : Int) = 3))
structure ClIs (w : World) (s : St) (c : Cl) : Prop where
  hp : HpIs w s
  blk : w.rowIs c.g 99 514 (c.cell s)
  roots : w.rowIs c.gr 33 c.r (fun i => .int .u64 (c.rs i))
  rs_lt : ∀ i, c.rs i < 18446744073709551616
  r_le : c.r ≤ 17592186044416
  ne : c.gr ≠ s.gw
theorem ClIs.c0 {w : World} {s : St} {c : Cl} (h : ClIs w s c) : w.cell? ⟨c.g, 0, none⟩ = some (.pointer (some ⟨s.g, 0, none⟩)) := h.blk.cell (i := 0) (by omega)
theorem ClIs.c1 {w : World} {s : St} {c : Cl} (h : ClIs w s c) : w.cell? ⟨c.g, 1, none⟩ = some (.slice (some ⟨c.gr, 0, none⟩) c.r c.r) := h.blk.cell (i := 1) (by omega)
theorem ClIs.cb {w : World} {s : St} {c : Cl} (h : ClIs w s c) (k : Nat) (hk : k < 512) : w.cell? ⟨c.g, 2 + k, none⟩ = some (.bool (decide (s.kind (k : Int) = 3))) := by
  rw [h.blk.cell (i := 2 + k) (by omega)]
  unfold Cl.cell
  rw [if_neg (by omega), if_neg (by omega), show 2 + k - 2 = k by omega]
theorem ClIs.still {w w' : World} {s : St} {c : Cl} (h : ClIs w s c) (t : Still w w') : ClIs w' s c :=
  { h with hp := h.hp.still t, blk := h.blk.of_block (t.block _ h.blk.lt (fun e => e)), roots := h.roots.of_block (t.block _ h.roots.lt (fun e => e)) }
theorem ClIs.put {w w' : World} {s : St} {c : Cl} (h : ClIs w s c) {k v : Nat} (hp : HpIs w' (s.put k v)) (t : Turn (fun b => b = s.gw) w w') : ClIs w' (s.put k v) c := by
  refine ⟨hp, (h.blk.of_block (t.block _ h.blk.lt (fun e => HpIs.rowIs_ne h.blk h.hp.words (by decide) e))).congr fun i _ => rfl, h.roots.of_block (t.block _ h.roots.lt h.ne), h.rs_lt, h.r_le, h.ne⟩
def Cl.put (c : Cl) (i v : Nat) : Cl := { c with rs := fun j => if j = i then v else c.rs j }
theorem ClIs.putR {w : World} {s : St} {c : Cl} (h : ClIs w s c) {i v : Nat} (hv : v < 18446744073709551616) : ClIs (w.setCell ⟨c.gr, i, none⟩ (.int .u64 v)) s (c.put i v) ∧ Turn (fun b => b = c.gr) w (w.setCell ⟨c.gr, i, none⟩ (.int .u64 v)) := by
  have t : Turn (fun b => b = c.gr) w (w.setCell ⟨c.gr, i, none⟩ (.int .u64 v)) := (Turn.refl (fun b => b = c.gr) w).setCell (p := ⟨c.gr, i, none⟩) (fun _ => rfl) _
  refine ⟨⟨h.hp.keep t ?_ (fun e => h.ne e.symm) ?_, (h.blk.of_block (t.block _ h.blk.lt ?_)).congr fun i _ => rfl, (h.roots.set i (.int .u64 v)).congr fun j _ => ?_, fun j => ?_, h.r_le, h.ne⟩, t⟩
  · exact fun e => HpIs.rowIs_ne h.hp.blk h.roots (by decide) e
  · exact fun e => HpIs.rowIs_ne h.hp.lays h.roots (by decide) e
  · exact fun e => HpIs.rowIs_ne h.blk h.roots (by decide) e
  · show (if j = i then Value.int .u64 (v : Int) else .int .u64 (c.rs j)) = .int .u64 (((if j = i then v else c.rs j) : Nat) : Int)
    split <;> rfl
  · show (if j = i then v else c.rs j) < _
    split
    · exact hv
    · exact h.rs_lt j

/-- A heap with other words; a collector with other roots: both out of one memory, in which the roots have the places behind the heap's. -/
def St.at (s : St) (m : Nat → Nat) : St := { s with ws := m }
def Cl.at (c : Cl) (n : Nat) (m : Nat → Nat) : Cl := { c with rs := fun i => m (n + i) }
def M.upd (m : Nat → Nat) (k v : Nat) : Nat → Nat := fun j => if j = k then v else m j
/-- In w stand the heap s and the collector c, their words and roots those of the memory m. -/
structure GcIs (w : World) (s : St) (c : Cl) (m : Nat → Nat) : Prop where
  is : ClIs w (s.at m) (c.at s.n m)
  lt : ∀ j, m j < 18446744073709551616
theorem GcIs.still {w w' : World} {s : St} {c : Cl} {m : Nat → Nat} (h : GcIs w s c m) (t : Still w w') : GcIs w' s c m := ⟨h.is.still t, h.lt⟩
theorem GcIs.drewN {w : World} {s : St} {c : Cl} {m : Nat → Nat} (h : GcIs w s c m) (k : Nat) : GcIs (w.drewN k) s c m := h.still ((Still.refl w).drewN k)
theorem upd_lt {m : Nat → Nat} (h : ∀ j, m j < 18446744073709551616) {v : Nat} (hv : v < 18446744073709551616) (k : Nat) : ∀ j, M.upd m k v j < 18446744073709551616 := fun j => by
  unfold M.upd; split
  · exact hv
  · exact h j
theorem GcIs.put {w w' : World} {s : St} {c : Cl} {m : Nat → Nat} (h : GcIs w s c m) {k v : Nat} (hk : k < s.n) (hv : v < 18446744073709551616) (hp : HpIs w' ((s.at m).put k v)) (t : Turn (fun b => b = s.gw) w w') : GcIs w' s c (M.upd m k v) := by
  have h2 := h.is.put (k := k) (v := v) hp t
  refine ⟨⟨hp, h2.blk, h2.roots.congr fun i hi => ?_, fun i => upd_lt h.lt hv k _, h2.r_le, h2.ne⟩, upd_lt h.lt hv k⟩
  show Value.int .u64 ((m (s.n + i) : Nat) : Int) = .int .u64 ((M.upd m k v (s.n + i) : Nat) : Int)
  unfold M.upd
  rw [if_neg (by omega)]
theorem GcIs.putR {w : World} {s : St} {c : Cl} {m : Nat → Nat} (h : GcIs w s c m) {i v : Nat} (hv : v < 18446744073709551616) : GcIs (w.setCell ⟨c.gr, i, none⟩ (.int .u64 v)) s c (M.upd m (s.n + i) v) ∧ Turn (fun b => b = c.gr) w (w.setCell ⟨c.gr, i, none⟩ (.int .u64 v)) := by
  obtain ⟨h2, t⟩ := h.is.putR (i := i) hv
  refine ⟨⟨⟨⟨h2.hp.blk, h2.hp.words.congr fun j hj => ?_, h2.hp.lays, h2.hp.n_le, h2.hp.m_le, h2.hp.top_le, upd_lt h.lt hv _, h2.hp.hx_lt, h2.hp.kinds, h2.hp.lens⟩, h2.blk, h2.roots.congr fun j _ => ?_, fun j => upd_lt h.lt hv _ _, h2.r_le, h2.ne⟩, upd_lt h.lt hv _⟩, t⟩
  · show Value.int .u64 ((m j : Nat) : Int) = .int .u64 ((M.upd m (s.n + i) v j : Nat) : Int)
    have : j < s.n := hj
    unfold M.upd
    rw [if_neg (by omega)]
  · show Value.int .u64 (((if j = i then v else m (s.n + j)) : Nat) : Int) = .int .u64 ((M.upd m (s.n + i) v (s.n + j) : Nat) : Int)
    unfold M.upd
    by_cases e : j = i
    · rw [if_pos e, if_pos (by omega)]
    · rw [if_neg e, if_neg (by omega)]

/-- Is w the pointer of an object whose head is not marked? -/
def M.fresh (m : Nat → Nat) (v : Nat) : Bool := decide (v % 2 = 0) && decide (M.fld (m (v / 2)) 2199023255552 2 = 0)
theorem fresh_any (s : St) (c : Cl) (m : Nat → Nat) (v : Nat) (w : World) (h : GcIs w s c m) (hv : v < 18446744073709551616) (hin : v % 2 = 0 → v / 2 < s.n) :
    Calls Try.prog 76 #[c.ptr, .int .u64 v] w fun e w' => e = .returned (.bool (M.fresh m v)) ∧ ∃ n, w' = w.drewN n := by
  have c0 : w.cell? ⟨c.g, 0, none⟩ = some (.pointer (some ⟨s.g, 0, none⟩)) := h.is.c0
  have hg : c.g < w.heap.size := h.is.blk.lt
  have hII := fun W => isImm_any v W (by omega) (by omega)
  have hA := fun W => at_any v W (by omega) (by omega)
  have e2 : ((v : Int) / 2) = ((v / 2 : Nat) : Int) := by omega
  rw [e2] at hA
  obtain ⟨k, hk⟩ : ∃ k, v / 2 = k := ⟨_, rfl⟩
  unfold M.fresh
  rw [hk] at hA hin ⊢
  by_cases ho : v % 2 = 0
  · have e : ((v : Int) % 2 == 1) = false := beq_eq_false_iff_ne.2 (by omega)
    have hkn := hin ho
    rw [decide_eq_true ho, Bool.true_and]
    have hL := fun W (hW : HpIs W (s.at m)) => load_in (s.at m) k W hW hkn
    have hws := h.lt k
    have hM := fun W => marked_any (m k) W (by omega) (by omega)
    rw [e] at hII
    have HH := Lib.hid h
    have hb1 : M.fld (m k) 2199023255552 2 = 0 ∨ M.fld (m k) 2199023255552 2 = 1 := by unfold M.fld; omega
    have HB1 := Lib.hid hb1
    have HI := Lib.hid hII
    have HA := Lib.hid hA
    have HL := Lib.hid hL
    have HM := Lib.hid hM
    clear h hII hA e2 hk e hin hL hM hb1
    go_enter Try.func76, Try.ntmps76
    go_wp2_with fail
    go_quiet (first
      | (go_at_call 49; exact Calls.quiet_of_same (HI.out _))
      | (go_at_call 51; exact Calls.quiet_of_same (HA.out _))
      | (go_at_call 14; exact Calls.quiet_of_same (HL.out _ (HH.out.is.hp.drewN _)))
      | (go_at_call 93; exact Calls.quiet_of_same (HM.out _)))
    go_wp2_with fail
    go_ret
    refine ⟨?_, nq, rfl⟩
    show Ending.returned (.bool (!(M.fld (m k) 2199023255552 2 == 1))) = _
    rcases HB1.out with e | e <;> rw [e] <;> rfl
  · have e : ((v : Int) % 2 == 1) = true := beq_iff_eq.2 (by omega)
    rw [decide_eq_false ho, Bool.false_and]
    rw [e] at hII
    have HI := Lib.hid hII
    clear h hII hA e2 hk e hin
    go_enter Try.func76, Try.ntmps76
    go_wp2_with fail
    go_quiet ((go_at_call 49; exact Calls.quiet_of_same (HI.out _)))
    go_wp2_with fail
    go_ret
    exact ⟨rfl, nq, rfl⟩
/-- How many words, and how many fields, the object has whose head this is. -/
def St.needOf (s : St) (sh n : Nat) : Nat := if s.kind sh = 3 then 1 + (n + 7) / 8 else 1 + n
def St.fieldsOf (s : St) (sh n : Nat) : Nat := if s.kind sh = 3 then 0 else n
theorem need_hd (s : St) (c : Cl) (m : Nat → Nat) (sh n : Nat) (o k : Int) (w : World) (h : GcIs w s c m) (hs : sh < 512) (hn : n ≤ 65536) :
    Calls Try.prog 84 #[c.ptr, .int .u64 (M.hd sh n o k)] w fun e w' => e = .returned (.int .i64 (s.needOf sh n : Nat)) ∧ ∃ n, w' = w.drewN n := by
  have cb := h.is.cb sh hs
  have hg : c.g < w.heap.size := h.is.blk.lt
  have hS := fun W => shape_hd sh n o k W
  have hL := fun W => len_hd sh n o k W
  have e1 : (sh : Int) % 1048576 = sh := by omega
  have e2 : (n : Int) % 1048576 = n := by omega
  rw [e1] at hS
  rw [e2] at hL
  change w.cell? ⟨c.g, 2 + sh, none⟩ = some (.bool (decide (s.kind sh = 3))) at cb
  unfold St.needOf
  have HS := Lib.hid hS
  have HL := Lib.hid hL
  generalize M.hd sh n o k = X at *
  clear h hS hL e1 e2
  by_cases hk : s.kind sh = 3
  · rw [decide_eq_true hk] at cb
    rw [if_pos hk]
    clear hk
    have e3 : ((1 + (n + 7) / 8 : Nat) : Int) = 1 + ((n : Int) + 8 - 1) / 8 := by omega
    rw [e3]
    clear e3
    go_enter Try.func84, Try.ntmps84
    go_wp2_with fail
    go_quiet ((go_at_call 100; exact Calls.quiet_of_same (HS.out _)))
    go_wp2_with fail
    refine (HL.out _).mono ?_; rintro e w1 ⟨rfl, rfl⟩
    go_wp2_with fail
    go_ret
    refine ⟨?_, nq, rfl⟩
    first | rfl | (refine ret_int ?_; omega)
  · rw [decide_eq_false hk] at cb
    rw [if_neg hk]
    clear hk
    go_enter Try.func84, Try.ntmps84
    go_wp2_with fail
    go_quiet ((go_at_call 100; exact Calls.quiet_of_same (HS.out _)))
    go_wp2_with fail
    refine (HL.out _).mono ?_; rintro e w1 ⟨rfl, rfl⟩
    go_wp2_with fail
    go_ret
    refine ⟨?_, nq, rfl⟩
    first | rfl | (refine ret_int ?_; omega)
theorem fields_hd (s : St) (c : Cl) (m : Nat → Nat) (sh n : Nat) (o k : Int) (w : World) (h : GcIs w s c m) (hs : sh < 512) (hn : n ≤ 65536) :
    Calls Try.prog 81 #[c.ptr, .int .u64 (M.hd sh n o k)] w fun e w' => e = .returned (.int .i64 (s.fieldsOf sh n : Nat)) ∧ ∃ n, w' = w.drewN n := by
  have cb := h.is.cb sh hs
  have hg : c.g < w.heap.size := h.is.blk.lt
  have hS := fun W => shape_hd sh n o k W
  have hL := fun W => len_hd sh n o k W
  have e1 : (sh : Int) % 1048576 = sh := by omega
  have e2 : (n : Int) % 1048576 = n := by omega
  rw [e1] at hS
  rw [e2] at hL
  change w.cell? ⟨c.g, 2 + sh, none⟩ = some (.bool (decide (s.kind sh = 3))) at cb
  unfold St.fieldsOf
  have HS := Lib.hid hS
  have HL := Lib.hid hL
  generalize M.hd sh n o k = X at *
  clear h hS hL e1 e2
  by_cases hk : s.kind sh = 3
  · rw [decide_eq_true hk] at cb
    rw [if_pos hk]
    clear hk
    go_enter Try.func81, Try.ntmps81
    go_wp2_with fail
    go_quiet ((go_at_call 100; exact Calls.quiet_of_same (HS.out _)))
    go_wp2_with fail
    go_ret
    refine ⟨?_, nq, rfl⟩
    first | rfl | (refine ret_int ?_; omega)
  · rw [decide_eq_false hk] at cb
    rw [if_neg hk]
    clear hk
    go_enter Try.func81, Try.ntmps81
    go_wp2_with fail
    go_quiet ((go_at_call 100; exact Calls.quiet_of_same (HS.out _)))
    go_wp2_with fail
    refine (HL.out _).mono ?_; rintro e w1 ⟨rfl, rfl⟩
    go_wp2_with fail
    go_ret
    refine ⟨?_, nq, rfl⟩
    first | rfl | (refine ret_int ?_; omega)

theorem load_pl (s : St) (c : Cl) (m : Nat → Nat) (k : Nat) (w : World) (h : GcIs w s c m) (hk : k < s.n + c.r) :
    Calls Try.prog 97 #[c.ptr, .int .i64 k] w fun e w' => e = .returned (.int .u64 (m k)) ∧ w' = w := by
  have c0 : w.cell? ⟨c.g, 0, none⟩ = some (.pointer (some ⟨s.g, 0, none⟩)) := h.is.c0
  have c1 : w.cell? ⟨c.g, 1, none⟩ = some (.slice (some ⟨c.gr, 0, none⟩) c.r c.r) := h.is.c1
  have hg : c.g < w.heap.size := h.is.blk.lt
  have hgr : c.gr < w.heap.size := h.is.roots.lt
  have hnn : s.n ≤ 65536 := h.is.hp.n_le
  have hr : c.r ≤ 17592186044416 := h.is.r_le
  have HS := size_any (s.at m) w h.is.hp
  change Calls _ _ #[.pointer (some ⟨s.g, 0, none⟩)] w fun e w' => e = .returned (.int .i64 s.n) ∧ w' = w at HS
  have HSS := Lib.hid HS
  by_cases hin : k < s.n
  · have HL := load_in (s.at m) k w h.is.hp hin
    change Calls _ _ #[.pointer (some ⟨s.g, 0, none⟩), .int .i64 k] w fun e w' => e = .returned (.int .u64 (m k)) ∧ w' = w at HL
    have HLL := Lib.hid HL
    have h1 : ¬ (0 ≤ (k : Int) - (s.n : Int)) := by omega
    have h2 : (k : Int) - (s.n : Int) < 0 := by omega
    clear h HS HL
    go_enter Try.func97, Try.ntmps97
    go_wp2_with fail
    refine HSS.out.mono ?_; rintro e w ⟨rfl, rfl⟩
    go_wp2_with fail
    refine HLL.out.mono ?_; rintro e w ⟨rfl, rfl⟩
    go_wp2_with fail
    go_ret
    exact ⟨rfl, rfl⟩
  · obtain ⟨i, rfl⟩ : ∃ i, k = s.n + i := ⟨k - s.n, by omega⟩
    have hcell : w.cell? ⟨c.gr, i, none⟩ = some (.int .u64 (m (s.n + i))) := h.is.roots.cell (i := i) (by show i < c.r; omega)
    have e1 : ((s.n + i : Nat) : Int) - (s.n : Int) = (i : Int) := by omega
    have hir : i < c.r := by omega
    obtain ⟨K, hK⟩ : ∃ K, s.n + i = K := ⟨_, rfl⟩
    rw [hK] at e1 hcell ⊢
    have hK2 : K ≤ 17592186110000 := by omega
    generalize m K = X at *
    clear h HS hK hin
    go_enter Try.func97, Try.ntmps97
    go_wp2_with fail
    refine HSS.out.mono ?_; rintro e w ⟨rfl, rfl⟩
    go_wp2_with fail
    go_ret
    exact ⟨rfl, rfl⟩
theorem store_pl (s : St) (c : Cl) (m : Nat → Nat) (k v : Nat) (w : World) (h : GcIs w s c m) (hk : k < s.n + c.r) (hv : v < 18446744073709551616) :
    Calls Try.prog 98 #[c.ptr, .int .i64 k, .int .u64 v] w fun e w' => e = .returned (.tuple #[]) ∧ GcIs w' s c (M.upd m k v) ∧ Turn (fun b => b = s.gw ∨ b = c.gr) w w' := by
  have c0 : w.cell? ⟨c.g, 0, none⟩ = some (.pointer (some ⟨s.g, 0, none⟩)) := h.is.c0
  have c1 : w.cell? ⟨c.g, 1, none⟩ = some (.slice (some ⟨c.gr, 0, none⟩) c.r c.r) := h.is.c1
  have hg : c.g < w.heap.size := h.is.blk.lt
  have hgr : c.gr < w.heap.size := h.is.roots.lt
  have hnn : s.n ≤ 65536 := h.is.hp.n_le
  have hr : c.r ≤ 17592186044416 := h.is.r_le
  have HS := size_any (s.at m) w h.is.hp
  change Calls _ _ #[.pointer (some ⟨s.g, 0, none⟩)] w fun e w' => e = .returned (.int .i64 s.n) ∧ w' = w at HS
  have HSS := Lib.hid HS
  have HH := Lib.hid h
  by_cases hin : k < s.n
  · have HL := store_in (s.at m) k v w h.is.hp hin hv
    change Calls _ _ #[.pointer (some ⟨s.g, 0, none⟩), .int .i64 k, .int .u64 v] w fun e w' => e = .returned (.tuple #[]) ∧ HpIs w' ((s.at m).put k v) ∧ Turn (fun b => b = s.gw) w w' at HL
    have HLL := Lib.hid HL
    have h1 : ¬ (0 ≤ (k : Int) - (s.n : Int)) := by omega
    have h2 : (k : Int) - (s.n : Int) < 0 := by omega
    have HV := Lib.hid hv
    clear h HS HL hv
    go_enter Try.func98, Try.ntmps98
    go_wp2_with fail
    refine HSS.out.mono ?_; rintro e w ⟨rfl, rfl⟩
    go_wp2_with fail
    refine HLL.out.mono ?_; rintro e w1 ⟨rfl, hp, t⟩
    have HP := Lib.hid (And.intro hp t); clear hp t
    go_wp2_with fail
    first | go_end0 | refine bodyPost_ret (results_none rfl _ _ _) rfl ?_
    exact ⟨rfl, HH.out.put hin HV.out HP.out.1 HP.out.2, HP.out.2.mono fun b _ e => .inl e⟩
  · obtain ⟨i, rfl⟩ : ∃ i, k = s.n + i := ⟨k - s.n, by omega⟩
    have hcell : w.cell? ⟨c.gr, i, none⟩ = some (.int .u64 (m (s.n + i))) := h.is.roots.cell (i := i) (by show i < c.r; omega)
    have hfr : w.frozen? ⟨c.gr, i, none⟩ = false := h.is.roots.frozen i
    have e1 : ((s.n + i : Nat) : Int) - (s.n : Int) = (i : Int) := by omega
    have hir : i < c.r := by omega
    obtain ⟨K, hK⟩ : ∃ K, s.n + i = K := ⟨_, rfl⟩
    have hK2 : K ≤ 17592186110000 := by omega
    have HKK := Lib.hid hK
    have HV := Lib.hid hv
    rw [hK] at e1 hcell ⊢
    generalize m K = X at *
    clear h HS hin hK hv
    go_enter Try.func98, Try.ntmps98
    go_wp2_with fail
    refine HSS.out.mono ?_; rintro e w ⟨rfl, rfl⟩
    go_wp2_with fail
    first | go_end0 | refine bodyPost_ret (results_none rfl _ _ _) rfl ?_
    obtain ⟨p1, p2⟩ := HH.out.putR (i := i) HV.out
    rw [HKK.out] at p1
    exact ⟨rfl, p1, p2.mono fun b _ e => .inr e⟩
end Go.Proofs.Ythfkgkddklnnhaa
/- The contracts of gc's threads: tie, untie; of turnBack. -/
namespace Go.Proofs.Ythfkgkddklnnhaa
set_option linter.unusedVariables false
open Go.ChangeShapes Go.WideShapes Go.ChangeAt Go.RowKit
open M (W)

/-- What a collector's calls turn. -/
abbrev GcTurn (s : St) (c : Cl) (w w' : World) : Prop := Turn (fun b => b = s.gw ∨ b = c.gr) w w'
theorem GcIs.load {w : World} {s : St} {c : Cl} {m : Nat → Nat} (h : GcIs w s c m) {k : Nat} (hk : k < s.n) :
    Calls Try.prog 14 #[.pointer (some ⟨s.g, 0, none⟩), .int .i64 k] w fun e w' => e = .returned (.int .u64 (m k)) ∧ w' = w := load_in (s.at m) k w h.is.hp hk
theorem GcIs.store {w : World} {s : St} {c : Cl} {m : Nat → Nat} (h : GcIs w s c m) {k v : Nat} (hk : k < s.n) (hv : v < 18446744073709551616) :
    Calls Try.prog 9 #[.pointer (some ⟨s.g, 0, none⟩), .int .i64 k, .int .u64 v] w fun e w' => e = .returned (.tuple #[]) ∧ GcIs w' s c (M.upd m k v) ∧ GcTurn s c w w' :=
  (store_in (s.at m) k v w h.is.hp hk hv).mono fun e w' ⟨he, hp, t⟩ => ⟨he, h.put hk hv hp t, t.mono fun b _ e => .inl e⟩
theorem GcIs.c0 {w : World} {s : St} {c : Cl} {m : Nat → Nat} (h : GcIs w s c m) : w.cell? ⟨c.g, 0, none⟩ = some (.pointer (some ⟨s.g, 0, none⟩)) := h.is.c0
theorem GcIs.g_lt {w : World} {s : St} {c : Cl} {m : Nat → Nat} (h : GcIs w s c m) : c.g < w.heap.size := h.is.blk.lt
theorem GcIs.n_le {w : World} {s : St} {c : Cl} {m : Nat → Nat} (h : GcIs w s c m) : s.n ≤ 65536 := h.is.hp.n_le
theorem GcIs.r_le {w : World} {s : St} {c : Cl} {m : Nat → Nat} (h : GcIs w s c m) : c.r ≤ 17592186044416 := h.is.r_le
/-- The memory behind a tie. -/
def M.tie (m : Nat → Nat) (k : Nat) : Nat → Nat := if m k % 2 = 1 then m else M.upd (M.upd m k (m (m k / 2))) (m k / 2) (2 * k)
theorem ptr_nat (k : Nat) (hk : k ≤ 17592186110000) : M.ptr (k : Int) = ((2 * k : Nat) : Int) := by unfold M.ptr; omega

set_option maxRecDepth 100000 in
theorem tie_any (s : St) (c : Cl) (m : Nat → Nat) (k : Nat) (w : World) (h : GcIs w s c m) (hk : k < s.n + c.r) (hin : m k % 2 = 0 → m k / 2 < s.n) :
    Calls Try.prog 78 #[c.ptr, .int .i64 k] w fun e w' => e = .returned (.tuple #[]) ∧ GcIs w' s c (M.tie m k) ∧ GcTurn s c w w' := by
  have HLD := load_pl s c m k w h hk
  have hg := h.g_lt
  have hn := h.n_le
  have hr := h.r_le
  have hvl := h.lt k
  obtain ⟨v, hv⟩ : ∃ v, m k = v := ⟨_, rfl⟩
  unfold M.tie
  rw [hv] at HLD hvl hin ⊢
  have hI := fun W => isImm_any v W (by omega) (by omega)
  have hA := fun W => at_any v W (by omega) (by omega)
  have e2 : ((v : Int) / 2) = ((v / 2 : Nat) : Int) := by omega
  rw [e2] at hA
  have HH := Lib.hid h
  have HL := Lib.hid HLD
  have HV := Lib.hid hv
  by_cases ho : v % 2 = 1
  · rw [if_pos ho]
    rw [show ((v : Int) % 2 == 1) = true from beq_iff_eq.2 (by omega)] at hI
    have HI := Lib.hid hI
    clear h HLD hv hI hA e2 hin
    go_enter Try.func78, Try.ntmps78
    go_wp2_with fail
    refine HL.out.mono ?_; rintro e w ⟨rfl, rfl⟩
    go_wp2_with fail
    refine (HI.out _).mono ?_; rintro e w ⟨rfl, rfl⟩
    go_wp2_with fail
    first | go_end0 | refine bodyPost_ret (results_none rfl _ _ _) rfl ?_
    exact ⟨rfl, HH.out, Turn.refl _ _⟩
  · rw [if_neg ho]
    rw [show ((v : Int) % 2 == 1) = false from beq_eq_false_iff_ne.2 (by omega)] at hI
    obtain ⟨a, ha⟩ : ∃ a, v / 2 = a := ⟨_, rfl⟩
    rw [ha] at hA hin ⊢
    have han := hin (by omega)
    have HI := Lib.hid hI
    have HA := Lib.hid hA
    have hma := h.lt a
    have HM := Lib.hid hma
    have hp := ptr_nat k (by omega)
    have HP : Hid (∀ W, Calls Try.prog 29 #[.int .i64 k] W fun e w' => e = .returned (.int .u64 ((2 * k : Nat) : Int)) ∧ w' = W) := fun W => by rw [← hp]; exact ptr_any k W
    obtain ⟨k2, hk2⟩ : ∃ k2, 2 * k = k2 := ⟨_, rfl⟩
    rw [hk2] at HP ⊢
    have hk2l : k2 < 18446744073709551616 := by omega
    have HK2 := Lib.hid hk2l
    have HLA := Lib.hid (h.load (w := w) han)
    have HSTO := Lib.hid (fun W (hW : GcIs W s c m) => store_pl s c m k (m a) W hW hk hma)
    have c0 := h.c0
    have HAN := Lib.hid han
    clear h HLD hv hI hA e2 hin ha hma hp hk2 hk2l han
    generalize hX : m a = X at *
    go_enter Try.func78, Try.ntmps78
    go_wp2_with fail
    refine HL.out.mono ?_; rintro e w ⟨rfl, rfl⟩
    go_wp2_with fail
    refine (HI.out _).mono ?_; rintro e w ⟨rfl, rfl⟩
    go_wp2_with fail
    refine (HA.out _).mono ?_; rintro e w ⟨rfl, rfl⟩
    go_wp2_with fail
    refine HLA.out.mono ?_; rintro e w ⟨rfl, rfl⟩
    go_wp2_with fail
    refine (HSTO.out _ HH.out).mono ?_; rintro e w1 ⟨rfl, h1, t1⟩
    have HS1 := Lib.hid (h1.still (Turn.drew (Still.refl w1) : Still w1 w1.drew))
    have HT1 : Hid (GcTurn s c w w1.drew) := t1.drew
    have c0' : w1.drew.cell? ⟨c.g, 0, none⟩ = some (.pointer (some ⟨s.g, 0, none⟩)) := HS1.out.c0
    have hg1 : c.g < w1.drew.heap.size := HS1.out.g_lt
    clear h1 t1 c0 hX
    go_wp2_with fail
    refine wp_region_still_tail 7 (by kernel_rfl) (by kernel_rfl) ?_
    simp only [List.take_succ_cons, List.take_zero, List.drop_succ_cons, List.drop_zero]
    change wpStill _ _ w1.drew (fun a' => wpList _ _ _ _ a' w1.drew) _ _
    repeat still_step
    still_call (HP.out w1.drew)
    refine wpStill_nil ?_
    go_wp2_with fail
    refine (HS1.out.store HAN.out HK2.out).mono ?_; rintro e w2 ⟨rfl, h2, t2⟩
    have HR := Lib.hid (And.intro h2 (HT1.out.trans t2))
    clear h2 t2
    go_wp2_with fail
    first | go_end0 | refine bodyPost_ret (results_none rfl _ _ _) rfl ?_
    exact ⟨rfl, HR.out.1, HR.out.2⟩

/-- From the word w a thread goes through the places ps, and ends in the head hd. -/
def Thread (m : Nat → Nat) : Nat → List Nat → Nat → Prop
  | w, [], hd => w = hd
  | w, p :: ps, hd => w = 2 * p ∧ Thread m (m p) ps hd
/-- All these places have one word. -/
def M.all (m : Nat → Nat) (ps : List Nat) (v : Nat) : Nat → Nat := fun j => if j ∈ ps then v else m j
theorem all_nil (m : Nat → Nat) (v : Nat) : M.all m [] v = m := by funext j; unfold M.all; simp
theorem all_snoc (m : Nat → Nat) (ps : List Nat) (p v : Nat) : M.all m (ps ++ [p]) v = M.upd (M.all m ps v) p v := by
  funext j; unfold M.upd
  show (if j ∈ ps ++ [p] then v else m j) = if j = p then v else if j ∈ ps then v else m j
  by_cases e : j = p
  · rw [if_pos e, if_pos (by simp [e])]
  · rw [if_neg e]
    by_cases e2 : j ∈ ps
    · rw [if_pos e2, if_pos (by simp [e2])]
    · rw [if_neg e2, if_neg (by simp [e, e2])]
set_option maxRecDepth 100000 in
theorem untie_any (s : St) (c : Cl) (m : Nat → Nat) (a to hd : Nat) (ps : List Nat) (w : World) (h : GcIs w s c m) (ha : a < s.n) (hto : to ≤ 65536) (hth : Thread m (m a) ps hd) (hodd : hd % 2 = 1) (hnd : ps.Nodup) (hin : ∀ p ∈ ps, p < s.n + c.r) :
    Calls Try.prog 99 #[c.ptr, .int .i64 a, .int .i64 to] w fun e w' => e = .returned (.int .u64 hd) ∧ GcIs w' s c (M.upd (M.all m ps (2 * to)) a hd) ∧ GcTurn s c w w' := by
  have hg := h.g_lt
  have hn := h.n_le
  have hr := h.r_le
  have HLA := Lib.hid (h.load (w := w) ha)
  have c0 := h.c0
  have HH := Lib.hid h
  have hp := ptr_nat to (by omega)
  have HP : Hid (∀ W, Calls Try.prog 29 #[.int .i64 to] W fun e w' => e = .returned (.int .u64 ((2 * to : Nat) : Int)) ∧ w' = W) := fun W => by rw [← hp]; exact ptr_any to W
  obtain ⟨t2, ht2⟩ : ∃ t2, 2 * to = t2 := ⟨_, rfl⟩
  rw [ht2] at HP ⊢
  have ht2l : t2 < 18446744073709551616 := by omega
  have HT2 := Lib.hid ht2l
  have hhd : hd < 18446744073709551616 ∨ True := .inr trivial
  have HTH := Lib.hid hth
  have HODD := Lib.hid hodd
  have HND := Lib.hid hnd
  have HIN := Lib.hid hin
  have HA := Lib.hid ha
  have HLT := Lib.hid h.lt
  obtain ⟨X, hX⟩ : ∃ X, m a = X := ⟨_, rfl⟩
  rw [hX] at HLA HTH
  have HXL : Hid (X < 18446744073709551616) := by rw [← hX]; exact h.lt a
  clear h hp ht2 ht2l hth hodd hnd hin ha hX hhd
  go_enter Try.func99, Try.ntmps99
  go_wp2_with fail
  refine HLA.out.mono ?_; rintro e w ⟨rfl, rfl⟩
  go_wp2_with fail
  go_loopg [7] ps.length (fun g v wr => ∃ (qs rs : List Nat) (x : Nat), g = rs.length ∧ x < 18446744073709551616 ∧ ps = qs ++ rs ∧ v = .int .u64 x ∧ Thread m x rs hd ∧ GcIs wr s c (M.all m qs t2) ∧ GcTurn s c w wr)
  case atStart => exact ⟨[], ps, X, rfl, HXL.out, rfl, rfl, HTH.out, by rw [all_nil]; exact HH.out, Turn.refl _ _⟩
  case round =>
    obtain ⟨qs, rs, x, hgk, hxl, hps, rfl, hthr, hgc, ht⟩ := hrel
    have hI := fun W => isImm_any x W (by omega) (by omega)
    have hA := fun W => at_any x W (by omega) (by omega)
    have HGC := Lib.hid hgc
    have HTR := Lib.hid ht
    have HPS := Lib.hid hps
    have hgr := hgc.g_lt
    have c0r := hgc.c0
    cases rs with
    | nil =>
      have hx : x = hd := hthr
      subst hx
      have hq : qs = ps := by have := HPS.out; simpa using this.symm
      have HQ := Lib.hid hq
      rw [show ((x : Int) % 2 == 1) = true from beq_iff_eq.2 (by have := HODD.out; omega)] at hI
      have HI := Lib.hid hI
      have HXL2 := Lib.hid hxl
      clear hI hA hthr hgc ht hps hq hgk hxl
      go_wp2_with fail
      refine (HI.out _).mono ?_; rintro e w1 ⟨rfl, rfl⟩
      go_wp2_with fail
      refine (HGC.out.store HA.out HXL2.out).mono ?_; rintro e w2 ⟨rfl, h2, t2⟩
      have HR := Lib.hid (And.intro h2 (HTR.out.trans t2))
      clear h2 t2
      go_wp2_with fail
      go_ret
      refine ⟨rfl, ?_, HR.out.2⟩
      rw [← HQ.out]; exact HR.out.1
    | cons p rs =>
      obtain ⟨hxp, hth2⟩ := hthr
      have hpin : p < s.n + c.r := HIN.out p (by rw [HPS.out]; simp)
      have hpq : p ∉ qs := by
        have h1 := HND.out
        rw [HPS.out] at h1
        intro hq
        exact absurd rfl ((List.nodup_append.1 h1).2.2 p hq p (List.mem_cons_self))
      rw [show ((x : Int) % 2 == 1) = false from beq_eq_false_iff_ne.2 (by omega)] at hI
      rw [show ((x : Int) / 2) = ((p : Nat) : Int) by omega] at hA
      have hmp : M.all m qs t2 p = m p := by
        show (if p ∈ qs then t2 else m p) = m p
        rw [if_neg hpq]
      have HLD := load_pl s c _ p wr hgc hpin
      rw [hmp] at HLD
      have HLL := Lib.hid HLD
      have HI := Lib.hid hI
      have HAA := Lib.hid hA
      have HTH2 := Lib.hid hth2
      have HPIN := Lib.hid hpin
      have hgk2 : rs.length < gk := by rw [hgk]; simp
      have hmpl := HLT.out p
      have HMPL := Lib.hid hmpl
      generalize hY : m p = Y at *
      clear hI hA hgc ht hps hgk hxl hpq hmp HLD hth2 hmpl hxp hY
      go_wp2_with fail
      refine (HI.out _).mono ?_; rintro e w1 ⟨rfl, rfl⟩
      go_wp2_with fail
      refine (HAA.out _).mono ?_; rintro e w1 ⟨rfl, rfl⟩
      go_wp2_with fail
      refine HLL.out.mono ?_; rintro e w1 ⟨rfl, rfl⟩
      go_wp2_with fail
      refine (HP.out _).mono ?_; rintro e w1 ⟨rfl, rfl⟩
      go_wp2_with fail
      refine (store_pl s c _ p t2 _ HGC.out HPIN.out HT2.out).mono ?_; rintro e w2 ⟨rfl, h2, t2'⟩
      have HR := Lib.hid (And.intro h2 (HTR.out.trans t2'))
      clear h2 t2'
      go_wp2_with fail
      go_roundg rs.length
      case measure => exact hgk2
      case rel => exact ⟨qs ++ [p], rs, Y, rfl, HMPL.out, by rw [HPS.out]; simp, rfl, HTH2.out, by rw [all_snoc]; exact HR.out.1, HR.out.2⟩
end Go.Proofs.Ythfkgkddklnnhaa
/- Threads through words, in numbers alone: what a tie and an untie do to them. No program in sight. -/
namespace Go.Proofs.Ythfkgkddklnnhaa
set_option linter.unusedVariables false
open M (W)

/-- Which of the tied places point at a. -/
def M.thr (m0 : Nat → Nat) (tied : List Nat) (a : Nat) : List Nat := tied.filter fun p => decide (m0 p / 2 = a)
/-- From the place lo on: through each object's head goes the thread of all tied places that point at it; what isn't tied is as it was, or has got its new pointer. -/
structure Ties (L : List RO) (m0 hd tof : Nat → Nat) (lo : Nat) (tied : List Nat) (res : Nat → Bool) (m : Nat → Nat) : Prop where
  thr : ∀ o ∈ L, lo ≤ o.at_ → Thread m (m o.at_) (M.thr m0 tied o.at_) (hd o.at_)
  rest : ∀ j, lo ≤ j → (∀ o ∈ L, j ≠ o.at_) → j ∉ tied → m j = if res j then 2 * tof (m0 j / 2) else m0 j
  nodup : tied.Nodup
  off : ∀ p ∈ tied, ∀ o ∈ L, p ≠ o.at_
  low : ∀ p ∈ tied, lo ≤ p
  ev : ∀ p ∈ tied, ∃ o ∈ L, lo ≤ o.at_ ∧ m0 p = 2 * o.at_
  nres : ∀ p ∈ tied, res p = false
theorem Thread.frame {m m' : Nat → Nat} : ∀ {ps : List Nat} {w hd : Nat}, Thread m w ps hd → (∀ p ∈ ps, m' p = m p) → Thread m' w ps hd
  | [], w, hd, h, _ => h
  | p :: ps, w, hd, h, hf => ⟨h.1, by
    rw [hf p (List.mem_cons_self)]
    exact Thread.frame h.2 fun q hq => hf q (List.mem_cons_of_mem _ hq)⟩
variable {L : List RO} {m0 hd tof : Nat → Nat} {lo : Nat} {tied : List Nat} {res : Nat → Bool} {m : Nat → Nat}
theorem mem_thr {p a : Nat} (h : p ∈ M.thr m0 tied a) : p ∈ tied ∧ m0 p / 2 = a := by
  unfold M.thr at h
  rw [List.mem_filter, decide_eq_true_eq] at h; exact h
/-- A place whose word is a number is not tied. -/
theorem Ties.odd (h : Ties L m0 hd tof lo tied res m) {p : Nat} (hlo : lo ≤ p) (hoff : ∀ o ∈ L, p ≠ o.at_) (hnt : p ∉ tied) (hr : res p = false) (ho : m0 p % 2 = 1) : M.tie m p = m := by
  have e := h.rest p hlo hoff hnt
  rw [hr] at e
  simp only [Bool.false_eq_true, if_false] at e
  unfold M.tie
  rw [e, if_pos ho]
/-- A place whose word is a pointer is laid into its object's thread. -/
theorem Ties.tie (h : Ties L m0 hd tof lo tied res m) {p : Nat} (hlo : lo ≤ p) (hoff : ∀ o ∈ L, p ≠ o.at_) (hnt : p ∉ tied) (hr : res p = false) {o : RO} (ho : o ∈ L) (hol : lo ≤ o.at_) (he : m0 p = 2 * o.at_) : Ties L m0 hd tof lo (p :: tied) res (M.tie m p) := by
  have e := h.rest p hlo hoff hnt
  rw [hr] at e
  simp only [Bool.false_eq_true, if_false] at e
  have hpa : p ≠ o.at_ := hoff o ho
  have hm : M.tie m p = M.upd (M.upd m p (m o.at_)) o.at_ (2 * p) := by
    unfold M.tie
    rw [e, he, if_neg (by omega), show 2 * o.at_ / 2 = o.at_ by omega]
  rw [hm]
  have hfr : ∀ j, j ≠ p → j ≠ o.at_ → M.upd (M.upd m p (m o.at_)) o.at_ (2 * p) j = m j := fun j h1 h2 => by
    show (if j = o.at_ then 2 * p else if j = p then m o.at_ else m j) = m j
    rw [if_neg h2, if_neg h1]
  have hp : M.upd (M.upd m p (m o.at_)) o.at_ (2 * p) p = m o.at_ := by
    show (if p = o.at_ then 2 * p else if p = p then m o.at_ else m p) = m o.at_
    rw [if_neg hpa, if_pos rfl]
  have hth : ∀ a, ∀ q ∈ M.thr m0 tied a, M.upd (M.upd m p (m o.at_)) o.at_ (2 * p) q = m q := fun a q hq =>
    hfr q (fun x => hnt (by rw [← x]; exact (mem_thr hq).1)) (h.off q (mem_thr hq).1 o ho)
  refine ⟨fun q hq hql => ?_, fun j hj hjo hjt => ?_, ?_, ?_, ?_, ?_, ?_⟩
  · by_cases eq : q.at_ = o.at_
    · have ht : M.thr m0 (p :: tied) q.at_ = p :: M.thr m0 tied q.at_ := by
        unfold M.thr
        rw [List.filter_cons, if_pos (by rw [decide_eq_true_eq, he, eq]; omega)]
      rw [ht, eq]
      have : M.upd (M.upd m p (m o.at_)) o.at_ (2 * p) o.at_ = 2 * p := by
        show (if o.at_ = o.at_ then 2 * p else _) = 2 * p
        rw [if_pos rfl]
      rw [this]
      refine ⟨rfl, ?_⟩
      rw [hp]
      exact (h.thr o ho hol).frame (hth _)
    · have ht : M.thr m0 (p :: tied) q.at_ = M.thr m0 tied q.at_ := by
        unfold M.thr
        rw [List.filter_cons, if_neg (by rw [decide_eq_true_eq, he]; omega)]
      rw [ht, hfr q.at_ (fun x => hoff q hq x.symm) eq]
      exact (h.thr q hq hql).frame (hth _)
  · rw [List.mem_cons, not_or] at hjt
    rw [hfr j hjt.1 (hjo o ho)]
    exact h.rest j hj hjo hjt.2
  · exact List.nodup_cons.2 ⟨hnt, h.nodup⟩
  · intro q hq
    rcases List.mem_cons.1 hq with rfl | hq
    · exact hoff
    · exact h.off q hq
  · intro q hq
    rcases List.mem_cons.1 hq with rfl | hq
    · exact hlo
    · exact h.low q hq
  · intro q hq
    rcases List.mem_cons.1 hq with rfl | hq
    · exact ⟨o, ho, hol, he⟩
    · exact h.ev q hq
  · intro q hq
    rcases List.mem_cons.1 hq with rfl | hq
    · exact hr
    · exact h.nres q hq
def M.rest (m0 : Nat → Nat) (tied : List Nat) (a : Nat) : List Nat := tied.filter fun p => !decide (m0 p / 2 = a)
def M.got (m0 : Nat → Nat) (tied : List Nat) (res : Nat → Bool) (a : Nat) : Nat → Bool := fun p => res p || decide (p ∈ M.thr m0 tied a)
theorem mem_rest {p a : Nat} : p ∈ M.rest m0 tied a ↔ p ∈ tied ∧ m0 p / 2 ≠ a := by
  unfold M.rest
  rw [List.mem_filter, Bool.not_eq_true', decide_eq_false_iff_not]
/-- All that points at an object gets its new pointer. -/
theorem Ties.untie (h : Ties L m0 hd tof lo tied res m) {o : RO} (ho : o ∈ L) (hol : lo ≤ o.at_) : Ties L m0 hd tof lo (M.rest m0 tied o.at_) (M.got m0 tied res o.at_) (M.upd (M.all m (M.thr m0 tied o.at_) (2 * tof o.at_)) o.at_ (hd o.at_)) := by
  have hout : ∀ j, j ≠ o.at_ → j ∉ M.thr m0 tied o.at_ → M.upd (M.all m (M.thr m0 tied o.at_) (2 * tof o.at_)) o.at_ (hd o.at_) j = m j := fun j h1 h2 => by
    show (if j = o.at_ then hd o.at_ else if j ∈ M.thr m0 tied o.at_ then 2 * tof o.at_ else m j) = m j
    rw [if_neg h1, if_neg h2]
  refine ⟨fun q hq hql => ?_, fun j hj hjo hjt => ?_, h.nodup.filter _, fun p hp => h.off p (mem_rest.1 hp).1, fun p hp => h.low p (mem_rest.1 hp).1, fun p hp => h.ev p (mem_rest.1 hp).1, fun p hp => ?_⟩
  · by_cases eq : q.at_ = o.at_
    · have ht : M.thr m0 (M.rest m0 tied o.at_) q.at_ = [] := by
        rw [List.eq_nil_iff_forall_not_mem]
        intro p hp
        obtain ⟨h1, h2⟩ := mem_thr hp
        exact (mem_rest.1 h1).2 (by rw [h2, eq])
      rw [ht, eq]
      show (if o.at_ = o.at_ then hd o.at_ else _) = hd o.at_
      rw [if_pos rfl]
    · have ht : M.thr m0 (M.rest m0 tied o.at_) q.at_ = M.thr m0 tied q.at_ := by
        unfold M.thr M.rest
        rw [List.filter_filter]
        refine List.filter_congr fun p _ => ?_
        by_cases e : m0 p / 2 = q.at_
        · rw [decide_eq_true e, Bool.true_and, decide_eq_false (by omega)]; rfl
        · rw [decide_eq_false e, Bool.false_and]
      rw [ht, hout q.at_ eq (fun hp => h.off _ (mem_thr hp).1 q hq rfl)]
      refine (h.thr q hq hql).frame fun p hp => hout p (h.off p (mem_thr hp).1 o ho) fun hp2 => ?_
      have h1 := (mem_thr hp).2
      have h2 := (mem_thr hp2).2
      omega
  · by_cases hjt2 : j ∈ M.thr m0 tied o.at_
    · have h1 := (mem_thr hjt2).2
      unfold M.got
      rw [if_pos (by rw [decide_eq_true hjt2, Bool.or_true]), h1]
      show (if j = o.at_ then hd o.at_ else if j ∈ M.thr m0 tied o.at_ then 2 * tof o.at_ else m j) = _
      rw [if_neg (hjo o ho), if_pos hjt2]
    · have hnt : j ∉ tied := fun x => by
        by_cases e : m0 j / 2 = o.at_
        · exact hjt2 (by unfold M.thr; rw [List.mem_filter, decide_eq_true_eq]; exact ⟨x, e⟩)
        · exact hjt (mem_rest.2 ⟨x, e⟩)
      rw [hout j (hjo o ho) hjt2, h.rest j hj hjo hnt]
      unfold M.got
      rw [decide_eq_false hjt2, Bool.or_false]
  · unfold M.got
    rw [h.nres p (mem_rest.1 hp).1, Bool.false_or, decide_eq_false]
    exact fun hp2 => (mem_rest.1 hp).2 (mem_thr hp2).2
/-- What lies below is moved: from a higher place on all is as it was. -/
theorem Ties.raise (h : Ties L m0 hd tof lo tied res m) {hi : Nat} {m' : Nat → Nat} (hlh : lo ≤ hi) (hp : ∀ p ∈ tied, hi ≤ p ∧ hi ≤ m0 p / 2) (hm : ∀ j, hi ≤ j → m' j = m j) : Ties L m0 hd tof hi tied res m' := by
  refine ⟨fun o ho hl => ?_, fun j hj hjo hjt => ?_, h.nodup, h.off, fun p hpt => (hp p hpt).1, fun p hpt => ?_, h.nres⟩
  · rw [hm _ hl]
    exact (h.thr o ho (by omega)).frame fun p hpt => hm p (hp p (mem_thr hpt).1).1
  · rw [hm j hj]
    exact h.rest j (by omega) hjo hjt
  · obtain ⟨o, ho, _, e⟩ := h.ev p hpt
    have := (hp p hpt).2
    exact ⟨o, ho, by omega, e⟩
end Go.Proofs.Ythfkgkddklnnhaa
