/- Lemmas, put together: AllW. -/
import Derived.Test.YthfkgkddklnnhaaK21
import Derived.StillTailTactics
/- With all objects as roots nothing moves; with none nothing is left. -/
namespace Go.Proofs.Ythfkgkddklnnhaa
set_option linter.unusedVariables false
open Go.ChangeShapes Go.WideShapes Go.ChangeAt Go.RowKit
open M (W)

theorem tof_all {s : St} {mk : Nat → Bool} {top : Nat} : ∀ {L : List RO} {p : Nat}, TileTo s top p L → (∀ o ∈ L, mk o.at_ = true) → (∀ o ∈ L, 1 ≤ s.sz o) → (∀ q ∈ L, p + M.tof s mk L q.at_ = q.at_) ∧ p + M.tof s mk L top = top
  | [], p, h, _, _ => ⟨fun q hq => by simp at hq, h⟩
  | o :: L, p, h, hm, hz => by
    have hp := h.1
    have hle := h.2.le
    have hzo := hz o (List.mem_cons_self)
    obtain ⟨i1, i2⟩ := tof_all h.2 (fun q hq => hm q (List.mem_cons_of_mem _ hq)) (fun q hq => hz q (List.mem_cons_of_mem _ hq))
    refine ⟨fun q hq => ?_, ?_⟩
    · rcases List.mem_cons.1 hq with e | hq
      · subst e
        rw [M.tof, if_neg (by omega), tof_zero h.2 (by omega)]; omega
      · have h1 := i1 q hq
        rw [M.tof, if_pos ⟨hm o (List.mem_cons_self), by omega⟩]; omega
    · rw [M.tof, if_pos ⟨hm o (List.mem_cons_self), by omega⟩]; omega
theorem ren_same {t : Nat → Nat} {v : Nat} (h : v % 2 = 1 ∨ t (v / 2) = v / 2) : M.ren t v = v := by
  unfold M.ren
  rcases h with h | h
  · rw [if_neg (by omega)]
  · by_cases e : v % 2 = 0
    · rw [if_pos e, h]; omega
    · rw [if_neg e]
theorem slid_all {mk : Nat → Bool} {t : Nat → Nat} {L : List RO} (hm : ∀ o ∈ L, mk o.at_ = true) (ht : ∀ o ∈ L, t o.at_ = o.at_) (hf : ∀ o ∈ L, ∀ v ∈ o.fs, v % 2 = 1 ∨ ∃ p ∈ L, p.at_ = v / 2) : M.slid mk t L = L := by
  unfold M.slid
  rw [List.filter_eq_self.2 hm]
  have : ∀ o ∈ L, o.goes t = o := fun o ho => by
    have h1 : o.fs.map (M.ren t) = o.fs := by
      conv => rhs; rw [← List.map_id o.fs]
      refine List.map_congr_left fun v hv => ?_
      refine ren_same ?_
      rcases hf o ho v hv with e | ⟨p, hp, e⟩
      · exact .inl e
      · exact .inr (by rw [← e]; exact ht p hp)
    unfold RO.goes
    rw [h1, ht o ho]
  conv => rhs; rw [← List.map_id L]
  exact List.map_congr_left this
theorem slid_none {s : St} {mk : Nat → Bool} (hm : ∀ b, mk b = false) : ∀ (L : List RO) (t : Nat → Nat) (a : Nat), M.slid mk t L = [] ∧ M.tof s mk L a = 0
  | [], t, a => ⟨rfl, rfl⟩
  | o :: L, t, a => by
    obtain ⟨h1, h2⟩ := slid_none hm L t a
    refine ⟨?_, ?_⟩
    · rw [slid_cons, if_neg (by rw [hm]; simp)]; exact h1
    · rw [M.tof, if_neg (by rw [hm]; simp), h2]
theorem right_root_lit {w : World} {s : St} {L : List RO} (h : Right w s L) (rl : List Nat) (hrl : ∀ v ∈ rl, v < 18446744073709551616) (hl : rl.length ≤ 65536) : RootL (w.alloc (.cells (rl.map fun v : Nat => Value.int .u64 (v : Int)).toArray 33)) s (some ⟨w.heap.size, 0, none⟩) rl := by
  refine ⟨fun h0 => ⟨w.heap.size, 0, rfl, by simp, ?_, fun i hi => ?_⟩, fun i => getD_lt64 hrl i, hl⟩
  · rintro (e | e)
    · have := h.hp.blk.lt; omega
    · have := h.hp.words.lt; omega
  · have hb := Blk.new w 33 (rl.map fun v : Nat => Value.int .u64 (v : Int)).toArray
    have hc := hb.cell i
    rw [Nat.zero_add, hc, List.getElem?_toArray, List.getElem?_map, List.getElem?_eq_getElem hi, List.getD_eq_getElem?_getD, List.getElem?_eq_getElem hi]; rfl
theorem ReadL.of_root {w : World} {s : St} {a : Option Addr} {rl : List Nat} (h : RootL w s a rl) : ReadL w a rl :=
  ⟨fun h0 => by
    obtain ⟨b, off, e, hb, _, hc⟩ := h.at_ h0
    exact ⟨b, off, e, hb, hc⟩⟩
theorem root_of_que {w : World} {B : Nat} {s : St} {a : Option Addr} {n c : Nat} {rl : List Nat} (h : Que w B 33 a n c (M.u64l rl)) (h1 : s.g < B) (h2 : s.gw < B) (hlt : ∀ v ∈ rl, v < 18446744073709551616) (hn : rl.length ≤ 65536) : RootL w s a rl := by
  obtain ⟨hr, hb⟩ := ReadL.of_que h
  refine ⟨fun h0 => ?_, getD_lt64 hlt, hn⟩
  obtain ⟨b, off, e, hl, hc⟩ := hr.at_ h0
  exact ⟨b, off, e, hl, by have := hb b off e; omega, hc⟩
theorem imm_m1 (w : World) : Calls Try.prog 42 #[.int .i64 (-1)] w fun e w' => e = .returned (.int .u64 18446744073709551615) ∧ w' = w := imm_any (-1) w
theorem ptr_lit (k : Nat) (hk : k ≤ 65536) (w : World) : Calls Try.prog 29 #[.int .i64 k] w fun e w' => e = .returned (.int .u64 (2 * k : Nat)) ∧ w' = w := by
  have := ptr_any (k : Int) w
  rwa [show M.ptr (k : Int) = ((2 * k : Nat) : Int) by unfold M.ptr; omega] at this
theorem Right.at_le {w : World} {s : St} {L : List RO} (h : Right w s L) {o : RO} (ho : o ∈ L) : o.at_ < s.top ∧ o.at_ ≤ 65536 := by
  have h1 := h.laid.tile.in.2 o ho
  have h2 := (h.sim.good o ho).sz.2.2
  have h3 := h.hp.top_le
  have h4 := h.hp.n_le
  omega
end Go.Proofs.Ythfkgkddklnnhaa
