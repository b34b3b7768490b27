/- Lemmas, put together: AppendC Vgr. -/
import Derived.Test.YtglalgjffkoneaaGreatDoorV1
import Derived.Test.YtglalgjffkoneaaGreatDoorV2
import Derived.Lib.AppendZerosOnto
/- append of what lies anywhere onto a row of the call's own, of none too; a row of none. No program in sight. -/
namespace Go.Proofs.YtglalgjffkoneaaGreatDoor
set_option linter.unusedVariables false
open Go.RowKit
variable {P : Program}
theorem own_none {w : World} {g base : Nat} {e : TypeId} {size : Nat} (h : Blk w g e #[]) (hb : base ≤ g) : w.ownsRow base e size (.slice (some ⟨g, 0, none⟩) 0 0) 0 [] :=
  ⟨by simp, .inr ⟨g, 0, #[], rfl, hb, h, Nat.le_refl _, Nat.zero_le _, by simp, by simp⟩⟩
theorem still_own {w wp w' : World} {e : TypeId} {size n : Nat} {v : Value} {xs : List Value} (h : Still w wp) (t : Turn (fun k => v.ownBlock = some k) wp w') (ho : wp.ownsRow w.heap.size e size v n xs) : Still w w' :=
  ⟨t.os.trans h.os, t.tape.trans h.tape, t.output.trans h.output, Nat.le_trans h.size t.size, fun k hk _ => (t.block k (Nat.lt_of_lt_of_le hk h.size) (fun e => by have := (ho.lt k e).1; omega)).trans (h.block k hk (fun e => e))⟩
theorem run_append_src (w : World) (base : Nat) (t ty e : TypeId) (size bytes : Nat) (z : Value) (ht : P.underlying t = some (.slice e)) (hi : (P.info? e).map (fun i => (i.zero, i.size, i.bytes)) = some (some z, size, bytes))
    (hzs : z.cells.size = size) (hsz : 0 < size) (a : Option Addr) (n c : Nat) (xs : List Value) (hown : w.ownsRow base e size (.slice a n c) n xs)
    (src : Option Addr) (m c' : Nat) (news : List Value) (hl : news.length = m * size) (hsrc : 0 < m → ∃ ad, src = some ad ∧ ∀ j u, news[j]? = some u → w.cell? (ad.add j) = some u) (h1 : ∀ u ∈ news, u.oneCell' = true)
    (h63 : n + m ≤ maxLen) (hbytes : (n + m) * bytes ≤ 140737488355328) (hbase : base ≤ w.heap.size) :
    ∃ a' cap w', (Builtin.append_ #[t, t] ty #[.slice a n c, .slice src m c']).run P w = .ok (.slice a' (n + m) cap) w' ∧ w'.ownsRow base e size (.slice a' (n + m) cap) (n + m) (xs ++ news) ∧
      Turn (fun k => (Value.slice a n c).ownBlock = some k) w w' := by
  rcases Nat.eq_zero_or_pos m with rfl | hm
  · obtain ⟨i, hi', hzz⟩ := Option.map_eq_some_iff.1 hi
    have hn : news = [] := List.eq_nil_of_length_eq_zero (by simpa using hl)
    subst hn
    exact ⟨a, c, w, run_append_zero w t ty e i ht hi' a n c (own_le hown).1 src c', by simpa using hown, Turn.refl _ _⟩
  · obtain ⟨ad, rfl, hnews⟩ := hsrc hm
    obtain ⟨g', cap', w', r1, r2, r3, r4⟩ := run_append_form (P := P) w base t ty e size bytes z ht hi hzs hsz a n c xs hown ad m c' news hl hnews h1 hm h63 hbytes hbase
    exact ⟨_, cap', w', r1, r2, r3⟩
theorem step_append_src {w : World} {ops : Array Oper} {o : Oper} {act : Act} {K : Act → World → Prop} {Q : Exit → Act → World → Prop} {E : Prop} (hgd : o.guard = none) (s x : Operand) (t : TypeId)
    (ho : o.op = .call { callee := .builtin .append, args := #[s, x], argTypes := #[t, t] })
    (base : Nat) (e : TypeId) (size bytes : Nat) (z : Value) (ht : P.underlying t = some (.slice e)) (hi : (P.info? e).map (fun i => (i.zero, i.size, i.bytes)) = some (some z, size, bytes))
    (hzs : z.cells.size = size) (hsz : 0 < size) (a : Option Addr) (n c : Nat) (xs : List Value) (hs : act.eval s = .slice a n c) (hown : w.ownsRow base e size (.slice a n c) n xs)
    (src : Option Addr) (m c' : Nat) (news : List Value) (hx : act.eval x = .slice src m c') (hl : news.length = m * size) (hsrc : 0 < m → ∃ ad, src = some ad ∧ ∀ j u, news[j]? = some u → w.cell? (ad.add j) = some u) (h1 : ∀ u ∈ news, u.oneCell' = true)
    (h63 : n + m ≤ maxLen) (hbytes : (n + m) * bytes ≤ 140737488355328) (hbase : base ≤ w.heap.size)
    (h : ∀ a' cap w', Hid (w'.ownsRow base e size (.slice a' (n + m) cap) (n + m) (xs ++ news)) → Hid (Turn (fun k => (Value.slice a n c).ownBlock = some k) w w') →
      K (act.put o.dst (.slice a' (n + m) cap)) w') : if Region.wanted o (yielded ops act.tmps) = true then Oper.wp P o act w K Q else E := by
  have hw : Region.wanted o (yielded ops act.tmps) = true := by simp [Region.wanted, hgd]
  rw [if_pos hw]
  obtain ⟨a', cap, w', hrun, h2, h3⟩ := run_append_src (P := P) w base t o.type e size bytes z ht hi hzs hsz a n c xs hown src m c' news hl hsrc h1 h63 hbytes hbase
  unfold Oper.wp
  simp [execOp, ho, resolve, invoke, builtin, hs, hx, hrun, Result.andThen]
  exact h a' cap w' h2 h3
end Go.Proofs.YtglalgjffkoneaaGreatDoor
/- slices.Grow of nothing; slices.Concat. -/
namespace Go.Proofs.YtglalgjffkoneaaGreatDoor
set_option linter.unusedVariables false
set_option linter.unusedSimpArgs false
open Go.ChangeShapes Go.WideShapes Go.ChangeAt Go.RowKit
theorem wpList_append_src5 {P : Program} {w : World} {ops : Array Oper} {rest : List Oper} {o : Oper} {act : Act} {Q : Exit → Act → World → Prop} (hgd : o.guard = none) (s x : Operand) (t : TypeId)
    (ho : o.op = .call { callee := .builtin .append, args := #[s, x], argTypes := #[t, t] })
    (base : Nat) (e : TypeId) (size bytes : Nat) (z : Value) (ht : P.underlying t = some (.slice e)) (hi : (P.info? e).map (fun i => (i.zero, i.size, i.bytes)) = some (some z, size, bytes))
    (hzs : z.cells.size = size) (hsz : 0 < size) (a : Option Addr) (n c : Nat) (xs : List Value) (hs : act.eval s = .slice a n c) (hown : w.ownsRow base e size (.slice a n c) n xs)
    (src : Option Addr) (m c' : Nat) (news : List Value) (hx : act.eval x = .slice src m c') (hl : news.length = m * size) (hsrc : 0 < m → ∃ ad, src = some ad ∧ ∀ j u, news[j]? = some u → w.cell? (ad.add j) = some u) (h1 : ∀ u ∈ news, u.oneCell' = true)
    (h63 : n + m ≤ maxLen) (hbytes : (n + m) * bytes ≤ 140737488355328) (hbase : base ≤ w.heap.size)
    (h : ∀ a' cap w', Hid (w'.ownsRow base e size (.slice a' (n + m) cap) (n + m) (xs ++ news)) → Hid (Turn (fun k => (Value.slice a n c).ownBlock = some k) w w') →
      wpList P ops Q rest (act.put o.dst (.slice a' (n + m) cap)) w') : wpList P ops Q (o :: rest) act w := by
  obtain ⟨a', cap, w', hrun, h2, h3⟩ := run_append_src (P := P) w base t o.type e size bytes z ht hi hzs hsz a n c xs hown src m c' news hl hsrc h1 h63 hbytes hbase
  refine wpList_plain hgd fun K hK => ?_
  unfold Oper.wp
  simp [execOp, ho, resolve, invoke, builtin, hs, hx, hrun, Result.andThen]
  exact hK _ _ (h a' cap w' h2 h3)
theorem infoInt5 : (Tryz.prog.info? 3).map (fun i => (i.zero, i.size, i.bytes)) = some (some (.int .i64 0), 1, 8) := by kernel_rfl
def GrowR (w : World) (e : Ending) (w' : World) : Prop := ∃ a c, e = .returned (.slice a 0 c) ∧ w'.ownsRow w.heap.size 3 1 (.slice a 0 c) 0 [] ∧ Still w w'
set_option maxRecDepth 100000 in
set_option maxHeartbeats 4000000 in
theorem grow_nil (n : Nat) (hn : n ≤ 1000000) (w : World) : Calls Tryz.prog 80 #[.slice none 0 0, .int .i64 (n : Int)] w (GrowR w) := by
  have h1 : ¬ ((n : Int) < 0) := by omega
  rcases Nat.eq_zero_or_pos n with rfl | h0
  · go_enter Tryz.func80, Tryz.ntmps80
    go_wp2_with fail
    go_ret
    exact ⟨none, 0, rfl, ⟨by simp, .inl ⟨rfl, rfl⟩⟩, Still.refl _⟩
  · obtain ⟨i, hi, he⟩ := Option.map_eq_some_iff.1 infoInt5
    simp only [Prod.mk.injEq] at he
    obtain ⟨hz, hs, hb⟩ := he
    have hrz : ∀ ty, (Builtin.append_ #[34, 3] ty #[.slice none 0 0, .int .i64 (n : Int)]).run Tryz.prog w = .ok (.slice (some ⟨w.heap.size, 0, none⟩) (0 + n) (grownCap w (0 + n) 0 3)) (w.drew.alloc (.cells (#[] ++ Builtin.zeroCells (Value.int .i64 0).cells n ++ Builtin.zeroCells (Value.int .i64 0).cells (grownCap w (0 + n) 0 3 - (0 + n))) 3)) := fun ty =>
      Lib.run_append_grow_zeros w 34 3 ty 3 i (.int .i64 0) .i64 .i64 Tryz.underlying34 Tryz.underlying3 hi hz none 0 0 [] (run_firstCells_none w.drew i.size 0 0 0) n h0 (by rw [hs]; decide) (by omega) (by omega) (by rw [hb]; omega) (growslice_fits (by omega) (by rw [hb]; omega))
    have hGn : n ≤ grownCap w (0 + n) 0 3 := by have := grownCap_ge w (0 + n) 0 3; omega
    have hG63 : grownCap w (0 + n) 0 3 ≤ maxLen := grownCap_le_maxLen w (0 + n) 0 3 (by unfold maxLen; omega)
    have HO : Hid (∀ G, n ≤ G → G ≤ maxLen → GrowR w (.returned (.slice (some ⟨w.heap.size, 0, none⟩) 0 G)) (w.alloc (.cells (Builtin.zeroCells #[Value.int .i64 0] n ++ Builtin.zeroCells #[Value.int .i64 0] (G - n)) 3)).drew) := fun G g1 g2 =>
      ⟨_, G, rfl, own_keep (World.ownsRow_made w _ G (Nat.le_refl _) g2 (by simp [Builtin.zeroCells]; omega)) (show Still _ _ from (Still.refl _).drew) (fun _ _ e => e), ((Still.refl w).alloc _).drew⟩
    generalize grownCap w (0 + n) 0 3 = G at hrz hGn hG63
    have HG := Lib.hid (And.intro hGn hG63)
    have hG64 : G ≤ 9223372036854775807 := by unfold maxLen at hG63; omega
    clear hi hz hs hb hG63
    go_enter Tryz.func80, Tryz.ntmps80
    go_wp2_with (at_builtin; refine Lib.wpList_append_run _ rfl _ _ _ _ rfl _ _ rfl rfl _ _ (hrz _) ?_)
    all_goals
      go_ret
      exact HO.out G HG.out.1 HG.out.2
/-- Lists of numbers in memory. -/
def LstIs (B : Nat) (w : World) (cs : List Value) (xs : List Int) : Prop := ∃ a n c, cs = [.slice a n c] ∧ n ≤ 1000 ∧ Ints B w a n xs
theorem LstIs.keep {B : Nat} {w w' : World} {cs : List Value} {xs : List Int} (h : LstIs B w cs xs) (hb : Below B w w') (hl : B ≤ w.heap.size) : LstIs B w' cs xs := by
  obtain ⟨a, n, c, h1, h2, h3⟩ := h
  exact ⟨a, n, c, h1, h2, h3.keep hb hl⟩
def ConcatR (xs : List Int) (w : World) (e : Ending) (w' : World) : Prop := ∃ a c, e = .returned (.slice a xs.length c) ∧ w'.ownsRow w.heap.size 3 1 (.slice a xs.length c) xs.length (xs.map (Value.int .i64)) ∧ Still w w'
theorem flat_take {l : List (List Int)} {j : Nat} {x : List Int} (h : l[j]? = some x) : (l.take (j + 1)).flatten = (l.take j).flatten ++ x := by
  rw [List.take_add_one, h, Option.toList_some, List.flatten_append]
  simp
set_option maxRecDepth 100000 in
set_option maxHeartbeats 4000000 in
theorem concat_any {B : Nat} {w : World} {a : Option Addr} {n c : Nat} {ls : List (List Int)} (hl : Lies B w 1 (LstIs B w) a n ls) (hB : B ≤ w.heap.size) (hn : n ≤ 100) :
    Calls Tryz.prog 51 #[.slice a n c] w (ConcatR ls.flatten w) := by
  have HL := Lib.hid hl
  have HLEN := Lib.hid hl.len
  have HB := Lib.hid hB
  have HSUM : Hid (∀ j, j ≤ n → (ls.take j).flatten.length ≤ 1000 * j) := fun j => by
    induction j with
    | zero => intro _; simp
    | succ j ih =>
      intro hj
      obtain ⟨b, off, x, cs, ha, hbB, hxi, hcl, hPx, hcell⟩ := hl.here (i := j) (by omega)
      obtain ⟨a2, n2, c2, _, h2, h3⟩ := hPx
      rw [flat_take hxi, List.length_append, h3.len]
      have := ih (by omega)
      omega
  clear hl hB
  go_enter Tryz.func51, Tryz.ntmps51
  go_wp2_with fail
  go_loopw [3, 5, 11] (fun z3 _ z wr => ∃ j : Nat, z = .int .i64 j ∧ j ≤ n ∧ z3 = .int .i64 ((ls.take j).flatten.length : Int) ∧ wr = w) (fun _ _ z _ => n - (intOf z).toNat)
  case atStart => exact ⟨0, rfl, Nat.zero_le _, rfl, rfl⟩
  case round =>
    obtain ⟨j, rfl, hj, rfl, rfl⟩ := hrel
    by_cases hlt : j < n
    · obtain ⟨b, off, x, cs, ha, hbB, hxi, hcl, hPx, hcell⟩ := HL.out.here hlt
      obtain ⟨a2, n2, c2, rfl, h2, h3⟩ := hPx
      have d0 : wr.cell? ⟨b, off + j, none⟩ = some (.slice a2 n2 c2) := by simpa using hcell 0 (by decide)
      have hbl : b < wr.heap.size := World.block_lt_of_cell? _ _ d0
      have hji : (j : Int) < n := by omega
      have HT : Hid ((ls.take (j + 1)).flatten.length = (ls.take j).flatten.length + n2) := by show _ = _; rw [flat_take hxi, List.length_append, h3.len]
      have hs := HSUM.out j hj
      generalize (ls.take j).flatten.length = s at *
      have w1 : wrap64 ((s : Int) + (n2 : Int)) = ((s + n2 : Nat) : Int) := by unfold wrap64; omega
      have h0 : ¬ (((s + n2 : Nat) : Int) < 0) := by omega
      have w2 : IntKind.i64.wrap ((s : Int) + (n2 : Int)) = ((s + n2 : Nat) : Int) := by rw [IntKind.wrap_i64]; omega
      clear hcell hcl hxi h3
      subst ha
      go_wp2_with fail
      go_roundw
      case rel =>
        have hh := HT.out
        exact ⟨j + 1, by go_num, by omega, by rw [hh, Int.natCast_add], by first | rfl | trivial⟩
      case measure => simp [intOf]; omega
    · obtain ⟨w0, hw0⟩ : ∃ w0, w0 = wr := ⟨_, rfl⟩
      subst hw0
      obtain rfl : n = j := by omega
      have x6 : decide ((n : Int) < n) = false := decide_eq_false (by omega)
      have x6' : decide (n < n) = false := decide_eq_false (by omega)
      have hall : ls.take n = ls := List.take_of_length_le (by rw [HLEN.out]; exact Nat.le_refl _)
      have hs := HSUM.out n (Nat.le_refl _)
      rw [hall] at hs
      have HGR := Lib.hid (grow_nil ls.flatten.length (by omega) w0)
      rw [hall]
      have HALL := Lib.hid (And.intro hall hs)
      clear hlt hall hs
      generalize hsz : ls.flatten.length = sz at *
      have HSZ := Lib.hid hsz
      clear hsz
      go_wp2_with fail
      refine HGR.out.mono ?_; rintro e w2 ⟨a3, c3, rfl, ho3, t3⟩
      have H3 := Lib.hid (And.intro ho3 t3)
      clear ho3 t3
      go_wp2_with fail
      go_loopw [6, 8, 27] (fun z6 _ z w5 => ∃ (j : Nat) (a5 : Option Addr) (k5 c5 : Nat), z = .int .i64 j ∧ j ≤ n ∧ z6 = .slice a5 k5 c5 ∧ k5 = (ls.take j).flatten.length ∧ w5.ownsRow w0.heap.size 3 1 (.slice a5 k5 c5) k5 ((ls.take j).flatten.map (Value.int .i64)) ∧ Still w0 w5) (fun _ _ z _ => n - (intOf z).toNat)
      case atStart => exact ⟨0, a3, 0, c3, rfl, Nat.zero_le _, rfl, rfl, H3.out.1, H3.out.2⟩
      case round =>
        obtain ⟨j, a5, k5, c5, rfl, hj, rfl, hk5, ho5, t5⟩ := hrel
        have H5 := Lib.hid (And.intro ho5 (And.intro t5 hk5))
        by_cases hlt : j < n
        · obtain ⟨b, off, x, cs, ha, hbB, hxi, hcl, hPx, hcell⟩ := (Lies.keep HL.out ((Still.below t5).mono HB.out) HB.out (fun cs x _ h => h.keep ((Still.below t5).mono HB.out) HB.out)).here hlt
          obtain ⟨a2, n2, c2, rfl, h2, h3⟩ := hPx
          have d0 : wr.cell? ⟨b, off + j, none⟩ = some (.slice a2 n2 c2) := by simpa using hcell 0 (by decide)
          have hbl : b < wr.heap.size := World.block_lt_of_cell? _ _ d0
          have hji : (j : Int) < n := by omega
          have HX : Hid ((ls.take (j + 1)).flatten = (ls.take j).flatten ++ x ∧ x.length = n2) := ⟨flat_take hxi, h3.len⟩
          have HS : Hid ((ls.take j).flatten.length ≤ 1000 * j ∧ n2 ≤ 1000) := ⟨HSUM.out j hj, h2⟩
          have HI := Lib.hid h3
          clear hcell hcl hxi h3 ho5 t5 hk5
          subst ha
          have hx1 := HX.out.2
          have hs1 : k5 ≤ 1000 * j ∧ n2 ≤ 1000 := by have h1 := HS.out; have h2 := H5.out.2.2; omega
          have HO := Lib.hid H5.out.1
          have HSRC : Hid (0 < n2 → ∃ ad, a2 = some ad ∧ ∀ j u, (x.map (Value.int .i64))[j]? = some u → wr.cell? (ad.add j) = some u) := fun h0 => by
            obtain ⟨b6, off6, ha6, hb6, hc6⟩ := ints_cell HI.out h0
            refine ⟨⟨b6, off6, none⟩, ha6, fun j u hu => ?_⟩
            rw [List.getElem?_map] at hu
            obtain ⟨y, hy, rfl⟩ := Option.map_eq_some_iff.1 hu
            have hjl := (List.getElem?_eq_some_iff.1 hy).1
            have := hc6 j (by omega)
            rw [Go.WideShapes.add_plain, this]
            simp [List.getD, hy]
          have HLX : Hid ((x.map (Value.int .i64)).length = n2 * 1) := by show _ = _; rw [List.length_map, hx1, Nat.mul_one]
          have HONE : Hid (∀ u ∈ x.map (Value.int .i64), u.oneCell' = true) := fun u hu => by
            obtain ⟨y, _, rfl⟩ := List.mem_map.1 hu
            rfl
          have HB1 : Hid (k5 + n2 ≤ maxLen ∧ (k5 + n2) * 8 ≤ 140737488355328) := ⟨by unfold maxLen; omega, by omega⟩
          go_wp2_with (at_builtin; refine wpList_append_src5 rfl (.tmp 31) (.tmp 32) 34 rfl w0.heap.size 3 1 8 _ Tryz.underlying34 infoInt5 rfl (by decide) a5 k5 c5 _ rfl HO.out a2 n2 c2 _ rfl HLX.out HSRC.out HONE.out HB1.out.1 HB1.out.2 H5.out.2.1.size ?_; intro a7 c7 w7 ho7 ht7)
          go_roundw
          case rel =>
            refine ⟨j + 1, a7, k5 + n2, c7, by go_num, by omega, rfl, ?_, ?_, ?_⟩
            · rw [HX.out.1, List.length_append, ← H5.out.2.2, hx1]
            · rw [HX.out.1, List.map_append]
              exact ho7.out
            · exact still_own H5.out.2.1 ht7.out H5.out.1
          case measure => simp [intOf]; omega
        · obtain rfl : n = j := by omega
          have x7 : decide ((n : Int) < n) = false := decide_eq_false (by omega)
          have x7' : decide (n < n) = false := decide_eq_false (by omega)
          clear hlt ho5 t5 hk5
          go_wp2_with fail
          go_ret
          have h1 := H5.out
          rw [HALL.out.1] at h1
          obtain ⟨g1, g2, g3⟩ := h1
          refine ⟨a5, c5, ?_, ?_, g2⟩
          · rw [← g3]
            rfl
          · rw [← g3]
            exact g1
end Go.Proofs.YtglalgjffkoneaaGreatDoor
