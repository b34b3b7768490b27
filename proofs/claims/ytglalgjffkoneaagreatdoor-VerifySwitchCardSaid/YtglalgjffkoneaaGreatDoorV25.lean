/- Lemmas, put together: Vso Vsw. -/
import Derived.Test.YtglalgjffkoneaaGreatDoorV22
/- What VerifySwitch's walk leans on. -/
namespace Go.Proofs.YtglalgjffkoneaaGreatDoor
set_option linter.unusedVariables false
set_option linter.unusedSimpArgs false
open Go.ChangeShapes Go.WideShapes Go.ChangeAt Go.RowKit
open Vf (K nth nth_nat tyAt atK isK numT oneT le beginK tsub RowK FitsK CalledK resT ObjK keepK KeepsK setK hasK)
theorem append_own2 {P : Program} (w : World) (t ty e : TypeId) (size bytes : Nat) (z : Value) (ht : P.underlying t = some (.slice e)) (hi : (P.info? e).map (fun i => (i.zero, i.size, i.bytes)) = some (some z, size, bytes))
    (hzs : z.cells.size = size) (hsz : 0 < size) (ao : Option Addr) (n : Nat) (olds : List Value) (hnone : ao = none → n = 0) (hlo : olds.length = n * size) (holds : ∀ b, ao = some b → ∃ q, b = ⟨q, 0, none⟩ ∧ Row w q e olds)
    (q : Nat) (m c' : Nat) (news : List Value) (hl : news.length = m * size) (hnews : Row w q e news) (h1 : ∀ u ∈ news, u.oneCell' = true) (hm : 0 < m) (h63 : n + m ≤ maxLen) (hbytes : (n + m) * bytes ≤ 140737488355328) :
    ∃ g cap w', (Builtin.append_ #[t, t] ty #[.slice ao n n, .slice (some ⟨q, 0, none⟩) m c']).run P w = .ok (.slice (some ⟨g, 0, none⟩) (n + m) cap) w' ∧ w.heap.size ≤ g ∧ n + m ≤ cap ∧ Still w w' ∧ Row w' g e (olds ++ news) ∧ w'.ownsRow w.heap.size e size (.slice (some ⟨g, 0, none⟩) (n + m) cap) (n + m) (olds ++ news) := by
  obtain ⟨i, hi1, he⟩ := Option.map_eq_some_iff.1 hi
  simp only [Prod.mk.injEq] at he
  have fin : ∀ v' w', w'.ownsRow w.heap.size e size v' (n + m) (olds ++ news) → w.grownBy w' none → ∃ g cap, v' = .slice (some ⟨g, 0, none⟩) (n + m) cap ∧ w.heap.size ≤ g ∧ n + m ≤ cap ∧ Still w w' ∧ Row w' g e (olds ++ news) ∧ w'.ownsRow w.heap.size e size (.slice (some ⟨g, 0, none⟩) (n + m) cap) (n + m) (olds ++ news) := fun v' w' own gr => by
    have own0 := own
    rcases own.2 with ⟨_, h0⟩ | ⟨g, cap, cur, hv, hg, hc, hn, _, _, htake⟩
    · omega
    · refine ⟨g, cap, hv, hg, hn, (Turn.refl _ w).grown gr (fun k e => by cases e), ⟨cur.toList.drop ((n + m) * size), ?_⟩, hv ▸ own0⟩
      have : (olds ++ news ++ cur.toList.drop ((n + m) * size)).toArray = cur := by
        rw [← htake, List.take_append_drop]
      rw [this]
      exact hc
  have hn2 : ∀ j u, news[j]? = some u → w.cell? ((⟨q, 0, none⟩ : Addr).add j) = some u := fun j u hj => by rw [Addr.add_lit, Nat.zero_add]; exact hnews.cell hj
  cases ao with
  | some b =>
    obtain ⟨q0, rfl, hrow⟩ := holds b rfl
    obtain ⟨v', w', hrun, r1, r2⟩ := run_append_arg_grows (P := P) w t ty e i z size bytes ht hi1 he.1 he.2.1 he.2.2 hzs hsz ⟨q0, 0, none⟩ n n olds hlo (fun j u hj => by rw [Addr.add_lit, Nat.zero_add]; exact hrow.cell hj) ⟨q, 0, none⟩ m c' news hl hn2 (by omega) h63 hbytes
    obtain ⟨g, cap, rfl, h⟩ := fin v' w' r1 r2
    exact ⟨g, cap, w', hrun, h⟩
  | none =>
    obtain rfl := hnone rfl
    obtain rfl : olds = [] := List.eq_nil_of_length_eq_zero (by simpa using hlo)
    obtain ⟨v', w', hrun, r1, r2, _⟩ := run_append_own (P := P) w w.heap.size t ty e i z size bytes ht hi1 he.1 he.2.1 he.2.2 hzs hsz (.slice none 0 0) 0 [] (World.ownsRow_nil w _ e size) ⟨q, 0, none⟩ m c' news hl hn2 h1 h63 hbytes (Nat.le_refl _)
    obtain ⟨g, cap, rfl, h⟩ := fin v' w' r1 r2
    exact ⟨g, cap, w', hrun, h⟩
theorem wpList_append_own2 {P : Program} {w : World} {ops : Array Oper} {rest : List Oper} {o : Oper} {act : Act} {Q : Exit → Act → World → Prop} (hgd : o.guard = none) (s x : Operand) (t : TypeId)
    (ho : o.op = .call { callee := .builtin .append, args := #[s, x], argTypes := #[t, t] }) (e : TypeId) (size bytes : Nat) (z : Value) (ht : P.underlying t = some (.slice e)) (hi : (P.info? e).map (fun i => (i.zero, i.size, i.bytes)) = some (some z, size, bytes))
    (hzs : z.cells.size = size) (hsz : 0 < size) (ao : Option Addr) (n : Nat) (olds : List Value) (hs : act.eval s = .slice ao n n) (hnone : ao = none → n = 0) (hlo : olds.length = n * size) (holds : ∀ b, ao = some b → ∃ q, b = ⟨q, 0, none⟩ ∧ Row w q e olds)
    (q : Nat) (m c' : Nat) (news : List Value) (hx : act.eval x = .slice (some ⟨q, 0, none⟩) m c') (hl : news.length = m * size) (hnews : Row w q e news) (h1 : ∀ u ∈ news, u.oneCell' = true) (hm : 0 < m) (h63 : n + m ≤ maxLen) (hbytes : (n + m) * bytes ≤ 140737488355328)
    (h : ∀ g cap w', w.heap.size ≤ g → n + m ≤ cap → Still w w' → Row w' g e (olds ++ news) → w'.ownsRow w.heap.size e size (.slice (some ⟨g, 0, none⟩) (n + m) cap) (n + m) (olds ++ news) → wpList P ops Q rest (act.put o.dst (.slice (some ⟨g, 0, none⟩) (n + m) cap)) w') : wpList P ops Q (o :: rest) act w := by
  obtain ⟨g, cap, w', hrun, h2, h3, h4, h5, h6⟩ := append_own2 (P := P) w t o.type e size bytes z ht hi hzs hsz ao n olds hnone hlo holds q m c' news hl hnews h1 hm h63 hbytes
  refine wpList_plain hgd fun K hK => ?_
  unfold Oper.wp
  simp [execOp, ho, resolve, invoke, builtin, hs, hx, hrun, Result.andThen]
  exact hK _ _ (h g cap w' h2 h3 h4 h5 h6)

theorem Rws.cons {w w' : World} {L : RL} (h : Rws w L) (t : Still w w') {b : Nat} {e : TypeId} {xs : List Value} (hr : Row w' b e xs) (hb : w.heap.size ≤ b) : Rws w' ((b, e, xs) :: L) := by
  refine ⟨fun x hx => ?_, List.pairwise_cons.2 ⟨fun y hy => ?_, h.nd⟩⟩
  · rcases List.mem_cons.1 hx with e1 | e1
    · rw [e1]; exact hr
    · exact (h.each x e1).still t
  · have := (h.each y hy).lt
    show b ≠ y.1
    omega
/-- Rows behind others. -/
def PX (pre : RL) (w : World) (L : RL) : Prop := Rws w (pre ++ L)
theorem PX.rw {pre : RL} {w : World} {L : RL} (h : PX pre w L) : Rws w L := ⟨fun x hx => h.each x (List.mem_append_right _ hx), (List.pairwise_append.1 h.nd).2.1⟩
theorem PX.at {pre : RL} {w : World} {L : RL} (h : PX pre w L) (n : Nat) {b : Nat} {e : TypeId} {xs : List Value} (hn : L[n]? = some (b, e, xs)) : Row w b e xs := h.rw.at n hn
theorem PX.ne {pre : RL} {w : World} {L : RL} (h : PX pre w L) (a c : Nat) {b b' : Nat} {e e' : TypeId} {xs xs' : List Value} (ha : L[a]? = some (b, e, xs)) (hc : L[c]? = some (b', e', xs')) (hac : a ≠ c) : b ≠ b' := h.rw.ne a c ha hc hac
theorem PX.still {pre : RL} {w w' : World} {L : RL} (h : PX pre w L) (t : Still w w') : PX pre w' L := Rws.still h t
theorem PX.alloc {pre : RL} {w : World} {L : RL} (h : PX pre w L) (o : Obj) : PX pre (w.alloc o) L := Rws.alloc h o
theorem PX.new {pre : RL} {w w' : World} {L : RL} (h : PX pre w L) (t : Still w w') {b : Nat} {e : TypeId} {xs : List Value} (hr : Row w' b e xs) (hb : w.heap.size ≤ b) : PX pre w' (L ++ [(b, e, xs)]) := by
  have := Rws.new h t hr hb
  rw [List.append_assoc] at this
  exact this
theorem PX.made {pre : RL} {w : World} {L : RL} (h : PX pre w L) {b : Nat} {e : TypeId} {cs : Array Value} (hb : w.heap.size = b) : PX pre (w.alloc (.cells cs e)) (L ++ [(b, e, cs.toList)]) := h.new ((Still.refl w).alloc _) (blk_at' hb).row' (by omega)
theorem PX.idx {pre : RL} {L : RL} (n : Nat) : (pre ++ L)[pre.length + n]? = L[n]? := by
  rw [List.getElem?_append_right (by omega)]
  congr 1
  omega
theorem PX.seti {pre : RL} {L : RL} (n : Nat) (x : Nat × TypeId × List Value) : (pre ++ L).set (pre.length + n) x = pre ++ L.set n x := by
  rw [List.set_append_right _ _ (by omega)]
  congr 2
  omega
theorem PX.set {pre : RL} {w : World} {L : RL} (h : PX pre w L) (n : Nat) {b : Nat} {e : TypeId} {xs : List Value} (hn : L[n]? = some (b, e, xs)) (i : Nat) (hi : i < xs.length) (v : Value) : PX pre (w.setCell ⟨b, i, none⟩ v) (L.set n (b, e, xs.set i v)) := by
  have h1 := Rws.set h (pre.length + n) ((PX.idx n).trans hn) i hi v
  rw [PX.seti] at h1
  exact h1
theorem PX.grew {pre : RL} {w w' : World} {L : RL} (h : PX pre w L) (n : Nat) {g g' : Nat} {e : TypeId} {xs ys : List Value} (hn : L[n]? = some (g, e, xs)) (t : Turn (fun k => k = g) w w') (hr : Row w' g' e ys) (hg : g' = g ∨ w.heap.size ≤ g') : PX pre w' (L.set n (g', e, ys)) := by
  have h1 := Rws.grew h (pre.length + n) ((PX.idx n).trans hn) t hr hg
  rw [PX.seti] at h1
  exact h1
theorem PX.ne' {w : World} {L : RL} {x : Nat × TypeId × List Value} (h : PX [x] w L) (n : Nat) (a c : Nat) (ha : x.1 = a) (hc : L[n]?.map (fun y => y.1) = some c) : a ≠ c := by
  obtain ⟨y, hy, rfl⟩ := Option.map_eq_some_iff.1 hc
  subst ha
  exact (List.pairwise_cons.1 h.nd).1 y (List.mem_of_getElem? hy)
/-- What lies in the switch's list, and where. -/
def MR : Bool → Bool → RL → Value → Prop
  | false, false, pre, mv => pre = [] ∧ mv = .slice none 0 0
  | true, false, pre, mv => ∃ g c, pre = [(g, 3, [.int .i64 1, .int .i64 1])] ∧ mv = .slice (some ⟨g, 0, none⟩) 2 c
  | false, true, pre, mv => ∃ g c, pre = [(g, 3, [.int .i64 2, .int .i64 2])] ∧ mv = .slice (some ⟨g, 0, none⟩) 2 c
  | true, true, pre, mv => ∃ g c, pre = [(g, 3, [.int .i64 1, .int .i64 1, .int .i64 2, .int .i64 2])] ∧ mv = .slice (some ⟨g, 0, none⟩) 4 c
def MR1 (w1 w : World) : Bool → RL → Value → Prop
  | false, pre, mv => pre = [] ∧ mv = .slice none 0 0
  | true, pre, mv => ∃ g c, pre = [(g, 3, [.int .i64 1, .int .i64 1])] ∧ mv = .slice (some ⟨g, 0, none⟩) 2 c ∧ w.ownsRow 0 3 1 (.slice (some ⟨g, 0, none⟩) 2 c) 2 [.int .i64 1, .int .i64 1] ∧ w1.heap.size ≤ g
def BV : Bool → Int → Prop
  | false, b => b = -1
  | true, b => b = 2
theorem Bm.says {w : World} {ρ : Nat → Nat} {D : Bm.Mem} (h : Bm.Holds w ρ D) (ht : Tz w) {c : ImgC} {m : M.Img} (hr : Bm.rImg D c = some m) (hok : Bm.okOps m = true) (hs : M.size m ≤ 1000000000) {r : Int} (hg : (if Bm.good m then 0 else 21 : Int) = r) :
    Calls Tryz.prog 12 #[.agg (c.v ρ).cells] w fun e w' => e = .returned (.int .i64 r) ∧ Still w w' := by
  subst hg
  exact Bm.verify_built h ht hr hok hs
end Go.Proofs.YtglalgjffkoneaaGreatDoor
/- VerifySwitch: its walk. -/
namespace Go.Proofs.YtglalgjffkoneaaGreatDoor
set_option linter.unusedVariables false
set_option linter.unusedSimpArgs false
open Go.ChangeShapes Go.WideShapes Go.ChangeAt Go.RowKit
open Vf (K nth nth_nat tyAt atK isK numT oneT le beginK tsub RowK FitsK CalledK resT ObjK keepK KeepsK setK hasK)
set_option maxRecDepth 100000 in
set_option maxHeartbeats 8000000 in
theorem verifySwitch_w (im f1 s2 ot : Bool) (w : World) (ht : Tz w) : Calls Tryz.prog 6 #[.bool im, .bool f1, .bool s2, .bool ot] w fun e w' => e = .returned (.bool true) ∧ Still w w' := by
  have HT : Hid (∀ W, Still w W → Tz W) := fun W t => ht.keep t (fun e => e)
  clear ht
  go_enter Tryz.func6, Tryz.ntmps6
  go_wp2_with fail
  refine (least_any _).mono ?_; rintro e w1 ⟨p, rfl, ha, t1, hp6⟩
  have H1 := Lib.hid (And.intro ha t1)
  have hp6' := Lib.hid hp6
  clear ha t1 hp6
  go_wp2_with (at_builtin; refine wpList_append_new rfl (.tmp 15) (.tmp 19) 23 rfl 42 3 48 _ Tryz.underlying23 infoShape rfl (by decide) (some ⟨p.p3, 0, none⟩) 1 [.int .i64 3, .slice none 0 0, .string ⟨#[]⟩] rfl (fun e => by cases e) rfl (fun b hb => ⟨p.p3, (Option.some.inj hb).symm, Blk.row' (by repeat (first | exact H1.out.1.a3 | refine Blk.alloc ?_ _))⟩) (w1.heap.size + 1 + 1) 2 2 [.int .i64 1, .slice (some ⟨w1.heap.size + 1, 0, none⟩) 1 1, .string ⟨#[]⟩, .int .i64 1, .slice none 0 0, .string ⟨#[]⟩] rfl rfl (Blk.row' (blk_at' (by simp))) (by simp [Value.oneCell']) (by decide) (by decide) (by decide) ?_; intro gS capS w2 hg hc hst hrow; refine Wait.out ?_)
  refine ⟨?_⟩
  have st2 : Still w1 w2 := ((((Still.refl w1).alloc _).alloc _).alloc _).trans hst
  obtain ⟨Q, hQ⟩ : ∃ Q, w1.heap.size = Q := ⟨_, rfl⟩
  rw [hQ] at hst hrow hg
  have RW : Hid (Rws w2 [(p.p1, 3, [.int .i64 0]), (p.p3, 42, [.int .i64 3, .slice none 0 0, .string ⟨#[]⟩]), (p.p4, 3, [.int .i64 (-1)]), (p.p5, 36, [.int .i64 1, .int .i64 0, .int .i64 0, .int .i64 0, .int .i64 0, .int .i64 5, .slice none 0 0, .slice none 0 0, .slice none 0 0, .int .i64 22, .int .i64 0, .int .i64 0, .int .i64 0, .int .i64 0, .int .i64 0, .slice none 0 0, .slice none 0 0, .slice none 0 0]), (p.p6, 48, [.slice (some ⟨p.p4, 0, none⟩) 1 1, .slice (some ⟨p.p5, 0, none⟩) 2 2]), (Q, 27, [.slice (some ⟨p.p2, 0, none⟩) 2 2, .slice (some ⟨p.p3, 0, none⟩) 1 1, .slice none 0 0, .slice none 0 0, .slice (some ⟨p.p7, 0, none⟩) 1 1, .int .i64 0, .int .i64 0]), (Q + 1, 3, [.int .i64 0]), (gS, 42, [.int .i64 3, .slice none 0 0, .string ⟨#[]⟩, .int .i64 1, .slice (some ⟨Q + 1, 0, none⟩) 1 1, .string ⟨#[]⟩, .int .i64 1, .slice none 0 0, .string ⟨#[]⟩])]) := by
    have h5 := ((((least_rws H1.out.1).made (e := 27) (cs := #[.slice (some ⟨p.p2, 0, none⟩) 2 2, .slice (some ⟨p.p3, 0, none⟩) 1 1, .slice none 0 0, .slice none 0 0, .slice (some ⟨p.p7, 0, none⟩) 1 1, .int .i64 0, .int .i64 0]) hQ).made (b := Q + 1) (e := 3) (cs := #[.int .i64 0]) (by simp [hQ])).alloc (.cells #[.int .i64 1, .slice (some ⟨Q + 1, 0, none⟩) 1 1, .string ⟨#[]⟩, .int .i64 1, .slice none 0 0, .string ⟨#[]⟩] 42)).new (w' := w2) hst hrow hg
    exact h5
  have HQ : Hid (w1.heap.size = Q ∧ Still w1 w2) := ⟨hQ, st2⟩
  have hp2 : Blk w2 p.p2 51 #[.bool true, .slice none 0 0, .bool false, .slice (some ⟨p.p1, 0, none⟩) 1 1] := (H1.out.1.still st2).a2
  have HP2 := Lib.hid hp2
  have hp2Q : p.p2 ≠ Q := by have := H1.out.1.a2.lt; omega
  have HP2Q := Lib.hid hp2Q
  rw [hQ]
  clear hst hg hrow hQ st2 hp2 hp2Q
  have qR := RW.out.at 5 (b := Q) (e := 27) rfl
  have q0 := qR.cell (i := 0) rfl
  have q1 := qR.cell (i := 1) rfl
  have q2 := qR.cell (i := 2) rfl
  have q3 := qR.cell (i := 3) rfl
  have q4 := qR.cell (i := 4) rfl
  have q5 := qR.cell (i := 5) rfl
  have q6 := qR.cell (i := 6) rfl
  have qf0 := qR.frozen 0
  have qf1 := qR.frozen 1
  have ql := qR.lt
  clear qR
  go_wp2_with (at_builtin; refine wpList_append_own2 rfl (.tmp 23) (.tmp 27) 22 rfl 51 2 32 _ Tryz.underlying22 infoType rfl (by decide) (some ⟨p.p2, 0, none⟩) 2 [.bool true, .slice none 0 0, .bool false, .slice (some ⟨p.p1, 0, none⟩) 1 1] rfl (fun e => by cases e) rfl (fun b hb => ⟨p.p2, (Option.some.inj hb).symm, Blk.row' (by repeat (first | exact HP2.out | refine Blk.alloc ?_ _ | refine Blk.far ?_ HP2Q.out _))⟩) (w2.heap.size + 1) 1 1 [.bool im, .slice (some ⟨w2.heap.size, 0, none⟩) 2 2] rfl rfl (Blk.row' (blk_at' (by simp))) (by simp [Value.oneCell']) (by decide) (by decide) (by decide) ?_; intro g cap w3 hg hc hst hrow hown; refine Wait.out ?_)
  refine ⟨?_⟩
  clear q0 q1 q2 q3 q4 q5 q6 qf0 qf1 ql
  have RW3 : Hid (Rws w3 [(p.p1, 3, [.int .i64 0]), (p.p3, 42, [.int .i64 3, .slice none 0 0, .string ⟨#[]⟩]), (p.p4, 3, [.int .i64 (-1)]), (p.p5, 36, [.int .i64 1, .int .i64 0, .int .i64 0, .int .i64 0, .int .i64 0, .int .i64 5, .slice none 0 0, .slice none 0 0, .slice none 0 0, .int .i64 22, .int .i64 0, .int .i64 0, .int .i64 0, .int .i64 0, .int .i64 0, .slice none 0 0, .slice none 0 0, .slice none 0 0]), (p.p6, 48, [.slice (some ⟨p.p4, 0, none⟩) 1 1, .slice (some ⟨p.p5, 0, none⟩) 2 2]), (Q, 27, [.slice (some ⟨p.p2, 0, none⟩) 2 2, .slice (some ⟨gS, 0, none⟩) 3 capS, .slice none 0 0, .slice none 0 0, .slice (some ⟨p.p7, 0, none⟩) 1 1, .int .i64 0, .int .i64 0]), (Q + 1, 3, [.int .i64 0]), (gS, 42, [.int .i64 3, .slice none 0 0, .string ⟨#[]⟩, .int .i64 1, .slice (some ⟨Q + 1, 0, none⟩) 1 1, .string ⟨#[]⟩, .int .i64 1, .slice none 0 0, .string ⟨#[]⟩]), (w2.heap.size, 3, [.int .i64 1, .int .i64 2]), (g, 51, [.bool true, .slice none 0 0, .bool false, .slice (some ⟨p.p1, 0, none⟩) 1 1, .bool im, .slice (some ⟨w2.heap.size, 0, none⟩) 2 2])]) := by
    have h5 := (((RW.out.set 5 rfl 1 (by simp) (.slice (some ⟨gS, 0, none⟩) 3 capS)).made (b := w2.heap.size) (e := 3) (cs := #[.int .i64 1, .int .i64 2]) (by simp)).alloc (.cells #[.bool im, .slice (some ⟨w2.heap.size, 0, none⟩) 2 2] 51)).new (w' := w3) hst hrow hg
    exact h5
  have HQ3 : Hid (w1.heap.size = Q ∧ Still w1 w3) := ⟨HQ.out.1, ((((HQ.out.2.setCell (p := ⟨Q, 1, none⟩) (fun h => absurd h (by have := HQ.out.1; show ¬ Q < _; omega)) _).alloc (.cells #[.int .i64 1, .int .i64 2] 3)).alloc _)).trans hst⟩
  have HG : Hid (w3.ownsRow 0 51 2 (.slice (some ⟨g, 0, none⟩) 3 cap) 3 [.bool true, .slice none 0 0, .bool false, .slice (some ⟨p.p1, 0, none⟩) 1 1, .bool im, .slice (some ⟨w2.heap.size, 0, none⟩) 2 2]) := by
    have h0 := hown
    refine ⟨h0.1, ?_⟩
    rcases h0.2 with h1 | ⟨g', cap', cur, e1, _, h2⟩
    · exact .inl h1
    · exact .inr ⟨g', cap', cur, e1, Nat.zero_le _, h2⟩
  obtain ⟨I12, hI12⟩ : ∃ I12, w2.heap.size = I12 := ⟨_, rfl⟩
  rw [hI12] at RW3 HG
  have hgB : w1.heap.size ≤ g := by have h1 := HQ.out.2.size; simp at hg; omega
  have HGB := Lib.hid hgB
  clear hst hg hrow hown hI12 RW HP2 HP2Q HQ hgB
  have qR := RW3.out.at 5 (b := Q) (e := 27) rfl
  have q0 := qR.cell (i := 0) rfl
  have q1 := qR.cell (i := 1) rfl
  have q2 := qR.cell (i := 2) rfl
  have q3 := qR.cell (i := 3) rfl
  have q4 := qR.cell (i := 4) rfl
  have q5 := qR.cell (i := 5) rfl
  have q6 := qR.cell (i := 6) rfl
  have qf0 := qR.frozen 0
  have ql := qR.lt
  clear qR
  go_upto_if 31 with fail
  clear q0 q1 q2 q3 q4 q5 q6 qf0 ql
  generalize hW4 : (w3.setCell ⟨Q, 0, none⟩ (.slice (some ⟨g, 0, none⟩) 3 cap)).alloc (.cells #[.int .i64 20, .int .i64 0, .int .i64 0, .int .i64 (-1), .int .i64 0, .int .i64 0, .slice none 0 0, .slice none 0 0, .slice none 0 0] 36) = w4
  obtain ⟨X, hX⟩ : ∃ X, w3.heap.size = X := ⟨_, rfl⟩
  have RW4 : Hid (Rws w4 [(p.p1, 3, [.int .i64 0]), (p.p3, 42, [.int .i64 3, .slice none 0 0, .string ⟨#[]⟩]), (p.p4, 3, [.int .i64 (-1)]), (p.p5, 36, [.int .i64 1, .int .i64 0, .int .i64 0, .int .i64 0, .int .i64 0, .int .i64 5, .slice none 0 0, .slice none 0 0, .slice none 0 0, .int .i64 22, .int .i64 0, .int .i64 0, .int .i64 0, .int .i64 0, .int .i64 0, .slice none 0 0, .slice none 0 0, .slice none 0 0]), (p.p6, 48, [.slice (some ⟨p.p4, 0, none⟩) 1 1, .slice (some ⟨p.p5, 0, none⟩) 2 2]), (Q, 27, [.slice (some ⟨g, 0, none⟩) 3 cap, .slice (some ⟨gS, 0, none⟩) 3 capS, .slice none 0 0, .slice none 0 0, .slice (some ⟨p.p7, 0, none⟩) 1 1, .int .i64 0, .int .i64 0]), (Q + 1, 3, [.int .i64 0]), (gS, 42, [.int .i64 3, .slice none 0 0, .string ⟨#[]⟩, .int .i64 1, .slice (some ⟨Q + 1, 0, none⟩) 1 1, .string ⟨#[]⟩, .int .i64 1, .slice none 0 0, .string ⟨#[]⟩]), (I12, 3, [.int .i64 1, .int .i64 2]), (g, 51, [.bool true, .slice none 0 0, .bool false, .slice (some ⟨p.p1, 0, none⟩) 1 1, .bool im, .slice (some ⟨I12, 0, none⟩) 2 2]), (X, 36, [.int .i64 20, .int .i64 0, .int .i64 0, .int .i64 (-1), .int .i64 0, .int .i64 0, .slice none 0 0, .slice none 0 0, .slice none 0 0])]) := by
    rw [← hW4]
    exact (RW3.out.set 5 rfl 0 (by simp) (.slice (some ⟨g, 0, none⟩) 3 cap)).made (b := X) (e := 36) (cs := #[.int .i64 20, .int .i64 0, .int .i64 0, .int .i64 (-1), .int .i64 0, .int .i64 0, .slice none 0 0, .slice none 0 0, .slice none 0 0]) (by simp [hX])
  have ne_Q_g : Q ≠ g := RW3.out.ne 5 9 rfl rfl (by decide)
  have H4 : Hid (Still w1 w4 ∧ Turn (fun j => j ≠ g) w3 w4 ∧ w1.heap.size ≤ X) := by
    rw [← hW4]
    exact ⟨(HQ3.out.2.setCell (p := ⟨Q, 0, none⟩) (fun h => absurd h (by have := HQ3.out.1; show ¬ Q < _; omega)) _).alloc _, (((Turn.refl _ w3).setCell (p := ⟨Q, 0, none⟩) (fun _ => ne_Q_g) _).alloc _), by have := HQ3.out.2.size; omega⟩
  have NE := Lib.hid ne_Q_g
  rw [hX]
  clear hW4 hX ne_Q_g RW3
  have HX : Hid (w1.heap.size ≤ X ∧ X ≠ g ∧ w1.heap.size = Q) := ⟨H4.out.2.2, RW4.out.ne 10 9 rfl rfl (by decide), HQ3.out.1⟩
  go_cut [] from 13 (fun wc => ∃ pre mv, MR1 w1 wc f1 pre mv ∧ PX pre wc [(p.p1, 3, [.int .i64 0]), (p.p3, 42, [.int .i64 3, .slice none 0 0, .string ⟨#[]⟩]), (p.p4, 3, [.int .i64 (-1)]), (p.p5, 36, [.int .i64 1, .int .i64 0, .int .i64 0, .int .i64 0, .int .i64 0, .int .i64 5, .slice none 0 0, .slice none 0 0, .slice none 0 0, .int .i64 22, .int .i64 0, .int .i64 0, .int .i64 0, .int .i64 0, .int .i64 0, .slice none 0 0, .slice none 0 0, .slice none 0 0]), (p.p6, 48, [.slice (some ⟨p.p4, 0, none⟩) 1 1, .slice (some ⟨p.p5, 0, none⟩) 2 2]), (Q, 27, [.slice (some ⟨g, 0, none⟩) 3 cap, .slice (some ⟨gS, 0, none⟩) 3 capS, .slice none 0 0, .slice none 0 0, .slice (some ⟨p.p7, 0, none⟩) 1 1, .int .i64 0, .int .i64 0]), (Q + 1, 3, [.int .i64 0]), (gS, 42, [.int .i64 3, .slice none 0 0, .string ⟨#[]⟩, .int .i64 1, .slice (some ⟨Q + 1, 0, none⟩) 1 1, .string ⟨#[]⟩, .int .i64 1, .slice none 0 0, .string ⟨#[]⟩]), (I12, 3, [.int .i64 1, .int .i64 2]), (g, 51, [.bool true, .slice none 0 0, .bool false, .slice (some ⟨p.p1, 0, none⟩) 1 1, .bool im, .slice (some ⟨I12, 0, none⟩) 2 2]), (X, 36, [.int .i64 20, .int .i64 0, .int .i64 0, .int .i64 (-1), .int .i64 0, .int .i64 0, .slice none 0 0, mv, .slice none 0 0])] ∧ Still w1 wc ∧ Turn (fun j => j ≠ g) w3 wc)
  case first =>
    cases f1 with
    | false =>
      go_wp2_with fail
      go_meet
      exact ⟨[], .slice none 0 0, ⟨rfl, rfl⟩, RW4.out, H4.out.1, H4.out.2.1⟩
    | true =>
      have x7R := RW4.out.at 10 (b := X) (e := 36) rfl
      have x7 := x7R.cell (i := 7) rfl
      have xf7 := x7R.frozen 7
      have xl := x7R.lt
      clear x7R
      go_wp2_with (at_builtin; refine wpList_append_form rfl (.tmp 33) (.tmp 34) 34 rfl 0 3 1 8 _ Tryz.underlying34 infoIntB rfl (by decide) none 0 0 [] rfl (World.ownsRow_nil _ 0 3 1) ⟨w4.heap.size, 0, none⟩ 2 2 [.int .i64 1, .int .i64 1] rfl rfl (fun j u hj => by rw [Addr.add_lit, Nat.zero_add, (Blk.new w4 3 #[.int .i64 1, .int .i64 1]).cell j]; simpa using hj) (by simp [Value.oneCell']) (by decide) (by decide) (by decide) (Nat.zero_le _) ?_; intro gM cM wM hoM htM hgM; refine Wait.out ?_)
      refine ⟨?_⟩
      clear x7 xf7 xl
      have hge : w4.heap.size ≤ gM := by
        rcases hgM.out with h | h
        · cases h
        · simp at h; omega
      have SM : Still w4 wM := (((Still.refl w4).alloc (.cells #[.int .i64 1, .int .i64 1] 3)).trans (Turn.mono htM.out fun _ _ e => by cases e))
      have RM : PX [(gM, 3, [.int .i64 1, .int .i64 1])] wM _ := Rws.cons (RW4.out) SM (own_row2 hoM.out) hge
      have RM2 := RM.set 10 rfl 7 (by simp) (.slice (some ⟨gM, 0, none⟩) 2 cM)
      have SW : Still w1 wM := (H4.out.1).trans SM
      have hl1 := (H4.out.1).size
      have x7R := RM.at 10 (b := X) (e := 36) rfl
      have xf7 := x7R.frozen 7
      have x7 := x7R.cell (i := 7) rfl
      have xl := x7R.lt
      have HR := Lib.hid (And.intro RM2 (And.intro SM (And.intro SW (And.intro hge hoM))))
      have HL := Lib.hid (show w1.heap.size ≤ gM by omega)
      clear x7R RM RM2 SM SW hge hoM htM hgM hl1
      go_wp2_with fail
      go_meet
      have SW := HR.out.2.2.1
      exact ⟨[(gM, 3, [.int .i64 1, .int .i64 1])], .slice (some ⟨gM, 0, none⟩) 2 cM, ⟨gM, cM, rfl, rfl, own_keep HR.out.2.2.2.2.out ((Turn.refl (fun j => j = X) wM).setCell (p := ⟨X, 7, none⟩) (fun _ => rfl) _) (fun k e e2 => by have h3 := HR.out.1.ne' 10 gM X rfl rfl; have h4 : gM = k := Option.some.inj e; have h5 : k = X := e2; omega), HL.out⟩, HR.out.1, (SW.setCell (p := ⟨X, 7, none⟩) (fun h => absurd h (by have := HX.out.1; show ¬ X < _; omega)) _), (((H4.out.2.1).trans (HR.out.2.1.turn)).setCell (p := ⟨X, 7, none⟩) (fun _ => HX.out.2.1) _)⟩
  case rest =>
  obtain ⟨wa, hwa⟩ : ∃ wa, wa = wc := ⟨_, rfl⟩
  subst hwa
  obtain ⟨pre, mv, hm1, rwa, sta, tga⟩ := hcut
  have HM1 := Lib.hid hm1
  have HA := Lib.hid (And.intro rwa (And.intro sta tga))
  clear hm1 rwa sta tga H4 RW4
  go_upto_if 37 with fail
  go_cut [] from 13 (fun wc => ∃ pre mv, MR f1 s2 pre mv ∧ PX pre wc [(p.p1, 3, [.int .i64 0]), (p.p3, 42, [.int .i64 3, .slice none 0 0, .string ⟨#[]⟩]), (p.p4, 3, [.int .i64 (-1)]), (p.p5, 36, [.int .i64 1, .int .i64 0, .int .i64 0, .int .i64 0, .int .i64 0, .int .i64 5, .slice none 0 0, .slice none 0 0, .slice none 0 0, .int .i64 22, .int .i64 0, .int .i64 0, .int .i64 0, .int .i64 0, .int .i64 0, .slice none 0 0, .slice none 0 0, .slice none 0 0]), (p.p6, 48, [.slice (some ⟨p.p4, 0, none⟩) 1 1, .slice (some ⟨p.p5, 0, none⟩) 2 2]), (Q, 27, [.slice (some ⟨g, 0, none⟩) 3 cap, .slice (some ⟨gS, 0, none⟩) 3 capS, .slice none 0 0, .slice none 0 0, .slice (some ⟨p.p7, 0, none⟩) 1 1, .int .i64 0, .int .i64 0]), (Q + 1, 3, [.int .i64 0]), (gS, 42, [.int .i64 3, .slice none 0 0, .string ⟨#[]⟩, .int .i64 1, .slice (some ⟨Q + 1, 0, none⟩) 1 1, .string ⟨#[]⟩, .int .i64 1, .slice none 0 0, .string ⟨#[]⟩]), (I12, 3, [.int .i64 1, .int .i64 2]), (g, 51, [.bool true, .slice none 0 0, .bool false, .slice (some ⟨p.p1, 0, none⟩) 1 1, .bool im, .slice (some ⟨I12, 0, none⟩) 2 2]), (X, 36, [.int .i64 20, .int .i64 0, .int .i64 0, .int .i64 (-1), .int .i64 0, .int .i64 0, .slice none 0 0, mv, .slice none 0 0])] ∧ Still w1 wc ∧ Turn (fun j => j ≠ g) w3 wc)
  case first =>
    cases s2 with
    | false =>
      go_wp2_with fail
      go_meet
      refine ⟨pre, mv, ?_, HA.out⟩
      cases f1 with
      | false => exact HM1.out
      | true => obtain ⟨g', c', h1, h2, _⟩ := HM1.out; exact ⟨g', c', h1, h2⟩
    | true =>
      cases f1 with
      | false =>
        obtain ⟨rfl, rfl⟩ := HM1.out
        have x7R := HA.out.1.at 10 (b := X) (e := 36) rfl
        have x7 := x7R.cell (i := 7) rfl
        have xf7 := x7R.frozen 7
        have xl := x7R.lt
        clear x7R
        go_wp2_with (at_builtin; refine wpList_append_form rfl (.tmp 39) (.tmp 40) 34 rfl 0 3 1 8 _ Tryz.underlying34 infoIntB rfl (by decide) none 0 0 [] rfl (World.ownsRow_nil _ 0 3 1) ⟨wa.heap.size, 0, none⟩ 2 2 [.int .i64 2, .int .i64 2] rfl rfl (fun j u hj => by rw [Addr.add_lit, Nat.zero_add, (Blk.new wa 3 #[.int .i64 2, .int .i64 2]).cell j]; simpa using hj) (by simp [Value.oneCell']) (by decide) (by decide) (by decide) (Nat.zero_le _) ?_; intro gM cM wM hoM htM hgM; refine Wait.out ?_)
        refine ⟨?_⟩
        clear x7 xf7 xl
        have hge : wa.heap.size ≤ gM := by
          rcases hgM.out with h | h
          · cases h
          · simp at h; omega
        have SM : Still wa wM := (((Still.refl wa).alloc (.cells #[.int .i64 2, .int .i64 2] 3)).trans (Turn.mono htM.out fun _ _ e => by cases e))
        have RM : PX [(gM, 3, [.int .i64 2, .int .i64 2])] wM _ := Rws.cons (HA.out.1) SM (own_row2 hoM.out) hge
        have RM2 := RM.set 10 rfl 7 (by simp) (.slice (some ⟨gM, 0, none⟩) 2 cM)
        have SW : Still w1 wM := (HA.out.2.1).trans SM
        have hl1 := (HA.out.2.1).size
        have x7R := RM.at 10 (b := X) (e := 36) rfl
        have xf7 := x7R.frozen 7
        have x7 := x7R.cell (i := 7) rfl
        have xl := x7R.lt
        have HR := Lib.hid (And.intro RM2 (And.intro SM (And.intro SW (And.intro hge hoM))))
        have HL := Lib.hid (show w1.heap.size ≤ gM by omega)
        clear x7R RM RM2 SM SW hge hoM htM hgM hl1
        go_wp2_with fail
        go_meet
        have SW := HR.out.2.2.1
        exact ⟨[(gM, 3, [.int .i64 2, .int .i64 2])], .slice (some ⟨gM, 0, none⟩) 2 cM, ⟨gM, cM, rfl, rfl⟩, HR.out.1, (SW.setCell (p := ⟨X, 7, none⟩) (fun h => absurd h (by have := HX.out.1; show ¬ X < _; omega)) _), (((HA.out.2.2).trans (HR.out.2.1.turn)).setCell (p := ⟨X, 7, none⟩) (fun _ => HX.out.2.1) _)⟩
      | true =>
        obtain ⟨gN, cN, rfl, rfl, hoN, hgN⟩ := HM1.out
        have HN := Lib.hid (And.intro hoN hgN)
        clear hoN hgN
        have x7R := HA.out.1.at 10 (b := X) (e := 36) rfl
        have x7 := x7R.cell (i := 7) rfl
        have xf7 := x7R.frozen 7
        have xl := x7R.lt
        clear x7R
        go_wp2_with (at_builtin; refine wpList_append_form rfl (.tmp 39) (.tmp 40) 34 rfl 0 3 1 8 _ Tryz.underlying34 infoIntB rfl (by decide) (some ⟨gN, 0, none⟩) 2 cN [.int .i64 1, .int .i64 1] rfl (own_keep HN.out.1 ((Still.refl wa).alloc (.cells #[.int .i64 2, .int .i64 2] 3)) (fun _ _ e => e)) ⟨wa.heap.size, 0, none⟩ 2 2 [.int .i64 2, .int .i64 2] rfl rfl (fun j u hj => by rw [Addr.add_lit, Nat.zero_add, (Blk.new wa 3 #[.int .i64 2, .int .i64 2]).cell j]; simpa using hj) (by simp [Value.oneCell']) (by decide) (by decide) (by decide) (Nat.zero_le _) ?_; intro gM cM wM hoM htM hgM; refine Wait.out ?_)
        refine ⟨?_⟩
        clear x7 xf7 xl
        have htN : Turn (fun k => k = gN) (wa.alloc (.cells #[.int .i64 2, .int .i64 2] 3)) wM := Turn.mono htM.out fun k _ e => by
          have e1 : some gN = some k := e
          exact (Option.some.inj e1).symm
        have hgm : gM = gN ∨ (wa.alloc (.cells #[.int .i64 2, .int .i64 2] 3)).heap.size ≤ gM := by
          rcases hgM.out with h | h
          · have e1 : some gN = some gM := h
            exact .inl (Option.some.inj e1).symm
          · exact .inr h
        have RM : PX [(gM, 3, [.int .i64 1, .int .i64 1, .int .i64 2, .int .i64 2])] wM _ := Rws.grew (HA.out.1.alloc (.cells #[.int .i64 2, .int .i64 2] 3)) 0 rfl htN (own_row2 hoM.out) hgm
        have RM2 := RM.set 10 rfl 7 (by simp) (.slice (some ⟨gM, 0, none⟩) 4 cM)
        have nN := HA.out.1.ne' 9 gN g rfl rfl
        have SM : Turn (fun k => k = gN) wa wM := ((Turn.refl (fun k => k = gN) wa).alloc _).trans htN
        have SW : Still w1 wM := (HA.out.2.1.turn.trans SM).mono fun j hj e => by have := HN.out.2; have e2 : j = gN := e; omega
        have SG : Turn (fun j => j ≠ g) wa wM := SM.mono fun j _ e => by have e2 : j = gN := e; rw [e2]; exact nN
        have x7R := RM.at 10 (b := X) (e := 36) rfl
        have xf7 := x7R.frozen 7
        have x7 := x7R.cell (i := 7) rfl
        have xl := x7R.lt
        have HR := Lib.hid (And.intro RM2 (And.intro SG SW))
        clear x7R RM RM2 SM SW SG hoM htM hgM htN hgm nN
        go_wp2_with fail
        go_meet
        exact ⟨[(gM, 3, [.int .i64 1, .int .i64 1, .int .i64 2, .int .i64 2])], .slice (some ⟨gM, 0, none⟩) 4 cM, ⟨gM, cM, rfl, rfl⟩, HR.out.1, (HR.out.2.2.setCell (p := ⟨X, 7, none⟩) (fun h => absurd h (by have := HX.out.1; show ¬ X < _; omega)) _), ((HA.out.2.2.trans HR.out.2.1).setCell (p := ⟨X, 7, none⟩) (fun _ => HX.out.2.1) _)⟩
  case rest =>
  obtain ⟨wb, hwb⟩ : ∃ wb, wb = wc := ⟨_, rfl⟩
  subst hwb
  clear HM1 HA
  clear pre mv
  obtain ⟨pre, mv, hm, rwa, sta, tga⟩ := hcut
  have HM := Lib.hid hm
  have HB := Lib.hid (And.intro rwa (And.intro sta tga))
  clear hm rwa sta tga
  go_upto_if 43 with fail
  go_cut [] from 13 (fun wc => ∃ bv, BV ot bv ∧ PX pre wc [(p.p1, 3, [.int .i64 0]), (p.p3, 42, [.int .i64 3, .slice none 0 0, .string ⟨#[]⟩]), (p.p4, 3, [.int .i64 (-1)]), (p.p5, 36, [.int .i64 1, .int .i64 0, .int .i64 0, .int .i64 0, .int .i64 0, .int .i64 5, .slice none 0 0, .slice none 0 0, .slice none 0 0, .int .i64 22, .int .i64 0, .int .i64 0, .int .i64 0, .int .i64 0, .int .i64 0, .slice none 0 0, .slice none 0 0, .slice none 0 0]), (p.p6, 48, [.slice (some ⟨p.p4, 0, none⟩) 1 1, .slice (some ⟨p.p5, 0, none⟩) 2 2]), (Q, 27, [.slice (some ⟨g, 0, none⟩) 3 cap, .slice (some ⟨gS, 0, none⟩) 3 capS, .slice none 0 0, .slice none 0 0, .slice (some ⟨p.p7, 0, none⟩) 1 1, .int .i64 0, .int .i64 0]), (Q + 1, 3, [.int .i64 0]), (gS, 42, [.int .i64 3, .slice none 0 0, .string ⟨#[]⟩, .int .i64 1, .slice (some ⟨Q + 1, 0, none⟩) 1 1, .string ⟨#[]⟩, .int .i64 1, .slice none 0 0, .string ⟨#[]⟩]), (I12, 3, [.int .i64 1, .int .i64 2]), (g, 51, [.bool true, .slice none 0 0, .bool false, .slice (some ⟨p.p1, 0, none⟩) 1 1, .bool im, .slice (some ⟨I12, 0, none⟩) 2 2]), (X, 36, [.int .i64 20, .int .i64 0, .int .i64 0, .int .i64 bv, .int .i64 0, .int .i64 0, .slice none 0 0, mv, .slice none 0 0])] ∧ Still w1 wc ∧ Turn (fun j => j ≠ g) w3 wc)
  case first =>
    cases ot with
    | false =>
      go_wp2_with fail
      go_meet
      exact ⟨-1, rfl, HB.out⟩
    | true =>
      have x7R := HB.out.1.at 10 (b := X) (e := 36) rfl
      have xf7 := x7R.frozen 3
      have x7 := x7R.cell (i := 3) rfl
      have xl := x7R.lt
      clear x7R
      go_wp2_with fail
      go_meet
      exact ⟨2, rfl, HB.out.1.set 10 rfl 3 (by simp) (.int .i64 2), (HB.out.2.1.setCell (p := ⟨X, 3, none⟩) (fun h => absurd h (by have := HX.out.1; show ¬ X < _; omega)) _), (HB.out.2.2.setCell (p := ⟨X, 3, none⟩) (fun _ => HX.out.2.1) _)⟩
  case rest =>
  obtain ⟨w5, hw5⟩ : ∃ w5, w5 = wc := ⟨_, rfl⟩
  subst hw5
  clear HB
  obtain ⟨bv, hbv, rwa, sta, tga⟩ := hcut
  have HBV := Lib.hid hbv
  have H5 := Lib.hid (And.intro rwa (And.intro sta tga))
  clear hbv rwa sta tga
  have hp7 : Blk w5 p.p7 45 #[.slice none 0 0, .int .i64 0, .int .i64 1, .slice (some ⟨p.p6, 0, none⟩) 1 1] := (H1.out.1.still H5.out.2.1).a7
  have HP7 := Lib.hid hp7
  clear hp7
  have qR := H5.out.1.at 5 (b := Q) (e := 27) rfl
  have q0 := qR.cell (i := 0) rfl
  have q1 := qR.cell (i := 1) rfl
  have q2 := qR.cell (i := 2) rfl
  have q3 := qR.cell (i := 3) rfl
  have q4 := qR.cell (i := 4) rfl
  have q5 := qR.cell (i := 5) rfl
  have q6 := qR.cell (i := 6) rfl
  have qf4 := qR.frozen 4
  have ql := qR.lt
  clear qR
  have xR := H5.out.1.at 10 (b := X) (e := 36) rfl
  have x0 := xR.cell (i := 0) rfl
  have x1 := xR.cell (i := 1) rfl
  have x2 := xR.cell (i := 2) rfl
  have x3 := xR.cell (i := 3) rfl
  have x4 := xR.cell (i := 4) rfl
  have x5 := xR.cell (i := 5) rfl
  have x6 := xR.cell (i := 6) rfl
  have x7 := xR.cell (i := 7) rfl
  have x8 := xR.cell (i := 8) rfl
  have xl := xR.lt
  clear xR
  have xl1 : X < w5.heap.size + 1 := by omega
  have xl2 : X < w5.heap.size + 1 + 1 := by omega
  have xl3 : X < w5.heap.size + 1 + 1 + 1 := by omega
  go_wp2_with (at_builtin; refine wpList_append_new rfl (.tmp 49) (.tmp 63) 25 rfl 45 4 64 _ Tryz.underlying25 infoFunc rfl (by decide) (some ⟨p.p7, 0, none⟩) 1 [.slice none 0 0, .int .i64 0, .int .i64 1, .slice (some ⟨p.p6, 0, none⟩) 1 1] rfl (fun e => by cases e) rfl (fun b hb => ⟨p.p7, (Option.some.inj hb).symm, Blk.row' (by repeat (first | exact HP7.out | refine Blk.alloc ?_ _))⟩) (w5.heap.size + 1 + 1 + 1 + 1 + 1 + 1 + 1) 1 1 [.slice (some ⟨w5.heap.size + 1, 0, none⟩) 1 1, .int .i64 0, .int .i64 1, .slice (some ⟨w5.heap.size + 1 + 1 + 1 + 1 + 1 + 1, 0, none⟩) 3 3] rfl rfl (Blk.row' (blk_at' (by simp))) (by simp [Value.oneCell']) (by decide) (by decide) (by decide) ?_; intro gF capF w6 hg hc hst hrow; refine Wait.out ?_)
  refine ⟨?_⟩
  clear q0 q1 q2 q3 q4 q5 q6 qf4 ql
  clear x0 x1 x2 x3 x4 x5 x6 x7 x8 xl
  clear xl1 xl2 xl3
  have RW6 : Hid (PX pre w6 [(p.p1, 3, [.int .i64 0]), (p.p3, 42, [.int .i64 3, .slice none 0 0, .string ⟨#[]⟩]), (p.p4, 3, [.int .i64 (-1)]), (p.p5, 36, [.int .i64 1, .int .i64 0, .int .i64 0, .int .i64 0, .int .i64 0, .int .i64 5, .slice none 0 0, .slice none 0 0, .slice none 0 0, .int .i64 22, .int .i64 0, .int .i64 0, .int .i64 0, .int .i64 0, .int .i64 0, .slice none 0 0, .slice none 0 0, .slice none 0 0]), (p.p6, 48, [.slice (some ⟨p.p4, 0, none⟩) 1 1, .slice (some ⟨p.p5, 0, none⟩) 2 2]), (Q, 27, [.slice (some ⟨g, 0, none⟩) 3 cap, .slice (some ⟨gS, 0, none⟩) 3 capS, .slice none 0 0, .slice none 0 0, .slice (some ⟨p.p7, 0, none⟩) 1 1, .int .i64 0, .int .i64 0]), (Q + 1, 3, [.int .i64 0]), (gS, 42, [.int .i64 3, .slice none 0 0, .string ⟨#[]⟩, .int .i64 1, .slice (some ⟨Q + 1, 0, none⟩) 1 1, .string ⟨#[]⟩, .int .i64 1, .slice none 0 0, .string ⟨#[]⟩]), (I12, 3, [.int .i64 1, .int .i64 2]), (g, 51, [.bool true, .slice none 0 0, .bool false, .slice (some ⟨p.p1, 0, none⟩) 1 1, .bool im, .slice (some ⟨I12, 0, none⟩) 2 2]), (X, 36, [.int .i64 20, .int .i64 0, .int .i64 0, .int .i64 bv, .int .i64 0, .int .i64 0, .slice none 0 0, mv, .slice none 0 0]), (w5.heap.size, 36, [.int .i64 1, .int .i64 0, .int .i64 0, .int .i64 0, .int .i64 0, .int .i64 3, .slice none 0 0, .slice none 0 0, .slice none 0 0, .int .i64 22, .int .i64 0, .int .i64 0, .int .i64 0, .int .i64 0, .int .i64 0, .slice none 0 0, .slice none 0 0, .slice none 0 0]), (w5.heap.size + 1, 3, [.int .i64 2]), (w5.heap.size + 1 + 1, 3, [.int .i64 2]), (w5.heap.size + 1 + 1 + 1, 36, [.int .i64 20, .int .i64 0, .int .i64 0, .int .i64 bv, .int .i64 0, .int .i64 0, .slice none 0 0, mv, .slice none 0 0]), (w5.heap.size + 1 + 1 + 1 + 1, 3, [.int .i64 2]), (w5.heap.size + 1 + 1 + 1 + 1 + 1, 3, [.int .i64 (-1)]), (w5.heap.size + 1 + 1 + 1 + 1 + 1 + 1, 48, [.slice (some ⟨w5.heap.size + 1 + 1, 0, none⟩) 1 1, .slice (some ⟨w5.heap.size + 1 + 1 + 1, 0, none⟩) 1 1, .slice (some ⟨w5.heap.size + 1 + 1 + 1 + 1, 0, none⟩) 1 1, .slice (some ⟨w5.heap.size, 0, none⟩) 2 2, .slice (some ⟨w5.heap.size + 1 + 1 + 1 + 1 + 1, 0, none⟩) 1 1, .slice (some ⟨w5.heap.size, 0, none⟩) 2 2]), (gF, 45, [.slice none 0 0, .int .i64 0, .int .i64 1, .slice (some ⟨p.p6, 0, none⟩) 1 1, .slice (some ⟨w5.heap.size + 1, 0, none⟩) 1 1, .int .i64 0, .int .i64 1, .slice (some ⟨w5.heap.size + 1 + 1 + 1 + 1 + 1 + 1, 0, none⟩) 3 3])]) := by
    have h5 := (((((((((H5.out.1).made (b := w5.heap.size) (e := 36) (cs := #[.int .i64 1, .int .i64 0, .int .i64 0, .int .i64 0, .int .i64 0, .int .i64 3, .slice none 0 0, .slice none 0 0, .slice none 0 0, .int .i64 22, .int .i64 0, .int .i64 0, .int .i64 0, .int .i64 0, .int .i64 0, .slice none 0 0, .slice none 0 0, .slice none 0 0]) (by simp)).made (b := w5.heap.size + 1) (e := 3) (cs := #[.int .i64 2]) (by simp)).made (b := w5.heap.size + 1 + 1) (e := 3) (cs := #[.int .i64 2]) (by simp)).made (b := w5.heap.size + 1 + 1 + 1) (e := 36) (cs := #[.int .i64 20, .int .i64 0, .int .i64 0, .int .i64 bv, .int .i64 0, .int .i64 0, .slice none 0 0, mv, .slice none 0 0]) (by simp)).made (b := w5.heap.size + 1 + 1 + 1 + 1) (e := 3) (cs := #[.int .i64 2]) (by simp)).made (b := w5.heap.size + 1 + 1 + 1 + 1 + 1) (e := 3) (cs := #[.int .i64 (-1)]) (by simp)).made (b := w5.heap.size + 1 + 1 + 1 + 1 + 1 + 1) (e := 48) (cs := #[.slice (some ⟨w5.heap.size + 1 + 1, 0, none⟩) 1 1, .slice (some ⟨w5.heap.size + 1 + 1 + 1, 0, none⟩) 1 1, .slice (some ⟨w5.heap.size + 1 + 1 + 1 + 1, 0, none⟩) 1 1, .slice (some ⟨w5.heap.size, 0, none⟩) 2 2, .slice (some ⟨w5.heap.size + 1 + 1 + 1 + 1 + 1, 0, none⟩) 1 1, .slice (some ⟨w5.heap.size, 0, none⟩) 2 2]) (by simp)).alloc (.cells #[.slice (some ⟨w5.heap.size + 1, 0, none⟩) 1 1, .int .i64 0, .int .i64 1, .slice (some ⟨w5.heap.size + 1 + 1 + 1 + 1 + 1 + 1, 0, none⟩) 3 3] 45)).new (w' := w6) hst hrow hg
    exact h5
  have H6 : Hid (Still w1 w6 ∧ Turn (fun j => j ≠ g) w3 w6) := ⟨((((((((H5.out.2.1.alloc (.cells #[.int .i64 1, .int .i64 0, .int .i64 0, .int .i64 0, .int .i64 0, .int .i64 3, .slice none 0 0, .slice none 0 0, .slice none 0 0, .int .i64 22, .int .i64 0, .int .i64 0, .int .i64 0, .int .i64 0, .int .i64 0, .slice none 0 0, .slice none 0 0, .slice none 0 0] 36)).alloc (.cells #[.int .i64 2] 3)).alloc (.cells #[.int .i64 2] 3)).alloc (.cells #[.int .i64 20, .int .i64 0, .int .i64 0, .int .i64 bv, .int .i64 0, .int .i64 0, .slice none 0 0, mv, .slice none 0 0] 36)).alloc (.cells #[.int .i64 2] 3)).alloc (.cells #[.int .i64 (-1)] 3)).alloc (.cells #[.slice (some ⟨w5.heap.size + 1 + 1, 0, none⟩) 1 1, .slice (some ⟨w5.heap.size + 1 + 1 + 1, 0, none⟩) 1 1, .slice (some ⟨w5.heap.size + 1 + 1 + 1 + 1, 0, none⟩) 1 1, .slice (some ⟨w5.heap.size, 0, none⟩) 2 2, .slice (some ⟨w5.heap.size + 1 + 1 + 1 + 1 + 1, 0, none⟩) 1 1, .slice (some ⟨w5.heap.size, 0, none⟩) 2 2] 48)).alloc (.cells #[.slice (some ⟨w5.heap.size + 1, 0, none⟩) 1 1, .int .i64 0, .int .i64 1, .slice (some ⟨w5.heap.size + 1 + 1 + 1 + 1 + 1 + 1, 0, none⟩) 3 3] 45)).trans hst, ((((((((H5.out.2.2.alloc (.cells #[.int .i64 1, .int .i64 0, .int .i64 0, .int .i64 0, .int .i64 0, .int .i64 3, .slice none 0 0, .slice none 0 0, .slice none 0 0, .int .i64 22, .int .i64 0, .int .i64 0, .int .i64 0, .int .i64 0, .int .i64 0, .slice none 0 0, .slice none 0 0, .slice none 0 0] 36)).alloc (.cells #[.int .i64 2] 3)).alloc (.cells #[.int .i64 2] 3)).alloc (.cells #[.int .i64 20, .int .i64 0, .int .i64 0, .int .i64 bv, .int .i64 0, .int .i64 0, .slice none 0 0, mv, .slice none 0 0] 36)).alloc (.cells #[.int .i64 2] 3)).alloc (.cells #[.int .i64 (-1)] 3)).alloc (.cells #[.slice (some ⟨w5.heap.size + 1 + 1, 0, none⟩) 1 1, .slice (some ⟨w5.heap.size + 1 + 1 + 1, 0, none⟩) 1 1, .slice (some ⟨w5.heap.size + 1 + 1 + 1 + 1, 0, none⟩) 1 1, .slice (some ⟨w5.heap.size, 0, none⟩) 2 2, .slice (some ⟨w5.heap.size + 1 + 1 + 1 + 1 + 1, 0, none⟩) 1 1, .slice (some ⟨w5.heap.size, 0, none⟩) 2 2] 48)).alloc (.cells #[.slice (some ⟨w5.heap.size + 1, 0, none⟩) 1 1, .int .i64 0, .int .i64 1, .slice (some ⟨w5.heap.size + 1 + 1 + 1 + 1 + 1 + 1, 0, none⟩) 3 3] 45)).trans hst.turn⟩
  have HGE_BB : Hid (w1.heap.size ≤ w5.heap.size + 1 + 1 + 1 + 1 + 1 + 1) := by show _ ≤ _; have h2 := H5.out.2.1.size; omega
  obtain ⟨Z0, hZ0⟩ : ∃ Z0, w5.heap.size = Z0 := ⟨_, rfl⟩
  obtain ⟨A1, hA1⟩ : ∃ A1, Z0 + 1 = A1 := ⟨_, rfl⟩
  obtain ⟨A2, hA2⟩ : ∃ A2, A1 + 1 = A2 := ⟨_, rfl⟩
  obtain ⟨XR, hXR⟩ : ∃ XR, A2 + 1 = XR := ⟨_, rfl⟩
  obtain ⟨A3, hA3⟩ : ∃ A3, XR + 1 = A3 := ⟨_, rfl⟩
  obtain ⟨A4, hA4⟩ : ∃ A4, A3 + 1 = A4 := ⟨_, rfl⟩
  obtain ⟨BB, hBB⟩ : ∃ BB, A4 + 1 = BB := ⟨_, rfl⟩
  rw [hZ0, hA1, hA2, hXR, hA3, hA4, hBB] at RW6 HGE_BB
  clear hst hrow hg H5 HP7 hZ0 hA1 hA2 hXR hA3 hA4 hBB
  have qR := RW6.out.at 5 (b := Q) (e := 27) rfl
  have q0 := qR.cell (i := 0) rfl
  have q1 := qR.cell (i := 1) rfl
  have q2 := qR.cell (i := 2) rfl
  have q3 := qR.cell (i := 3) rfl
  have q4 := qR.cell (i := 4) rfl
  have q5 := qR.cell (i := 5) rfl
  have q6 := qR.cell (i := 6) rfl
  have qf4 := qR.frozen 4
  have ql := qR.lt
  clear qR
  go_upto_region 13 with fail
  clear q0 q1 q2 q3 q4 q5 q6 qf4 ql
  generalize hW7 : w6.setCell ⟨Q, 4, none⟩ (.slice (some ⟨gF, 0, none⟩) 2 capF) = w7
  have H7 : Hid (PX pre w7 [(p.p1, 3, [.int .i64 0]), (p.p3, 42, [.int .i64 3, .slice none 0 0, .string ⟨#[]⟩]), (p.p4, 3, [.int .i64 (-1)]), (p.p5, 36, [.int .i64 1, .int .i64 0, .int .i64 0, .int .i64 0, .int .i64 0, .int .i64 5, .slice none 0 0, .slice none 0 0, .slice none 0 0, .int .i64 22, .int .i64 0, .int .i64 0, .int .i64 0, .int .i64 0, .int .i64 0, .slice none 0 0, .slice none 0 0, .slice none 0 0]), (p.p6, 48, [.slice (some ⟨p.p4, 0, none⟩) 1 1, .slice (some ⟨p.p5, 0, none⟩) 2 2]), (Q, 27, [.slice (some ⟨g, 0, none⟩) 3 cap, .slice (some ⟨gS, 0, none⟩) 3 capS, .slice none 0 0, .slice none 0 0, .slice (some ⟨gF, 0, none⟩) 2 capF, .int .i64 0, .int .i64 0]), (Q + 1, 3, [.int .i64 0]), (gS, 42, [.int .i64 3, .slice none 0 0, .string ⟨#[]⟩, .int .i64 1, .slice (some ⟨Q + 1, 0, none⟩) 1 1, .string ⟨#[]⟩, .int .i64 1, .slice none 0 0, .string ⟨#[]⟩]), (I12, 3, [.int .i64 1, .int .i64 2]), (g, 51, [.bool true, .slice none 0 0, .bool false, .slice (some ⟨p.p1, 0, none⟩) 1 1, .bool im, .slice (some ⟨I12, 0, none⟩) 2 2]), (X, 36, [.int .i64 20, .int .i64 0, .int .i64 0, .int .i64 bv, .int .i64 0, .int .i64 0, .slice none 0 0, mv, .slice none 0 0]), (Z0, 36, [.int .i64 1, .int .i64 0, .int .i64 0, .int .i64 0, .int .i64 0, .int .i64 3, .slice none 0 0, .slice none 0 0, .slice none 0 0, .int .i64 22, .int .i64 0, .int .i64 0, .int .i64 0, .int .i64 0, .int .i64 0, .slice none 0 0, .slice none 0 0, .slice none 0 0]), (A1, 3, [.int .i64 2]), (A2, 3, [.int .i64 2]), (XR, 36, [.int .i64 20, .int .i64 0, .int .i64 0, .int .i64 bv, .int .i64 0, .int .i64 0, .slice none 0 0, mv, .slice none 0 0]), (A3, 3, [.int .i64 2]), (A4, 3, [.int .i64 (-1)]), (BB, 48, [.slice (some ⟨A2, 0, none⟩) 1 1, .slice (some ⟨XR, 0, none⟩) 1 1, .slice (some ⟨A3, 0, none⟩) 1 1, .slice (some ⟨Z0, 0, none⟩) 2 2, .slice (some ⟨A4, 0, none⟩) 1 1, .slice (some ⟨Z0, 0, none⟩) 2 2]), (gF, 45, [.slice none 0 0, .int .i64 0, .int .i64 1, .slice (some ⟨p.p6, 0, none⟩) 1 1, .slice (some ⟨A1, 0, none⟩) 1 1, .int .i64 0, .int .i64 1, .slice (some ⟨BB, 0, none⟩) 3 3])] ∧ Still w1 w7 ∧ Turn (fun j => j ≠ g) w3 w7) := by
    rw [← hW7]
    exact ⟨RW6.out.set 5 rfl 4 (by simp) (.slice (some ⟨gF, 0, none⟩) 2 capF), H6.out.1.setCell (p := ⟨Q, 4, none⟩) (fun h => absurd h (by have := HX.out.2.2; show ¬ Q < _; omega)) _, H6.out.2.setCell (p := ⟨Q, 4, none⟩) (fun _ => NE.out) _⟩
  clear hW7 RW6 H6
  go_cut [12] from 66 (fun s12 wc => s12 = .bool (f1 && s2 && (ot || !im)) ∧ w7 = wc)
  case first =>
    cases f1 <;> cases s2 <;> cases im <;> cases ot <;> (go_wp2_with fail; go_meet; exact ⟨rfl, rfl⟩)
  case rest =>
  obtain ⟨rfl, rfl⟩ := hcut
  generalize hok : (f1 && s2 && (ot || !im)) = okb
  have HOK := Lib.hid hok
  clear hok
  cases okb with
  | false =>
    have qR := H7.out.1.at 5 (b := Q) (e := 27) rfl
    have q0 := qR.cell (i := 0) rfl
    have q1 := qR.cell (i := 1) rfl
    have q2 := qR.cell (i := 2) rfl
    have q3 := qR.cell (i := 3) rfl
    have q4 := qR.cell (i := 4) rfl
    have q5 := qR.cell (i := 5) rfl
    have q6 := qR.cell (i := 6) rfl
    have qf0 := qR.frozen 0
    have ql := qR.lt
    clear qR
    go_wp2_with fail
    have HF8 : Calls Tryz.prog 12 #[.agg #[.slice (some ⟨g, 0, none⟩) 3 cap, .slice (some ⟨gS, 0, none⟩) 3 capS, .slice none 0 0, .slice none 0 0, .slice (some ⟨gF, 0, none⟩) 2 capF, .int .i64 0, .int .i64 0]] w7 fun e w' => e = .returned (.int .i64 21) ∧ Still w7 w' := by
      have hm := HM.out
      have hb := HBV.out
      have hok := HOK.out
      have rw7 := H7.out.1
      have ht := HT.out _ (H1.out.2.trans (H7.out.2.1))
      cases f1 <;> cases s2 <;> cases im <;> cases ot
      · obtain rfl := hb
        obtain ⟨rfl, rfl⟩ := hm
        exact Bm.says (Rws.holds rw7 (D := [[.int 0], [.int 3, .sl none 0 0, .str ⟨#[]⟩], [.int (-1)], [.int 1, .int 0, .int 0, .int 0, .int 0, .int 5, .sl none 0 0, .sl none 0 0, .sl none 0 0, .int 22, .int 0, .int 0, .int 0, .int 0, .int 0, .sl none 0 0, .sl none 0 0, .sl none 0 0], [.sl (some (2, 0)) 1 1, .sl (some (3, 0)) 2 2], [.sl (some (9, 0)) 3 cap, .sl (some (7, 0)) 3 capS, .sl none 0 0, .sl none 0 0, .sl (some (18, 0)) 2 capF, .int 0, .int 0], [.int 0], [.int 3, .sl none 0 0, .str ⟨#[]⟩, .int 1, .sl (some (6, 0)) 1 1, .str ⟨#[]⟩, .int 1, .sl none 0 0, .str ⟨#[]⟩], [.int 1, .int 2], [.bool true, .sl none 0 0, .bool false, .sl (some (0, 0)) 1 1, .bool false, .sl (some (8, 0)) 2 2], [.int 20, .int 0, .int 0, .int (-1), .int 0, .int 0, .sl none 0 0, .sl none 0 0, .sl none 0 0], [.int 1, .int 0, .int 0, .int 0, .int 0, .int 3, .sl none 0 0, .sl none 0 0, .sl none 0 0, .int 22, .int 0, .int 0, .int 0, .int 0, .int 0, .sl none 0 0, .sl none 0 0, .sl none 0 0], [.int 2], [.int 2], [.int 20, .int 0, .int 0, .int (-1), .int 0, .int 0, .sl none 0 0, .sl none 0 0, .sl none 0 0], [.int 2], [.int (-1)], [.sl (some (13, 0)) 1 1, .sl (some (14, 0)) 1 1, .sl (some (15, 0)) 1 1, .sl (some (11, 0)) 2 2, .sl (some (16, 0)) 1 1, .sl (some (11, 0)) 2 2], [.sl none 0 0, .int 0, .int 1, .sl (some (4, 0)) 1 1, .sl (some (12, 0)) 1 1, .int 0, .int 1, .sl (some (17, 0)) 3 3]]) rfl) ht (c := ⟨some (9, 0), 3, cap, some (7, 0), 3, capS, none, 0, 0, none, 0, 0, some (18, 0), 2, capF, 0, 0⟩) (m := (⟨[⟨true, []⟩, ⟨false, [0]⟩, ⟨false, [1, 2]⟩], [⟨3, [], ⟨#[]⟩⟩, ⟨1, [0], ⟨#[]⟩⟩, ⟨1, [], ⟨#[]⟩⟩], [], [], [⟨[], 0, 1, [⟨[-1], [⟨1, 0, 0, 0, 0, 5, [], [], []⟩, ⟨22, 0, 0, 0, 0, 0, [], [], []⟩]⟩]⟩, ⟨[2], 0, 1, [⟨[2], [⟨20, 0, 0, (-1), 0, 0, [], [], []⟩]⟩, ⟨[2], [⟨1, 0, 0, 0, 0, 3, [], [], []⟩, ⟨22, 0, 0, 0, 0, 0, [], [], []⟩]⟩, ⟨[-1], [⟨1, 0, 0, 0, 0, 3, [], [], []⟩, ⟨22, 0, 0, 0, 0, 0, [], [], []⟩]⟩]⟩], 0, 0⟩ : M.Img)) (by kernel_rfl) (by decide +kernel) (by decide +kernel) (by decide +kernel)
      · obtain rfl := hb
        obtain ⟨rfl, rfl⟩ := hm
        exact Bm.says (Rws.holds rw7 (D := [[.int 0], [.int 3, .sl none 0 0, .str ⟨#[]⟩], [.int (-1)], [.int 1, .int 0, .int 0, .int 0, .int 0, .int 5, .sl none 0 0, .sl none 0 0, .sl none 0 0, .int 22, .int 0, .int 0, .int 0, .int 0, .int 0, .sl none 0 0, .sl none 0 0, .sl none 0 0], [.sl (some (2, 0)) 1 1, .sl (some (3, 0)) 2 2], [.sl (some (9, 0)) 3 cap, .sl (some (7, 0)) 3 capS, .sl none 0 0, .sl none 0 0, .sl (some (18, 0)) 2 capF, .int 0, .int 0], [.int 0], [.int 3, .sl none 0 0, .str ⟨#[]⟩, .int 1, .sl (some (6, 0)) 1 1, .str ⟨#[]⟩, .int 1, .sl none 0 0, .str ⟨#[]⟩], [.int 1, .int 2], [.bool true, .sl none 0 0, .bool false, .sl (some (0, 0)) 1 1, .bool false, .sl (some (8, 0)) 2 2], [.int 20, .int 0, .int 0, .int 2, .int 0, .int 0, .sl none 0 0, .sl none 0 0, .sl none 0 0], [.int 1, .int 0, .int 0, .int 0, .int 0, .int 3, .sl none 0 0, .sl none 0 0, .sl none 0 0, .int 22, .int 0, .int 0, .int 0, .int 0, .int 0, .sl none 0 0, .sl none 0 0, .sl none 0 0], [.int 2], [.int 2], [.int 20, .int 0, .int 0, .int 2, .int 0, .int 0, .sl none 0 0, .sl none 0 0, .sl none 0 0], [.int 2], [.int (-1)], [.sl (some (13, 0)) 1 1, .sl (some (14, 0)) 1 1, .sl (some (15, 0)) 1 1, .sl (some (11, 0)) 2 2, .sl (some (16, 0)) 1 1, .sl (some (11, 0)) 2 2], [.sl none 0 0, .int 0, .int 1, .sl (some (4, 0)) 1 1, .sl (some (12, 0)) 1 1, .int 0, .int 1, .sl (some (17, 0)) 3 3]]) rfl) ht (c := ⟨some (9, 0), 3, cap, some (7, 0), 3, capS, none, 0, 0, none, 0, 0, some (18, 0), 2, capF, 0, 0⟩) (m := (⟨[⟨true, []⟩, ⟨false, [0]⟩, ⟨false, [1, 2]⟩], [⟨3, [], ⟨#[]⟩⟩, ⟨1, [0], ⟨#[]⟩⟩, ⟨1, [], ⟨#[]⟩⟩], [], [], [⟨[], 0, 1, [⟨[-1], [⟨1, 0, 0, 0, 0, 5, [], [], []⟩, ⟨22, 0, 0, 0, 0, 0, [], [], []⟩]⟩]⟩, ⟨[2], 0, 1, [⟨[2], [⟨20, 0, 0, 2, 0, 0, [], [], []⟩]⟩, ⟨[2], [⟨1, 0, 0, 0, 0, 3, [], [], []⟩, ⟨22, 0, 0, 0, 0, 0, [], [], []⟩]⟩, ⟨[-1], [⟨1, 0, 0, 0, 0, 3, [], [], []⟩, ⟨22, 0, 0, 0, 0, 0, [], [], []⟩]⟩]⟩], 0, 0⟩ : M.Img)) (by kernel_rfl) (by decide +kernel) (by decide +kernel) (by decide +kernel)
      · obtain rfl := hb
        obtain ⟨rfl, rfl⟩ := hm
        exact Bm.says (Rws.holds rw7 (D := [[.int 0], [.int 3, .sl none 0 0, .str ⟨#[]⟩], [.int (-1)], [.int 1, .int 0, .int 0, .int 0, .int 0, .int 5, .sl none 0 0, .sl none 0 0, .sl none 0 0, .int 22, .int 0, .int 0, .int 0, .int 0, .int 0, .sl none 0 0, .sl none 0 0, .sl none 0 0], [.sl (some (2, 0)) 1 1, .sl (some (3, 0)) 2 2], [.sl (some (9, 0)) 3 cap, .sl (some (7, 0)) 3 capS, .sl none 0 0, .sl none 0 0, .sl (some (18, 0)) 2 capF, .int 0, .int 0], [.int 0], [.int 3, .sl none 0 0, .str ⟨#[]⟩, .int 1, .sl (some (6, 0)) 1 1, .str ⟨#[]⟩, .int 1, .sl none 0 0, .str ⟨#[]⟩], [.int 1, .int 2], [.bool true, .sl none 0 0, .bool false, .sl (some (0, 0)) 1 1, .bool true, .sl (some (8, 0)) 2 2], [.int 20, .int 0, .int 0, .int (-1), .int 0, .int 0, .sl none 0 0, .sl none 0 0, .sl none 0 0], [.int 1, .int 0, .int 0, .int 0, .int 0, .int 3, .sl none 0 0, .sl none 0 0, .sl none 0 0, .int 22, .int 0, .int 0, .int 0, .int 0, .int 0, .sl none 0 0, .sl none 0 0, .sl none 0 0], [.int 2], [.int 2], [.int 20, .int 0, .int 0, .int (-1), .int 0, .int 0, .sl none 0 0, .sl none 0 0, .sl none 0 0], [.int 2], [.int (-1)], [.sl (some (13, 0)) 1 1, .sl (some (14, 0)) 1 1, .sl (some (15, 0)) 1 1, .sl (some (11, 0)) 2 2, .sl (some (16, 0)) 1 1, .sl (some (11, 0)) 2 2], [.sl none 0 0, .int 0, .int 1, .sl (some (4, 0)) 1 1, .sl (some (12, 0)) 1 1, .int 0, .int 1, .sl (some (17, 0)) 3 3]]) rfl) ht (c := ⟨some (9, 0), 3, cap, some (7, 0), 3, capS, none, 0, 0, none, 0, 0, some (18, 0), 2, capF, 0, 0⟩) (m := (⟨[⟨true, []⟩, ⟨false, [0]⟩, ⟨true, [1, 2]⟩], [⟨3, [], ⟨#[]⟩⟩, ⟨1, [0], ⟨#[]⟩⟩, ⟨1, [], ⟨#[]⟩⟩], [], [], [⟨[], 0, 1, [⟨[-1], [⟨1, 0, 0, 0, 0, 5, [], [], []⟩, ⟨22, 0, 0, 0, 0, 0, [], [], []⟩]⟩]⟩, ⟨[2], 0, 1, [⟨[2], [⟨20, 0, 0, (-1), 0, 0, [], [], []⟩]⟩, ⟨[2], [⟨1, 0, 0, 0, 0, 3, [], [], []⟩, ⟨22, 0, 0, 0, 0, 0, [], [], []⟩]⟩, ⟨[-1], [⟨1, 0, 0, 0, 0, 3, [], [], []⟩, ⟨22, 0, 0, 0, 0, 0, [], [], []⟩]⟩]⟩], 0, 0⟩ : M.Img)) (by kernel_rfl) (by decide +kernel) (by decide +kernel) (by decide +kernel)
      · obtain rfl := hb
        obtain ⟨rfl, rfl⟩ := hm
        exact Bm.says (Rws.holds rw7 (D := [[.int 0], [.int 3, .sl none 0 0, .str ⟨#[]⟩], [.int (-1)], [.int 1, .int 0, .int 0, .int 0, .int 0, .int 5, .sl none 0 0, .sl none 0 0, .sl none 0 0, .int 22, .int 0, .int 0, .int 0, .int 0, .int 0, .sl none 0 0, .sl none 0 0, .sl none 0 0], [.sl (some (2, 0)) 1 1, .sl (some (3, 0)) 2 2], [.sl (some (9, 0)) 3 cap, .sl (some (7, 0)) 3 capS, .sl none 0 0, .sl none 0 0, .sl (some (18, 0)) 2 capF, .int 0, .int 0], [.int 0], [.int 3, .sl none 0 0, .str ⟨#[]⟩, .int 1, .sl (some (6, 0)) 1 1, .str ⟨#[]⟩, .int 1, .sl none 0 0, .str ⟨#[]⟩], [.int 1, .int 2], [.bool true, .sl none 0 0, .bool false, .sl (some (0, 0)) 1 1, .bool true, .sl (some (8, 0)) 2 2], [.int 20, .int 0, .int 0, .int 2, .int 0, .int 0, .sl none 0 0, .sl none 0 0, .sl none 0 0], [.int 1, .int 0, .int 0, .int 0, .int 0, .int 3, .sl none 0 0, .sl none 0 0, .sl none 0 0, .int 22, .int 0, .int 0, .int 0, .int 0, .int 0, .sl none 0 0, .sl none 0 0, .sl none 0 0], [.int 2], [.int 2], [.int 20, .int 0, .int 0, .int 2, .int 0, .int 0, .sl none 0 0, .sl none 0 0, .sl none 0 0], [.int 2], [.int (-1)], [.sl (some (13, 0)) 1 1, .sl (some (14, 0)) 1 1, .sl (some (15, 0)) 1 1, .sl (some (11, 0)) 2 2, .sl (some (16, 0)) 1 1, .sl (some (11, 0)) 2 2], [.sl none 0 0, .int 0, .int 1, .sl (some (4, 0)) 1 1, .sl (some (12, 0)) 1 1, .int 0, .int 1, .sl (some (17, 0)) 3 3]]) rfl) ht (c := ⟨some (9, 0), 3, cap, some (7, 0), 3, capS, none, 0, 0, none, 0, 0, some (18, 0), 2, capF, 0, 0⟩) (m := (⟨[⟨true, []⟩, ⟨false, [0]⟩, ⟨true, [1, 2]⟩], [⟨3, [], ⟨#[]⟩⟩, ⟨1, [0], ⟨#[]⟩⟩, ⟨1, [], ⟨#[]⟩⟩], [], [], [⟨[], 0, 1, [⟨[-1], [⟨1, 0, 0, 0, 0, 5, [], [], []⟩, ⟨22, 0, 0, 0, 0, 0, [], [], []⟩]⟩]⟩, ⟨[2], 0, 1, [⟨[2], [⟨20, 0, 0, 2, 0, 0, [], [], []⟩]⟩, ⟨[2], [⟨1, 0, 0, 0, 0, 3, [], [], []⟩, ⟨22, 0, 0, 0, 0, 0, [], [], []⟩]⟩, ⟨[-1], [⟨1, 0, 0, 0, 0, 3, [], [], []⟩, ⟨22, 0, 0, 0, 0, 0, [], [], []⟩]⟩]⟩], 0, 0⟩ : M.Img)) (by kernel_rfl) (by decide +kernel) (by decide +kernel) (by decide +kernel)
      · obtain rfl := hb
        obtain ⟨gM, cM, rfl, rfl⟩ := hm
        exact Bm.says (Rws.holds rw7 (D := [[.int 2, .int 2], [.int 0], [.int 3, .sl none 0 0, .str ⟨#[]⟩], [.int (-1)], [.int 1, .int 0, .int 0, .int 0, .int 0, .int 5, .sl none 0 0, .sl none 0 0, .sl none 0 0, .int 22, .int 0, .int 0, .int 0, .int 0, .int 0, .sl none 0 0, .sl none 0 0, .sl none 0 0], [.sl (some (3, 0)) 1 1, .sl (some (4, 0)) 2 2], [.sl (some (10, 0)) 3 cap, .sl (some (8, 0)) 3 capS, .sl none 0 0, .sl none 0 0, .sl (some (19, 0)) 2 capF, .int 0, .int 0], [.int 0], [.int 3, .sl none 0 0, .str ⟨#[]⟩, .int 1, .sl (some (7, 0)) 1 1, .str ⟨#[]⟩, .int 1, .sl none 0 0, .str ⟨#[]⟩], [.int 1, .int 2], [.bool true, .sl none 0 0, .bool false, .sl (some (1, 0)) 1 1, .bool false, .sl (some (9, 0)) 2 2], [.int 20, .int 0, .int 0, .int (-1), .int 0, .int 0, .sl none 0 0, .sl (some (0, 0)) 2 cM, .sl none 0 0], [.int 1, .int 0, .int 0, .int 0, .int 0, .int 3, .sl none 0 0, .sl none 0 0, .sl none 0 0, .int 22, .int 0, .int 0, .int 0, .int 0, .int 0, .sl none 0 0, .sl none 0 0, .sl none 0 0], [.int 2], [.int 2], [.int 20, .int 0, .int 0, .int (-1), .int 0, .int 0, .sl none 0 0, .sl (some (0, 0)) 2 cM, .sl none 0 0], [.int 2], [.int (-1)], [.sl (some (14, 0)) 1 1, .sl (some (15, 0)) 1 1, .sl (some (16, 0)) 1 1, .sl (some (12, 0)) 2 2, .sl (some (17, 0)) 1 1, .sl (some (12, 0)) 2 2], [.sl none 0 0, .int 0, .int 1, .sl (some (5, 0)) 1 1, .sl (some (13, 0)) 1 1, .int 0, .int 1, .sl (some (18, 0)) 3 3]]) rfl) ht (c := ⟨some (10, 0), 3, cap, some (8, 0), 3, capS, none, 0, 0, none, 0, 0, some (19, 0), 2, capF, 0, 0⟩) (m := (⟨[⟨true, []⟩, ⟨false, [0]⟩, ⟨false, [1, 2]⟩], [⟨3, [], ⟨#[]⟩⟩, ⟨1, [0], ⟨#[]⟩⟩, ⟨1, [], ⟨#[]⟩⟩], [], [], [⟨[], 0, 1, [⟨[-1], [⟨1, 0, 0, 0, 0, 5, [], [], []⟩, ⟨22, 0, 0, 0, 0, 0, [], [], []⟩]⟩]⟩, ⟨[2], 0, 1, [⟨[2], [⟨20, 0, 0, (-1), 0, 0, [], [2, 2], []⟩]⟩, ⟨[2], [⟨1, 0, 0, 0, 0, 3, [], [], []⟩, ⟨22, 0, 0, 0, 0, 0, [], [], []⟩]⟩, ⟨[-1], [⟨1, 0, 0, 0, 0, 3, [], [], []⟩, ⟨22, 0, 0, 0, 0, 0, [], [], []⟩]⟩]⟩], 0, 0⟩ : M.Img)) (by kernel_rfl) (by decide +kernel) (by decide +kernel) (by decide +kernel)
      · obtain rfl := hb
        obtain ⟨gM, cM, rfl, rfl⟩ := hm
        exact Bm.says (Rws.holds rw7 (D := [[.int 2, .int 2], [.int 0], [.int 3, .sl none 0 0, .str ⟨#[]⟩], [.int (-1)], [.int 1, .int 0, .int 0, .int 0, .int 0, .int 5, .sl none 0 0, .sl none 0 0, .sl none 0 0, .int 22, .int 0, .int 0, .int 0, .int 0, .int 0, .sl none 0 0, .sl none 0 0, .sl none 0 0], [.sl (some (3, 0)) 1 1, .sl (some (4, 0)) 2 2], [.sl (some (10, 0)) 3 cap, .sl (some (8, 0)) 3 capS, .sl none 0 0, .sl none 0 0, .sl (some (19, 0)) 2 capF, .int 0, .int 0], [.int 0], [.int 3, .sl none 0 0, .str ⟨#[]⟩, .int 1, .sl (some (7, 0)) 1 1, .str ⟨#[]⟩, .int 1, .sl none 0 0, .str ⟨#[]⟩], [.int 1, .int 2], [.bool true, .sl none 0 0, .bool false, .sl (some (1, 0)) 1 1, .bool false, .sl (some (9, 0)) 2 2], [.int 20, .int 0, .int 0, .int 2, .int 0, .int 0, .sl none 0 0, .sl (some (0, 0)) 2 cM, .sl none 0 0], [.int 1, .int 0, .int 0, .int 0, .int 0, .int 3, .sl none 0 0, .sl none 0 0, .sl none 0 0, .int 22, .int 0, .int 0, .int 0, .int 0, .int 0, .sl none 0 0, .sl none 0 0, .sl none 0 0], [.int 2], [.int 2], [.int 20, .int 0, .int 0, .int 2, .int 0, .int 0, .sl none 0 0, .sl (some (0, 0)) 2 cM, .sl none 0 0], [.int 2], [.int (-1)], [.sl (some (14, 0)) 1 1, .sl (some (15, 0)) 1 1, .sl (some (16, 0)) 1 1, .sl (some (12, 0)) 2 2, .sl (some (17, 0)) 1 1, .sl (some (12, 0)) 2 2], [.sl none 0 0, .int 0, .int 1, .sl (some (5, 0)) 1 1, .sl (some (13, 0)) 1 1, .int 0, .int 1, .sl (some (18, 0)) 3 3]]) rfl) ht (c := ⟨some (10, 0), 3, cap, some (8, 0), 3, capS, none, 0, 0, none, 0, 0, some (19, 0), 2, capF, 0, 0⟩) (m := (⟨[⟨true, []⟩, ⟨false, [0]⟩, ⟨false, [1, 2]⟩], [⟨3, [], ⟨#[]⟩⟩, ⟨1, [0], ⟨#[]⟩⟩, ⟨1, [], ⟨#[]⟩⟩], [], [], [⟨[], 0, 1, [⟨[-1], [⟨1, 0, 0, 0, 0, 5, [], [], []⟩, ⟨22, 0, 0, 0, 0, 0, [], [], []⟩]⟩]⟩, ⟨[2], 0, 1, [⟨[2], [⟨20, 0, 0, 2, 0, 0, [], [2, 2], []⟩]⟩, ⟨[2], [⟨1, 0, 0, 0, 0, 3, [], [], []⟩, ⟨22, 0, 0, 0, 0, 0, [], [], []⟩]⟩, ⟨[-1], [⟨1, 0, 0, 0, 0, 3, [], [], []⟩, ⟨22, 0, 0, 0, 0, 0, [], [], []⟩]⟩]⟩], 0, 0⟩ : M.Img)) (by kernel_rfl) (by decide +kernel) (by decide +kernel) (by decide +kernel)
      · obtain rfl := hb
        obtain ⟨gM, cM, rfl, rfl⟩ := hm
        exact Bm.says (Rws.holds rw7 (D := [[.int 2, .int 2], [.int 0], [.int 3, .sl none 0 0, .str ⟨#[]⟩], [.int (-1)], [.int 1, .int 0, .int 0, .int 0, .int 0, .int 5, .sl none 0 0, .sl none 0 0, .sl none 0 0, .int 22, .int 0, .int 0, .int 0, .int 0, .int 0, .sl none 0 0, .sl none 0 0, .sl none 0 0], [.sl (some (3, 0)) 1 1, .sl (some (4, 0)) 2 2], [.sl (some (10, 0)) 3 cap, .sl (some (8, 0)) 3 capS, .sl none 0 0, .sl none 0 0, .sl (some (19, 0)) 2 capF, .int 0, .int 0], [.int 0], [.int 3, .sl none 0 0, .str ⟨#[]⟩, .int 1, .sl (some (7, 0)) 1 1, .str ⟨#[]⟩, .int 1, .sl none 0 0, .str ⟨#[]⟩], [.int 1, .int 2], [.bool true, .sl none 0 0, .bool false, .sl (some (1, 0)) 1 1, .bool true, .sl (some (9, 0)) 2 2], [.int 20, .int 0, .int 0, .int (-1), .int 0, .int 0, .sl none 0 0, .sl (some (0, 0)) 2 cM, .sl none 0 0], [.int 1, .int 0, .int 0, .int 0, .int 0, .int 3, .sl none 0 0, .sl none 0 0, .sl none 0 0, .int 22, .int 0, .int 0, .int 0, .int 0, .int 0, .sl none 0 0, .sl none 0 0, .sl none 0 0], [.int 2], [.int 2], [.int 20, .int 0, .int 0, .int (-1), .int 0, .int 0, .sl none 0 0, .sl (some (0, 0)) 2 cM, .sl none 0 0], [.int 2], [.int (-1)], [.sl (some (14, 0)) 1 1, .sl (some (15, 0)) 1 1, .sl (some (16, 0)) 1 1, .sl (some (12, 0)) 2 2, .sl (some (17, 0)) 1 1, .sl (some (12, 0)) 2 2], [.sl none 0 0, .int 0, .int 1, .sl (some (5, 0)) 1 1, .sl (some (13, 0)) 1 1, .int 0, .int 1, .sl (some (18, 0)) 3 3]]) rfl) ht (c := ⟨some (10, 0), 3, cap, some (8, 0), 3, capS, none, 0, 0, none, 0, 0, some (19, 0), 2, capF, 0, 0⟩) (m := (⟨[⟨true, []⟩, ⟨false, [0]⟩, ⟨true, [1, 2]⟩], [⟨3, [], ⟨#[]⟩⟩, ⟨1, [0], ⟨#[]⟩⟩, ⟨1, [], ⟨#[]⟩⟩], [], [], [⟨[], 0, 1, [⟨[-1], [⟨1, 0, 0, 0, 0, 5, [], [], []⟩, ⟨22, 0, 0, 0, 0, 0, [], [], []⟩]⟩]⟩, ⟨[2], 0, 1, [⟨[2], [⟨20, 0, 0, (-1), 0, 0, [], [2, 2], []⟩]⟩, ⟨[2], [⟨1, 0, 0, 0, 0, 3, [], [], []⟩, ⟨22, 0, 0, 0, 0, 0, [], [], []⟩]⟩, ⟨[-1], [⟨1, 0, 0, 0, 0, 3, [], [], []⟩, ⟨22, 0, 0, 0, 0, 0, [], [], []⟩]⟩]⟩], 0, 0⟩ : M.Img)) (by kernel_rfl) (by decide +kernel) (by decide +kernel) (by decide +kernel)
      · obtain rfl := hb
        obtain ⟨gM, cM, rfl, rfl⟩ := hm
        exact Bm.says (Rws.holds rw7 (D := [[.int 2, .int 2], [.int 0], [.int 3, .sl none 0 0, .str ⟨#[]⟩], [.int (-1)], [.int 1, .int 0, .int 0, .int 0, .int 0, .int 5, .sl none 0 0, .sl none 0 0, .sl none 0 0, .int 22, .int 0, .int 0, .int 0, .int 0, .int 0, .sl none 0 0, .sl none 0 0, .sl none 0 0], [.sl (some (3, 0)) 1 1, .sl (some (4, 0)) 2 2], [.sl (some (10, 0)) 3 cap, .sl (some (8, 0)) 3 capS, .sl none 0 0, .sl none 0 0, .sl (some (19, 0)) 2 capF, .int 0, .int 0], [.int 0], [.int 3, .sl none 0 0, .str ⟨#[]⟩, .int 1, .sl (some (7, 0)) 1 1, .str ⟨#[]⟩, .int 1, .sl none 0 0, .str ⟨#[]⟩], [.int 1, .int 2], [.bool true, .sl none 0 0, .bool false, .sl (some (1, 0)) 1 1, .bool true, .sl (some (9, 0)) 2 2], [.int 20, .int 0, .int 0, .int 2, .int 0, .int 0, .sl none 0 0, .sl (some (0, 0)) 2 cM, .sl none 0 0], [.int 1, .int 0, .int 0, .int 0, .int 0, .int 3, .sl none 0 0, .sl none 0 0, .sl none 0 0, .int 22, .int 0, .int 0, .int 0, .int 0, .int 0, .sl none 0 0, .sl none 0 0, .sl none 0 0], [.int 2], [.int 2], [.int 20, .int 0, .int 0, .int 2, .int 0, .int 0, .sl none 0 0, .sl (some (0, 0)) 2 cM, .sl none 0 0], [.int 2], [.int (-1)], [.sl (some (14, 0)) 1 1, .sl (some (15, 0)) 1 1, .sl (some (16, 0)) 1 1, .sl (some (12, 0)) 2 2, .sl (some (17, 0)) 1 1, .sl (some (12, 0)) 2 2], [.sl none 0 0, .int 0, .int 1, .sl (some (5, 0)) 1 1, .sl (some (13, 0)) 1 1, .int 0, .int 1, .sl (some (18, 0)) 3 3]]) rfl) ht (c := ⟨some (10, 0), 3, cap, some (8, 0), 3, capS, none, 0, 0, none, 0, 0, some (19, 0), 2, capF, 0, 0⟩) (m := (⟨[⟨true, []⟩, ⟨false, [0]⟩, ⟨true, [1, 2]⟩], [⟨3, [], ⟨#[]⟩⟩, ⟨1, [0], ⟨#[]⟩⟩, ⟨1, [], ⟨#[]⟩⟩], [], [], [⟨[], 0, 1, [⟨[-1], [⟨1, 0, 0, 0, 0, 5, [], [], []⟩, ⟨22, 0, 0, 0, 0, 0, [], [], []⟩]⟩]⟩, ⟨[2], 0, 1, [⟨[2], [⟨20, 0, 0, 2, 0, 0, [], [2, 2], []⟩]⟩, ⟨[2], [⟨1, 0, 0, 0, 0, 3, [], [], []⟩, ⟨22, 0, 0, 0, 0, 0, [], [], []⟩]⟩, ⟨[-1], [⟨1, 0, 0, 0, 0, 3, [], [], []⟩, ⟨22, 0, 0, 0, 0, 0, [], [], []⟩]⟩]⟩], 0, 0⟩ : M.Img)) (by kernel_rfl) (by decide +kernel) (by decide +kernel) (by decide +kernel)
      · obtain rfl := hb
        obtain ⟨gM, cM, rfl, rfl⟩ := hm
        exact Bm.says (Rws.holds rw7 (D := [[.int 1, .int 1], [.int 0], [.int 3, .sl none 0 0, .str ⟨#[]⟩], [.int (-1)], [.int 1, .int 0, .int 0, .int 0, .int 0, .int 5, .sl none 0 0, .sl none 0 0, .sl none 0 0, .int 22, .int 0, .int 0, .int 0, .int 0, .int 0, .sl none 0 0, .sl none 0 0, .sl none 0 0], [.sl (some (3, 0)) 1 1, .sl (some (4, 0)) 2 2], [.sl (some (10, 0)) 3 cap, .sl (some (8, 0)) 3 capS, .sl none 0 0, .sl none 0 0, .sl (some (19, 0)) 2 capF, .int 0, .int 0], [.int 0], [.int 3, .sl none 0 0, .str ⟨#[]⟩, .int 1, .sl (some (7, 0)) 1 1, .str ⟨#[]⟩, .int 1, .sl none 0 0, .str ⟨#[]⟩], [.int 1, .int 2], [.bool true, .sl none 0 0, .bool false, .sl (some (1, 0)) 1 1, .bool false, .sl (some (9, 0)) 2 2], [.int 20, .int 0, .int 0, .int (-1), .int 0, .int 0, .sl none 0 0, .sl (some (0, 0)) 2 cM, .sl none 0 0], [.int 1, .int 0, .int 0, .int 0, .int 0, .int 3, .sl none 0 0, .sl none 0 0, .sl none 0 0, .int 22, .int 0, .int 0, .int 0, .int 0, .int 0, .sl none 0 0, .sl none 0 0, .sl none 0 0], [.int 2], [.int 2], [.int 20, .int 0, .int 0, .int (-1), .int 0, .int 0, .sl none 0 0, .sl (some (0, 0)) 2 cM, .sl none 0 0], [.int 2], [.int (-1)], [.sl (some (14, 0)) 1 1, .sl (some (15, 0)) 1 1, .sl (some (16, 0)) 1 1, .sl (some (12, 0)) 2 2, .sl (some (17, 0)) 1 1, .sl (some (12, 0)) 2 2], [.sl none 0 0, .int 0, .int 1, .sl (some (5, 0)) 1 1, .sl (some (13, 0)) 1 1, .int 0, .int 1, .sl (some (18, 0)) 3 3]]) rfl) ht (c := ⟨some (10, 0), 3, cap, some (8, 0), 3, capS, none, 0, 0, none, 0, 0, some (19, 0), 2, capF, 0, 0⟩) (m := (⟨[⟨true, []⟩, ⟨false, [0]⟩, ⟨false, [1, 2]⟩], [⟨3, [], ⟨#[]⟩⟩, ⟨1, [0], ⟨#[]⟩⟩, ⟨1, [], ⟨#[]⟩⟩], [], [], [⟨[], 0, 1, [⟨[-1], [⟨1, 0, 0, 0, 0, 5, [], [], []⟩, ⟨22, 0, 0, 0, 0, 0, [], [], []⟩]⟩]⟩, ⟨[2], 0, 1, [⟨[2], [⟨20, 0, 0, (-1), 0, 0, [], [1, 1], []⟩]⟩, ⟨[2], [⟨1, 0, 0, 0, 0, 3, [], [], []⟩, ⟨22, 0, 0, 0, 0, 0, [], [], []⟩]⟩, ⟨[-1], [⟨1, 0, 0, 0, 0, 3, [], [], []⟩, ⟨22, 0, 0, 0, 0, 0, [], [], []⟩]⟩]⟩], 0, 0⟩ : M.Img)) (by kernel_rfl) (by decide +kernel) (by decide +kernel) (by decide +kernel)
      · obtain rfl := hb
        obtain ⟨gM, cM, rfl, rfl⟩ := hm
        exact Bm.says (Rws.holds rw7 (D := [[.int 1, .int 1], [.int 0], [.int 3, .sl none 0 0, .str ⟨#[]⟩], [.int (-1)], [.int 1, .int 0, .int 0, .int 0, .int 0, .int 5, .sl none 0 0, .sl none 0 0, .sl none 0 0, .int 22, .int 0, .int 0, .int 0, .int 0, .int 0, .sl none 0 0, .sl none 0 0, .sl none 0 0], [.sl (some (3, 0)) 1 1, .sl (some (4, 0)) 2 2], [.sl (some (10, 0)) 3 cap, .sl (some (8, 0)) 3 capS, .sl none 0 0, .sl none 0 0, .sl (some (19, 0)) 2 capF, .int 0, .int 0], [.int 0], [.int 3, .sl none 0 0, .str ⟨#[]⟩, .int 1, .sl (some (7, 0)) 1 1, .str ⟨#[]⟩, .int 1, .sl none 0 0, .str ⟨#[]⟩], [.int 1, .int 2], [.bool true, .sl none 0 0, .bool false, .sl (some (1, 0)) 1 1, .bool false, .sl (some (9, 0)) 2 2], [.int 20, .int 0, .int 0, .int 2, .int 0, .int 0, .sl none 0 0, .sl (some (0, 0)) 2 cM, .sl none 0 0], [.int 1, .int 0, .int 0, .int 0, .int 0, .int 3, .sl none 0 0, .sl none 0 0, .sl none 0 0, .int 22, .int 0, .int 0, .int 0, .int 0, .int 0, .sl none 0 0, .sl none 0 0, .sl none 0 0], [.int 2], [.int 2], [.int 20, .int 0, .int 0, .int 2, .int 0, .int 0, .sl none 0 0, .sl (some (0, 0)) 2 cM, .sl none 0 0], [.int 2], [.int (-1)], [.sl (some (14, 0)) 1 1, .sl (some (15, 0)) 1 1, .sl (some (16, 0)) 1 1, .sl (some (12, 0)) 2 2, .sl (some (17, 0)) 1 1, .sl (some (12, 0)) 2 2], [.sl none 0 0, .int 0, .int 1, .sl (some (5, 0)) 1 1, .sl (some (13, 0)) 1 1, .int 0, .int 1, .sl (some (18, 0)) 3 3]]) rfl) ht (c := ⟨some (10, 0), 3, cap, some (8, 0), 3, capS, none, 0, 0, none, 0, 0, some (19, 0), 2, capF, 0, 0⟩) (m := (⟨[⟨true, []⟩, ⟨false, [0]⟩, ⟨false, [1, 2]⟩], [⟨3, [], ⟨#[]⟩⟩, ⟨1, [0], ⟨#[]⟩⟩, ⟨1, [], ⟨#[]⟩⟩], [], [], [⟨[], 0, 1, [⟨[-1], [⟨1, 0, 0, 0, 0, 5, [], [], []⟩, ⟨22, 0, 0, 0, 0, 0, [], [], []⟩]⟩]⟩, ⟨[2], 0, 1, [⟨[2], [⟨20, 0, 0, 2, 0, 0, [], [1, 1], []⟩]⟩, ⟨[2], [⟨1, 0, 0, 0, 0, 3, [], [], []⟩, ⟨22, 0, 0, 0, 0, 0, [], [], []⟩]⟩, ⟨[-1], [⟨1, 0, 0, 0, 0, 3, [], [], []⟩, ⟨22, 0, 0, 0, 0, 0, [], [], []⟩]⟩]⟩], 0, 0⟩ : M.Img)) (by kernel_rfl) (by decide +kernel) (by decide +kernel) (by decide +kernel)
      · obtain rfl := hb
        obtain ⟨gM, cM, rfl, rfl⟩ := hm
        exact Bm.says (Rws.holds rw7 (D := [[.int 1, .int 1], [.int 0], [.int 3, .sl none 0 0, .str ⟨#[]⟩], [.int (-1)], [.int 1, .int 0, .int 0, .int 0, .int 0, .int 5, .sl none 0 0, .sl none 0 0, .sl none 0 0, .int 22, .int 0, .int 0, .int 0, .int 0, .int 0, .sl none 0 0, .sl none 0 0, .sl none 0 0], [.sl (some (3, 0)) 1 1, .sl (some (4, 0)) 2 2], [.sl (some (10, 0)) 3 cap, .sl (some (8, 0)) 3 capS, .sl none 0 0, .sl none 0 0, .sl (some (19, 0)) 2 capF, .int 0, .int 0], [.int 0], [.int 3, .sl none 0 0, .str ⟨#[]⟩, .int 1, .sl (some (7, 0)) 1 1, .str ⟨#[]⟩, .int 1, .sl none 0 0, .str ⟨#[]⟩], [.int 1, .int 2], [.bool true, .sl none 0 0, .bool false, .sl (some (1, 0)) 1 1, .bool true, .sl (some (9, 0)) 2 2], [.int 20, .int 0, .int 0, .int (-1), .int 0, .int 0, .sl none 0 0, .sl (some (0, 0)) 2 cM, .sl none 0 0], [.int 1, .int 0, .int 0, .int 0, .int 0, .int 3, .sl none 0 0, .sl none 0 0, .sl none 0 0, .int 22, .int 0, .int 0, .int 0, .int 0, .int 0, .sl none 0 0, .sl none 0 0, .sl none 0 0], [.int 2], [.int 2], [.int 20, .int 0, .int 0, .int (-1), .int 0, .int 0, .sl none 0 0, .sl (some (0, 0)) 2 cM, .sl none 0 0], [.int 2], [.int (-1)], [.sl (some (14, 0)) 1 1, .sl (some (15, 0)) 1 1, .sl (some (16, 0)) 1 1, .sl (some (12, 0)) 2 2, .sl (some (17, 0)) 1 1, .sl (some (12, 0)) 2 2], [.sl none 0 0, .int 0, .int 1, .sl (some (5, 0)) 1 1, .sl (some (13, 0)) 1 1, .int 0, .int 1, .sl (some (18, 0)) 3 3]]) rfl) ht (c := ⟨some (10, 0), 3, cap, some (8, 0), 3, capS, none, 0, 0, none, 0, 0, some (19, 0), 2, capF, 0, 0⟩) (m := (⟨[⟨true, []⟩, ⟨false, [0]⟩, ⟨true, [1, 2]⟩], [⟨3, [], ⟨#[]⟩⟩, ⟨1, [0], ⟨#[]⟩⟩, ⟨1, [], ⟨#[]⟩⟩], [], [], [⟨[], 0, 1, [⟨[-1], [⟨1, 0, 0, 0, 0, 5, [], [], []⟩, ⟨22, 0, 0, 0, 0, 0, [], [], []⟩]⟩]⟩, ⟨[2], 0, 1, [⟨[2], [⟨20, 0, 0, (-1), 0, 0, [], [1, 1], []⟩]⟩, ⟨[2], [⟨1, 0, 0, 0, 0, 3, [], [], []⟩, ⟨22, 0, 0, 0, 0, 0, [], [], []⟩]⟩, ⟨[-1], [⟨1, 0, 0, 0, 0, 3, [], [], []⟩, ⟨22, 0, 0, 0, 0, 0, [], [], []⟩]⟩]⟩], 0, 0⟩ : M.Img)) (by kernel_rfl) (by decide +kernel) (by decide +kernel) (by decide +kernel)
      · obtain rfl := hb
        obtain ⟨gM, cM, rfl, rfl⟩ := hm
        exact Bm.says (Rws.holds rw7 (D := [[.int 1, .int 1], [.int 0], [.int 3, .sl none 0 0, .str ⟨#[]⟩], [.int (-1)], [.int 1, .int 0, .int 0, .int 0, .int 0, .int 5, .sl none 0 0, .sl none 0 0, .sl none 0 0, .int 22, .int 0, .int 0, .int 0, .int 0, .int 0, .sl none 0 0, .sl none 0 0, .sl none 0 0], [.sl (some (3, 0)) 1 1, .sl (some (4, 0)) 2 2], [.sl (some (10, 0)) 3 cap, .sl (some (8, 0)) 3 capS, .sl none 0 0, .sl none 0 0, .sl (some (19, 0)) 2 capF, .int 0, .int 0], [.int 0], [.int 3, .sl none 0 0, .str ⟨#[]⟩, .int 1, .sl (some (7, 0)) 1 1, .str ⟨#[]⟩, .int 1, .sl none 0 0, .str ⟨#[]⟩], [.int 1, .int 2], [.bool true, .sl none 0 0, .bool false, .sl (some (1, 0)) 1 1, .bool true, .sl (some (9, 0)) 2 2], [.int 20, .int 0, .int 0, .int 2, .int 0, .int 0, .sl none 0 0, .sl (some (0, 0)) 2 cM, .sl none 0 0], [.int 1, .int 0, .int 0, .int 0, .int 0, .int 3, .sl none 0 0, .sl none 0 0, .sl none 0 0, .int 22, .int 0, .int 0, .int 0, .int 0, .int 0, .sl none 0 0, .sl none 0 0, .sl none 0 0], [.int 2], [.int 2], [.int 20, .int 0, .int 0, .int 2, .int 0, .int 0, .sl none 0 0, .sl (some (0, 0)) 2 cM, .sl none 0 0], [.int 2], [.int (-1)], [.sl (some (14, 0)) 1 1, .sl (some (15, 0)) 1 1, .sl (some (16, 0)) 1 1, .sl (some (12, 0)) 2 2, .sl (some (17, 0)) 1 1, .sl (some (12, 0)) 2 2], [.sl none 0 0, .int 0, .int 1, .sl (some (5, 0)) 1 1, .sl (some (13, 0)) 1 1, .int 0, .int 1, .sl (some (18, 0)) 3 3]]) rfl) ht (c := ⟨some (10, 0), 3, cap, some (8, 0), 3, capS, none, 0, 0, none, 0, 0, some (19, 0), 2, capF, 0, 0⟩) (m := (⟨[⟨true, []⟩, ⟨false, [0]⟩, ⟨true, [1, 2]⟩], [⟨3, [], ⟨#[]⟩⟩, ⟨1, [0], ⟨#[]⟩⟩, ⟨1, [], ⟨#[]⟩⟩], [], [], [⟨[], 0, 1, [⟨[-1], [⟨1, 0, 0, 0, 0, 5, [], [], []⟩, ⟨22, 0, 0, 0, 0, 0, [], [], []⟩]⟩]⟩, ⟨[2], 0, 1, [⟨[2], [⟨20, 0, 0, 2, 0, 0, [], [1, 1], []⟩]⟩, ⟨[2], [⟨1, 0, 0, 0, 0, 3, [], [], []⟩, ⟨22, 0, 0, 0, 0, 0, [], [], []⟩]⟩, ⟨[-1], [⟨1, 0, 0, 0, 0, 3, [], [], []⟩, ⟨22, 0, 0, 0, 0, 0, [], [], []⟩]⟩]⟩], 0, 0⟩ : M.Img)) (by kernel_rfl) (by decide +kernel) (by decide +kernel) (by decide +kernel)
      · exact absurd hok (by decide)
      · exact absurd hok (by decide)
      · obtain rfl := hb
        obtain ⟨gM, cM, rfl, rfl⟩ := hm
        exact Bm.says (Rws.holds rw7 (D := [[.int 1, .int 1, .int 2, .int 2], [.int 0], [.int 3, .sl none 0 0, .str ⟨#[]⟩], [.int (-1)], [.int 1, .int 0, .int 0, .int 0, .int 0, .int 5, .sl none 0 0, .sl none 0 0, .sl none 0 0, .int 22, .int 0, .int 0, .int 0, .int 0, .int 0, .sl none 0 0, .sl none 0 0, .sl none 0 0], [.sl (some (3, 0)) 1 1, .sl (some (4, 0)) 2 2], [.sl (some (10, 0)) 3 cap, .sl (some (8, 0)) 3 capS, .sl none 0 0, .sl none 0 0, .sl (some (19, 0)) 2 capF, .int 0, .int 0], [.int 0], [.int 3, .sl none 0 0, .str ⟨#[]⟩, .int 1, .sl (some (7, 0)) 1 1, .str ⟨#[]⟩, .int 1, .sl none 0 0, .str ⟨#[]⟩], [.int 1, .int 2], [.bool true, .sl none 0 0, .bool false, .sl (some (1, 0)) 1 1, .bool true, .sl (some (9, 0)) 2 2], [.int 20, .int 0, .int 0, .int (-1), .int 0, .int 0, .sl none 0 0, .sl (some (0, 0)) 4 cM, .sl none 0 0], [.int 1, .int 0, .int 0, .int 0, .int 0, .int 3, .sl none 0 0, .sl none 0 0, .sl none 0 0, .int 22, .int 0, .int 0, .int 0, .int 0, .int 0, .sl none 0 0, .sl none 0 0, .sl none 0 0], [.int 2], [.int 2], [.int 20, .int 0, .int 0, .int (-1), .int 0, .int 0, .sl none 0 0, .sl (some (0, 0)) 4 cM, .sl none 0 0], [.int 2], [.int (-1)], [.sl (some (14, 0)) 1 1, .sl (some (15, 0)) 1 1, .sl (some (16, 0)) 1 1, .sl (some (12, 0)) 2 2, .sl (some (17, 0)) 1 1, .sl (some (12, 0)) 2 2], [.sl none 0 0, .int 0, .int 1, .sl (some (5, 0)) 1 1, .sl (some (13, 0)) 1 1, .int 0, .int 1, .sl (some (18, 0)) 3 3]]) rfl) ht (c := ⟨some (10, 0), 3, cap, some (8, 0), 3, capS, none, 0, 0, none, 0, 0, some (19, 0), 2, capF, 0, 0⟩) (m := (⟨[⟨true, []⟩, ⟨false, [0]⟩, ⟨true, [1, 2]⟩], [⟨3, [], ⟨#[]⟩⟩, ⟨1, [0], ⟨#[]⟩⟩, ⟨1, [], ⟨#[]⟩⟩], [], [], [⟨[], 0, 1, [⟨[-1], [⟨1, 0, 0, 0, 0, 5, [], [], []⟩, ⟨22, 0, 0, 0, 0, 0, [], [], []⟩]⟩]⟩, ⟨[2], 0, 1, [⟨[2], [⟨20, 0, 0, (-1), 0, 0, [], [1, 1, 2, 2], []⟩]⟩, ⟨[2], [⟨1, 0, 0, 0, 0, 3, [], [], []⟩, ⟨22, 0, 0, 0, 0, 0, [], [], []⟩]⟩, ⟨[-1], [⟨1, 0, 0, 0, 0, 3, [], [], []⟩, ⟨22, 0, 0, 0, 0, 0, [], [], []⟩]⟩]⟩], 0, 0⟩ : M.Img)) (by kernel_rfl) (by decide +kernel) (by decide +kernel) (by decide +kernel)
      · exact absurd hok (by decide)
    refine HF8.mono ?_; rintro e w8 ⟨rfl, t8⟩
    have H8 := Lib.hid (And.intro (H7.out.1.still t8) (And.intro (H7.out.2.1.trans t8) (H7.out.2.2.trans t8.turn)))
    clear t8 HF8
    clear q0 q1 q2 q3 q4 q5 q6 qf0 ql
    have qR := H8.out.1.at 5 (b := Q) (e := 27) rfl
    have q0 := qR.cell (i := 0) rfl
    have q1 := qR.cell (i := 1) rfl
    have q2 := qR.cell (i := 2) rfl
    have q3 := qR.cell (i := 3) rfl
    have q4 := qR.cell (i := 4) rfl
    have q5 := qR.cell (i := 5) rfl
    have q6 := qR.cell (i := 6) rfl
    have qf0 := qR.frozen 0
    have ql := qR.lt
    clear qR
    go_wp2_with (at_builtin; refine wpList_append_form rfl (.tmp 83) (.tmp 86) 22 rfl 0 51 2 32 _ Tryz.underlying22 infoType rfl (by decide) (some ⟨g, 0, none⟩) 3 cap [.bool true, .slice none 0 0, .bool false, .slice (some ⟨p.p1, 0, none⟩) 1 1, .bool im, .slice (some ⟨I12, 0, none⟩) 2 2] rfl (own_keep HG.out ((H8.out.2.2.alloc (.cells #[.int .i64 1] 3)).alloc (.cells #[.bool false, .slice (some ⟨w8.heap.size, 0, none⟩) 1 1] 51)) (fun k e e2 => e2 (Option.some.inj (show some g = some k from e)).symm)) ⟨w8.heap.size + 1, 0, none⟩ 1 1 [.bool false, .slice (some ⟨w8.heap.size, 0, none⟩) 1 1] rfl rfl (fun j u hj => by rw [Addr.add_lit, Nat.zero_add]; exact Row.cell (xs := [.bool false, .slice (some ⟨w8.heap.size, 0, none⟩) 1 1]) (Blk.row' (cs := #[.bool false, .slice (some ⟨w8.heap.size, 0, none⟩) 1 1]) (blk_at' (by simp))) hj) (by simp [Value.oneCell']) (by decide) (by decide) (by decide) (Nat.zero_le _) ?_; intro g2 cap2 w9 ho9 ht9 hg9; refine Wait.out ?_)
    refine ⟨?_⟩
    clear q0 q1 q2 q3 q4 q5 q6 qf0 ql
    have tN : Turn (fun k => k = g) ((w8.alloc (.cells #[.int .i64 1] 3)).alloc (.cells #[.bool false, .slice (some ⟨w8.heap.size, 0, none⟩) 1 1] 51)) w9 := Turn.mono ht9.out fun k _ e => (Option.some.inj (show some g = some k from e)).symm
    have gN : g2 = g ∨ ((w8.alloc (.cells #[.int .i64 1] 3)).alloc (.cells #[.bool false, .slice (some ⟨w8.heap.size, 0, none⟩) 1 1] 51)).heap.size ≤ g2 := by
      rcases hg9.out with h | h
      · exact .inl (Option.some.inj (show some g = some g2 from h)).symm
      · exact .inr h
    have RW9 : Hid (PX pre w9 [(p.p1, 3, [.int .i64 0]), (p.p3, 42, [.int .i64 3, .slice none 0 0, .string ⟨#[]⟩]), (p.p4, 3, [.int .i64 (-1)]), (p.p5, 36, [.int .i64 1, .int .i64 0, .int .i64 0, .int .i64 0, .int .i64 0, .int .i64 5, .slice none 0 0, .slice none 0 0, .slice none 0 0, .int .i64 22, .int .i64 0, .int .i64 0, .int .i64 0, .int .i64 0, .int .i64 0, .slice none 0 0, .slice none 0 0, .slice none 0 0]), (p.p6, 48, [.slice (some ⟨p.p4, 0, none⟩) 1 1, .slice (some ⟨p.p5, 0, none⟩) 2 2]), (Q, 27, [.slice (some ⟨g, 0, none⟩) 3 cap, .slice (some ⟨gS, 0, none⟩) 3 capS, .slice none 0 0, .slice none 0 0, .slice (some ⟨gF, 0, none⟩) 2 capF, .int .i64 0, .int .i64 0]), (Q + 1, 3, [.int .i64 0]), (gS, 42, [.int .i64 3, .slice none 0 0, .string ⟨#[]⟩, .int .i64 1, .slice (some ⟨Q + 1, 0, none⟩) 1 1, .string ⟨#[]⟩, .int .i64 1, .slice none 0 0, .string ⟨#[]⟩]), (I12, 3, [.int .i64 1, .int .i64 2]), (g2, 51, [.bool true, .slice none 0 0, .bool false, .slice (some ⟨p.p1, 0, none⟩) 1 1, .bool im, .slice (some ⟨I12, 0, none⟩) 2 2, .bool false, .slice (some ⟨w8.heap.size, 0, none⟩) 1 1]), (X, 36, [.int .i64 20, .int .i64 0, .int .i64 0, .int .i64 bv, .int .i64 0, .int .i64 0, .slice none 0 0, mv, .slice none 0 0]), (Z0, 36, [.int .i64 1, .int .i64 0, .int .i64 0, .int .i64 0, .int .i64 0, .int .i64 3, .slice none 0 0, .slice none 0 0, .slice none 0 0, .int .i64 22, .int .i64 0, .int .i64 0, .int .i64 0, .int .i64 0, .int .i64 0, .slice none 0 0, .slice none 0 0, .slice none 0 0]), (A1, 3, [.int .i64 2]), (A2, 3, [.int .i64 2]), (XR, 36, [.int .i64 20, .int .i64 0, .int .i64 0, .int .i64 bv, .int .i64 0, .int .i64 0, .slice none 0 0, mv, .slice none 0 0]), (A3, 3, [.int .i64 2]), (A4, 3, [.int .i64 (-1)]), (BB, 48, [.slice (some ⟨A2, 0, none⟩) 1 1, .slice (some ⟨XR, 0, none⟩) 1 1, .slice (some ⟨A3, 0, none⟩) 1 1, .slice (some ⟨Z0, 0, none⟩) 2 2, .slice (some ⟨A4, 0, none⟩) 1 1, .slice (some ⟨Z0, 0, none⟩) 2 2]), (gF, 45, [.slice none 0 0, .int .i64 0, .int .i64 1, .slice (some ⟨p.p6, 0, none⟩) 1 1, .slice (some ⟨A1, 0, none⟩) 1 1, .int .i64 0, .int .i64 1, .slice (some ⟨BB, 0, none⟩) 3 3]), (w8.heap.size, 3, [.int .i64 1])]) := (((H8.out.1.made (b := w8.heap.size) (e := 3) (cs := #[.int .i64 1]) rfl).alloc (.cells #[.bool false, .slice (some ⟨w8.heap.size, 0, none⟩) 1 1] 51)).grew 9 rfl tN (own_row2 ho9.out) gN)
    have S9 : Hid (Still w1 w9) := ((((H8.out.2.1.alloc (.cells #[.int .i64 1] 3)).alloc (.cells #[.bool false, .slice (some ⟨w8.heap.size, 0, none⟩) 1 1] 51)).turn (S := fun j => j = g)).trans tN).mono fun j hj e => by have := HGB.out; have e2 : j = g := e; omega
    obtain ⟨J1, hJ1⟩ : ∃ J1, w8.heap.size = J1 := ⟨_, rfl⟩
    rw [hJ1] at RW9
    clear hJ1 tN gN ho9 ht9 hg9 H8
    have qR := RW9.out.at 5 (b := Q) (e := 27) rfl
    have q0 := qR.cell (i := 0) rfl
    have q1 := qR.cell (i := 1) rfl
    have q2 := qR.cell (i := 2) rfl
    have q3 := qR.cell (i := 3) rfl
    have q4 := qR.cell (i := 4) rfl
    have q5 := qR.cell (i := 5) rfl
    have q6 := qR.cell (i := 6) rfl
    have qf0 := qR.frozen 0
    have ql := qR.lt
    clear qR
    have fR := RW9.out.at 18 (b := gF) (e := 45) rfl
    have f0 := fR.cell (i := 0) rfl
    have f1 := fR.cell (i := 1) rfl
    have f2 := fR.cell (i := 2) rfl
    have f3 := fR.cell (i := 3) rfl
    have f4 := fR.cell (i := 4) rfl
    have f5 := fR.cell (i := 5) rfl
    have f6 := fR.cell (i := 6) rfl
    have f7 := fR.cell (i := 7) rfl
    have fl := fR.lt
    clear fR
    have bR := RW9.out.at 17 (b := BB) (e := 48) rfl
    have b0 := bR.cell (i := 0) rfl
    have b1 := bR.cell (i := 1) rfl
    have b2 := bR.cell (i := 2) rfl
    have b3 := bR.cell (i := 3) rfl
    have b4 := bR.cell (i := 4) rfl
    have b5 := bR.cell (i := 5) rfl
    have bf2 := bR.frozen 2
    have bf3 := bR.frozen 3
    have bl := bR.lt
    clear bR
    have nQgF : Q ≠ gF := RW9.out.ne 5 18 rfl rfl (by decide)
    have ngFQ : gF ≠ Q := fun e => nQgF e.symm
    have nQBB : Q ≠ BB := RW9.out.ne 5 17 rfl rfl (by decide)
    have nBBQ : BB ≠ Q := fun e => nQBB e.symm
    have ngFBB : gF ≠ BB := RW9.out.ne 18 17 rfl rfl (by decide)
    have nBBgF : BB ≠ gF := fun e => ngFBB e.symm
    go_wp2_with fail
    clear q0 q1 q2 q3 q4 q5 q6 qf0 ql
    clear f0 f1 f2 f3 f4 f5 f6 f7 fl
    clear b0 b1 b2 b3 b4 b5 bf2 bf3 bl
    generalize hWA : ((((w9.setCell ⟨Q, 0, none⟩ (.slice (some ⟨g2, 0, none⟩) 4 cap2)).setCell ⟨BB, 2, none⟩ (.slice (some ⟨w9.heap.size, 0, none⟩) 1 1)).setCell ⟨BB, 3, none⟩ (.slice (some ⟨w9.heap.size + 1, 0, none⟩) 2 2)).alloc (.cells #[.int .i64 3] 3)).alloc (.cells #[.int .i64 6, .int .i64 0, .int .i64 0, .int .i64 0, .int .i64 0, .int .i64 0, .slice none 0 0, .slice none 0 0, .slice none 0 0, .int .i64 22, .int .i64 0, .int .i64 0, .int .i64 0, .int .i64 0, .int .i64 0, .slice none 0 0, .slice none 0 0, .slice none 0 0] 36) = wA
    have HA : Hid (PX pre wA [(p.p1, 3, [.int .i64 0]), (p.p3, 42, [.int .i64 3, .slice none 0 0, .string ⟨#[]⟩]), (p.p4, 3, [.int .i64 (-1)]), (p.p5, 36, [.int .i64 1, .int .i64 0, .int .i64 0, .int .i64 0, .int .i64 0, .int .i64 5, .slice none 0 0, .slice none 0 0, .slice none 0 0, .int .i64 22, .int .i64 0, .int .i64 0, .int .i64 0, .int .i64 0, .int .i64 0, .slice none 0 0, .slice none 0 0, .slice none 0 0]), (p.p6, 48, [.slice (some ⟨p.p4, 0, none⟩) 1 1, .slice (some ⟨p.p5, 0, none⟩) 2 2]), (Q, 27, [.slice (some ⟨g2, 0, none⟩) 4 cap2, .slice (some ⟨gS, 0, none⟩) 3 capS, .slice none 0 0, .slice none 0 0, .slice (some ⟨gF, 0, none⟩) 2 capF, .int .i64 0, .int .i64 0]), (Q + 1, 3, [.int .i64 0]), (gS, 42, [.int .i64 3, .slice none 0 0, .string ⟨#[]⟩, .int .i64 1, .slice (some ⟨Q + 1, 0, none⟩) 1 1, .string ⟨#[]⟩, .int .i64 1, .slice none 0 0, .string ⟨#[]⟩]), (I12, 3, [.int .i64 1, .int .i64 2]), (g2, 51, [.bool true, .slice none 0 0, .bool false, .slice (some ⟨p.p1, 0, none⟩) 1 1, .bool im, .slice (some ⟨I12, 0, none⟩) 2 2, .bool false, .slice (some ⟨J1, 0, none⟩) 1 1]), (X, 36, [.int .i64 20, .int .i64 0, .int .i64 0, .int .i64 bv, .int .i64 0, .int .i64 0, .slice none 0 0, mv, .slice none 0 0]), (Z0, 36, [.int .i64 1, .int .i64 0, .int .i64 0, .int .i64 0, .int .i64 0, .int .i64 3, .slice none 0 0, .slice none 0 0, .slice none 0 0, .int .i64 22, .int .i64 0, .int .i64 0, .int .i64 0, .int .i64 0, .int .i64 0, .slice none 0 0, .slice none 0 0, .slice none 0 0]), (A1, 3, [.int .i64 2]), (A2, 3, [.int .i64 2]), (XR, 36, [.int .i64 20, .int .i64 0, .int .i64 0, .int .i64 bv, .int .i64 0, .int .i64 0, .slice none 0 0, mv, .slice none 0 0]), (A3, 3, [.int .i64 2]), (A4, 3, [.int .i64 (-1)]), (BB, 48, [.slice (some ⟨A2, 0, none⟩) 1 1, .slice (some ⟨XR, 0, none⟩) 1 1, .slice (some ⟨w9.heap.size, 0, none⟩) 1 1, .slice (some ⟨w9.heap.size + 1, 0, none⟩) 2 2, .slice (some ⟨A4, 0, none⟩) 1 1, .slice (some ⟨Z0, 0, none⟩) 2 2]), (gF, 45, [.slice none 0 0, .int .i64 0, .int .i64 1, .slice (some ⟨p.p6, 0, none⟩) 1 1, .slice (some ⟨A1, 0, none⟩) 1 1, .int .i64 0, .int .i64 1, .slice (some ⟨BB, 0, none⟩) 3 3]), (J1, 3, [.int .i64 1]), (w9.heap.size, 3, [.int .i64 3]), (w9.heap.size + 1, 36, [.int .i64 6, .int .i64 0, .int .i64 0, .int .i64 0, .int .i64 0, .int .i64 0, .slice none 0 0, .slice none 0 0, .slice none 0 0, .int .i64 22, .int .i64 0, .int .i64 0, .int .i64 0, .int .i64 0, .int .i64 0, .slice none 0 0, .slice none 0 0, .slice none 0 0])] ∧ Still w1 wA) := by
      rw [← hWA]
      exact ⟨(((((RW9.out.set 5 rfl 0 (by simp) (.slice (some ⟨g2, 0, none⟩) 4 cap2)).set 17 rfl 2 (by simp) (.slice (some ⟨w9.heap.size, 0, none⟩) 1 1)).set 17 rfl 3 (by simp) (.slice (some ⟨w9.heap.size + 1, 0, none⟩) 2 2)).made (b := w9.heap.size) (e := 3) (cs := #[.int .i64 3]) (by simp)).made (b := w9.heap.size + 1) (e := 36) (cs := #[.int .i64 6, .int .i64 0, .int .i64 0, .int .i64 0, .int .i64 0, .int .i64 0, .slice none 0 0, .slice none 0 0, .slice none 0 0, .int .i64 22, .int .i64 0, .int .i64 0, .int .i64 0, .int .i64 0, .int .i64 0, .slice none 0 0, .slice none 0 0, .slice none 0 0]) (by simp)), (((((S9.out.setCell (p := ⟨Q, 0, none⟩) (fun h => absurd h (by have := HX.out.2.2; show ¬ Q < _; omega)) _).setCell (p := ⟨BB, 2, none⟩) (fun h => absurd h (by have := HGE_BB.out; show ¬ BB < _; omega)) _).setCell (p := ⟨BB, 3, none⟩) (fun h => absurd h (by have := HGE_BB.out; show ¬ BB < _; omega)) _).alloc _).alloc _)⟩
    obtain ⟨K3, hK3⟩ : ∃ K3, w9.heap.size = K3 := ⟨_, rfl⟩
    obtain ⟨C3, hC3⟩ : ∃ C3, K3 + 1 = C3 := ⟨_, rfl⟩
    rw [hK3, hC3] at HA
    clear hWA hK3 hC3 RW9 S9
    have HF9 : Calls Tryz.prog 12 #[.agg #[.slice (some ⟨g2, 0, none⟩) 4 cap2, .slice (some ⟨gS, 0, none⟩) 3 capS, .slice none 0 0, .slice none 0 0, .slice (some ⟨gF, 0, none⟩) 2 capF, .int .i64 0, .int .i64 0]] wA fun e w' => e = .returned (.int .i64 21) ∧ Still wA w' := by
      have hm := HM.out
      have hb := HBV.out
      have hok := HOK.out
      have rw7 := HA.out.1
      have ht := HT.out _ (H1.out.2.trans (HA.out.2))
      cases f1 <;> cases s2 <;> cases im <;> cases ot
      · obtain rfl := hb
        obtain ⟨rfl, rfl⟩ := hm
        exact Bm.says (Rws.holds rw7 (D := [[.int 0], [.int 3, .sl none 0 0, .str ⟨#[]⟩], [.int (-1)], [.int 1, .int 0, .int 0, .int 0, .int 0, .int 5, .sl none 0 0, .sl none 0 0, .sl none 0 0, .int 22, .int 0, .int 0, .int 0, .int 0, .int 0, .sl none 0 0, .sl none 0 0, .sl none 0 0], [.sl (some (2, 0)) 1 1, .sl (some (3, 0)) 2 2], [.sl (some (9, 0)) 4 cap2, .sl (some (7, 0)) 3 capS, .sl none 0 0, .sl none 0 0, .sl (some (18, 0)) 2 capF, .int 0, .int 0], [.int 0], [.int 3, .sl none 0 0, .str ⟨#[]⟩, .int 1, .sl (some (6, 0)) 1 1, .str ⟨#[]⟩, .int 1, .sl none 0 0, .str ⟨#[]⟩], [.int 1, .int 2], [.bool true, .sl none 0 0, .bool false, .sl (some (0, 0)) 1 1, .bool false, .sl (some (8, 0)) 2 2, .bool false, .sl (some (19, 0)) 1 1], [.int 20, .int 0, .int 0, .int (-1), .int 0, .int 0, .sl none 0 0, .sl none 0 0, .sl none 0 0], [.int 1, .int 0, .int 0, .int 0, .int 0, .int 3, .sl none 0 0, .sl none 0 0, .sl none 0 0, .int 22, .int 0, .int 0, .int 0, .int 0, .int 0, .sl none 0 0, .sl none 0 0, .sl none 0 0], [.int 2], [.int 2], [.int 20, .int 0, .int 0, .int (-1), .int 0, .int 0, .sl none 0 0, .sl none 0 0, .sl none 0 0], [.int 2], [.int (-1)], [.sl (some (13, 0)) 1 1, .sl (some (14, 0)) 1 1, .sl (some (20, 0)) 1 1, .sl (some (21, 0)) 2 2, .sl (some (16, 0)) 1 1, .sl (some (11, 0)) 2 2], [.sl none 0 0, .int 0, .int 1, .sl (some (4, 0)) 1 1, .sl (some (12, 0)) 1 1, .int 0, .int 1, .sl (some (17, 0)) 3 3], [.int 1], [.int 3], [.int 6, .int 0, .int 0, .int 0, .int 0, .int 0, .sl none 0 0, .sl none 0 0, .sl none 0 0, .int 22, .int 0, .int 0, .int 0, .int 0, .int 0, .sl none 0 0, .sl none 0 0, .sl none 0 0]]) rfl) ht (c := ⟨some (9, 0), 4, cap2, some (7, 0), 3, capS, none, 0, 0, none, 0, 0, some (18, 0), 2, capF, 0, 0⟩) (m := (⟨[⟨true, []⟩, ⟨false, [0]⟩, ⟨false, [1, 2]⟩, ⟨false, [1]⟩], [⟨3, [], ⟨#[]⟩⟩, ⟨1, [0], ⟨#[]⟩⟩, ⟨1, [], ⟨#[]⟩⟩], [], [], [⟨[], 0, 1, [⟨[-1], [⟨1, 0, 0, 0, 0, 5, [], [], []⟩, ⟨22, 0, 0, 0, 0, 0, [], [], []⟩]⟩]⟩, ⟨[2], 0, 1, [⟨[2], [⟨20, 0, 0, (-1), 0, 0, [], [], []⟩]⟩, ⟨[3], [⟨6, 0, 0, 0, 0, 0, [], [], []⟩, ⟨22, 0, 0, 0, 0, 0, [], [], []⟩]⟩, ⟨[-1], [⟨1, 0, 0, 0, 0, 3, [], [], []⟩, ⟨22, 0, 0, 0, 0, 0, [], [], []⟩]⟩]⟩], 0, 0⟩ : M.Img)) (by kernel_rfl) (by decide +kernel) (by decide +kernel) (by decide +kernel)
      · obtain rfl := hb
        obtain ⟨rfl, rfl⟩ := hm
        exact Bm.says (Rws.holds rw7 (D := [[.int 0], [.int 3, .sl none 0 0, .str ⟨#[]⟩], [.int (-1)], [.int 1, .int 0, .int 0, .int 0, .int 0, .int 5, .sl none 0 0, .sl none 0 0, .sl none 0 0, .int 22, .int 0, .int 0, .int 0, .int 0, .int 0, .sl none 0 0, .sl none 0 0, .sl none 0 0], [.sl (some (2, 0)) 1 1, .sl (some (3, 0)) 2 2], [.sl (some (9, 0)) 4 cap2, .sl (some (7, 0)) 3 capS, .sl none 0 0, .sl none 0 0, .sl (some (18, 0)) 2 capF, .int 0, .int 0], [.int 0], [.int 3, .sl none 0 0, .str ⟨#[]⟩, .int 1, .sl (some (6, 0)) 1 1, .str ⟨#[]⟩, .int 1, .sl none 0 0, .str ⟨#[]⟩], [.int 1, .int 2], [.bool true, .sl none 0 0, .bool false, .sl (some (0, 0)) 1 1, .bool false, .sl (some (8, 0)) 2 2, .bool false, .sl (some (19, 0)) 1 1], [.int 20, .int 0, .int 0, .int 2, .int 0, .int 0, .sl none 0 0, .sl none 0 0, .sl none 0 0], [.int 1, .int 0, .int 0, .int 0, .int 0, .int 3, .sl none 0 0, .sl none 0 0, .sl none 0 0, .int 22, .int 0, .int 0, .int 0, .int 0, .int 0, .sl none 0 0, .sl none 0 0, .sl none 0 0], [.int 2], [.int 2], [.int 20, .int 0, .int 0, .int 2, .int 0, .int 0, .sl none 0 0, .sl none 0 0, .sl none 0 0], [.int 2], [.int (-1)], [.sl (some (13, 0)) 1 1, .sl (some (14, 0)) 1 1, .sl (some (20, 0)) 1 1, .sl (some (21, 0)) 2 2, .sl (some (16, 0)) 1 1, .sl (some (11, 0)) 2 2], [.sl none 0 0, .int 0, .int 1, .sl (some (4, 0)) 1 1, .sl (some (12, 0)) 1 1, .int 0, .int 1, .sl (some (17, 0)) 3 3], [.int 1], [.int 3], [.int 6, .int 0, .int 0, .int 0, .int 0, .int 0, .sl none 0 0, .sl none 0 0, .sl none 0 0, .int 22, .int 0, .int 0, .int 0, .int 0, .int 0, .sl none 0 0, .sl none 0 0, .sl none 0 0]]) rfl) ht (c := ⟨some (9, 0), 4, cap2, some (7, 0), 3, capS, none, 0, 0, none, 0, 0, some (18, 0), 2, capF, 0, 0⟩) (m := (⟨[⟨true, []⟩, ⟨false, [0]⟩, ⟨false, [1, 2]⟩, ⟨false, [1]⟩], [⟨3, [], ⟨#[]⟩⟩, ⟨1, [0], ⟨#[]⟩⟩, ⟨1, [], ⟨#[]⟩⟩], [], [], [⟨[], 0, 1, [⟨[-1], [⟨1, 0, 0, 0, 0, 5, [], [], []⟩, ⟨22, 0, 0, 0, 0, 0, [], [], []⟩]⟩]⟩, ⟨[2], 0, 1, [⟨[2], [⟨20, 0, 0, 2, 0, 0, [], [], []⟩]⟩, ⟨[3], [⟨6, 0, 0, 0, 0, 0, [], [], []⟩, ⟨22, 0, 0, 0, 0, 0, [], [], []⟩]⟩, ⟨[-1], [⟨1, 0, 0, 0, 0, 3, [], [], []⟩, ⟨22, 0, 0, 0, 0, 0, [], [], []⟩]⟩]⟩], 0, 0⟩ : M.Img)) (by kernel_rfl) (by decide +kernel) (by decide +kernel) (by decide +kernel)
      · obtain rfl := hb
        obtain ⟨rfl, rfl⟩ := hm
        exact Bm.says (Rws.holds rw7 (D := [[.int 0], [.int 3, .sl none 0 0, .str ⟨#[]⟩], [.int (-1)], [.int 1, .int 0, .int 0, .int 0, .int 0, .int 5, .sl none 0 0, .sl none 0 0, .sl none 0 0, .int 22, .int 0, .int 0, .int 0, .int 0, .int 0, .sl none 0 0, .sl none 0 0, .sl none 0 0], [.sl (some (2, 0)) 1 1, .sl (some (3, 0)) 2 2], [.sl (some (9, 0)) 4 cap2, .sl (some (7, 0)) 3 capS, .sl none 0 0, .sl none 0 0, .sl (some (18, 0)) 2 capF, .int 0, .int 0], [.int 0], [.int 3, .sl none 0 0, .str ⟨#[]⟩, .int 1, .sl (some (6, 0)) 1 1, .str ⟨#[]⟩, .int 1, .sl none 0 0, .str ⟨#[]⟩], [.int 1, .int 2], [.bool true, .sl none 0 0, .bool false, .sl (some (0, 0)) 1 1, .bool true, .sl (some (8, 0)) 2 2, .bool false, .sl (some (19, 0)) 1 1], [.int 20, .int 0, .int 0, .int (-1), .int 0, .int 0, .sl none 0 0, .sl none 0 0, .sl none 0 0], [.int 1, .int 0, .int 0, .int 0, .int 0, .int 3, .sl none 0 0, .sl none 0 0, .sl none 0 0, .int 22, .int 0, .int 0, .int 0, .int 0, .int 0, .sl none 0 0, .sl none 0 0, .sl none 0 0], [.int 2], [.int 2], [.int 20, .int 0, .int 0, .int (-1), .int 0, .int 0, .sl none 0 0, .sl none 0 0, .sl none 0 0], [.int 2], [.int (-1)], [.sl (some (13, 0)) 1 1, .sl (some (14, 0)) 1 1, .sl (some (20, 0)) 1 1, .sl (some (21, 0)) 2 2, .sl (some (16, 0)) 1 1, .sl (some (11, 0)) 2 2], [.sl none 0 0, .int 0, .int 1, .sl (some (4, 0)) 1 1, .sl (some (12, 0)) 1 1, .int 0, .int 1, .sl (some (17, 0)) 3 3], [.int 1], [.int 3], [.int 6, .int 0, .int 0, .int 0, .int 0, .int 0, .sl none 0 0, .sl none 0 0, .sl none 0 0, .int 22, .int 0, .int 0, .int 0, .int 0, .int 0, .sl none 0 0, .sl none 0 0, .sl none 0 0]]) rfl) ht (c := ⟨some (9, 0), 4, cap2, some (7, 0), 3, capS, none, 0, 0, none, 0, 0, some (18, 0), 2, capF, 0, 0⟩) (m := (⟨[⟨true, []⟩, ⟨false, [0]⟩, ⟨true, [1, 2]⟩, ⟨false, [1]⟩], [⟨3, [], ⟨#[]⟩⟩, ⟨1, [0], ⟨#[]⟩⟩, ⟨1, [], ⟨#[]⟩⟩], [], [], [⟨[], 0, 1, [⟨[-1], [⟨1, 0, 0, 0, 0, 5, [], [], []⟩, ⟨22, 0, 0, 0, 0, 0, [], [], []⟩]⟩]⟩, ⟨[2], 0, 1, [⟨[2], [⟨20, 0, 0, (-1), 0, 0, [], [], []⟩]⟩, ⟨[3], [⟨6, 0, 0, 0, 0, 0, [], [], []⟩, ⟨22, 0, 0, 0, 0, 0, [], [], []⟩]⟩, ⟨[-1], [⟨1, 0, 0, 0, 0, 3, [], [], []⟩, ⟨22, 0, 0, 0, 0, 0, [], [], []⟩]⟩]⟩], 0, 0⟩ : M.Img)) (by kernel_rfl) (by decide +kernel) (by decide +kernel) (by decide +kernel)
      · obtain rfl := hb
        obtain ⟨rfl, rfl⟩ := hm
        exact Bm.says (Rws.holds rw7 (D := [[.int 0], [.int 3, .sl none 0 0, .str ⟨#[]⟩], [.int (-1)], [.int 1, .int 0, .int 0, .int 0, .int 0, .int 5, .sl none 0 0, .sl none 0 0, .sl none 0 0, .int 22, .int 0, .int 0, .int 0, .int 0, .int 0, .sl none 0 0, .sl none 0 0, .sl none 0 0], [.sl (some (2, 0)) 1 1, .sl (some (3, 0)) 2 2], [.sl (some (9, 0)) 4 cap2, .sl (some (7, 0)) 3 capS, .sl none 0 0, .sl none 0 0, .sl (some (18, 0)) 2 capF, .int 0, .int 0], [.int 0], [.int 3, .sl none 0 0, .str ⟨#[]⟩, .int 1, .sl (some (6, 0)) 1 1, .str ⟨#[]⟩, .int 1, .sl none 0 0, .str ⟨#[]⟩], [.int 1, .int 2], [.bool true, .sl none 0 0, .bool false, .sl (some (0, 0)) 1 1, .bool true, .sl (some (8, 0)) 2 2, .bool false, .sl (some (19, 0)) 1 1], [.int 20, .int 0, .int 0, .int 2, .int 0, .int 0, .sl none 0 0, .sl none 0 0, .sl none 0 0], [.int 1, .int 0, .int 0, .int 0, .int 0, .int 3, .sl none 0 0, .sl none 0 0, .sl none 0 0, .int 22, .int 0, .int 0, .int 0, .int 0, .int 0, .sl none 0 0, .sl none 0 0, .sl none 0 0], [.int 2], [.int 2], [.int 20, .int 0, .int 0, .int 2, .int 0, .int 0, .sl none 0 0, .sl none 0 0, .sl none 0 0], [.int 2], [.int (-1)], [.sl (some (13, 0)) 1 1, .sl (some (14, 0)) 1 1, .sl (some (20, 0)) 1 1, .sl (some (21, 0)) 2 2, .sl (some (16, 0)) 1 1, .sl (some (11, 0)) 2 2], [.sl none 0 0, .int 0, .int 1, .sl (some (4, 0)) 1 1, .sl (some (12, 0)) 1 1, .int 0, .int 1, .sl (some (17, 0)) 3 3], [.int 1], [.int 3], [.int 6, .int 0, .int 0, .int 0, .int 0, .int 0, .sl none 0 0, .sl none 0 0, .sl none 0 0, .int 22, .int 0, .int 0, .int 0, .int 0, .int 0, .sl none 0 0, .sl none 0 0, .sl none 0 0]]) rfl) ht (c := ⟨some (9, 0), 4, cap2, some (7, 0), 3, capS, none, 0, 0, none, 0, 0, some (18, 0), 2, capF, 0, 0⟩) (m := (⟨[⟨true, []⟩, ⟨false, [0]⟩, ⟨true, [1, 2]⟩, ⟨false, [1]⟩], [⟨3, [], ⟨#[]⟩⟩, ⟨1, [0], ⟨#[]⟩⟩, ⟨1, [], ⟨#[]⟩⟩], [], [], [⟨[], 0, 1, [⟨[-1], [⟨1, 0, 0, 0, 0, 5, [], [], []⟩, ⟨22, 0, 0, 0, 0, 0, [], [], []⟩]⟩]⟩, ⟨[2], 0, 1, [⟨[2], [⟨20, 0, 0, 2, 0, 0, [], [], []⟩]⟩, ⟨[3], [⟨6, 0, 0, 0, 0, 0, [], [], []⟩, ⟨22, 0, 0, 0, 0, 0, [], [], []⟩]⟩, ⟨[-1], [⟨1, 0, 0, 0, 0, 3, [], [], []⟩, ⟨22, 0, 0, 0, 0, 0, [], [], []⟩]⟩]⟩], 0, 0⟩ : M.Img)) (by kernel_rfl) (by decide +kernel) (by decide +kernel) (by decide +kernel)
      · obtain rfl := hb
        obtain ⟨gM, cM, rfl, rfl⟩ := hm
        exact Bm.says (Rws.holds rw7 (D := [[.int 2, .int 2], [.int 0], [.int 3, .sl none 0 0, .str ⟨#[]⟩], [.int (-1)], [.int 1, .int 0, .int 0, .int 0, .int 0, .int 5, .sl none 0 0, .sl none 0 0, .sl none 0 0, .int 22, .int 0, .int 0, .int 0, .int 0, .int 0, .sl none 0 0, .sl none 0 0, .sl none 0 0], [.sl (some (3, 0)) 1 1, .sl (some (4, 0)) 2 2], [.sl (some (10, 0)) 4 cap2, .sl (some (8, 0)) 3 capS, .sl none 0 0, .sl none 0 0, .sl (some (19, 0)) 2 capF, .int 0, .int 0], [.int 0], [.int 3, .sl none 0 0, .str ⟨#[]⟩, .int 1, .sl (some (7, 0)) 1 1, .str ⟨#[]⟩, .int 1, .sl none 0 0, .str ⟨#[]⟩], [.int 1, .int 2], [.bool true, .sl none 0 0, .bool false, .sl (some (1, 0)) 1 1, .bool false, .sl (some (9, 0)) 2 2, .bool false, .sl (some (20, 0)) 1 1], [.int 20, .int 0, .int 0, .int (-1), .int 0, .int 0, .sl none 0 0, .sl (some (0, 0)) 2 cM, .sl none 0 0], [.int 1, .int 0, .int 0, .int 0, .int 0, .int 3, .sl none 0 0, .sl none 0 0, .sl none 0 0, .int 22, .int 0, .int 0, .int 0, .int 0, .int 0, .sl none 0 0, .sl none 0 0, .sl none 0 0], [.int 2], [.int 2], [.int 20, .int 0, .int 0, .int (-1), .int 0, .int 0, .sl none 0 0, .sl (some (0, 0)) 2 cM, .sl none 0 0], [.int 2], [.int (-1)], [.sl (some (14, 0)) 1 1, .sl (some (15, 0)) 1 1, .sl (some (21, 0)) 1 1, .sl (some (22, 0)) 2 2, .sl (some (17, 0)) 1 1, .sl (some (12, 0)) 2 2], [.sl none 0 0, .int 0, .int 1, .sl (some (5, 0)) 1 1, .sl (some (13, 0)) 1 1, .int 0, .int 1, .sl (some (18, 0)) 3 3], [.int 1], [.int 3], [.int 6, .int 0, .int 0, .int 0, .int 0, .int 0, .sl none 0 0, .sl none 0 0, .sl none 0 0, .int 22, .int 0, .int 0, .int 0, .int 0, .int 0, .sl none 0 0, .sl none 0 0, .sl none 0 0]]) rfl) ht (c := ⟨some (10, 0), 4, cap2, some (8, 0), 3, capS, none, 0, 0, none, 0, 0, some (19, 0), 2, capF, 0, 0⟩) (m := (⟨[⟨true, []⟩, ⟨false, [0]⟩, ⟨false, [1, 2]⟩, ⟨false, [1]⟩], [⟨3, [], ⟨#[]⟩⟩, ⟨1, [0], ⟨#[]⟩⟩, ⟨1, [], ⟨#[]⟩⟩], [], [], [⟨[], 0, 1, [⟨[-1], [⟨1, 0, 0, 0, 0, 5, [], [], []⟩, ⟨22, 0, 0, 0, 0, 0, [], [], []⟩]⟩]⟩, ⟨[2], 0, 1, [⟨[2], [⟨20, 0, 0, (-1), 0, 0, [], [2, 2], []⟩]⟩, ⟨[3], [⟨6, 0, 0, 0, 0, 0, [], [], []⟩, ⟨22, 0, 0, 0, 0, 0, [], [], []⟩]⟩, ⟨[-1], [⟨1, 0, 0, 0, 0, 3, [], [], []⟩, ⟨22, 0, 0, 0, 0, 0, [], [], []⟩]⟩]⟩], 0, 0⟩ : M.Img)) (by kernel_rfl) (by decide +kernel) (by decide +kernel) (by decide +kernel)
      · obtain rfl := hb
        obtain ⟨gM, cM, rfl, rfl⟩ := hm
        exact Bm.says (Rws.holds rw7 (D := [[.int 2, .int 2], [.int 0], [.int 3, .sl none 0 0, .str ⟨#[]⟩], [.int (-1)], [.int 1, .int 0, .int 0, .int 0, .int 0, .int 5, .sl none 0 0, .sl none 0 0, .sl none 0 0, .int 22, .int 0, .int 0, .int 0, .int 0, .int 0, .sl none 0 0, .sl none 0 0, .sl none 0 0], [.sl (some (3, 0)) 1 1, .sl (some (4, 0)) 2 2], [.sl (some (10, 0)) 4 cap2, .sl (some (8, 0)) 3 capS, .sl none 0 0, .sl none 0 0, .sl (some (19, 0)) 2 capF, .int 0, .int 0], [.int 0], [.int 3, .sl none 0 0, .str ⟨#[]⟩, .int 1, .sl (some (7, 0)) 1 1, .str ⟨#[]⟩, .int 1, .sl none 0 0, .str ⟨#[]⟩], [.int 1, .int 2], [.bool true, .sl none 0 0, .bool false, .sl (some (1, 0)) 1 1, .bool false, .sl (some (9, 0)) 2 2, .bool false, .sl (some (20, 0)) 1 1], [.int 20, .int 0, .int 0, .int 2, .int 0, .int 0, .sl none 0 0, .sl (some (0, 0)) 2 cM, .sl none 0 0], [.int 1, .int 0, .int 0, .int 0, .int 0, .int 3, .sl none 0 0, .sl none 0 0, .sl none 0 0, .int 22, .int 0, .int 0, .int 0, .int 0, .int 0, .sl none 0 0, .sl none 0 0, .sl none 0 0], [.int 2], [.int 2], [.int 20, .int 0, .int 0, .int 2, .int 0, .int 0, .sl none 0 0, .sl (some (0, 0)) 2 cM, .sl none 0 0], [.int 2], [.int (-1)], [.sl (some (14, 0)) 1 1, .sl (some (15, 0)) 1 1, .sl (some (21, 0)) 1 1, .sl (some (22, 0)) 2 2, .sl (some (17, 0)) 1 1, .sl (some (12, 0)) 2 2], [.sl none 0 0, .int 0, .int 1, .sl (some (5, 0)) 1 1, .sl (some (13, 0)) 1 1, .int 0, .int 1, .sl (some (18, 0)) 3 3], [.int 1], [.int 3], [.int 6, .int 0, .int 0, .int 0, .int 0, .int 0, .sl none 0 0, .sl none 0 0, .sl none 0 0, .int 22, .int 0, .int 0, .int 0, .int 0, .int 0, .sl none 0 0, .sl none 0 0, .sl none 0 0]]) rfl) ht (c := ⟨some (10, 0), 4, cap2, some (8, 0), 3, capS, none, 0, 0, none, 0, 0, some (19, 0), 2, capF, 0, 0⟩) (m := (⟨[⟨true, []⟩, ⟨false, [0]⟩, ⟨false, [1, 2]⟩, ⟨false, [1]⟩], [⟨3, [], ⟨#[]⟩⟩, ⟨1, [0], ⟨#[]⟩⟩, ⟨1, [], ⟨#[]⟩⟩], [], [], [⟨[], 0, 1, [⟨[-1], [⟨1, 0, 0, 0, 0, 5, [], [], []⟩, ⟨22, 0, 0, 0, 0, 0, [], [], []⟩]⟩]⟩, ⟨[2], 0, 1, [⟨[2], [⟨20, 0, 0, 2, 0, 0, [], [2, 2], []⟩]⟩, ⟨[3], [⟨6, 0, 0, 0, 0, 0, [], [], []⟩, ⟨22, 0, 0, 0, 0, 0, [], [], []⟩]⟩, ⟨[-1], [⟨1, 0, 0, 0, 0, 3, [], [], []⟩, ⟨22, 0, 0, 0, 0, 0, [], [], []⟩]⟩]⟩], 0, 0⟩ : M.Img)) (by kernel_rfl) (by decide +kernel) (by decide +kernel) (by decide +kernel)
      · obtain rfl := hb
        obtain ⟨gM, cM, rfl, rfl⟩ := hm
        exact Bm.says (Rws.holds rw7 (D := [[.int 2, .int 2], [.int 0], [.int 3, .sl none 0 0, .str ⟨#[]⟩], [.int (-1)], [.int 1, .int 0, .int 0, .int 0, .int 0, .int 5, .sl none 0 0, .sl none 0 0, .sl none 0 0, .int 22, .int 0, .int 0, .int 0, .int 0, .int 0, .sl none 0 0, .sl none 0 0, .sl none 0 0], [.sl (some (3, 0)) 1 1, .sl (some (4, 0)) 2 2], [.sl (some (10, 0)) 4 cap2, .sl (some (8, 0)) 3 capS, .sl none 0 0, .sl none 0 0, .sl (some (19, 0)) 2 capF, .int 0, .int 0], [.int 0], [.int 3, .sl none 0 0, .str ⟨#[]⟩, .int 1, .sl (some (7, 0)) 1 1, .str ⟨#[]⟩, .int 1, .sl none 0 0, .str ⟨#[]⟩], [.int 1, .int 2], [.bool true, .sl none 0 0, .bool false, .sl (some (1, 0)) 1 1, .bool true, .sl (some (9, 0)) 2 2, .bool false, .sl (some (20, 0)) 1 1], [.int 20, .int 0, .int 0, .int (-1), .int 0, .int 0, .sl none 0 0, .sl (some (0, 0)) 2 cM, .sl none 0 0], [.int 1, .int 0, .int 0, .int 0, .int 0, .int 3, .sl none 0 0, .sl none 0 0, .sl none 0 0, .int 22, .int 0, .int 0, .int 0, .int 0, .int 0, .sl none 0 0, .sl none 0 0, .sl none 0 0], [.int 2], [.int 2], [.int 20, .int 0, .int 0, .int (-1), .int 0, .int 0, .sl none 0 0, .sl (some (0, 0)) 2 cM, .sl none 0 0], [.int 2], [.int (-1)], [.sl (some (14, 0)) 1 1, .sl (some (15, 0)) 1 1, .sl (some (21, 0)) 1 1, .sl (some (22, 0)) 2 2, .sl (some (17, 0)) 1 1, .sl (some (12, 0)) 2 2], [.sl none 0 0, .int 0, .int 1, .sl (some (5, 0)) 1 1, .sl (some (13, 0)) 1 1, .int 0, .int 1, .sl (some (18, 0)) 3 3], [.int 1], [.int 3], [.int 6, .int 0, .int 0, .int 0, .int 0, .int 0, .sl none 0 0, .sl none 0 0, .sl none 0 0, .int 22, .int 0, .int 0, .int 0, .int 0, .int 0, .sl none 0 0, .sl none 0 0, .sl none 0 0]]) rfl) ht (c := ⟨some (10, 0), 4, cap2, some (8, 0), 3, capS, none, 0, 0, none, 0, 0, some (19, 0), 2, capF, 0, 0⟩) (m := (⟨[⟨true, []⟩, ⟨false, [0]⟩, ⟨true, [1, 2]⟩, ⟨false, [1]⟩], [⟨3, [], ⟨#[]⟩⟩, ⟨1, [0], ⟨#[]⟩⟩, ⟨1, [], ⟨#[]⟩⟩], [], [], [⟨[], 0, 1, [⟨[-1], [⟨1, 0, 0, 0, 0, 5, [], [], []⟩, ⟨22, 0, 0, 0, 0, 0, [], [], []⟩]⟩]⟩, ⟨[2], 0, 1, [⟨[2], [⟨20, 0, 0, (-1), 0, 0, [], [2, 2], []⟩]⟩, ⟨[3], [⟨6, 0, 0, 0, 0, 0, [], [], []⟩, ⟨22, 0, 0, 0, 0, 0, [], [], []⟩]⟩, ⟨[-1], [⟨1, 0, 0, 0, 0, 3, [], [], []⟩, ⟨22, 0, 0, 0, 0, 0, [], [], []⟩]⟩]⟩], 0, 0⟩ : M.Img)) (by kernel_rfl) (by decide +kernel) (by decide +kernel) (by decide +kernel)
      · obtain rfl := hb
        obtain ⟨gM, cM, rfl, rfl⟩ := hm
        exact Bm.says (Rws.holds rw7 (D := [[.int 2, .int 2], [.int 0], [.int 3, .sl none 0 0, .str ⟨#[]⟩], [.int (-1)], [.int 1, .int 0, .int 0, .int 0, .int 0, .int 5, .sl none 0 0, .sl none 0 0, .sl none 0 0, .int 22, .int 0, .int 0, .int 0, .int 0, .int 0, .sl none 0 0, .sl none 0 0, .sl none 0 0], [.sl (some (3, 0)) 1 1, .sl (some (4, 0)) 2 2], [.sl (some (10, 0)) 4 cap2, .sl (some (8, 0)) 3 capS, .sl none 0 0, .sl none 0 0, .sl (some (19, 0)) 2 capF, .int 0, .int 0], [.int 0], [.int 3, .sl none 0 0, .str ⟨#[]⟩, .int 1, .sl (some (7, 0)) 1 1, .str ⟨#[]⟩, .int 1, .sl none 0 0, .str ⟨#[]⟩], [.int 1, .int 2], [.bool true, .sl none 0 0, .bool false, .sl (some (1, 0)) 1 1, .bool true, .sl (some (9, 0)) 2 2, .bool false, .sl (some (20, 0)) 1 1], [.int 20, .int 0, .int 0, .int 2, .int 0, .int 0, .sl none 0 0, .sl (some (0, 0)) 2 cM, .sl none 0 0], [.int 1, .int 0, .int 0, .int 0, .int 0, .int 3, .sl none 0 0, .sl none 0 0, .sl none 0 0, .int 22, .int 0, .int 0, .int 0, .int 0, .int 0, .sl none 0 0, .sl none 0 0, .sl none 0 0], [.int 2], [.int 2], [.int 20, .int 0, .int 0, .int 2, .int 0, .int 0, .sl none 0 0, .sl (some (0, 0)) 2 cM, .sl none 0 0], [.int 2], [.int (-1)], [.sl (some (14, 0)) 1 1, .sl (some (15, 0)) 1 1, .sl (some (21, 0)) 1 1, .sl (some (22, 0)) 2 2, .sl (some (17, 0)) 1 1, .sl (some (12, 0)) 2 2], [.sl none 0 0, .int 0, .int 1, .sl (some (5, 0)) 1 1, .sl (some (13, 0)) 1 1, .int 0, .int 1, .sl (some (18, 0)) 3 3], [.int 1], [.int 3], [.int 6, .int 0, .int 0, .int 0, .int 0, .int 0, .sl none 0 0, .sl none 0 0, .sl none 0 0, .int 22, .int 0, .int 0, .int 0, .int 0, .int 0, .sl none 0 0, .sl none 0 0, .sl none 0 0]]) rfl) ht (c := ⟨some (10, 0), 4, cap2, some (8, 0), 3, capS, none, 0, 0, none, 0, 0, some (19, 0), 2, capF, 0, 0⟩) (m := (⟨[⟨true, []⟩, ⟨false, [0]⟩, ⟨true, [1, 2]⟩, ⟨false, [1]⟩], [⟨3, [], ⟨#[]⟩⟩, ⟨1, [0], ⟨#[]⟩⟩, ⟨1, [], ⟨#[]⟩⟩], [], [], [⟨[], 0, 1, [⟨[-1], [⟨1, 0, 0, 0, 0, 5, [], [], []⟩, ⟨22, 0, 0, 0, 0, 0, [], [], []⟩]⟩]⟩, ⟨[2], 0, 1, [⟨[2], [⟨20, 0, 0, 2, 0, 0, [], [2, 2], []⟩]⟩, ⟨[3], [⟨6, 0, 0, 0, 0, 0, [], [], []⟩, ⟨22, 0, 0, 0, 0, 0, [], [], []⟩]⟩, ⟨[-1], [⟨1, 0, 0, 0, 0, 3, [], [], []⟩, ⟨22, 0, 0, 0, 0, 0, [], [], []⟩]⟩]⟩], 0, 0⟩ : M.Img)) (by kernel_rfl) (by decide +kernel) (by decide +kernel) (by decide +kernel)
      · obtain rfl := hb
        obtain ⟨gM, cM, rfl, rfl⟩ := hm
        exact Bm.says (Rws.holds rw7 (D := [[.int 1, .int 1], [.int 0], [.int 3, .sl none 0 0, .str ⟨#[]⟩], [.int (-1)], [.int 1, .int 0, .int 0, .int 0, .int 0, .int 5, .sl none 0 0, .sl none 0 0, .sl none 0 0, .int 22, .int 0, .int 0, .int 0, .int 0, .int 0, .sl none 0 0, .sl none 0 0, .sl none 0 0], [.sl (some (3, 0)) 1 1, .sl (some (4, 0)) 2 2], [.sl (some (10, 0)) 4 cap2, .sl (some (8, 0)) 3 capS, .sl none 0 0, .sl none 0 0, .sl (some (19, 0)) 2 capF, .int 0, .int 0], [.int 0], [.int 3, .sl none 0 0, .str ⟨#[]⟩, .int 1, .sl (some (7, 0)) 1 1, .str ⟨#[]⟩, .int 1, .sl none 0 0, .str ⟨#[]⟩], [.int 1, .int 2], [.bool true, .sl none 0 0, .bool false, .sl (some (1, 0)) 1 1, .bool false, .sl (some (9, 0)) 2 2, .bool false, .sl (some (20, 0)) 1 1], [.int 20, .int 0, .int 0, .int (-1), .int 0, .int 0, .sl none 0 0, .sl (some (0, 0)) 2 cM, .sl none 0 0], [.int 1, .int 0, .int 0, .int 0, .int 0, .int 3, .sl none 0 0, .sl none 0 0, .sl none 0 0, .int 22, .int 0, .int 0, .int 0, .int 0, .int 0, .sl none 0 0, .sl none 0 0, .sl none 0 0], [.int 2], [.int 2], [.int 20, .int 0, .int 0, .int (-1), .int 0, .int 0, .sl none 0 0, .sl (some (0, 0)) 2 cM, .sl none 0 0], [.int 2], [.int (-1)], [.sl (some (14, 0)) 1 1, .sl (some (15, 0)) 1 1, .sl (some (21, 0)) 1 1, .sl (some (22, 0)) 2 2, .sl (some (17, 0)) 1 1, .sl (some (12, 0)) 2 2], [.sl none 0 0, .int 0, .int 1, .sl (some (5, 0)) 1 1, .sl (some (13, 0)) 1 1, .int 0, .int 1, .sl (some (18, 0)) 3 3], [.int 1], [.int 3], [.int 6, .int 0, .int 0, .int 0, .int 0, .int 0, .sl none 0 0, .sl none 0 0, .sl none 0 0, .int 22, .int 0, .int 0, .int 0, .int 0, .int 0, .sl none 0 0, .sl none 0 0, .sl none 0 0]]) rfl) ht (c := ⟨some (10, 0), 4, cap2, some (8, 0), 3, capS, none, 0, 0, none, 0, 0, some (19, 0), 2, capF, 0, 0⟩) (m := (⟨[⟨true, []⟩, ⟨false, [0]⟩, ⟨false, [1, 2]⟩, ⟨false, [1]⟩], [⟨3, [], ⟨#[]⟩⟩, ⟨1, [0], ⟨#[]⟩⟩, ⟨1, [], ⟨#[]⟩⟩], [], [], [⟨[], 0, 1, [⟨[-1], [⟨1, 0, 0, 0, 0, 5, [], [], []⟩, ⟨22, 0, 0, 0, 0, 0, [], [], []⟩]⟩]⟩, ⟨[2], 0, 1, [⟨[2], [⟨20, 0, 0, (-1), 0, 0, [], [1, 1], []⟩]⟩, ⟨[3], [⟨6, 0, 0, 0, 0, 0, [], [], []⟩, ⟨22, 0, 0, 0, 0, 0, [], [], []⟩]⟩, ⟨[-1], [⟨1, 0, 0, 0, 0, 3, [], [], []⟩, ⟨22, 0, 0, 0, 0, 0, [], [], []⟩]⟩]⟩], 0, 0⟩ : M.Img)) (by kernel_rfl) (by decide +kernel) (by decide +kernel) (by decide +kernel)
      · obtain rfl := hb
        obtain ⟨gM, cM, rfl, rfl⟩ := hm
        exact Bm.says (Rws.holds rw7 (D := [[.int 1, .int 1], [.int 0], [.int 3, .sl none 0 0, .str ⟨#[]⟩], [.int (-1)], [.int 1, .int 0, .int 0, .int 0, .int 0, .int 5, .sl none 0 0, .sl none 0 0, .sl none 0 0, .int 22, .int 0, .int 0, .int 0, .int 0, .int 0, .sl none 0 0, .sl none 0 0, .sl none 0 0], [.sl (some (3, 0)) 1 1, .sl (some (4, 0)) 2 2], [.sl (some (10, 0)) 4 cap2, .sl (some (8, 0)) 3 capS, .sl none 0 0, .sl none 0 0, .sl (some (19, 0)) 2 capF, .int 0, .int 0], [.int 0], [.int 3, .sl none 0 0, .str ⟨#[]⟩, .int 1, .sl (some (7, 0)) 1 1, .str ⟨#[]⟩, .int 1, .sl none 0 0, .str ⟨#[]⟩], [.int 1, .int 2], [.bool true, .sl none 0 0, .bool false, .sl (some (1, 0)) 1 1, .bool false, .sl (some (9, 0)) 2 2, .bool false, .sl (some (20, 0)) 1 1], [.int 20, .int 0, .int 0, .int 2, .int 0, .int 0, .sl none 0 0, .sl (some (0, 0)) 2 cM, .sl none 0 0], [.int 1, .int 0, .int 0, .int 0, .int 0, .int 3, .sl none 0 0, .sl none 0 0, .sl none 0 0, .int 22, .int 0, .int 0, .int 0, .int 0, .int 0, .sl none 0 0, .sl none 0 0, .sl none 0 0], [.int 2], [.int 2], [.int 20, .int 0, .int 0, .int 2, .int 0, .int 0, .sl none 0 0, .sl (some (0, 0)) 2 cM, .sl none 0 0], [.int 2], [.int (-1)], [.sl (some (14, 0)) 1 1, .sl (some (15, 0)) 1 1, .sl (some (21, 0)) 1 1, .sl (some (22, 0)) 2 2, .sl (some (17, 0)) 1 1, .sl (some (12, 0)) 2 2], [.sl none 0 0, .int 0, .int 1, .sl (some (5, 0)) 1 1, .sl (some (13, 0)) 1 1, .int 0, .int 1, .sl (some (18, 0)) 3 3], [.int 1], [.int 3], [.int 6, .int 0, .int 0, .int 0, .int 0, .int 0, .sl none 0 0, .sl none 0 0, .sl none 0 0, .int 22, .int 0, .int 0, .int 0, .int 0, .int 0, .sl none 0 0, .sl none 0 0, .sl none 0 0]]) rfl) ht (c := ⟨some (10, 0), 4, cap2, some (8, 0), 3, capS, none, 0, 0, none, 0, 0, some (19, 0), 2, capF, 0, 0⟩) (m := (⟨[⟨true, []⟩, ⟨false, [0]⟩, ⟨false, [1, 2]⟩, ⟨false, [1]⟩], [⟨3, [], ⟨#[]⟩⟩, ⟨1, [0], ⟨#[]⟩⟩, ⟨1, [], ⟨#[]⟩⟩], [], [], [⟨[], 0, 1, [⟨[-1], [⟨1, 0, 0, 0, 0, 5, [], [], []⟩, ⟨22, 0, 0, 0, 0, 0, [], [], []⟩]⟩]⟩, ⟨[2], 0, 1, [⟨[2], [⟨20, 0, 0, 2, 0, 0, [], [1, 1], []⟩]⟩, ⟨[3], [⟨6, 0, 0, 0, 0, 0, [], [], []⟩, ⟨22, 0, 0, 0, 0, 0, [], [], []⟩]⟩, ⟨[-1], [⟨1, 0, 0, 0, 0, 3, [], [], []⟩, ⟨22, 0, 0, 0, 0, 0, [], [], []⟩]⟩]⟩], 0, 0⟩ : M.Img)) (by kernel_rfl) (by decide +kernel) (by decide +kernel) (by decide +kernel)
      · obtain rfl := hb
        obtain ⟨gM, cM, rfl, rfl⟩ := hm
        exact Bm.says (Rws.holds rw7 (D := [[.int 1, .int 1], [.int 0], [.int 3, .sl none 0 0, .str ⟨#[]⟩], [.int (-1)], [.int 1, .int 0, .int 0, .int 0, .int 0, .int 5, .sl none 0 0, .sl none 0 0, .sl none 0 0, .int 22, .int 0, .int 0, .int 0, .int 0, .int 0, .sl none 0 0, .sl none 0 0, .sl none 0 0], [.sl (some (3, 0)) 1 1, .sl (some (4, 0)) 2 2], [.sl (some (10, 0)) 4 cap2, .sl (some (8, 0)) 3 capS, .sl none 0 0, .sl none 0 0, .sl (some (19, 0)) 2 capF, .int 0, .int 0], [.int 0], [.int 3, .sl none 0 0, .str ⟨#[]⟩, .int 1, .sl (some (7, 0)) 1 1, .str ⟨#[]⟩, .int 1, .sl none 0 0, .str ⟨#[]⟩], [.int 1, .int 2], [.bool true, .sl none 0 0, .bool false, .sl (some (1, 0)) 1 1, .bool true, .sl (some (9, 0)) 2 2, .bool false, .sl (some (20, 0)) 1 1], [.int 20, .int 0, .int 0, .int (-1), .int 0, .int 0, .sl none 0 0, .sl (some (0, 0)) 2 cM, .sl none 0 0], [.int 1, .int 0, .int 0, .int 0, .int 0, .int 3, .sl none 0 0, .sl none 0 0, .sl none 0 0, .int 22, .int 0, .int 0, .int 0, .int 0, .int 0, .sl none 0 0, .sl none 0 0, .sl none 0 0], [.int 2], [.int 2], [.int 20, .int 0, .int 0, .int (-1), .int 0, .int 0, .sl none 0 0, .sl (some (0, 0)) 2 cM, .sl none 0 0], [.int 2], [.int (-1)], [.sl (some (14, 0)) 1 1, .sl (some (15, 0)) 1 1, .sl (some (21, 0)) 1 1, .sl (some (22, 0)) 2 2, .sl (some (17, 0)) 1 1, .sl (some (12, 0)) 2 2], [.sl none 0 0, .int 0, .int 1, .sl (some (5, 0)) 1 1, .sl (some (13, 0)) 1 1, .int 0, .int 1, .sl (some (18, 0)) 3 3], [.int 1], [.int 3], [.int 6, .int 0, .int 0, .int 0, .int 0, .int 0, .sl none 0 0, .sl none 0 0, .sl none 0 0, .int 22, .int 0, .int 0, .int 0, .int 0, .int 0, .sl none 0 0, .sl none 0 0, .sl none 0 0]]) rfl) ht (c := ⟨some (10, 0), 4, cap2, some (8, 0), 3, capS, none, 0, 0, none, 0, 0, some (19, 0), 2, capF, 0, 0⟩) (m := (⟨[⟨true, []⟩, ⟨false, [0]⟩, ⟨true, [1, 2]⟩, ⟨false, [1]⟩], [⟨3, [], ⟨#[]⟩⟩, ⟨1, [0], ⟨#[]⟩⟩, ⟨1, [], ⟨#[]⟩⟩], [], [], [⟨[], 0, 1, [⟨[-1], [⟨1, 0, 0, 0, 0, 5, [], [], []⟩, ⟨22, 0, 0, 0, 0, 0, [], [], []⟩]⟩]⟩, ⟨[2], 0, 1, [⟨[2], [⟨20, 0, 0, (-1), 0, 0, [], [1, 1], []⟩]⟩, ⟨[3], [⟨6, 0, 0, 0, 0, 0, [], [], []⟩, ⟨22, 0, 0, 0, 0, 0, [], [], []⟩]⟩, ⟨[-1], [⟨1, 0, 0, 0, 0, 3, [], [], []⟩, ⟨22, 0, 0, 0, 0, 0, [], [], []⟩]⟩]⟩], 0, 0⟩ : M.Img)) (by kernel_rfl) (by decide +kernel) (by decide +kernel) (by decide +kernel)
      · obtain rfl := hb
        obtain ⟨gM, cM, rfl, rfl⟩ := hm
        exact Bm.says (Rws.holds rw7 (D := [[.int 1, .int 1], [.int 0], [.int 3, .sl none 0 0, .str ⟨#[]⟩], [.int (-1)], [.int 1, .int 0, .int 0, .int 0, .int 0, .int 5, .sl none 0 0, .sl none 0 0, .sl none 0 0, .int 22, .int 0, .int 0, .int 0, .int 0, .int 0, .sl none 0 0, .sl none 0 0, .sl none 0 0], [.sl (some (3, 0)) 1 1, .sl (some (4, 0)) 2 2], [.sl (some (10, 0)) 4 cap2, .sl (some (8, 0)) 3 capS, .sl none 0 0, .sl none 0 0, .sl (some (19, 0)) 2 capF, .int 0, .int 0], [.int 0], [.int 3, .sl none 0 0, .str ⟨#[]⟩, .int 1, .sl (some (7, 0)) 1 1, .str ⟨#[]⟩, .int 1, .sl none 0 0, .str ⟨#[]⟩], [.int 1, .int 2], [.bool true, .sl none 0 0, .bool false, .sl (some (1, 0)) 1 1, .bool true, .sl (some (9, 0)) 2 2, .bool false, .sl (some (20, 0)) 1 1], [.int 20, .int 0, .int 0, .int 2, .int 0, .int 0, .sl none 0 0, .sl (some (0, 0)) 2 cM, .sl none 0 0], [.int 1, .int 0, .int 0, .int 0, .int 0, .int 3, .sl none 0 0, .sl none 0 0, .sl none 0 0, .int 22, .int 0, .int 0, .int 0, .int 0, .int 0, .sl none 0 0, .sl none 0 0, .sl none 0 0], [.int 2], [.int 2], [.int 20, .int 0, .int 0, .int 2, .int 0, .int 0, .sl none 0 0, .sl (some (0, 0)) 2 cM, .sl none 0 0], [.int 2], [.int (-1)], [.sl (some (14, 0)) 1 1, .sl (some (15, 0)) 1 1, .sl (some (21, 0)) 1 1, .sl (some (22, 0)) 2 2, .sl (some (17, 0)) 1 1, .sl (some (12, 0)) 2 2], [.sl none 0 0, .int 0, .int 1, .sl (some (5, 0)) 1 1, .sl (some (13, 0)) 1 1, .int 0, .int 1, .sl (some (18, 0)) 3 3], [.int 1], [.int 3], [.int 6, .int 0, .int 0, .int 0, .int 0, .int 0, .sl none 0 0, .sl none 0 0, .sl none 0 0, .int 22, .int 0, .int 0, .int 0, .int 0, .int 0, .sl none 0 0, .sl none 0 0, .sl none 0 0]]) rfl) ht (c := ⟨some (10, 0), 4, cap2, some (8, 0), 3, capS, none, 0, 0, none, 0, 0, some (19, 0), 2, capF, 0, 0⟩) (m := (⟨[⟨true, []⟩, ⟨false, [0]⟩, ⟨true, [1, 2]⟩, ⟨false, [1]⟩], [⟨3, [], ⟨#[]⟩⟩, ⟨1, [0], ⟨#[]⟩⟩, ⟨1, [], ⟨#[]⟩⟩], [], [], [⟨[], 0, 1, [⟨[-1], [⟨1, 0, 0, 0, 0, 5, [], [], []⟩, ⟨22, 0, 0, 0, 0, 0, [], [], []⟩]⟩]⟩, ⟨[2], 0, 1, [⟨[2], [⟨20, 0, 0, 2, 0, 0, [], [1, 1], []⟩]⟩, ⟨[3], [⟨6, 0, 0, 0, 0, 0, [], [], []⟩, ⟨22, 0, 0, 0, 0, 0, [], [], []⟩]⟩, ⟨[-1], [⟨1, 0, 0, 0, 0, 3, [], [], []⟩, ⟨22, 0, 0, 0, 0, 0, [], [], []⟩]⟩]⟩], 0, 0⟩ : M.Img)) (by kernel_rfl) (by decide +kernel) (by decide +kernel) (by decide +kernel)
      · exact absurd hok (by decide)
      · exact absurd hok (by decide)
      · obtain rfl := hb
        obtain ⟨gM, cM, rfl, rfl⟩ := hm
        exact Bm.says (Rws.holds rw7 (D := [[.int 1, .int 1, .int 2, .int 2], [.int 0], [.int 3, .sl none 0 0, .str ⟨#[]⟩], [.int (-1)], [.int 1, .int 0, .int 0, .int 0, .int 0, .int 5, .sl none 0 0, .sl none 0 0, .sl none 0 0, .int 22, .int 0, .int 0, .int 0, .int 0, .int 0, .sl none 0 0, .sl none 0 0, .sl none 0 0], [.sl (some (3, 0)) 1 1, .sl (some (4, 0)) 2 2], [.sl (some (10, 0)) 4 cap2, .sl (some (8, 0)) 3 capS, .sl none 0 0, .sl none 0 0, .sl (some (19, 0)) 2 capF, .int 0, .int 0], [.int 0], [.int 3, .sl none 0 0, .str ⟨#[]⟩, .int 1, .sl (some (7, 0)) 1 1, .str ⟨#[]⟩, .int 1, .sl none 0 0, .str ⟨#[]⟩], [.int 1, .int 2], [.bool true, .sl none 0 0, .bool false, .sl (some (1, 0)) 1 1, .bool true, .sl (some (9, 0)) 2 2, .bool false, .sl (some (20, 0)) 1 1], [.int 20, .int 0, .int 0, .int (-1), .int 0, .int 0, .sl none 0 0, .sl (some (0, 0)) 4 cM, .sl none 0 0], [.int 1, .int 0, .int 0, .int 0, .int 0, .int 3, .sl none 0 0, .sl none 0 0, .sl none 0 0, .int 22, .int 0, .int 0, .int 0, .int 0, .int 0, .sl none 0 0, .sl none 0 0, .sl none 0 0], [.int 2], [.int 2], [.int 20, .int 0, .int 0, .int (-1), .int 0, .int 0, .sl none 0 0, .sl (some (0, 0)) 4 cM, .sl none 0 0], [.int 2], [.int (-1)], [.sl (some (14, 0)) 1 1, .sl (some (15, 0)) 1 1, .sl (some (21, 0)) 1 1, .sl (some (22, 0)) 2 2, .sl (some (17, 0)) 1 1, .sl (some (12, 0)) 2 2], [.sl none 0 0, .int 0, .int 1, .sl (some (5, 0)) 1 1, .sl (some (13, 0)) 1 1, .int 0, .int 1, .sl (some (18, 0)) 3 3], [.int 1], [.int 3], [.int 6, .int 0, .int 0, .int 0, .int 0, .int 0, .sl none 0 0, .sl none 0 0, .sl none 0 0, .int 22, .int 0, .int 0, .int 0, .int 0, .int 0, .sl none 0 0, .sl none 0 0, .sl none 0 0]]) rfl) ht (c := ⟨some (10, 0), 4, cap2, some (8, 0), 3, capS, none, 0, 0, none, 0, 0, some (19, 0), 2, capF, 0, 0⟩) (m := (⟨[⟨true, []⟩, ⟨false, [0]⟩, ⟨true, [1, 2]⟩, ⟨false, [1]⟩], [⟨3, [], ⟨#[]⟩⟩, ⟨1, [0], ⟨#[]⟩⟩, ⟨1, [], ⟨#[]⟩⟩], [], [], [⟨[], 0, 1, [⟨[-1], [⟨1, 0, 0, 0, 0, 5, [], [], []⟩, ⟨22, 0, 0, 0, 0, 0, [], [], []⟩]⟩]⟩, ⟨[2], 0, 1, [⟨[2], [⟨20, 0, 0, (-1), 0, 0, [], [1, 1, 2, 2], []⟩]⟩, ⟨[3], [⟨6, 0, 0, 0, 0, 0, [], [], []⟩, ⟨22, 0, 0, 0, 0, 0, [], [], []⟩]⟩, ⟨[-1], [⟨1, 0, 0, 0, 0, 3, [], [], []⟩, ⟨22, 0, 0, 0, 0, 0, [], [], []⟩]⟩]⟩], 0, 0⟩ : M.Img)) (by kernel_rfl) (by decide +kernel) (by decide +kernel) (by decide +kernel)
      · exact absurd hok (by decide)
    refine HF9.mono ?_; rintro e wB ⟨rfl, tB⟩
    have SL : Hid (Still w wB) := H1.out.2.trans (HA.out.2.trans tB)
    clear tB HF9 HA
    go_wp2_with fail
    refine (lives_any _ (HT.out _ SL.out)).mono ?_; rintro e wl ⟨rfl, tl⟩
    have SL2 : Hid (Still w wl) := SL.out.trans tl
    clear tl
    go_wp2_with fail
    go_ret
    exact ⟨rfl, SL2.out⟩
  | true =>
    have qR := H7.out.1.at 5 (b := Q) (e := 27) rfl
    have q0 := qR.cell (i := 0) rfl
    have q1 := qR.cell (i := 1) rfl
    have q2 := qR.cell (i := 2) rfl
    have q3 := qR.cell (i := 3) rfl
    have q4 := qR.cell (i := 4) rfl
    have q5 := qR.cell (i := 5) rfl
    have q6 := qR.cell (i := 6) rfl
    have qf0 := qR.frozen 0
    have ql := qR.lt
    clear qR
    go_wp2_with fail
    have HF8 : Calls Tryz.prog 12 #[.agg #[.slice (some ⟨g, 0, none⟩) 3 cap, .slice (some ⟨gS, 0, none⟩) 3 capS, .slice none 0 0, .slice none 0 0, .slice (some ⟨gF, 0, none⟩) 2 capF, .int .i64 0, .int .i64 0]] w7 fun e w' => e = .returned (.int .i64 0) ∧ Still w7 w' := by
      have hm := HM.out
      have hb := HBV.out
      have hok := HOK.out
      have rw7 := H7.out.1
      have ht := HT.out _ (H1.out.2.trans (H7.out.2.1))
      cases f1 <;> cases s2 <;> cases im <;> cases ot
      · exact absurd hok (by decide)
      · exact absurd hok (by decide)
      · exact absurd hok (by decide)
      · exact absurd hok (by decide)
      · exact absurd hok (by decide)
      · exact absurd hok (by decide)
      · exact absurd hok (by decide)
      · exact absurd hok (by decide)
      · exact absurd hok (by decide)
      · exact absurd hok (by decide)
      · exact absurd hok (by decide)
      · exact absurd hok (by decide)
      · obtain rfl := hb
        obtain ⟨gM, cM, rfl, rfl⟩ := hm
        exact Bm.says (Rws.holds rw7 (D := [[.int 1, .int 1, .int 2, .int 2], [.int 0], [.int 3, .sl none 0 0, .str ⟨#[]⟩], [.int (-1)], [.int 1, .int 0, .int 0, .int 0, .int 0, .int 5, .sl none 0 0, .sl none 0 0, .sl none 0 0, .int 22, .int 0, .int 0, .int 0, .int 0, .int 0, .sl none 0 0, .sl none 0 0, .sl none 0 0], [.sl (some (3, 0)) 1 1, .sl (some (4, 0)) 2 2], [.sl (some (10, 0)) 3 cap, .sl (some (8, 0)) 3 capS, .sl none 0 0, .sl none 0 0, .sl (some (19, 0)) 2 capF, .int 0, .int 0], [.int 0], [.int 3, .sl none 0 0, .str ⟨#[]⟩, .int 1, .sl (some (7, 0)) 1 1, .str ⟨#[]⟩, .int 1, .sl none 0 0, .str ⟨#[]⟩], [.int 1, .int 2], [.bool true, .sl none 0 0, .bool false, .sl (some (1, 0)) 1 1, .bool false, .sl (some (9, 0)) 2 2], [.int 20, .int 0, .int 0, .int (-1), .int 0, .int 0, .sl none 0 0, .sl (some (0, 0)) 4 cM, .sl none 0 0], [.int 1, .int 0, .int 0, .int 0, .int 0, .int 3, .sl none 0 0, .sl none 0 0, .sl none 0 0, .int 22, .int 0, .int 0, .int 0, .int 0, .int 0, .sl none 0 0, .sl none 0 0, .sl none 0 0], [.int 2], [.int 2], [.int 20, .int 0, .int 0, .int (-1), .int 0, .int 0, .sl none 0 0, .sl (some (0, 0)) 4 cM, .sl none 0 0], [.int 2], [.int (-1)], [.sl (some (14, 0)) 1 1, .sl (some (15, 0)) 1 1, .sl (some (16, 0)) 1 1, .sl (some (12, 0)) 2 2, .sl (some (17, 0)) 1 1, .sl (some (12, 0)) 2 2], [.sl none 0 0, .int 0, .int 1, .sl (some (5, 0)) 1 1, .sl (some (13, 0)) 1 1, .int 0, .int 1, .sl (some (18, 0)) 3 3]]) rfl) ht (c := ⟨some (10, 0), 3, cap, some (8, 0), 3, capS, none, 0, 0, none, 0, 0, some (19, 0), 2, capF, 0, 0⟩) (m := (⟨[⟨true, []⟩, ⟨false, [0]⟩, ⟨false, [1, 2]⟩], [⟨3, [], ⟨#[]⟩⟩, ⟨1, [0], ⟨#[]⟩⟩, ⟨1, [], ⟨#[]⟩⟩], [], [], [⟨[], 0, 1, [⟨[-1], [⟨1, 0, 0, 0, 0, 5, [], [], []⟩, ⟨22, 0, 0, 0, 0, 0, [], [], []⟩]⟩]⟩, ⟨[2], 0, 1, [⟨[2], [⟨20, 0, 0, (-1), 0, 0, [], [1, 1, 2, 2], []⟩]⟩, ⟨[2], [⟨1, 0, 0, 0, 0, 3, [], [], []⟩, ⟨22, 0, 0, 0, 0, 0, [], [], []⟩]⟩, ⟨[-1], [⟨1, 0, 0, 0, 0, 3, [], [], []⟩, ⟨22, 0, 0, 0, 0, 0, [], [], []⟩]⟩]⟩], 0, 0⟩ : M.Img)) (by kernel_rfl) (by decide +kernel) (by decide +kernel) (by decide +kernel)
      · obtain rfl := hb
        obtain ⟨gM, cM, rfl, rfl⟩ := hm
        exact Bm.says (Rws.holds rw7 (D := [[.int 1, .int 1, .int 2, .int 2], [.int 0], [.int 3, .sl none 0 0, .str ⟨#[]⟩], [.int (-1)], [.int 1, .int 0, .int 0, .int 0, .int 0, .int 5, .sl none 0 0, .sl none 0 0, .sl none 0 0, .int 22, .int 0, .int 0, .int 0, .int 0, .int 0, .sl none 0 0, .sl none 0 0, .sl none 0 0], [.sl (some (3, 0)) 1 1, .sl (some (4, 0)) 2 2], [.sl (some (10, 0)) 3 cap, .sl (some (8, 0)) 3 capS, .sl none 0 0, .sl none 0 0, .sl (some (19, 0)) 2 capF, .int 0, .int 0], [.int 0], [.int 3, .sl none 0 0, .str ⟨#[]⟩, .int 1, .sl (some (7, 0)) 1 1, .str ⟨#[]⟩, .int 1, .sl none 0 0, .str ⟨#[]⟩], [.int 1, .int 2], [.bool true, .sl none 0 0, .bool false, .sl (some (1, 0)) 1 1, .bool false, .sl (some (9, 0)) 2 2], [.int 20, .int 0, .int 0, .int 2, .int 0, .int 0, .sl none 0 0, .sl (some (0, 0)) 4 cM, .sl none 0 0], [.int 1, .int 0, .int 0, .int 0, .int 0, .int 3, .sl none 0 0, .sl none 0 0, .sl none 0 0, .int 22, .int 0, .int 0, .int 0, .int 0, .int 0, .sl none 0 0, .sl none 0 0, .sl none 0 0], [.int 2], [.int 2], [.int 20, .int 0, .int 0, .int 2, .int 0, .int 0, .sl none 0 0, .sl (some (0, 0)) 4 cM, .sl none 0 0], [.int 2], [.int (-1)], [.sl (some (14, 0)) 1 1, .sl (some (15, 0)) 1 1, .sl (some (16, 0)) 1 1, .sl (some (12, 0)) 2 2, .sl (some (17, 0)) 1 1, .sl (some (12, 0)) 2 2], [.sl none 0 0, .int 0, .int 1, .sl (some (5, 0)) 1 1, .sl (some (13, 0)) 1 1, .int 0, .int 1, .sl (some (18, 0)) 3 3]]) rfl) ht (c := ⟨some (10, 0), 3, cap, some (8, 0), 3, capS, none, 0, 0, none, 0, 0, some (19, 0), 2, capF, 0, 0⟩) (m := (⟨[⟨true, []⟩, ⟨false, [0]⟩, ⟨false, [1, 2]⟩], [⟨3, [], ⟨#[]⟩⟩, ⟨1, [0], ⟨#[]⟩⟩, ⟨1, [], ⟨#[]⟩⟩], [], [], [⟨[], 0, 1, [⟨[-1], [⟨1, 0, 0, 0, 0, 5, [], [], []⟩, ⟨22, 0, 0, 0, 0, 0, [], [], []⟩]⟩]⟩, ⟨[2], 0, 1, [⟨[2], [⟨20, 0, 0, 2, 0, 0, [], [1, 1, 2, 2], []⟩]⟩, ⟨[2], [⟨1, 0, 0, 0, 0, 3, [], [], []⟩, ⟨22, 0, 0, 0, 0, 0, [], [], []⟩]⟩, ⟨[-1], [⟨1, 0, 0, 0, 0, 3, [], [], []⟩, ⟨22, 0, 0, 0, 0, 0, [], [], []⟩]⟩]⟩], 0, 0⟩ : M.Img)) (by kernel_rfl) (by decide +kernel) (by decide +kernel) (by decide +kernel)
      · exact absurd hok (by decide)
      · obtain rfl := hb
        obtain ⟨gM, cM, rfl, rfl⟩ := hm
        exact Bm.says (Rws.holds rw7 (D := [[.int 1, .int 1, .int 2, .int 2], [.int 0], [.int 3, .sl none 0 0, .str ⟨#[]⟩], [.int (-1)], [.int 1, .int 0, .int 0, .int 0, .int 0, .int 5, .sl none 0 0, .sl none 0 0, .sl none 0 0, .int 22, .int 0, .int 0, .int 0, .int 0, .int 0, .sl none 0 0, .sl none 0 0, .sl none 0 0], [.sl (some (3, 0)) 1 1, .sl (some (4, 0)) 2 2], [.sl (some (10, 0)) 3 cap, .sl (some (8, 0)) 3 capS, .sl none 0 0, .sl none 0 0, .sl (some (19, 0)) 2 capF, .int 0, .int 0], [.int 0], [.int 3, .sl none 0 0, .str ⟨#[]⟩, .int 1, .sl (some (7, 0)) 1 1, .str ⟨#[]⟩, .int 1, .sl none 0 0, .str ⟨#[]⟩], [.int 1, .int 2], [.bool true, .sl none 0 0, .bool false, .sl (some (1, 0)) 1 1, .bool true, .sl (some (9, 0)) 2 2], [.int 20, .int 0, .int 0, .int 2, .int 0, .int 0, .sl none 0 0, .sl (some (0, 0)) 4 cM, .sl none 0 0], [.int 1, .int 0, .int 0, .int 0, .int 0, .int 3, .sl none 0 0, .sl none 0 0, .sl none 0 0, .int 22, .int 0, .int 0, .int 0, .int 0, .int 0, .sl none 0 0, .sl none 0 0, .sl none 0 0], [.int 2], [.int 2], [.int 20, .int 0, .int 0, .int 2, .int 0, .int 0, .sl none 0 0, .sl (some (0, 0)) 4 cM, .sl none 0 0], [.int 2], [.int (-1)], [.sl (some (14, 0)) 1 1, .sl (some (15, 0)) 1 1, .sl (some (16, 0)) 1 1, .sl (some (12, 0)) 2 2, .sl (some (17, 0)) 1 1, .sl (some (12, 0)) 2 2], [.sl none 0 0, .int 0, .int 1, .sl (some (5, 0)) 1 1, .sl (some (13, 0)) 1 1, .int 0, .int 1, .sl (some (18, 0)) 3 3]]) rfl) ht (c := ⟨some (10, 0), 3, cap, some (8, 0), 3, capS, none, 0, 0, none, 0, 0, some (19, 0), 2, capF, 0, 0⟩) (m := (⟨[⟨true, []⟩, ⟨false, [0]⟩, ⟨true, [1, 2]⟩], [⟨3, [], ⟨#[]⟩⟩, ⟨1, [0], ⟨#[]⟩⟩, ⟨1, [], ⟨#[]⟩⟩], [], [], [⟨[], 0, 1, [⟨[-1], [⟨1, 0, 0, 0, 0, 5, [], [], []⟩, ⟨22, 0, 0, 0, 0, 0, [], [], []⟩]⟩]⟩, ⟨[2], 0, 1, [⟨[2], [⟨20, 0, 0, 2, 0, 0, [], [1, 1, 2, 2], []⟩]⟩, ⟨[2], [⟨1, 0, 0, 0, 0, 3, [], [], []⟩, ⟨22, 0, 0, 0, 0, 0, [], [], []⟩]⟩, ⟨[-1], [⟨1, 0, 0, 0, 0, 3, [], [], []⟩, ⟨22, 0, 0, 0, 0, 0, [], [], []⟩]⟩]⟩], 0, 0⟩ : M.Img)) (by kernel_rfl) (by decide +kernel) (by decide +kernel) (by decide +kernel)
    refine HF8.mono ?_; rintro e w8 ⟨rfl, t8⟩
    have H8 := Lib.hid (And.intro (H7.out.1.still t8) (And.intro (H7.out.2.1.trans t8) (H7.out.2.2.trans t8.turn)))
    clear t8 HF8
    clear q0 q1 q2 q3 q4 q5 q6 qf0 ql
    have qR := H8.out.1.at 5 (b := Q) (e := 27) rfl
    have q0 := qR.cell (i := 0) rfl
    have q1 := qR.cell (i := 1) rfl
    have q2 := qR.cell (i := 2) rfl
    have q3 := qR.cell (i := 3) rfl
    have q4 := qR.cell (i := 4) rfl
    have q5 := qR.cell (i := 5) rfl
    have q6 := qR.cell (i := 6) rfl
    have qf0 := qR.frozen 0
    have ql := qR.lt
    clear qR
    go_wp2_with (at_builtin; refine wpList_append_form rfl (.tmp 83) (.tmp 86) 22 rfl 0 51 2 32 _ Tryz.underlying22 infoType rfl (by decide) (some ⟨g, 0, none⟩) 3 cap [.bool true, .slice none 0 0, .bool false, .slice (some ⟨p.p1, 0, none⟩) 1 1, .bool im, .slice (some ⟨I12, 0, none⟩) 2 2] rfl (own_keep HG.out ((H8.out.2.2.alloc (.cells #[.int .i64 1] 3)).alloc (.cells #[.bool false, .slice (some ⟨w8.heap.size, 0, none⟩) 1 1] 51)) (fun k e e2 => e2 (Option.some.inj (show some g = some k from e)).symm)) ⟨w8.heap.size + 1, 0, none⟩ 1 1 [.bool false, .slice (some ⟨w8.heap.size, 0, none⟩) 1 1] rfl rfl (fun j u hj => by rw [Addr.add_lit, Nat.zero_add]; exact Row.cell (xs := [.bool false, .slice (some ⟨w8.heap.size, 0, none⟩) 1 1]) (Blk.row' (cs := #[.bool false, .slice (some ⟨w8.heap.size, 0, none⟩) 1 1]) (blk_at' (by simp))) hj) (by simp [Value.oneCell']) (by decide) (by decide) (by decide) (Nat.zero_le _) ?_; intro g2 cap2 w9 ho9 ht9 hg9; refine Wait.out ?_)
    refine ⟨?_⟩
    clear q0 q1 q2 q3 q4 q5 q6 qf0 ql
    have tN : Turn (fun k => k = g) ((w8.alloc (.cells #[.int .i64 1] 3)).alloc (.cells #[.bool false, .slice (some ⟨w8.heap.size, 0, none⟩) 1 1] 51)) w9 := Turn.mono ht9.out fun k _ e => (Option.some.inj (show some g = some k from e)).symm
    have gN : g2 = g ∨ ((w8.alloc (.cells #[.int .i64 1] 3)).alloc (.cells #[.bool false, .slice (some ⟨w8.heap.size, 0, none⟩) 1 1] 51)).heap.size ≤ g2 := by
      rcases hg9.out with h | h
      · exact .inl (Option.some.inj (show some g = some g2 from h)).symm
      · exact .inr h
    have RW9 : Hid (PX pre w9 [(p.p1, 3, [.int .i64 0]), (p.p3, 42, [.int .i64 3, .slice none 0 0, .string ⟨#[]⟩]), (p.p4, 3, [.int .i64 (-1)]), (p.p5, 36, [.int .i64 1, .int .i64 0, .int .i64 0, .int .i64 0, .int .i64 0, .int .i64 5, .slice none 0 0, .slice none 0 0, .slice none 0 0, .int .i64 22, .int .i64 0, .int .i64 0, .int .i64 0, .int .i64 0, .int .i64 0, .slice none 0 0, .slice none 0 0, .slice none 0 0]), (p.p6, 48, [.slice (some ⟨p.p4, 0, none⟩) 1 1, .slice (some ⟨p.p5, 0, none⟩) 2 2]), (Q, 27, [.slice (some ⟨g, 0, none⟩) 3 cap, .slice (some ⟨gS, 0, none⟩) 3 capS, .slice none 0 0, .slice none 0 0, .slice (some ⟨gF, 0, none⟩) 2 capF, .int .i64 0, .int .i64 0]), (Q + 1, 3, [.int .i64 0]), (gS, 42, [.int .i64 3, .slice none 0 0, .string ⟨#[]⟩, .int .i64 1, .slice (some ⟨Q + 1, 0, none⟩) 1 1, .string ⟨#[]⟩, .int .i64 1, .slice none 0 0, .string ⟨#[]⟩]), (I12, 3, [.int .i64 1, .int .i64 2]), (g2, 51, [.bool true, .slice none 0 0, .bool false, .slice (some ⟨p.p1, 0, none⟩) 1 1, .bool im, .slice (some ⟨I12, 0, none⟩) 2 2, .bool false, .slice (some ⟨w8.heap.size, 0, none⟩) 1 1]), (X, 36, [.int .i64 20, .int .i64 0, .int .i64 0, .int .i64 bv, .int .i64 0, .int .i64 0, .slice none 0 0, mv, .slice none 0 0]), (Z0, 36, [.int .i64 1, .int .i64 0, .int .i64 0, .int .i64 0, .int .i64 0, .int .i64 3, .slice none 0 0, .slice none 0 0, .slice none 0 0, .int .i64 22, .int .i64 0, .int .i64 0, .int .i64 0, .int .i64 0, .int .i64 0, .slice none 0 0, .slice none 0 0, .slice none 0 0]), (A1, 3, [.int .i64 2]), (A2, 3, [.int .i64 2]), (XR, 36, [.int .i64 20, .int .i64 0, .int .i64 0, .int .i64 bv, .int .i64 0, .int .i64 0, .slice none 0 0, mv, .slice none 0 0]), (A3, 3, [.int .i64 2]), (A4, 3, [.int .i64 (-1)]), (BB, 48, [.slice (some ⟨A2, 0, none⟩) 1 1, .slice (some ⟨XR, 0, none⟩) 1 1, .slice (some ⟨A3, 0, none⟩) 1 1, .slice (some ⟨Z0, 0, none⟩) 2 2, .slice (some ⟨A4, 0, none⟩) 1 1, .slice (some ⟨Z0, 0, none⟩) 2 2]), (gF, 45, [.slice none 0 0, .int .i64 0, .int .i64 1, .slice (some ⟨p.p6, 0, none⟩) 1 1, .slice (some ⟨A1, 0, none⟩) 1 1, .int .i64 0, .int .i64 1, .slice (some ⟨BB, 0, none⟩) 3 3]), (w8.heap.size, 3, [.int .i64 1])]) := (((H8.out.1.made (b := w8.heap.size) (e := 3) (cs := #[.int .i64 1]) rfl).alloc (.cells #[.bool false, .slice (some ⟨w8.heap.size, 0, none⟩) 1 1] 51)).grew 9 rfl tN (own_row2 ho9.out) gN)
    have S9 : Hid (Still w1 w9) := ((((H8.out.2.1.alloc (.cells #[.int .i64 1] 3)).alloc (.cells #[.bool false, .slice (some ⟨w8.heap.size, 0, none⟩) 1 1] 51)).turn (S := fun j => j = g)).trans tN).mono fun j hj e => by have := HGB.out; have e2 : j = g := e; omega
    obtain ⟨J1, hJ1⟩ : ∃ J1, w8.heap.size = J1 := ⟨_, rfl⟩
    rw [hJ1] at RW9
    clear hJ1 tN gN ho9 ht9 hg9 H8
    have qR := RW9.out.at 5 (b := Q) (e := 27) rfl
    have q0 := qR.cell (i := 0) rfl
    have q1 := qR.cell (i := 1) rfl
    have q2 := qR.cell (i := 2) rfl
    have q3 := qR.cell (i := 3) rfl
    have q4 := qR.cell (i := 4) rfl
    have q5 := qR.cell (i := 5) rfl
    have q6 := qR.cell (i := 6) rfl
    have qf0 := qR.frozen 0
    have ql := qR.lt
    clear qR
    have fR := RW9.out.at 18 (b := gF) (e := 45) rfl
    have f0 := fR.cell (i := 0) rfl
    have f1 := fR.cell (i := 1) rfl
    have f2 := fR.cell (i := 2) rfl
    have f3 := fR.cell (i := 3) rfl
    have f4 := fR.cell (i := 4) rfl
    have f5 := fR.cell (i := 5) rfl
    have f6 := fR.cell (i := 6) rfl
    have f7 := fR.cell (i := 7) rfl
    have fl := fR.lt
    clear fR
    have bR := RW9.out.at 17 (b := BB) (e := 48) rfl
    have b0 := bR.cell (i := 0) rfl
    have b1 := bR.cell (i := 1) rfl
    have b2 := bR.cell (i := 2) rfl
    have b3 := bR.cell (i := 3) rfl
    have b4 := bR.cell (i := 4) rfl
    have b5 := bR.cell (i := 5) rfl
    have bf2 := bR.frozen 2
    have bf3 := bR.frozen 3
    have bl := bR.lt
    clear bR
    have nQgF : Q ≠ gF := RW9.out.ne 5 18 rfl rfl (by decide)
    have ngFQ : gF ≠ Q := fun e => nQgF e.symm
    have nQBB : Q ≠ BB := RW9.out.ne 5 17 rfl rfl (by decide)
    have nBBQ : BB ≠ Q := fun e => nQBB e.symm
    have ngFBB : gF ≠ BB := RW9.out.ne 18 17 rfl rfl (by decide)
    have nBBgF : BB ≠ gF := fun e => ngFBB e.symm
    go_wp2_with fail
    clear q0 q1 q2 q3 q4 q5 q6 qf0 ql
    clear f0 f1 f2 f3 f4 f5 f6 f7 fl
    clear b0 b1 b2 b3 b4 b5 bf2 bf3 bl
    generalize hWA : ((((w9.setCell ⟨Q, 0, none⟩ (.slice (some ⟨g2, 0, none⟩) 4 cap2)).setCell ⟨BB, 2, none⟩ (.slice (some ⟨w9.heap.size, 0, none⟩) 1 1)).setCell ⟨BB, 3, none⟩ (.slice (some ⟨w9.heap.size + 1, 0, none⟩) 2 2)).alloc (.cells #[.int .i64 3] 3)).alloc (.cells #[.int .i64 6, .int .i64 0, .int .i64 0, .int .i64 0, .int .i64 0, .int .i64 0, .slice none 0 0, .slice none 0 0, .slice none 0 0, .int .i64 22, .int .i64 0, .int .i64 0, .int .i64 0, .int .i64 0, .int .i64 0, .slice none 0 0, .slice none 0 0, .slice none 0 0] 36) = wA
    have HA : Hid (PX pre wA [(p.p1, 3, [.int .i64 0]), (p.p3, 42, [.int .i64 3, .slice none 0 0, .string ⟨#[]⟩]), (p.p4, 3, [.int .i64 (-1)]), (p.p5, 36, [.int .i64 1, .int .i64 0, .int .i64 0, .int .i64 0, .int .i64 0, .int .i64 5, .slice none 0 0, .slice none 0 0, .slice none 0 0, .int .i64 22, .int .i64 0, .int .i64 0, .int .i64 0, .int .i64 0, .int .i64 0, .slice none 0 0, .slice none 0 0, .slice none 0 0]), (p.p6, 48, [.slice (some ⟨p.p4, 0, none⟩) 1 1, .slice (some ⟨p.p5, 0, none⟩) 2 2]), (Q, 27, [.slice (some ⟨g2, 0, none⟩) 4 cap2, .slice (some ⟨gS, 0, none⟩) 3 capS, .slice none 0 0, .slice none 0 0, .slice (some ⟨gF, 0, none⟩) 2 capF, .int .i64 0, .int .i64 0]), (Q + 1, 3, [.int .i64 0]), (gS, 42, [.int .i64 3, .slice none 0 0, .string ⟨#[]⟩, .int .i64 1, .slice (some ⟨Q + 1, 0, none⟩) 1 1, .string ⟨#[]⟩, .int .i64 1, .slice none 0 0, .string ⟨#[]⟩]), (I12, 3, [.int .i64 1, .int .i64 2]), (g2, 51, [.bool true, .slice none 0 0, .bool false, .slice (some ⟨p.p1, 0, none⟩) 1 1, .bool im, .slice (some ⟨I12, 0, none⟩) 2 2, .bool false, .slice (some ⟨J1, 0, none⟩) 1 1]), (X, 36, [.int .i64 20, .int .i64 0, .int .i64 0, .int .i64 bv, .int .i64 0, .int .i64 0, .slice none 0 0, mv, .slice none 0 0]), (Z0, 36, [.int .i64 1, .int .i64 0, .int .i64 0, .int .i64 0, .int .i64 0, .int .i64 3, .slice none 0 0, .slice none 0 0, .slice none 0 0, .int .i64 22, .int .i64 0, .int .i64 0, .int .i64 0, .int .i64 0, .int .i64 0, .slice none 0 0, .slice none 0 0, .slice none 0 0]), (A1, 3, [.int .i64 2]), (A2, 3, [.int .i64 2]), (XR, 36, [.int .i64 20, .int .i64 0, .int .i64 0, .int .i64 bv, .int .i64 0, .int .i64 0, .slice none 0 0, mv, .slice none 0 0]), (A3, 3, [.int .i64 2]), (A4, 3, [.int .i64 (-1)]), (BB, 48, [.slice (some ⟨A2, 0, none⟩) 1 1, .slice (some ⟨XR, 0, none⟩) 1 1, .slice (some ⟨w9.heap.size, 0, none⟩) 1 1, .slice (some ⟨w9.heap.size + 1, 0, none⟩) 2 2, .slice (some ⟨A4, 0, none⟩) 1 1, .slice (some ⟨Z0, 0, none⟩) 2 2]), (gF, 45, [.slice none 0 0, .int .i64 0, .int .i64 1, .slice (some ⟨p.p6, 0, none⟩) 1 1, .slice (some ⟨A1, 0, none⟩) 1 1, .int .i64 0, .int .i64 1, .slice (some ⟨BB, 0, none⟩) 3 3]), (J1, 3, [.int .i64 1]), (w9.heap.size, 3, [.int .i64 3]), (w9.heap.size + 1, 36, [.int .i64 6, .int .i64 0, .int .i64 0, .int .i64 0, .int .i64 0, .int .i64 0, .slice none 0 0, .slice none 0 0, .slice none 0 0, .int .i64 22, .int .i64 0, .int .i64 0, .int .i64 0, .int .i64 0, .int .i64 0, .slice none 0 0, .slice none 0 0, .slice none 0 0])] ∧ Still w1 wA) := by
      rw [← hWA]
      exact ⟨(((((RW9.out.set 5 rfl 0 (by simp) (.slice (some ⟨g2, 0, none⟩) 4 cap2)).set 17 rfl 2 (by simp) (.slice (some ⟨w9.heap.size, 0, none⟩) 1 1)).set 17 rfl 3 (by simp) (.slice (some ⟨w9.heap.size + 1, 0, none⟩) 2 2)).made (b := w9.heap.size) (e := 3) (cs := #[.int .i64 3]) (by simp)).made (b := w9.heap.size + 1) (e := 36) (cs := #[.int .i64 6, .int .i64 0, .int .i64 0, .int .i64 0, .int .i64 0, .int .i64 0, .slice none 0 0, .slice none 0 0, .slice none 0 0, .int .i64 22, .int .i64 0, .int .i64 0, .int .i64 0, .int .i64 0, .int .i64 0, .slice none 0 0, .slice none 0 0, .slice none 0 0]) (by simp)), (((((S9.out.setCell (p := ⟨Q, 0, none⟩) (fun h => absurd h (by have := HX.out.2.2; show ¬ Q < _; omega)) _).setCell (p := ⟨BB, 2, none⟩) (fun h => absurd h (by have := HGE_BB.out; show ¬ BB < _; omega)) _).setCell (p := ⟨BB, 3, none⟩) (fun h => absurd h (by have := HGE_BB.out; show ¬ BB < _; omega)) _).alloc _).alloc _)⟩
    obtain ⟨K3, hK3⟩ : ∃ K3, w9.heap.size = K3 := ⟨_, rfl⟩
    obtain ⟨C3, hC3⟩ : ∃ C3, K3 + 1 = C3 := ⟨_, rfl⟩
    rw [hK3, hC3] at HA
    clear hWA hK3 hC3 RW9 S9
    have HF9 : Calls Tryz.prog 12 #[.agg #[.slice (some ⟨g2, 0, none⟩) 4 cap2, .slice (some ⟨gS, 0, none⟩) 3 capS, .slice none 0 0, .slice none 0 0, .slice (some ⟨gF, 0, none⟩) 2 capF, .int .i64 0, .int .i64 0]] wA fun e w' => e = .returned (.int .i64 0) ∧ Still wA w' := by
      have hm := HM.out
      have hb := HBV.out
      have hok := HOK.out
      have rw7 := HA.out.1
      have ht := HT.out _ (H1.out.2.trans (HA.out.2))
      cases f1 <;> cases s2 <;> cases im <;> cases ot
      · exact absurd hok (by decide)
      · exact absurd hok (by decide)
      · exact absurd hok (by decide)
      · exact absurd hok (by decide)
      · exact absurd hok (by decide)
      · exact absurd hok (by decide)
      · exact absurd hok (by decide)
      · exact absurd hok (by decide)
      · exact absurd hok (by decide)
      · exact absurd hok (by decide)
      · exact absurd hok (by decide)
      · exact absurd hok (by decide)
      · obtain rfl := hb
        obtain ⟨gM, cM, rfl, rfl⟩ := hm
        exact Bm.says (Rws.holds rw7 (D := [[.int 1, .int 1, .int 2, .int 2], [.int 0], [.int 3, .sl none 0 0, .str ⟨#[]⟩], [.int (-1)], [.int 1, .int 0, .int 0, .int 0, .int 0, .int 5, .sl none 0 0, .sl none 0 0, .sl none 0 0, .int 22, .int 0, .int 0, .int 0, .int 0, .int 0, .sl none 0 0, .sl none 0 0, .sl none 0 0], [.sl (some (3, 0)) 1 1, .sl (some (4, 0)) 2 2], [.sl (some (10, 0)) 4 cap2, .sl (some (8, 0)) 3 capS, .sl none 0 0, .sl none 0 0, .sl (some (19, 0)) 2 capF, .int 0, .int 0], [.int 0], [.int 3, .sl none 0 0, .str ⟨#[]⟩, .int 1, .sl (some (7, 0)) 1 1, .str ⟨#[]⟩, .int 1, .sl none 0 0, .str ⟨#[]⟩], [.int 1, .int 2], [.bool true, .sl none 0 0, .bool false, .sl (some (1, 0)) 1 1, .bool false, .sl (some (9, 0)) 2 2, .bool false, .sl (some (20, 0)) 1 1], [.int 20, .int 0, .int 0, .int (-1), .int 0, .int 0, .sl none 0 0, .sl (some (0, 0)) 4 cM, .sl none 0 0], [.int 1, .int 0, .int 0, .int 0, .int 0, .int 3, .sl none 0 0, .sl none 0 0, .sl none 0 0, .int 22, .int 0, .int 0, .int 0, .int 0, .int 0, .sl none 0 0, .sl none 0 0, .sl none 0 0], [.int 2], [.int 2], [.int 20, .int 0, .int 0, .int (-1), .int 0, .int 0, .sl none 0 0, .sl (some (0, 0)) 4 cM, .sl none 0 0], [.int 2], [.int (-1)], [.sl (some (14, 0)) 1 1, .sl (some (15, 0)) 1 1, .sl (some (21, 0)) 1 1, .sl (some (22, 0)) 2 2, .sl (some (17, 0)) 1 1, .sl (some (12, 0)) 2 2], [.sl none 0 0, .int 0, .int 1, .sl (some (5, 0)) 1 1, .sl (some (13, 0)) 1 1, .int 0, .int 1, .sl (some (18, 0)) 3 3], [.int 1], [.int 3], [.int 6, .int 0, .int 0, .int 0, .int 0, .int 0, .sl none 0 0, .sl none 0 0, .sl none 0 0, .int 22, .int 0, .int 0, .int 0, .int 0, .int 0, .sl none 0 0, .sl none 0 0, .sl none 0 0]]) rfl) ht (c := ⟨some (10, 0), 4, cap2, some (8, 0), 3, capS, none, 0, 0, none, 0, 0, some (19, 0), 2, capF, 0, 0⟩) (m := (⟨[⟨true, []⟩, ⟨false, [0]⟩, ⟨false, [1, 2]⟩, ⟨false, [1]⟩], [⟨3, [], ⟨#[]⟩⟩, ⟨1, [0], ⟨#[]⟩⟩, ⟨1, [], ⟨#[]⟩⟩], [], [], [⟨[], 0, 1, [⟨[-1], [⟨1, 0, 0, 0, 0, 5, [], [], []⟩, ⟨22, 0, 0, 0, 0, 0, [], [], []⟩]⟩]⟩, ⟨[2], 0, 1, [⟨[2], [⟨20, 0, 0, (-1), 0, 0, [], [1, 1, 2, 2], []⟩]⟩, ⟨[3], [⟨6, 0, 0, 0, 0, 0, [], [], []⟩, ⟨22, 0, 0, 0, 0, 0, [], [], []⟩]⟩, ⟨[-1], [⟨1, 0, 0, 0, 0, 3, [], [], []⟩, ⟨22, 0, 0, 0, 0, 0, [], [], []⟩]⟩]⟩], 0, 0⟩ : M.Img)) (by kernel_rfl) (by decide +kernel) (by decide +kernel) (by decide +kernel)
      · obtain rfl := hb
        obtain ⟨gM, cM, rfl, rfl⟩ := hm
        exact Bm.says (Rws.holds rw7 (D := [[.int 1, .int 1, .int 2, .int 2], [.int 0], [.int 3, .sl none 0 0, .str ⟨#[]⟩], [.int (-1)], [.int 1, .int 0, .int 0, .int 0, .int 0, .int 5, .sl none 0 0, .sl none 0 0, .sl none 0 0, .int 22, .int 0, .int 0, .int 0, .int 0, .int 0, .sl none 0 0, .sl none 0 0, .sl none 0 0], [.sl (some (3, 0)) 1 1, .sl (some (4, 0)) 2 2], [.sl (some (10, 0)) 4 cap2, .sl (some (8, 0)) 3 capS, .sl none 0 0, .sl none 0 0, .sl (some (19, 0)) 2 capF, .int 0, .int 0], [.int 0], [.int 3, .sl none 0 0, .str ⟨#[]⟩, .int 1, .sl (some (7, 0)) 1 1, .str ⟨#[]⟩, .int 1, .sl none 0 0, .str ⟨#[]⟩], [.int 1, .int 2], [.bool true, .sl none 0 0, .bool false, .sl (some (1, 0)) 1 1, .bool false, .sl (some (9, 0)) 2 2, .bool false, .sl (some (20, 0)) 1 1], [.int 20, .int 0, .int 0, .int 2, .int 0, .int 0, .sl none 0 0, .sl (some (0, 0)) 4 cM, .sl none 0 0], [.int 1, .int 0, .int 0, .int 0, .int 0, .int 3, .sl none 0 0, .sl none 0 0, .sl none 0 0, .int 22, .int 0, .int 0, .int 0, .int 0, .int 0, .sl none 0 0, .sl none 0 0, .sl none 0 0], [.int 2], [.int 2], [.int 20, .int 0, .int 0, .int 2, .int 0, .int 0, .sl none 0 0, .sl (some (0, 0)) 4 cM, .sl none 0 0], [.int 2], [.int (-1)], [.sl (some (14, 0)) 1 1, .sl (some (15, 0)) 1 1, .sl (some (21, 0)) 1 1, .sl (some (22, 0)) 2 2, .sl (some (17, 0)) 1 1, .sl (some (12, 0)) 2 2], [.sl none 0 0, .int 0, .int 1, .sl (some (5, 0)) 1 1, .sl (some (13, 0)) 1 1, .int 0, .int 1, .sl (some (18, 0)) 3 3], [.int 1], [.int 3], [.int 6, .int 0, .int 0, .int 0, .int 0, .int 0, .sl none 0 0, .sl none 0 0, .sl none 0 0, .int 22, .int 0, .int 0, .int 0, .int 0, .int 0, .sl none 0 0, .sl none 0 0, .sl none 0 0]]) rfl) ht (c := ⟨some (10, 0), 4, cap2, some (8, 0), 3, capS, none, 0, 0, none, 0, 0, some (19, 0), 2, capF, 0, 0⟩) (m := (⟨[⟨true, []⟩, ⟨false, [0]⟩, ⟨false, [1, 2]⟩, ⟨false, [1]⟩], [⟨3, [], ⟨#[]⟩⟩, ⟨1, [0], ⟨#[]⟩⟩, ⟨1, [], ⟨#[]⟩⟩], [], [], [⟨[], 0, 1, [⟨[-1], [⟨1, 0, 0, 0, 0, 5, [], [], []⟩, ⟨22, 0, 0, 0, 0, 0, [], [], []⟩]⟩]⟩, ⟨[2], 0, 1, [⟨[2], [⟨20, 0, 0, 2, 0, 0, [], [1, 1, 2, 2], []⟩]⟩, ⟨[3], [⟨6, 0, 0, 0, 0, 0, [], [], []⟩, ⟨22, 0, 0, 0, 0, 0, [], [], []⟩]⟩, ⟨[-1], [⟨1, 0, 0, 0, 0, 3, [], [], []⟩, ⟨22, 0, 0, 0, 0, 0, [], [], []⟩]⟩]⟩], 0, 0⟩ : M.Img)) (by kernel_rfl) (by decide +kernel) (by decide +kernel) (by decide +kernel)
      · exact absurd hok (by decide)
      · obtain rfl := hb
        obtain ⟨gM, cM, rfl, rfl⟩ := hm
        exact Bm.says (Rws.holds rw7 (D := [[.int 1, .int 1, .int 2, .int 2], [.int 0], [.int 3, .sl none 0 0, .str ⟨#[]⟩], [.int (-1)], [.int 1, .int 0, .int 0, .int 0, .int 0, .int 5, .sl none 0 0, .sl none 0 0, .sl none 0 0, .int 22, .int 0, .int 0, .int 0, .int 0, .int 0, .sl none 0 0, .sl none 0 0, .sl none 0 0], [.sl (some (3, 0)) 1 1, .sl (some (4, 0)) 2 2], [.sl (some (10, 0)) 4 cap2, .sl (some (8, 0)) 3 capS, .sl none 0 0, .sl none 0 0, .sl (some (19, 0)) 2 capF, .int 0, .int 0], [.int 0], [.int 3, .sl none 0 0, .str ⟨#[]⟩, .int 1, .sl (some (7, 0)) 1 1, .str ⟨#[]⟩, .int 1, .sl none 0 0, .str ⟨#[]⟩], [.int 1, .int 2], [.bool true, .sl none 0 0, .bool false, .sl (some (1, 0)) 1 1, .bool true, .sl (some (9, 0)) 2 2, .bool false, .sl (some (20, 0)) 1 1], [.int 20, .int 0, .int 0, .int 2, .int 0, .int 0, .sl none 0 0, .sl (some (0, 0)) 4 cM, .sl none 0 0], [.int 1, .int 0, .int 0, .int 0, .int 0, .int 3, .sl none 0 0, .sl none 0 0, .sl none 0 0, .int 22, .int 0, .int 0, .int 0, .int 0, .int 0, .sl none 0 0, .sl none 0 0, .sl none 0 0], [.int 2], [.int 2], [.int 20, .int 0, .int 0, .int 2, .int 0, .int 0, .sl none 0 0, .sl (some (0, 0)) 4 cM, .sl none 0 0], [.int 2], [.int (-1)], [.sl (some (14, 0)) 1 1, .sl (some (15, 0)) 1 1, .sl (some (21, 0)) 1 1, .sl (some (22, 0)) 2 2, .sl (some (17, 0)) 1 1, .sl (some (12, 0)) 2 2], [.sl none 0 0, .int 0, .int 1, .sl (some (5, 0)) 1 1, .sl (some (13, 0)) 1 1, .int 0, .int 1, .sl (some (18, 0)) 3 3], [.int 1], [.int 3], [.int 6, .int 0, .int 0, .int 0, .int 0, .int 0, .sl none 0 0, .sl none 0 0, .sl none 0 0, .int 22, .int 0, .int 0, .int 0, .int 0, .int 0, .sl none 0 0, .sl none 0 0, .sl none 0 0]]) rfl) ht (c := ⟨some (10, 0), 4, cap2, some (8, 0), 3, capS, none, 0, 0, none, 0, 0, some (19, 0), 2, capF, 0, 0⟩) (m := (⟨[⟨true, []⟩, ⟨false, [0]⟩, ⟨true, [1, 2]⟩, ⟨false, [1]⟩], [⟨3, [], ⟨#[]⟩⟩, ⟨1, [0], ⟨#[]⟩⟩, ⟨1, [], ⟨#[]⟩⟩], [], [], [⟨[], 0, 1, [⟨[-1], [⟨1, 0, 0, 0, 0, 5, [], [], []⟩, ⟨22, 0, 0, 0, 0, 0, [], [], []⟩]⟩]⟩, ⟨[2], 0, 1, [⟨[2], [⟨20, 0, 0, 2, 0, 0, [], [1, 1, 2, 2], []⟩]⟩, ⟨[3], [⟨6, 0, 0, 0, 0, 0, [], [], []⟩, ⟨22, 0, 0, 0, 0, 0, [], [], []⟩]⟩, ⟨[-1], [⟨1, 0, 0, 0, 0, 3, [], [], []⟩, ⟨22, 0, 0, 0, 0, 0, [], [], []⟩]⟩]⟩], 0, 0⟩ : M.Img)) (by kernel_rfl) (by decide +kernel) (by decide +kernel) (by decide +kernel)
    refine HF9.mono ?_; rintro e wB ⟨rfl, tB⟩
    have SL : Hid (Still w wB) := H1.out.2.trans (HA.out.2.trans tB)
    clear tB HF9 HA
    go_wp2_with fail
    refine (lives_any _ (HT.out _ SL.out)).mono ?_; rintro e wl ⟨rfl, tl⟩
    have SL2 : Hid (Still w wl) := SL.out.trans tl
    clear tl
    go_wp2_with fail
    go_ret
    exact ⟨rfl, SL2.out⟩
end Go.Proofs.YtglalgjffkoneaaGreatDoor
