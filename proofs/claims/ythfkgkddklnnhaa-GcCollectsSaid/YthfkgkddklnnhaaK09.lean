/- Lemmas, put together: Agree Chain Walk Holds Laid. -/
import Derived.Test.YthfkgkddklnnhaaK08
import Derived.Test.YthfkgkddklnnhaaK02
import Derived.Deep.RegionWith
import Derived.Test.YthfkgkddklnnhaaK03
import Derived.StillTailTactics
/- A heap and the document's heap that say the same, wherever they were made; rows of words. -/
namespace Go.Proofs.Ythfkgkddklnnhaa
set_option linter.unusedVariables false
open Go.ChangeShapes Go.WideShapes Go.ChangeAt Go.RowKit
open M (W)

structure Agree (B : Nat) (w : World) (s : St) (x : Rf) : Prop where
  hp : HpIs w s
  rf : RfIs B w x
  n : x.n = s.n
  len : x.len = s.m
  K : x.K = s.lk
  N : x.N = s.ln
  sim : Sim s x.L
theorem Both.agree {w0 w : World} {s : St} {x : Rf} (h : Both w0 w s x) : Agree w0.heap.size w s x := ⟨h.hp, h.rf, h.n, h.len, h.K, h.N, h.sim⟩
theorem Agree.still {B : Nat} {w w' : World} {s : St} {x : Rf} (h : Agree B w s x) (t : Still w w') : Agree B w' s x := { h with hp := h.hp.still t, rf := h.rf.still t }
theorem Agree.kd {B : Nat} {w : World} {s : St} {x : Rf} (h : Agree B w s x) (i : Int) : M.kd x.len x.K i = s.kind i ∧ M.kd x.len x.N i = s.len i := by
  rw [h.len, h.K, h.N]; exact ⟨rfl, rfl⟩
theorem Agree.valid {B : Nat} {w : World} {s : St} {x : Rf} (h : Agree B w s x) : ∀ j, j < x.len → x.K j = 1 ∨ x.K j = 2 ∨ x.K j = 3 := by
  rw [h.len, h.K]; exact h.hp.kinds
theorem Agree.sum {B : Nat} {w : World} {s : St} {x : Rf} (h : Agree B w s x) : x.sum x.L = s.top := by
  have := Tile.sum (s := s) (x := x) (fun o ho => by
    have hg := (h.sim.good o ho).sz.2.1
    unfold Rf.need
    rw [(h.kd o.sh).1, (h.kd o.sh).2]
    exact hg) x.L 0 (fun o ho => ho) h.sim.tile
  simpa using this
theorem Tile.le {s : St} : ∀ {L : List RO} {p : Nat}, Tile s p L → p ≤ s.top
  | [], p, h => Nat.le_of_eq h
  | o :: L, p, h => by have := Tile.le h.2; omega
theorem Tile.drop {s : St} {L : List RO} {j p : Nat} {o : RO} (h : Tile s p (L.drop j)) (hj : L[j]? = some o) : o.at_ = p ∧ Tile s (p + s.sz o) (L.drop (j + 1)) := by
  have e : L.drop j = o :: L.drop (j + 1) := by
    obtain ⟨hl, he⟩ := List.getElem?_eq_some_iff.1 hj
    rw [List.drop_eq_getElem_cons hl, he]
  rw [e] at h; exact h
theorem Good.flat {s : St} {o : RO} (h : Good s o) : s.sz o = 1 + o.fs.length + (o.bs.length + 7) / 8 ∧ (∀ i, i < o.fs.length → s.ws (o.at_ + 1 + i) = o.fs.getD i 0) ∧
    (∀ q, q < (o.bs.length + 7) / 8 → s.ws (o.at_ + 1 + o.fs.length + q) = M.wordOf o.bs q) ∧ o.fs.length ≤ 65536 ∧ o.bs.length ≤ 65536 := by
  have z := h.sz.1
  have k := h.kd.2.1
  by_cases hk : s.kind o.sh = 3
  · obtain ⟨f1, f2, f3⟩ := h.b hk
    rw [if_pos hk] at z
    have hl : o.fs.length = 0 := by rw [f1]; rfl
    refine ⟨by omega, fun i hi => by omega, fun q hq => ?_, by omega, by omega⟩
    rw [hl, Nat.add_zero]; exact f3 q (by omega)
  · obtain ⟨f1, f2, f3⟩ := h.f hk
    rw [if_neg hk] at z
    have hl : o.bs.length = 0 := by rw [f1]; rfl
    exact ⟨by omega, fun i hi => f3 i (by omega), fun q hq => by omega, by omega, by omega⟩

/-- The first words of a heap, as a row of values. -/
def M.u64s (f : Nat → Nat) (k : Nat) : List Value := (List.range k).map fun i => Value.int .u64 (f i : Int)
theorem u64s_len (f : Nat → Nat) (k : Nat) : (M.u64s f k).length = k := by simp [M.u64s]
theorem u64s_succ (f : Nat → Nat) (k : Nat) : M.u64s f (k + 1) = M.u64s f k ++ [.int .u64 (f k : Int)] := by
  unfold M.u64s; rw [List.range_succ, List.map_append]; rfl
theorem u64s_get (f : Nat → Nat) (k i : Nat) (h : i < k) : (M.u64s f k)[i]? = some (.int .u64 (f i : Int)) := by
  unfold M.u64s; rw [List.getElem?_map, List.getElem?_range h]; rfl
theorem u64s_row (f : Nat → Nat) (k : Nat) (l : List Nat) (h : ∀ i, i < l.length → f (k + i) = l.getD i 0) : M.u64s f k ++ l.map (fun v : Nat => Value.int .u64 (v : Int)) = M.u64s f (k + l.length) := by
  apply List.ext_getElem?
  intro i
  by_cases h1 : i < k
  · rw [List.getElem?_append_left (by rw [u64s_len]; exact h1), u64s_get f k i h1, u64s_get f _ i (by omega)]
  · rw [List.getElem?_append_right (by rw [u64s_len]; omega), u64s_len]
    by_cases h2 : i < k + l.length
    · rw [u64s_get f _ i h2, List.getElem?_map, List.getElem?_eq_getElem (show i - k < l.length by omega)]
      have := h (i - k) (by omega)
      rw [show k + (i - k) = i by omega, List.getD_eq_getElem?_getD, List.getElem?_eq_getElem (show i - k < l.length by omega)] at this
      rw [this]; rfl
    · rw [List.getElem?_eq_none (show (l.map fun v : Nat => Value.int .u64 (v : Int)).length ≤ i - k by simp; omega), List.getElem?_eq_none (show (M.u64s f (k + l.length)).length ≤ i by rw [u64s_len]; omega)]
theorem u64s_one (f : Nat → Nat) (k : Nat) : ∀ u ∈ M.u64s f k, u.oneCell' = true := by
  intro u hu
  unfold M.u64s at hu
  obtain ⟨i, _, rfl⟩ := List.mem_map.1 hu
  rfl
theorem nats_one (l : List Nat) : ∀ u ∈ l.map (fun v : Nat => Value.int .u64 (v : Int)), u.oneCell' = true := by
  intro u hu
  obtain ⟨i, _, rfl⟩ := List.mem_map.1 hu
  rfl
theorem infoU : (Try.prog.info? 33).map (fun i => (i.zero, i.size, i.bytes)) = some (some (.int .u64 0), 1, 8) := by kernel_rfl
end Go.Proofs.Ythfkgkddklnnhaa
/- Heads one behind the other up to a top: what Close's walks go by. Plain facts. -/
namespace Go.Proofs.Ythfkgkddklnnhaa
set_option linter.unusedVariables false
open M (W)

/-- How many words the object takes whose head the word at p is. -/
def St.nd (s : St) (p : Nat) : Nat := (s.ob (s.ws p)).need.toNat
/-- From a to p stand the heads l, one behind the other, each read within top and good. -/
def ChainTo (s : St) (top : Nat) (good : Nat → Bool) : Nat → Nat → List Nat → Prop
  | a, p, [] => a = p
  | a, p, b :: l => b = a ∧ a < top ∧ s.reads a top = true ∧ good a = true ∧ ChainTo s top good (a + s.nd a) p l
variable {s : St} {top : Nat} {good : Nat → Bool}
theorem St.reads_need {p : Nat} (h : s.reads p top = true) : (s.ob (s.ws p)).need = (s.nd p : Int) ∧ 1 ≤ s.nd p ∧ p + s.nd p ≤ top := by
  unfold St.reads at h
  rw [Bool.and_eq_true, decide_eq_true_eq, decide_eq_true_eq] at h
  obtain ⟨h1, h2⟩ := h
  have h3 : 1 ≤ (s.ob (s.ws p)).need := by
    unfold St.obE St.needE at h1
    unfold St.ob St.need
    show 1 ≤ M.need _ _ _
    generalize s.kind (M.sh (s.ws p)) = K at *
    generalize s.len (M.sh (s.ws p)) = N at *
    have hn := M.ln_lo (s.ws p)
    unfold M.needE at h1
    unfold M.need
    by_cases c1 : K = 0 ∨ M.ln (s.ws p) < 0 ∨ (K = 1 ∧ M.ln (s.ws p) ≠ N)
    · rw [if_pos c1] at h1; omega
    · rw [if_neg c1] at h1 ⊢
      by_cases c2 : 65536 < M.ln (s.ws p)
      · rw [if_pos c2] at h1; omega
      · rw [if_neg c2]; split <;> omega
  unfold St.nd
  omega
theorem ChainTo.le : ∀ {l : List Nat} {a p : Nat}, ChainTo s top good a p l → a ≤ p
  | [], a, p, h => Nat.le_of_eq h
  | b :: l, a, p, h => by have := ChainTo.le h.2.2.2.2; omega
theorem ChainTo.snoc : ∀ {l : List Nat} {a p : Nat}, ChainTo s top good a p l → p < top → s.reads p top = true → good p = true → ChainTo s top good a (p + s.nd p) (l ++ [p])
  | [], a, p, h, h1, h2, h3 => by
    have h' : a = p := h
    subst h'
    exact ⟨rfl, h1, h2, h3, rfl⟩
  | b :: l, a, p, h, h1, h2, h3 => ⟨h.1, h.2.1, h.2.2.1, h.2.2.2.1, ChainTo.snoc h.2.2.2.2 h1 h2 h3⟩
/-- There is but one way to the top. -/
theorem ChainTo.det : ∀ {l hs : List Nat} {a p : Nat}, ChainTo s top good a p l → ChainTo s top good a top hs → p < top → s.reads p top = true ∧ good p = true
  | [], [], a, p, h, h', hp => by
    have e1 : a = p := h
    have e2 : a = top := h'
    omega
  | [], b :: hs, a, p, h, h', hp => by
    have e1 : a = p := h
    subst e1
    exact ⟨h'.2.2.1, h'.2.2.2.1⟩
  | b :: l, [], a, p, h, h', hp => by
    have e2 : a = top := h'
    have := h.2.1
    omega
  | b :: l, c :: hs, a, p, h, h', hp => ChainTo.det h.2.2.2.2 h'.2.2.2.2 hp
theorem ChainTo.same : ∀ {l m : List Nat} {good' : Nat → Bool} {a p : Nat}, ChainTo s top good a p l → ChainTo s top good' a p m → l = m
  | [], [], _, a, p, h, h' => rfl
  | [], b :: m, _, a, p, h, h' => by
    have e1 : a = p := h
    have := ChainTo.le h'.2.2.2.2
    have := St.reads_need h'.2.2.1
    omega
  | b :: l, [], _, a, p, h, h' => by
    have e1 : a = p := h'
    have := ChainTo.le h.2.2.2.2
    have := St.reads_need h.2.2.1
    omega
  | b :: l, c :: m, _, a, p, h, h' => by
    rw [h.1, h'.1, ChainTo.same h.2.2.2.2 h'.2.2.2.2]
theorem ChainTo.mem : ∀ {l : List Nat} {a p : Nat}, ChainTo s top good a p l → ∀ q ∈ l, a ≤ q ∧ q < top ∧ s.reads q top = true ∧ good q = true ∧ q + s.nd q ≤ p
  | [], a, p, h, q, hq => by simp at hq
  | b :: l, a, p, h, q, hq => by
    have h5 := ChainTo.le h.2.2.2.2
    rcases List.mem_cons.1 hq with rfl | hq
    · have := h.1; subst this
      exact ⟨Nat.le_refl _, h.2.1, h.2.2.1, h.2.2.2.1, h5⟩
    · have := ChainTo.mem h.2.2.2.2 q hq
      exact ⟨by omega, this.2⟩
end Go.Proofs.Ythfkgkddklnnhaa
/- The contract of Close's walk, for any closure that tells of each head whether it is good. -/
namespace Go.Proofs.Ythfkgkddklnnhaa
set_option linter.unusedVariables false
open Go.ChangeShapes Go.WideShapes Go.ChangeAt Go.RowKit
open M (W)

set_option maxRecDepth 100000 in
set_option maxHeartbeats 2000000 in
theorem walk_any {good : Nat → Bool} (s : St) (top : Nat) (fid : FuncId) (hfid : ∀ args W, (callFunc fid args).run Try.prog W = .ok (.enter fid args) W) (c1 c2 : Value) (S : Nat → Prop) (I : List Nat → World → Prop) (w : World) (hp : ∀ l W, I l W → HpIs W s) (hst : ∀ l W W', I l W → Still W W' → I l W') (hsz : ∀ l W, I l W → w.heap.size ≤ W.heap.size) (hS : ∀ k, S k → k < w.heap.size) (h0 : I [] w) (htop : top ≤ s.n)
    (hg : ∀ l p W, I l W → ChainTo s top good 0 p l → p < top → s.reads p top = true → Calls Try.prog fid #[.int .i64 p, (s.ob (s.ws p)).val, c1, c2] W fun e w' => e = .returned (.bool (good p)) ∧ I (l ++ [p]) w' ∧ Turn S W w') :
    Calls Try.prog 67 #[s.ptr, .int .i64 top, .func (.func fid) #[] #[c1, c2]] w fun e w' => ∃ l, I l w' ∧ ((e = .returned (.bool true) ∧ ChainTo s top good 0 top l) ∨ (e = .returned (.bool false) ∧ ∀ hs, ¬ ChainTo s top good 0 top hs)) := by
  have hn := (hp _ _ h0).n_le
  have HG := Lib.hid hg
  have HP := Lib.hid hp
  have HST := Lib.hid hst
  have HSZ := Lib.hid hsz
  have HS := Lib.hid hS
  have H0 := Lib.hid h0
  clear hg hp hst h0 hsz hS
  go_enter Try.func67, Try.ntmps67
  go_wp2_with fail
  go_loopw [7] (fun v wr => ∃ (p : Nat) (l : List Nat), v = .int .i64 p ∧ p ≤ top ∧ ChainTo s top good 0 p l ∧ I l wr) (fun v _ => top - (intOf v).toNat)
  case atStart => exact ⟨0, [], rfl, by omega, rfl, H0.out⟩
  case round =>
    obtain ⟨p, l, rfl, hpt, hch, hI⟩ := hrel
    have HCH := Lib.hid hch
    have HI := Lib.hid hI
    have hhp := HP.out _ _ hI
    clear hch hI
    by_cases hlt : p < top
    · cases hr : s.reads p top with
      | false =>
        have HR := Lib.hid hr
        have HB := read_bad s p top wr hhp (by omega) (by omega) (by omega) (by
          unfold St.reads at hr
          rw [Bool.and_eq_false_iff, decide_eq_false_iff_not, decide_eq_false_iff_not] at hr
          rcases hr with hr | hr
          · exact .inl hr
          · exact .inr (by omega))
        have HBB := Lib.hid HB
        clear hr HB hhp
        unfold Ob.none at HBB
        go_wp2_with fail
        refine HBB.out.mono ?_; rintro e w1 ⟨rfl, t1⟩
        have HT := Lib.hid t1; clear t1
        go_wp2_with fail
        go_ret
        exact ⟨l, HST.out _ _ _ HI.out (HT.out.alloc _), .inr ⟨rfl, fun hs h => by have := HCH.out.det h hlt; rw [HR.out] at this; simp at this⟩⟩
      | true =>
        have HR := Lib.hid hr
        obtain ⟨r1, r2, r3⟩ := St.reads_need hr
        have HB := read_ok s p top wr hhp (by omega) (by omega) (by omega) (by
          unfold St.reads at hr
          rw [Bool.and_eq_true, decide_eq_true_eq, decide_eq_true_eq] at hr
          exact hr.1) (by omega)
        have HGG := fun W hW => HG.out l p W hW HCH.out hlt hr
        obtain ⟨oo, hoo⟩ : ∃ oo, s.ob (s.ws p) = oo := ⟨_, rfl⟩
        rw [hoo] at HB HGG r1
        obtain ⟨osh, okk, onn, one_⟩ := oo
        obtain rfl : one_ = s.nd p := r1
        unfold Ob.val at HB HGG
        simp only at HB HGG
        have HBB := Lib.hid HB
        have HG2 := Lib.hid HGG
        have hwn : w.heap.size ≤ wr.heap.size := HSZ.out _ _ HI.out
        clear hr HB hhp HGG hoo
        generalize hd : s.nd p = D at *
        have HD := Lib.hid hd
        clear hd
        go_wp2_with fail
        refine HBB.out.mono ?_; rintro e w1 ⟨rfl, t1⟩
        have HT := Lib.hid t1; clear t1
        have hw1 : w.heap.size ≤ w1.heap.size := Nat.le_trans hwn HT.out.size
        have HI2 := Lib.hid (HST.out _ _ _ HI.out (HT.out.alloc (.cells #[.int .i64 osh, .int .i64 okk, .int .i64 onn, .int .i64 D] 119)))
        have HBK := Lib.hid (Blk.new w1 119 #[.int .i64 osh, .int .i64 okk, .int .i64 onn, .int .i64 D])
        go_wp2_with fail
        refine (HG2.out _ HI2.out).mono ?_; rintro e w5 ⟨rfl, hI5, t5⟩
        have hb5 := HBK.out.keep t5 (fun hk => by have := HS.out _ hk; omega)
        have b3 : w5.cell? ⟨w1.heap.size, 3, none⟩ = some (.int .i64 D) := hb5.cell 3
        have hbl := hb5.lt
        have HI5 := Lib.hid hI5
        clear hI5 t5 hb5
        cases hgd : good p with
        | false =>
          have HGD := Lib.hid hgd
          clear hgd
          go_wp2_with fail
          go_ret
          exact ⟨_, HI5.out, .inr ⟨rfl, fun hs h => by have := HCH.out.det h hlt; rw [HGD.out] at this; simp at this⟩⟩
        | true =>
          have HGD := Lib.hid hgd
          clear hgd
          go_wp2_with fail
          go_roundw
          case rel => exact ⟨p + D, l ++ [p], by go_num, by omega, by have := HCH.out.snoc hlt HR.out HGD.out; rw [HD.out] at this; exact this, HI5.out⟩
          case measure => simp [intOf]; omega
    · obtain rfl : p = top := by omega
      clear hhp
      go_wp2_with fail
      go_ret
      exact ⟨l, HI.out, .inl ⟨rfl, HCH.out⟩⟩
end Go.Proofs.Ythfkgkddklnnhaa
/- The contract of holds: may the words behind a head be? -/
namespace Go.Proofs.Ythfkgkddklnnhaa
set_option linter.unusedVariables false
open Go.ChangeShapes Go.WideShapes Go.ChangeAt Go.RowKit
open M (W)

/-- What holds says of D words from p on, of a kind and a number of bytes, if heads stand at the places of x. -/
def St.holds (s : St) (x : Nat → Nat) (k n : Int) (p D : Nat) : Bool :=
  if k = 3 then decide (n % 8 = 0) || decide ((s.ws (p + D - 1) : Int) / 2 ^ (n % 8 * 8).toNat = 0)
  else (List.range (D - 1)).all fun i => M.fits x (s.ws (p + 1 + i))

set_option maxRecDepth 100000 in
set_option maxHeartbeats 2000000 in
theorem holds_8 (sh n : Int) (D : Nat) (v : Value) (hv : Value) (w : World) (h8 : n % 8 = 0) (h0 : 0 ≤ n) (h1 : n ≤ 65536) :
    Calls Try.prog 70 #[.agg #[.int .i64 sh, .int .i64 3, .int .i64 n, .int .i64 D], v, hv] w fun e w' => e = .returned (.bool true) ∧ Still w w' := by
  go_enter Try.func70, Try.ntmps70
  go_wp2_with fail
  go_quiet (fail)
  go_wp2_with fail
  go_ret
  exact ⟨rfl, ((Still.refl w).alloc _).drewN _⟩
set_option maxRecDepth 100000 in
set_option maxHeartbeats 2000000 in
theorem holds_r (s : St) (sh n : Int) (p E c : Nat) (D : Int) (hv : Value) (w : World) (h : HpIs w s) (h8 : n % 8 ≠ 0) (h0 : 0 ≤ n) (h1 : n ≤ 65536) (hE : 0 < E) (hn : p + E < s.n) :
    Calls Try.prog 70 #[.agg #[.int .i64 sh, .int .i64 3, .int .i64 n, .int .i64 D], .slice (some ⟨s.gw, p + 1, none⟩) E c, hv] w fun e w' => e = .returned (.bool (decide ((s.ws (p + E) : Int) / 2 ^ (n % 8 * 8).toNat = 0))) ∧ Still w w' := by
  have cw := h.cw (p + E) (by omega)
  have hgw := h.words.lt
  have hnn := h.n_le
  have hws := h.ws_lt (p + E)
  obtain ⟨F, rfl⟩ : ∃ F, E = F + 1 := ⟨E - 1, by omega⟩
  have e1 : p + (F + 1) = p + 1 + F := by omega
  rw [e1] at cw hws ⊢
  have h8f : (n % 8 == 0) = false := beq_eq_false_iff_ne.2 h8
  generalize s.ws (p + 1 + F) = X at *
  generalize s.gw = g at *
  clear h e1
  go_enter Try.func70, Try.ntmps70
  go_wp2_with fail
  go_quiet (fail)
  go_wp2_with fail
  go_ret
  refine ⟨?_, ((Still.refl w).alloc _).drewN _⟩
  show Ending.returned (.bool ((X : Int) / 2 ^ (n % 8 * 8).toNat == 0)) = _
  congr 2
set_option maxRecDepth 100000 in
set_option maxHeartbeats 2000000 in
theorem holds_f (s : St) (sh k n : Int) (p E c g0 : Nat) (D : Int) (x : Nat → Nat) (w : World) (h : HpIs w s) (hx : SetAt w g0 0 x) (hk : k ≠ 3) (hn : p + E < s.n ∨ E = 0) (hg0 : g0 < w.heap.size) :
    Calls Try.prog 70 #[.agg #[.int .i64 sh, .int .i64 k, .int .i64 n, .int .i64 D], .slice (some ⟨s.gw, p + 1, none⟩) E c, .pointer (some ⟨g0, 0, none⟩)] w fun e w' => e = .returned (.bool ((List.range E).all fun i => M.fits x (s.ws (p + 1 + i)))) ∧ Still w w' := by
  have hgw := h.words.lt
  have hnn := h.n_le
  have HH := Lib.hid h
  have HX := Lib.hid hx
  have hkf : (k == 3) = false := beq_eq_false_iff_ne.2 hk
  obtain ⟨r, hr⟩ : ∃ r, r = ((List.range E).all fun i => M.fits x (s.ws (p + 1 + i))) := ⟨_, rfl⟩
  rw [← hr]
  have HR := Lib.hid hr
  have HW0 := Lib.hid ((Still.refl w).alloc (.cells #[.int .i64 sh, .int .i64 k, .int .i64 n, .int .i64 D] 119))
  have HX0 : Hid (SetAt (w.alloc (.cells #[.int .i64 sh, .int .i64 k, .int .i64 n, .int .i64 D] 119)) g0 0 x) := fun i hi => by
    rw [HW0.out.cell (p := ⟨g0, _, none⟩) hg0]; exact HX.out i hi
  have hEs : E ≤ 65536 := by omega
  clear h hx hr hk
  go_enter Try.func70, Try.ntmps70
  go_wp2_with fail
  generalize hW : (w.alloc (.cells #[.int .i64 sh, .int .i64 k, .int .i64 n, .int .i64 D] 119)) = W at *
  clear hW
  go_loopw [32] (fun v wr => ∃ j : Nat, v = .int .i64 j ∧ j ≤ E ∧ wr = W ∧ ∀ i, i < j → M.fits x (s.ws (p + 1 + i)) = true) (fun v _ => E - (intOf v).toNat)
  case atStart => exact ⟨0, rfl, by omega, rfl, fun i hi => by omega⟩
  case round =>
    obtain ⟨j, rfl, hj, rfl, hall⟩ := hrel
    have HALL := Lib.hid hall
    clear hall
    by_cases hlt : j < E
    · have hhp := HH.out.still HW0.out
      have cw := hhp.cw (p + 1 + j) (by omega)
      have hws := HH.out.ws_lt (p + 1 + j)
      have hgw' := hhp.words.lt
      have HF := Lib.hid (pfits_any g0 0 x (s.ws (p + 1 + j)) wr HX0.out (by omega) (by omega))
      clear hhp
      cases hf : M.fits x (s.ws (p + 1 + j)) with
      | false =>
        rw [hf] at HF
        have HFF := Lib.hid hf
        clear hf
        generalize hX : s.ws (p + 1 + j) = X at *
        have HXX := Lib.hid hX
        clear hX
        go_wp2_with fail
        refine HF.out.mono ?_; rintro e w4 ⟨rfl, rfl⟩
        go_wp2_with fail
        have hrv : r = false := by
          rw [HR.out, Bool.eq_false_iff]
          intro hh
          have := List.all_eq_true.1 hh j (List.mem_range.2 hlt)
          rw [HXX.out, HFF.out] at this; simp at this
        subst hrv
        go_ret
        exact ⟨rfl, HW0.out⟩
      | true =>
        rw [hf] at HF
        have HFF := Lib.hid hf
        clear hf
        generalize hX : s.ws (p + 1 + j) = X at *
        have HXX := Lib.hid hX
        clear hX
        go_wp2_with fail
        refine HF.out.mono ?_; rintro e w4 ⟨rfl, rfl⟩
        go_wp2_with fail
        go_roundw
        case rel => exact ⟨j + 1, by go_num, by omega, trivial, fun i hi => by
          rcases Nat.lt_or_ge i j with h | h
          · exact HALL.out i h
          · obtain rfl : i = j := by omega
            rw [HXX.out]; exact HFF.out⟩
        case measure => simp [intOf]; omega
    · obtain rfl : j = E := by omega
      have hrv : r = true := by
        rw [HR.out]
        exact List.all_eq_true.2 fun i hi => HALL.out i (List.mem_range.1 hi)
      subst hrv
      go_wp2_with fail
      go_ret
      exact ⟨rfl, HW0.out⟩
set_option maxRecDepth 100000 in
theorem holds_0 (sh k n : Int) (a : Option Addr) (c : Nat) (hv : Value) (D : Int) (w : World) (hk : k ≠ 3) :
    Calls Try.prog 70 #[.agg #[.int .i64 sh, .int .i64 k, .int .i64 n, .int .i64 D], .slice a 0 c, hv] w fun e w' => e = .returned (.bool true) ∧ Still w w' := by
  have hkf : (k == 3) = false := beq_eq_false_iff_ne.2 hk
  have HW0 := Lib.hid ((Still.refl w).alloc (.cells #[.int .i64 sh, .int .i64 k, .int .i64 n, .int .i64 D] 119))
  clear hk
  go_enter Try.func70, Try.ntmps70
  go_wp2_with fail
  refine wp_loop_rounds 1 ?_
  rw [rounds_succ]
  go_wp2_with fail
  go_ret
  exact ⟨rfl, HW0.out⟩
/-- holds, of an object that a head at p says. -/
theorem holds_any (s : St) (p c g0 : Nat) (x : Nat → Nat) (w : World) (h : HpIs w s) (hx : SetAt w g0 0 x) (hg0 : g0 < w.heap.size) (top : Nat) (htop : top ≤ s.n) (hr : s.reads p top = true) (a : Option Addr) (ha : a = some ⟨s.gw, p + 1, none⟩ ∨ s.nd p = 1) :
    Calls Try.prog 70 #[(s.ob (s.ws p)).val, .slice a (s.nd p - 1) c, .pointer (some ⟨g0, 0, none⟩)] w fun e w' => e = .returned (.bool (s.holds x (s.ob (s.ws p)).kind (s.ob (s.ws p)).n p (s.nd p))) ∧ Still w w' := by
  obtain ⟨r1, r2, r3⟩ := St.reads_need hr
  unfold St.reads at hr
  rw [Bool.and_eq_true, decide_eq_true_eq, decide_eq_true_eq] at hr
  have he := hr.1
  have hnd : (s.ob (s.ws p)).need = M.need (s.kind (M.sh (s.ws p))) (s.len (M.sh (s.ws p))) (M.ln (s.ws p)) := rfl
  have hln := M.ln_lo (s.ws p)
  unfold St.obE St.needE at he
  unfold Ob.val St.holds
  rw [r1] at hnd
  have ek : (s.ob (s.ws p)).kind = s.kind (M.sh (s.ws p)) := rfl
  have en : (s.ob (s.ws p)).n = M.ln (s.ws p) := rfl
  have es : (s.ob (s.ws p)).sh = M.sh (s.ws p) := rfl
  rw [r1, ek, en, es]
  generalize M.sh (s.ws p) = A at *
  generalize M.ln (s.ws p) = B at *
  generalize s.len A = N at *
  generalize s.kind A = K at *
  generalize s.nd p = D at *
  unfold M.needE at he
  unfold M.need at hnd
  by_cases c1 : K = 0 ∨ B < 0 ∨ (K = 1 ∧ B ≠ N)
  · rw [if_pos c1] at he; omega
  rw [if_neg c1] at he hnd
  by_cases c2 : 65536 < B
  · rw [if_pos c2] at he; omega
  rw [if_neg c2] at hnd
  by_cases hk : K = 3
  · subst hk
    rw [if_pos rfl] at hnd ⊢
    by_cases h8 : B % 8 = 0
    · rw [decide_eq_true h8, Bool.true_or]
      exact holds_8 A B D _ _ w h8 (by omega) (by omega)
    · obtain rfl : a = some ⟨s.gw, p + 1, none⟩ := by rcases ha with e | e; exact e; omega
      rw [decide_eq_false h8, Bool.false_or]
      have := holds_r s A B p (D - 1) c D (.pointer (some ⟨g0, 0, none⟩)) w h h8 (by omega) (by omega) (by omega) (by omega)
      rw [show p + (D - 1) = p + D - 1 by omega] at this
      exact this
  · rw [if_neg hk]
    rcases ha with rfl | hD1
    rotate_left
    · subst hD1
      exact holds_0 A K B a c _ (1 : Nat) w hk
    exact holds_f s A K B p (D - 1) c g0 D x w h hx hk (by omega) hg0
end Go.Proofs.Ythfkgkddklnnhaa
/- Close's closures: the heads gathered; the words between them asked. -/
namespace Go.Proofs.Ythfkgkddklnnhaa
set_option linter.unusedVariables false
open Go.ChangeShapes Go.WideShapes Go.ChangeAt Go.RowKit
open M (W)

def M.putAll (l : List Nat) : Nat → Nat := l.foldl M.putIn (fun _ => 0)
theorem putAll_snoc (l : List Nat) (p : Nat) : M.putAll (l ++ [p]) = M.putIn (M.putAll l) p := by unfold M.putAll; rw [List.foldl_append]; rfl
theorem putIn_lt {x : Nat → Nat} (hx : ∀ i, x i < 18446744073709551616) (p : Nat) : ∀ i, M.putIn x p i < 18446744073709551616 := fun i => by
  unfold M.putIn
  split
  · exact or_bit_lt _ _ (hx i) (by omega)
  · exact hx i
theorem foldl_putIn_lt : ∀ (l : List Nat) (x : Nat → Nat), (∀ i, x i < 18446744073709551616) → ∀ i, l.foldl M.putIn x i < 18446744073709551616
  | [], x, h => h
  | p :: l, x, h => foldl_putIn_lt l _ (putIn_lt h p)
theorem putAll_lt (l : List Nat) : ∀ i, M.putAll l i < 18446744073709551616 := foldl_putIn_lt l _ (fun _ => by decide)
theorem foldl_putIn_in : ∀ (l : List Nat) (x : Nat → Nat), (∀ q ∈ l, q < 65536) → ∀ i : Int, M.inSet (l.foldl M.putIn x) i = (l.any (fun q => decide (i = q)) || M.inSet x i)
  | [], x, h, i => by simp
  | p :: l, x, h, i => by
    rw [List.foldl_cons, foldl_putIn_in l _ (fun q hq => h q (List.mem_cons_of_mem _ hq)), M.putIn_in x p (h p (List.mem_cons_self)), List.any_cons]
    cases decide (i = p) <;> simp
theorem putAll_in (l : List Nat) (h : ∀ q ∈ l, q < 65536) (i : Int) : M.inSet (M.putAll l) i = l.any (fun q => decide (i = q)) := by
  unfold M.putAll
  rw [foldl_putIn_in l _ h]
  have : M.inSet (fun _ => 0) i = false := by unfold M.inSet; simp
  rw [this, Bool.or_false]

/-- Is the word at p just the head that it is read as? -/
def St.headB (s : St) (p : Nat) : Bool := decide ((s.ws p : Int) = M.hd (M.sh (s.ws p)) (M.ln (s.ws p)) 0 0)
structure LaidI (w0 : World) (s : St) (hb bx : Nat) (l : List Nat) (W : World) : Prop where
  hp : HpIs W s
  set : W.rowIs hb 76 1024 (fun i => .int .u64 (M.putAll l i : Nat))
  box : Blk W bx 27 #[s.ptr]
  hb : w0.heap.size ≤ hb
  bx : w0.heap.size ≤ bx
  still : Still w0 W
theorem LaidI.stay {w0 W W' : World} {s : St} {hb bx : Nat} {l : List Nat} (h : LaidI w0 s hb bx l W) (t : Still W W') : LaidI w0 s hb bx l W' :=
  { h with hp := h.hp.still t, set := h.set.of_block (t.block _ h.set.lt (fun e => e)), box := Still.blk t h.box, still := h.still.trans t }
theorem LaidI.put {w0 W W' : World} {s : St} {hb bx p : Nat} {l : List Nat} (h : LaidI w0 s hb bx l W) (hp : p < 65536) (hW : W' = (W.setCell ⟨hb, 0 + p / 64, none⟩ (.int .u64 ((M.putAll l (p / 64) ||| 2 ^ (p % 64) : Nat) : Int))).drew) : LaidI w0 s hb bx (l ++ [p]) W' ∧ Turn (fun k => k = hb) W W' := by
  have t : Turn (fun k => k = hb) W W' := by rw [hW]; exact ((Turn.refl (fun k => k = hb) W).setCell (p := ⟨hb, 0 + p / 64, none⟩) (fun _ => rfl) _).drew
  refine ⟨⟨h.hp.keep t ?_ ?_ ?_, ?_, h.box.keep t ?_, h.hb, h.bx, ?_⟩, t⟩
  · exact fun e => HpIs.rowIs_ne h.hp.blk h.set (by decide) e
  · exact fun e => HpIs.rowIs_ne h.hp.words h.set (by decide) e
  · exact fun e => HpIs.rowIs_ne h.hp.lays h.set (by decide) e
  · rw [hW]
    have := h.set.set (0 + p / 64) (.int .u64 ((M.putAll l (p / 64) ||| 2 ^ (p % 64) : Nat) : Int))
    refine World.rowIs.congr (show ((W.setCell ⟨hb, 0 + p / 64, none⟩ (.int .u64 ((M.putAll l (p / 64) ||| 2 ^ (p % 64) : Nat) : Int))).drew).rowIs hb _ _ _ from this) fun i hi => ?_
    rw [putAll_snoc]
    unfold M.putIn
    by_cases e : i = p / 64
    · rw [if_pos (by omega), if_pos e, e]
    · rw [if_neg (by omega), if_neg e]
  · intro e
    obtain ⟨c, hc, _⟩ := h.set
    have := h.box
    unfold Blk at this
    rw [e, hc] at this; injection this with this; injection this with _ e2; exact absurd e2 (by decide)
  · exact Still.own h.still (t.mono fun k _ e => by rw [e]; exact h.hb)

set_option maxRecDepth 100000 in
set_option maxHeartbeats 4000000 in
theorem laid1_any (w0 : World) (s : St) (hb bx p : Nat) (l : List Nat) (top : Nat) (w : World) (h : LaidI w0 s hb bx l w) (hr : s.reads p top = true) (hlt : p < top) (htop : top ≤ s.n) :
    Calls Try.prog 68 #[.int .i64 p, (s.ob (s.ws p)).val, .pointer (some ⟨hb, 0, none⟩), .pointer (some ⟨bx, 0, none⟩)] w fun e w' => e = .returned (.bool (s.headB p)) ∧ LaidI w0 s hb bx (l ++ [p]) w' ∧ Turn (fun k => k = hb) w w' := by
  have hn := h.hp.n_le
  have hws := h.hp.ws_lt p
  unfold St.headB
  unfold Ob.val
  show Calls _ _ #[_, .agg #[.int .i64 (M.sh (s.ws p)), .int .i64 (s.ob (s.ws p)).kind, .int .i64 (M.ln (s.ws p)), .int .i64 (s.ob (s.ws p)).need], _, _] w _
  generalize (s.ob (s.ws p)).kind = kk
  generalize (s.ob (s.ws p)).need = nn
  have HH := Lib.hid h
  have hA := h.stay ((Still.refl w).alloc (.cells #[.int .i64 (M.sh (s.ws p)), .int .i64 kk, .int .i64 (M.ln (s.ws p)), .int .i64 nn] 119))
  have HA := Lib.hid hA
  have HPUT := Lib.hid (put_any hb 0 p (M.putAll l (p / 64)) _ (by omega) (putAll_lt l _) (by rw [Nat.zero_add]; exact hA.set.cell (by omega)) (by exact hA.set.frozen _))
  have HBK := Lib.hid (Blk.new w 119 #[.int .i64 (M.sh (s.ws p)), .int .i64 kk, .int .i64 (M.ln (s.ws p)), .int .i64 nn])
  have hne : w.heap.size ≠ hb := fun e => by have := h.set.lt; omega
  clear h hA
  go_enter Try.func68, Try.ntmps68
  go_wp2_with fail
  refine HPUT.out.mono ?_; rintro e w1 ⟨rfl, hw1⟩
  obtain ⟨hI1, t1⟩ := HA.out.put (by omega) hw1
  have hbk := HBK.out.keep t1 hne
  have b0 : w1.cell? ⟨w.heap.size, 0, none⟩ = some (.int .i64 (M.sh (s.ws p))) := hbk.cell 0
  have b2 : w1.cell? ⟨w.heap.size, 2, none⟩ = some (.int .i64 (M.ln (s.ws p))) := hbk.cell 2
  have hbl := hbk.lt
  have c0 := hI1.hp.c0
  have cw := hI1.hp.cw p (by omega)
  have cb : w1.cell? ⟨bx, 0, none⟩ = some (.pointer (some ⟨s.g, 0, none⟩)) := hI1.box.cell 0
  have hg := hI1.hp.blk.lt
  have hgw := hI1.hp.words.lt
  have hbx := hI1.box.lt
  have HI1 := Lib.hid hI1
  have HT1 := Lib.hid t1
  clear hI1 t1 hbk hw1
  obtain ⟨X, hX⟩ : ∃ X : Int, (s.ws p : Int) = X := ⟨_, rfl⟩
  go_wp2_with fail
  go_quiet ((go_at_call 61; exact Calls.quiet_of (head_hd _ _ _)))
  go_wp2_with fail
  go_ret
  refine ⟨?_, HI1.out.stay ((Still.refl w1).drewN _), ?_⟩
  · show Ending.returned (.bool (X == M.hd (M.sh X) (M.ln X) 0 0)) = .returned (.bool (decide ((s.ws p : Int) = M.hd (M.sh (s.ws p)) (M.ln (s.ws p)) 0 0)))
    rw [hX]; rfl
  · have t := (((Turn.refl (fun k => k = hb) w).alloc (.cells #[.int .i64 (M.sh (s.ws p)), .int .i64 kk, .int .i64 (M.ln (s.ws p)), .int .i64 nn] 119)).trans HT1.out).drewN nq
    exact t

structure FilledI (w0 : World) (s : St) (x : Nat → Nat) (hb bx by_ : Nat) (W : World) : Prop where
  hp : HpIs W s
  set : SetAt W hb 0 x
  lt : hb < W.heap.size
  box : Blk W bx 27 #[s.ptr]
  box2 : Blk W by_ 85 #[.pointer (some ⟨hb, 0, none⟩)]
  still : Still w0 W
theorem FilledI.stay {w0 W W' : World} {s : St} {x : Nat → Nat} {hb bx by_ : Nat} (h : FilledI w0 s x hb bx by_ W) (t : Still W W') : FilledI w0 s x hb bx by_ W' :=
  { hp := h.hp.still t, set := fun i hi => by rw [t.cell (p := ⟨hb, _, none⟩) h.lt]; exact h.set i hi, lt := Nat.lt_of_lt_of_le h.lt t.size, box := Still.blk t h.box, box2 := Still.blk t h.box2, still := h.still.trans t }
def St.fillB (s : St) (x : Nat → Nat) (p : Nat) : Bool := s.holds x (s.ob (s.ws p)).kind (s.ob (s.ws p)).n p (s.nd p)
set_option maxRecDepth 100000 in
set_option maxHeartbeats 4000000 in
theorem filled1_any (w0 : World) (s : St) (x : Nat → Nat) (hb bx by_ p : Nat) (top : Nat) (w : World) (h : FilledI w0 s x hb bx by_ w) (hr : s.reads p top = true) (hlt : p < top) (htop : top ≤ s.n) :
    Calls Try.prog 69 #[.int .i64 p, (s.ob (s.ws p)).val, .pointer (some ⟨bx, 0, none⟩), .pointer (some ⟨by_, 0, none⟩)] w fun e w' => e = .returned (.bool (s.fillB x p)) ∧ FilledI w0 s x hb bx by_ w' ∧ Still w w' := by
  have hn := h.hp.n_le
  obtain ⟨r1, r2, r3⟩ := St.reads_need hr
  have HH := Lib.hid h
  have HHO := fun c W (hW : FilledI w0 s x hb bx by_ W) => holds_any s p c hb x W hW.hp hW.set hW.lt top htop hr
  have hpD : p + s.nd p ≤ s.n := by omega
  unfold St.fillB
  unfold Ob.val at HHO ⊢
  rw [r1] at HHO ⊢
  generalize hkk : (s.ob (s.ws p)).kind = kk at *
  generalize hnn : (s.ob (s.ws p)).n = nn at *
  generalize hsh : (s.ob (s.ws p)).sh = sh at *
  have HHH := Lib.hid HHO
  clear HHO hkk hnn hsh r1 r3 hr
  generalize s.nd p = E at *
  have hA := h.stay ((Still.refl w).alloc (.cells #[.int .i64 sh, .int .i64 kk, .int .i64 nn, .int .i64 E] 119))
  have hB := Blk.new w 119 #[.int .i64 sh, .int .i64 kk, .int .i64 nn, .int .i64 E]
  obtain ⟨W1, hW1⟩ : ∃ W1, w.alloc (.cells #[.int .i64 sh, .int .i64 kk, .int .i64 nn, .int .i64 E] 119) = W1 := ⟨_, rfl⟩
  rw [hW1] at hA hB
  have hAD : FilledI w0 s x hb bx by_ W1.drew := hA.stay (Turn.drew (Still.refl W1))
  have hBD : Blk W1.drew w.heap.size 119 #[.int .i64 sh, .int .i64 kk, .int .i64 nn, .int .i64 E] := hB
  have b0 : W1.drew.cell? ⟨w.heap.size, 0, none⟩ = some (.int .i64 sh) := hBD.cell 0
  have b1 : W1.drew.cell? ⟨w.heap.size, 1, none⟩ = some (.int .i64 kk) := hBD.cell 1
  have b2 : W1.drew.cell? ⟨w.heap.size, 2, none⟩ = some (.int .i64 nn) := hBD.cell 2
  have b3 : W1.drew.cell? ⟨w.heap.size, 3, none⟩ = some (.int .i64 E) := hBD.cell 3
  have hbl := hBD.lt
  have c0 := hAD.hp.c0
  have cb : W1.drew.cell? ⟨bx, 0, none⟩ = some (.pointer (some ⟨s.g, 0, none⟩)) := hAD.box.cell 0
  have cy : W1.drew.cell? ⟨by_, 0, none⟩ = some (.pointer (some ⟨hb, 0, none⟩)) := hAD.box2.cell 0
  have hg := hAD.hp.blk.lt
  have hgw := hAD.hp.words.lt
  have hbx := hAD.box.lt
  have hby := hAD.box2.lt
  have HAD := Lib.hid hAD
  have HW1 := Lib.hid hW1
  have HT1 : Hid (Still w W1) := by rw [← hW1]; exact (Still.refl w).alloc _
  have hp1 : p + 1 ≤ s.n := by omega
  obtain ⟨p1, hp1e⟩ : ∃ p1, p + 1 = p1 := ⟨_, rfl⟩
  obtain ⟨pE, hpEe⟩ : ∃ pE, p + E = pE := ⟨_, rfl⟩
  have hw1 : IntKind.i64.wrap ((p : Int) + 1) = (p1 : Int) := by rw [IntKind.wrap_i64]; omega
  have hw2 : IntKind.i64.wrap ((p : Int) + (E : Int)) = (pE : Int) := by rw [IntKind.wrap_i64]; omega
  have hb1 : p1 ≤ pE := by omega
  have hb2 : pE ≤ s.n := by omega
  have HP1 := Lib.hid hp1e
  have HPE := Lib.hid hpEe
  clear h hA hB hBD hAD hp1e hpEe hp1 hpD
  go_enter Try.func69, Try.ntmps69
  go_wp2_with fail
  refine wp_region_still_tail 13 (by kernel_rfl) (by kernel_rfl) ?_
  simp only [List.take_succ_cons, List.take_zero, List.drop_succ_cons, List.drop_zero]
  change wpStill _ _ W1.drew (fun a' => wpList _ _ _ _ a' W1.drew) _ _
  repeat still_step
  refine wpStill_nil ?_
  have e1 : pE - p1 = E - 1 := by have := HP1.out; have := HPE.out; omega
  rw [e1]
  have hbase : (if s.n = p1 then some (⟨s.gw, 0, none⟩ : Addr) else some ⟨s.gw, p1, none⟩) = some ⟨s.gw, p + 1, none⟩ ∨ E = 1 := by
    have := HP1.out; have := HPE.out
    by_cases e : s.n = p1
    · right; omega
    · left; rw [if_neg e, HP1.out]
  generalize (if s.n = p1 then some (⟨s.gw, 0, none⟩ : Addr) else some ⟨s.gw, p1, none⟩) = base at *
  have HBS := Lib.hid hbase
  clear hbase e1
  go_wp2_with fail
  refine (HHH.out _ _ HAD.out base HBS.out).mono ?_; rintro e w4 ⟨rfl, t4⟩
  have HT4 := Lib.hid t4
  clear t4
  go_wp2_with fail
  go_ret
  exact ⟨rfl, HAD.out.stay HT4.out, (HT1.out.trans ((Turn.drew (Still.refl W1) : Still W1 W1.drew))).trans HT4.out⟩
end Go.Proofs.Ythfkgkddklnnhaa
