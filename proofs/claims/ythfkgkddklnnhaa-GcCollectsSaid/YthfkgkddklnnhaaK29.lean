/- Lemmas, put together: SightN Sight Sight2 Sight3. -/
import Derived.Test.YthfkgkddklnnhaaK17
import Derived.Test.YthfkgkddklnnhaaK21
import Derived.Test.YthfkgkddklnnhaaK20
import Derived.Lib.ConvBytes
import Derived.Test.YthfkgkddklnnhaaK08
/- What is seen from roots, in numbers; and that it is the same behind a move. Plain facts. -/
namespace Go.Proofs.Ythfkgkddklnnhaa
set_option linter.unusedVariables false
open M (W)

/-- The place of p among those that were met; their number, if it is new. -/
def M.idx (met : List Nat) (p : Nat) : Nat := met.findIdx fun q => q == p
theorem idx_le (met : List Nat) (p : Nat) : M.idx met p ≤ met.length := List.findIdx_le_length
theorem idx_cons (a : Nat) (met : List Nat) (p : Nat) : M.idx (a :: met) p = if a = p then 0 else M.idx met p + 1 := by
  unfold M.idx
  rw [List.findIdx_cons]
  by_cases h : a = p
  · rw [if_pos h, beq_iff_eq.2 h]; rfl
  · rw [if_neg h, beq_eq_false_iff_ne.2 h]; rfl
theorem idx_map (t : Nat → Nat) (p : Nat) : ∀ met : List Nat, (∀ q ∈ met, t q = t p → q = p) → M.idx (met.map t) (t p) = M.idx met p
  | [], _ => rfl
  | a :: met, h => by
    rw [List.map_cons, idx_cons, idx_cons, idx_map t p met fun q hq => h q (List.mem_cons_of_mem _ hq)]
    by_cases e : a = p
    · rw [if_pos e, if_pos (by rw [e])]
    · rw [if_neg e, if_neg (fun e2 => e (h a List.mem_cons_self e2))]
/-- idx, by what a search finds. -/
theorem idx_at (p : Nat) : ∀ (met : List Nat) (j : Nat), met[j]? = some p → (∀ i q, i < j → met[i]? = some q → q ≠ p) → M.idx met p = j
  | [], j, h, _ => by simp at h
  | a :: met, 0, h, _ => by
    simp at h
    rw [idx_cons, if_pos h]
  | a :: met, j + 1, h, hno => by
    rw [idx_cons, if_neg (hno 0 a (by omega) (by simp)), idx_at p met j (by simpa using h) fun i q hi hq => hno (i + 1) q (by omega) (by simpa using hq)]
theorem idx_no (p : Nat) : ∀ met : List Nat, (∀ q ∈ met, q ≠ p) → M.idx met p = met.length
  | [], _ => rfl
  | a :: met, h => by rw [idx_cons, if_neg (h a List.mem_cons_self), idx_no p met fun q hq => h q (List.mem_cons_of_mem _ hq)]; rfl
def M.meet (met : List Nat) (p : Nat) : List Nat := if M.idx met p < met.length then met else met ++ [p]
/-- A word is looked at. -/
def M.see1 (st : List Nat × List Nat) (v : Nat) : List Nat × List Nat :=
  if v % 2 = 1 then (st.1, st.2 ++ [v]) else (M.meet st.1 (v / 2), st.2 ++ [2 * M.idx st.1 (v / 2)])
def M.see (st : List Nat × List Nat) (l : List Nat) : List Nat × List Nat := l.foldl M.see1 st
theorem see_snoc (st : List Nat × List Nat) (l : List Nat) (v : Nat) : M.see st (l ++ [v]) = M.see1 (M.see st l) v := by unfold M.see; rw [List.foldl_append]; rfl
theorem see_cons (st : List Nat × List Nat) (l : List Nat) (v : Nat) : M.see st (v :: l) = M.see (M.see1 st v) l := rfl
/-- An object is looked at. -/
def M.visit (o : RO) (st : List Nat × List Nat) : List Nat × List Nat := M.see (st.1, st.2 ++ [o.sh, o.n] ++ o.bs) o.fs
/-- Those that were met are looked at one behind the other. -/
def M.view (ob : Nat → RO) : Nat → Nat → List Nat × List Nat → List Nat
  | 0, _, st => st.2
  | k + 1, i, st => match st.1[i]? with
    | none => st.2
    | some p => M.view ob k (i + 1) (M.visit (ob p) st)
def M.sight (ob : Nat → RO) (rl : List Nat) : List Nat := M.view ob 1600 0 (M.see ([], []) rl)

/-- What is met is of P. -/
theorem meet_of {P : Nat → Prop} {met : List Nat} {p : Nat} (h : ∀ q ∈ met, P q) (hp : P p) : ∀ q ∈ M.meet met p, P q := fun q hq => by
  unfold M.meet at hq
  split at hq
  · exact h q hq
  · rcases List.mem_append.1 hq with hq | hq
    · exact h q hq
    · obtain rfl : q = p := by simpa using hq
      exact hp
theorem see1_of {P : Nat → Prop} {st : List Nat × List Nat} {v : Nat} (h : ∀ q ∈ st.1, P q) (hv : v % 2 = 0 → P (v / 2)) : ∀ q ∈ (M.see1 st v).1, P q := fun q hq => by
  unfold M.see1 at hq
  split at hq
  · exact h q hq
  · exact meet_of h (hv (by omega)) q hq
theorem see_of {P : Nat → Prop} : ∀ {l : List Nat} {st : List Nat × List Nat}, (∀ q ∈ st.1, P q) → (∀ v ∈ l, v % 2 = 0 → P (v / 2)) → ∀ q ∈ (M.see st l).1, P q
  | [], st, h, _ => h
  | v :: l, st, h, hl => by
    rw [see_cons]
    exact see_of (see1_of h (hl v List.mem_cons_self)) fun u hu => hl u (List.mem_cons_of_mem _ hu)
/-- Moved. -/
def M.mv (t : Nat → Nat) (st : List Nat × List Nat) : List Nat × List Nat := (st.1.map t, st.2)
theorem see1_mv {P : Nat → Prop} {t : Nat → Nat} (hi : ∀ a b, P a → P b → t a = t b → a = b) {st : List Nat × List Nat} {v : Nat} (h : ∀ q ∈ st.1, P q) (hv : v % 2 = 0 → P (v / 2)) : M.see1 (M.mv t st) (M.ren t v) = M.mv t (M.see1 st v) := by
  by_cases he : v % 2 = 0
  · have hp := hv he
    have hx := idx_map t (v / 2) st.1 fun q hq e => hi q _ (h q hq) hp e
    unfold M.see1 M.ren M.mv
    rw [if_pos he, if_neg (by omega), if_neg (by omega), show 2 * t (v / 2) / 2 = t (v / 2) by omega]
    unfold M.meet
    simp only [hx, List.length_map]
    split <;> simp
  · unfold M.see1 M.ren M.mv
    rw [if_neg he, if_pos (by omega), if_pos (by omega)]
theorem see_mv {P : Nat → Prop} {t : Nat → Nat} (hi : ∀ a b, P a → P b → t a = t b → a = b) : ∀ {l : List Nat} {st : List Nat × List Nat}, (∀ q ∈ st.1, P q) → (∀ v ∈ l, v % 2 = 0 → P (v / 2)) → M.see (M.mv t st) (l.map (M.ren t)) = M.mv t (M.see st l)
  | [], st, _, _ => rfl
  | v :: l, st, h, hl => by
    rw [List.map_cons, see_cons, see1_mv hi h (hl v List.mem_cons_self), see_mv hi (see1_of h (hl v List.mem_cons_self)) fun u hu => hl u (List.mem_cons_of_mem _ hu), see_cons]
theorem view_mv {P : Nat → Prop} {t : Nat → Nat} {ob ob' : Nat → RO} (hi : ∀ a b, P a → P b → t a = t b → a = b) (hf : ∀ p, P p → ∀ v ∈ (ob p).fs, v % 2 = 0 → P (v / 2)) (ho : ∀ p, P p → ob' (t p) = (ob p).goes t) : ∀ (k i : Nat) (st : List Nat × List Nat), (∀ q ∈ st.1, P q) → M.view ob' k i (M.mv t st) = M.view ob k i st
  | 0, _, st, _ => rfl
  | k + 1, i, st, h => by
    unfold M.view
    show (match (st.1.map t)[i]? with | none => st.2 | some p => M.view ob' k (i + 1) (M.visit (ob' p) (M.mv t st))) = _
    rw [List.getElem?_map]
    cases hp : st.1[i]? with
    | none => rfl
    | some p =>
      have hP := h p (List.mem_of_getElem? hp)
      show M.view ob' k (i + 1) (M.visit (ob' (t p)) (M.mv t st)) = M.view ob k (i + 1) (M.visit (ob p) st)
      rw [ho p hP]
      have e : M.visit ((ob p).goes t) (M.mv t st) = M.mv t (M.visit (ob p) st) :=
        see_mv (st := (st.1, st.2 ++ [(ob p).sh, (ob p).n] ++ (ob p).bs)) hi h (hf p hP)
      rw [e]
      exact view_mv hi hf ho k (i + 1) _ (see_of (st := (st.1, st.2 ++ [(ob p).sh, (ob p).n] ++ (ob p).bs)) h (hf p hP))
/-- The object at a place. -/
def M.obAt (L : List RO) (p : Nat) : RO := (L.find? fun o => o.at_ == p).getD ⟨0, 0, 0, [], [], none, 0, none, 0⟩
theorem obAt_of {s : St} {L : List RO} (h : Sim s L) {o : RO} (ho : o ∈ L) : M.obAt L o.at_ = o := by
  unfold M.obAt
  cases hf : L.find? fun q => q.at_ == o.at_ with
  | none =>
    have := List.find?_eq_none.1 hf o ho
    simp at this
  | some q =>
    have hq := List.mem_of_find?_eq_some hf
    have he : q.at_ = o.at_ := by have := List.find?_some hf; simpa using this
    obtain ⟨i, hi⟩ := List.mem_iff_getElem?.1 ho
    obtain ⟨j, hj⟩ := List.mem_iff_getElem?.1 hq
    rcases Nat.lt_trichotomy i j with h1 | h1 | h1
    · exact absurd (by omega) (h.uniq hj i o h1 hi)
    · subst h1; rw [hi] at hj; injection hj with hj; rw [hj]; rfl
    · exact absurd (by omega) (h.uniq hi j q h1 hj)
theorem tof_inj {w : World} {s : St} {L : List RO} {mk : Nat → Bool} (h : Right w s L) {p q : RO} (hp : p ∈ L) (hq : q ∈ L) (mp : mk p.at_ = true) (mq : mk q.at_ = true) (e : M.tof s mk L p.at_ = M.tof s mk L q.at_) : p.at_ = q.at_ := by
  have key : ∀ p q : RO, p ∈ L → q ∈ L → mk p.at_ = true → p.at_ < q.at_ → M.tof s mk L p.at_ < M.tof s mk L q.at_ := fun p q hp hq mp hlt => by
    obtain ⟨i, hi⟩ := List.mem_iff_getElem?.1 hp
    obtain ⟨j, hj⟩ := List.mem_iff_getElem?.1 hq
    have hz : ∀ o ∈ L, 1 ≤ s.sz o := fun o ho => (h.sim.good o ho).sz.2.2
    have h1 := tof_step (mk := mk) h.laid.tile hz p hp
    rw [if_pos mp] at h1
    have hpz := hz p hp
    have hqz := hz q hq
    have hle : p.at_ + s.sz p ≤ q.at_ := by
      rcases Nat.lt_trichotomy i j with hij | hij | hij
      · exact h.sim.tile.order hij hi hj
      · subst hij; rw [hi] at hj; injection hj with hj; subst hj; omega
      · have := h.sim.tile.order hij hj hi; omega
    have h2 := tof_mono (s := s) (mk := mk) hle L
    omega
  rcases Nat.lt_trichotomy p.at_ q.at_ with h1 | h1 | h1
  · have := key p q hp hq mp h1; omega
  · exact h1
  · have := key q p hq hp mq h1; omega
/-- Behind a collection the same is seen. -/
theorem sight_same {w w' : World} {s s' : St} {L : List RO} {rl : List Nat} {mk : Nat → Bool} (h : Right w s L) (h' : Right w' s' (M.slid mk (M.tof s mk L) L)) (hfit : ∀ v ∈ rl, s.fits (v : Nat) = true) (hmk : ∀ b, mk b = true ↔ M.Rch L rl b) :
    M.sight (M.obAt (M.slid mk (M.tof s mk L) L)) (rl.map (M.ren (M.tof s mk L))) = M.sight (M.obAt L) rl := by
  have hobj : ∀ p, M.Rch L rl p → ∃ o ∈ L, o.at_ = p := fun p hp => by
    induction hp with
    | root hv he =>
      obtain ⟨o, ho, e⟩ := h.root (hfit _ hv) he
      exact ⟨o, ho, by omega⟩
    | field ho _ hv he _ =>
      obtain ⟨o, ho, e⟩ := h.root (h.fit _ ho _ hv) he
      exact ⟨o, ho, by omega⟩
  have hi : ∀ a b, M.Rch L rl a → M.Rch L rl b → M.tof s mk L a = M.tof s mk L b → a = b := fun a b ha hb e => by
    obtain ⟨p, hp, rfl⟩ := hobj a ha
    obtain ⟨q, hq, rfl⟩ := hobj b hb
    exact tof_inj h hp hq ((hmk _).2 ha) ((hmk _).2 hb) e
  have hf : ∀ p, M.Rch L rl p → ∀ v ∈ (M.obAt L p).fs, v % 2 = 0 → M.Rch L rl (v / 2) := fun p hp v hv he => by
    obtain ⟨o, ho, rfl⟩ := hobj p hp
    rw [obAt_of h.sim ho] at hv
    exact .field ho hp hv he
  have ho : ∀ p, M.Rch L rl p → M.obAt (M.slid mk (M.tof s mk L) L) (M.tof s mk L p) = (M.obAt L p).goes (M.tof s mk L) := fun p hp => by
    obtain ⟨o, ho, rfl⟩ := hobj p hp
    rw [obAt_of h.sim ho]
    exact obAt_of h'.sim (o := o.goes (M.tof s mk L)) (mem_slid.2 ⟨o, ho, (hmk _).2 hp, rfl⟩)
  unfold M.sight
  have e := see_mv (t := M.tof s mk L) (l := rl) (st := ([], [])) hi (fun q hq => by simp at hq) (fun v hv he => .root hv he)
  rw [show (([], []) : List Nat × List Nat) = M.mv (M.tof s mk L) ([], []) from rfl, e]
  exact view_mv hi hf ho _ _ _ (see_of (st := ([], [])) (fun q hq => by simp at hq) (fun v hv he => .root hv he))
end Go.Proofs.Ythfkgkddklnnhaa
/- The laws' own place and sight of layer 3. -/
namespace Go.Proofs.Ythfkgkddklnnhaa
set_option linter.unusedVariables false
open Go.ChangeShapes Go.WideShapes Go.ChangeAt Go.RowKit
open M (W)

theorem infoI3 : (Try.prog.info? 3).map (fun i => (i.zero, i.size, i.bytes)) = some (some (.int .i64 0), 1, 8) := by kernel_rfl
theorem ints_snoc (l : List Nat) (p : Nat) : M.ints (l ++ [p]) = M.ints l ++ [.int .i64 (p : Int)] := by unfold M.ints; simp
theorem ints_get (l : List Nat) (j p : Nat) (h : l[j]? = some p) : (M.ints l)[j]? = some (.int .i64 (p : Int)) := by unfold M.ints; rw [List.getElem?_map, h]; rfl
set_option maxRecDepth 100000 in
set_option maxHeartbeats 2000000 in
theorem place3_any (B : Nat) (a : Option Addr) (n c : Nat) (met : List Nat) (p : Nat) (w : World) (ho : w.ownsRow B 3 1 (.slice a n c) n (M.ints met)) (hn : met.length = n) (hle : n ≤ 1099511627776) (hB : B ≤ w.heap.size) :
    Calls Try.prog 50 #[.slice a n c, .int .i64 p] w fun e w' => ∃ a' m' c', e = .returned (.tuple #[.slice a' m' c', .int .i64 (M.idx met p : Nat)]) ∧ (M.meet met p).length = m' ∧ w'.ownsRow B 3 1 (.slice a' m' c') m' (M.ints (M.meet met p)) ∧ Turn (fun k => (Value.slice a n c).ownBlock = some k) w w' := by
  have hnc := (own_le ho).1
  have HO := Lib.hid ho
  have HN := Lib.hid hn
  clear ho hn
  by_cases hin : ∃ j : Nat, met[j]? = some p ∧ ∀ (i : Nat) q, i < j → met[i]? = some q → q ≠ p
  · obtain ⟨j, hj, hno⟩ := hin
    have hjl := (List.getElem?_eq_some_iff.1 hj).1
    have hidx := idx_at p met j hj hno
    obtain ⟨g, rfl, hg, _, hcm, hcell, _⟩ := own_form HO.out (by have := HN.out; omega)
    have hmeet : M.meet met p = met := by unfold M.meet; rw [hidx, if_pos hjl]
    rw [hidx, hmeet]
    have HJ := Lib.hid hj
    have HNO := Lib.hid hno
    have HC := Lib.hid hcell
    have hjn : j < n := by have := HN.out; omega
    unfold maxLen at hcm
    clear hj hno hcell hidx hmeet hjl
    go_enter Try.func50, Try.ntmps50
    go_wp2_with fail
    go_loopw [10] (fun v wr => ∃ i : Nat, v = .int .i64 i ∧ i ≤ j ∧ wr = w) (fun v _ => n - (intOf v).toNat)
    case atStart => exact ⟨0, rfl, by omega, rfl⟩
    case round =>
      obtain ⟨i, rfl, hi, rfl⟩ := hrel
      by_cases hlt : i = j
      · subst hlt
        have cj := HC.out i _ (ints_get _ _ _ HJ.out)
        have xx : ((p : Int) == p) = true := by simp
        go_wp2_with fail
        go_ret2
        exact ⟨_, n, c, rfl, HN.out, HO.out, Turn.refl _ _⟩
      · obtain ⟨q, hq⟩ : ∃ q, met[i]? = some q := ⟨_, List.getElem?_eq_getElem (by have := HN.out; omega)⟩
        have hqp := HNO.out i q (by omega) hq
        have cj := HC.out i _ (ints_get _ _ _ hq)
        have xx : ((q : Int) == p) = false := beq_eq_false_iff_ne.2 (by omega)
        clear hq hqp
        go_wp2_with fail
        go_roundw
        case rel => exact ⟨i + 1, by go_num, by omega, trivial⟩
        case measure => simp [intOf]; omega
  · have hno : ∀ q ∈ met, q ≠ p := by
      intro q hq e
      subst e
      apply hin
      have hlt := List.findIdx_lt_length_of_exists (p := fun r => r == q) (xs := met) ⟨q, hq, by simp⟩
      refine ⟨met.findIdx fun r => r == q, ?_, fun i r hi hr => ?_⟩
      · rw [List.getElem?_eq_getElem hlt]
        have := List.findIdx_getElem (w := hlt)
        simpa using this
      · have := List.not_of_lt_findIdx hi
        have e2 := (List.getElem?_eq_some_iff.1 hr)
        obtain ⟨h1, h2⟩ := e2
        rw [h2] at this
        simpa using this
    have hidx := idx_no p met hno
    have hmeet : M.meet met p = met ++ [p] := by unfold M.meet; rw [hidx, if_neg (Nat.lt_irrefl _)]
    rw [hidx, hmeet]
    have HNO := Lib.hid hno
    clear hno hidx hmeet hin
    rw [HN.out]
    go_enter Try.func50, Try.ntmps50
    go_wp2_with fail
    go_loopw [10] (fun v wr => ∃ i : Nat, v = .int .i64 i ∧ i ≤ n ∧ wr = w) (fun v _ => n - (intOf v).toNat)
    case atStart => exact ⟨0, rfl, by omega, rfl⟩
    case round =>
      obtain ⟨i, rfl, hi, rfl⟩ := hrel
      by_cases hlt : i < n
      · obtain ⟨q, hq⟩ : ∃ q, met[i]? = some q := ⟨_, List.getElem?_eq_getElem (by have := HN.out; omega)⟩
        obtain ⟨g, rfl, hg, _, hcm, hcell, _⟩ := own_form HO.out (by omega)
        have hqp := HNO.out q (List.mem_of_getElem? hq)
        have cj := hcell i _ (ints_get _ _ _ hq)
        have xx : ((q : Int) == p) = false := beq_eq_false_iff_ne.2 (by omega)
        unfold maxLen at hcm
        clear hq hqp hcell
        go_wp2_with fail
        go_roundw
        case rel => exact ⟨i + 1, by go_num, by omega, trivial⟩
        case measure => simp [intOf]; omega
      · obtain rfl : i = n := by omega
        have HN1 := Lib.hid (one_new wr 3 (.int .i64 p) wr.heap.size rfl)
        go_wp2_with (first
          | (at_builtin; refine wpList_append_form rfl (.tmp 21) (.tmp 23) 86 rfl B 3 1 8 (.int .i64 0) Try.underlying86 infoI3 rfl (by decide) a i c _ rfl (own_keep HO.out ((Still.refl wr).alloc (.cells #[.int .i64 p] 3)) (fun _ _ e => e)) ⟨wr.heap.size, 0, none⟩ 1 1 [.int .i64 p] rfl rfl HN1.out (by simp [Value.oneCell']) (by decide) (by unfold maxLen; omega) (by omega) (by simp; omega) ?_
             intro g9 c9 w9 hown9 ht9 hnew9))
        go_ret2
        refine ⟨_, i + 1, c9, rfl, by rw [List.length_append, HN.out]; rfl, ?_, (Still.turn ((Still.refl wr).alloc _)).trans ht9.out⟩
        rw [ints_snoc]; exact hown9.out
end Go.Proofs.Ythfkgkddklnnhaa
/- The laws' own sight of layer 3: what it answers. -/
namespace Go.Proofs.Ythfkgkddklnnhaa
set_option linter.unusedVariables false
open Go.ChangeShapes Go.WideShapes Go.ChangeAt Go.RowKit
open M (W)

theorem own_other {W W' : World} {base base' : Nat} {e e' : TypeId} {size size' n n' : Nat} {v v' : Value} {xs xs' : List Value} (h : W.ownsRow base e size v n xs) (t : Turn (fun k => v'.ownBlock = some k) W W') (h' : W.ownsRow base' e' size' v' n' xs') (hne : e ≠ e') : W'.ownsRow base e size v n xs :=
  own_keep h t fun k hk e1 => by
    rcases own_types h h' hne with e2 | e2
    · rw [hk] at e2; simp at e2
    · exact e2 (hk.trans e1.symm)
theorem own_block_ne {W : World} {base k : Nat} {e t : TypeId} {size n : Nat} {v : Value} {xs : List Value} {cs : Array Value} {fr : Nat × Nat} (h : W.ownsRow base e size v n xs) (hb : W.heap[k]? = some (.cells cs t fr)) (hne : e ≠ t) : v.ownBlock ≠ some k := by
  rcases h.2 with ⟨rfl, _⟩ | ⟨g', cap, cur, rfl, _, hg, _⟩
  · simp [Value.ownBlock]
  · intro he
    have : g' = k := by simpa [Value.ownBlock] using he
    subst this
    rw [hb] at hg; injection hg with hg; injection hg with _ e'; exact hne e'.symm
theorem see1_get {st : List Nat × List Nat} {v i p : Nat} (h : st.1[i]? = some p) : (M.see1 st v).1[i]? = some p := by
  unfold M.see1
  split
  · exact h
  · show (M.meet st.1 (v / 2))[i]? = some p
    unfold M.meet
    split
    · exact h
    · rw [List.getElem?_append_left (List.getElem?_eq_some_iff.1 h).1]; exact h
theorem see_get {i p : Nat} : ∀ {l : List Nat} {st : List Nat × List Nat}, st.1[i]? = some p → (M.see st l).1[i]? = some p
  | [], _, h => h
  | v :: l, st, h => by rw [see_cons]; exact see_get (see1_get h)
theorem u64l_snoc (l : List Nat) (v : Nat) : M.u64l (l ++ [v]) = M.u64l l ++ [.int .u64 (v : Int)] := by unfold M.u64l; simp
theorem see1_len (st : List Nat × List Nat) (v : Nat) : (M.see1 st v).2.length = st.2.length + 1 ∧ (M.see1 st v).1.length ≤ st.1.length + 1 := by
  unfold M.see1
  split
  · simp
  · unfold M.meet
    split <;> simp
theorem see_len : ∀ (l : List Nat) (st : List Nat × List Nat), (M.see st l).2.length = st.2.length + l.length ∧ (M.see st l).1.length ≤ st.1.length + l.length
  | [], st => ⟨rfl, Nat.le_refl _⟩
  | v :: l, st => by
    rw [see_cons]
    have h1 := see_len l (M.see1 st v)
    have h2 := see1_len st v
    simp only [List.length_cons]
    omega
/-- What has been seen is short, and of words. -/
structure Sighted (st : List Nat × List Nat) (b : Nat) : Prop where
  m : st.1.length ≤ b
  o : st.2.length ≤ b
  lt : ∀ u ∈ st.2, u < 18446744073709551616
theorem Sighted.see1 {st : List Nat × List Nat} {b v : Nat} (h : Sighted st b) (hv : v < 18446744073709551616) (hb : b ≤ 1099511627776) : Sighted (M.see1 st v) (b + 1) := by
  obtain ⟨h1, h2⟩ := see1_len st v
  refine ⟨by have := h.m; omega, by have := h.o; omega, fun u hu => ?_⟩
  unfold M.see1 at hu
  split at hu
  · rcases List.mem_append.1 hu with hu | hu
    · exact h.lt u hu
    · obtain rfl : u = v := by simpa using hu
      exact hv
  · rcases List.mem_append.1 hu with hu | hu
    · exact h.lt u hu
    · obtain rfl : u = _ := by simpa using hu
      have := idx_le st.1 (v / 2)
      have := h.m
      omega
theorem Sighted.see {b : Nat} : ∀ {l : List Nat} {st : List Nat × List Nat}, Sighted st b → (∀ v ∈ l, v < 18446744073709551616) → b + l.length ≤ 1099511627776 → Sighted (M.see st l) (b + l.length)
  | [], st, h, _, _ => h
  | v :: l, st, h, hl, hb => by
    rw [see_cons]
    have := Sighted.see (h.see1 (hl v List.mem_cons_self) (by simp at hb; omega)) (fun u hu => hl u (List.mem_cons_of_mem _ hu)) (by simp at hb; omega)
    rw [show b + (v :: l).length = b + 1 + l.length by simp; omega]
    exact this
theorem Sighted.start {st : List Nat × List Nat} {b : Nat} {o : RO} (h : Sighted st b) (h1 : o.sh < 18446744073709551616) (h2 : o.n < 18446744073709551616) (h3 : ∀ c ∈ o.bs, c < 256) : Sighted (st.1, st.2 ++ [o.sh, o.n] ++ o.bs) (b + (2 + o.bs.length)) :=
  ⟨by have := h.m; show st.1.length ≤ _; omega, by have := h.o; simp; omega, fun u hu => by
    have hu' : u ∈ st.2 ++ [o.sh, o.n] ++ o.bs := hu
    rw [List.mem_append, List.mem_append] at hu'
    rcases hu' with (hu | hu) | hu
    · exact h.lt u hu
    · simp at hu; rcases hu with rfl | rfl <;> assumption
    · have := h3 u hu; omega⟩
theorem conv_str (l : List Nat) (W : World) (hl : ∀ v ∈ l, v < 256) : ∃ c W', (convert 9 71 (.string (M.str l))).run Try.prog W = .ok (.slice (some ⟨W.heap.size, 0, none⟩) l.length c) W' ∧ Still W W' ∧ W.heap.size < W'.heap.size ∧ (∃ cs fr, W'.heap[W.heap.size]? = some (.cells cs 5 fr)) ∧ ∀ j, j < l.length → W'.cell? ⟨W.heap.size, j, none⟩ = some (.int .u8 (l.getD j 0 : Nat)) := by
  have hs : (M.str l).size = l.length := by unfold M.str; rw [strOfNums_size]; simp
  have h := Lib.run_convert_string_bytes (P := Try.prog) W 9 71 5 (M.str l) Try.underlying9 Try.underlying71 Try.underlying5
  rw [hs] at h
  refine ⟨_, _, h, ⟨?_, ?_, ?_, ?_, ?_⟩, ?_, ⟨_, _, Lib.bytesWorld_at_new W _ _⟩, ?_⟩
  · rfl
  · rfl
  · rfl
  · rw [Lib.bytesWorld_size]; omega
  · intro k hk _; exact Lib.bytesWorld_at_old W _ _ k hk
  · rw [Lib.bytesWorld_size]; omega
  · intro j hj
    have e : (M.str l).data.toList = l.map fun v : Nat => UInt8.ofNat v := by
      unfold M.str
      rw [strOfNums_data, List.map_map]
      rfl
    have e2 : ((M.str l).data.toList.getD j 0).toNat = l.getD j 0 := by
      rw [e, List.getD_eq_getElem?_getD, List.getElem?_map, List.getD_eq_getElem?_getD, List.getElem?_eq_getElem hj]
      have := hl _ (List.getElem_mem hj)
      simp
      omega
    rw [Lib.bytesWorld_cell W _ _ j (by rw [hs]; exact hj), e2]
end Go.Proofs.Ythfkgkddklnnhaa
/- The laws' own sight of layer 3: its walk. -/
namespace Go.Proofs.Ythfkgkddklnnhaa
set_option linter.unusedVariables false
open Go.ChangeShapes Go.WideShapes Go.ChangeAt Go.RowKit
open M (W)

theorem two_new (W : World) (t : TypeId) (v u : Value) (g : Nat) (hg : W.heap.size = g) : ∀ (j : Nat) z, [v, u][j]? = some z → (W.alloc (.cells #[v, u] t)).cell? ((⟨g, 0, none⟩ : Addr).add j) = some z := by
  subst hg
  intro j z hj
  rw [Addr.add_lit, Nat.zero_add, (Blk.new W t #[v, u]).cell j]
  simpa using hj
/-- Where sight keeps what it has seen. -/
structure SI (w wr : World) (st : List Nat × List Nat) (ma : Option Addr) (ml mc : Nat) (oa : Option Addr) (ol oc : Nat) : Prop where
  hml : st.1.length = ml
  hol : st.2.length = ol
  met : wr.ownsRow w.heap.size 3 1 (.slice ma ml mc) ml (M.ints st.1)
  out : wr.ownsRow w.heap.size 33 1 (.slice oa ol oc) ol (M.u64l st.2)
  still : Still w wr
theorem SI.go {w wr wr' : World} {st : List Nat × List Nat} {ma : Option Addr} {ml mc : Nat} {oa : Option Addr} {ol oc : Nat} (h : SI w wr st ma ml mc oa ol oc) (t : Still wr wr') : SI w wr' st ma ml mc oa ol oc :=
  ⟨h.hml, h.hol, own_keep h.met t (fun _ _ e => e), own_keep h.out t (fun _ _ e => e), h.still.trans t⟩
theorem SI.app {w wr W w9 : World} {st : List Nat × List Nat} {ma : Option Addr} {ml mc : Nat} {oa : Option Addr} {ol oc g c9 k : Nat} (h : SI w wr st ma ml mc oa ol oc) (l : List Nat) (t : Still wr W) (ho : w9.ownsRow w.heap.size 33 1 (.slice (some ⟨g, 0, none⟩) (ol + k) c9) (ol + k) (M.u64l st.2 ++ M.u64l l)) (t9 : Turn (fun k => (Value.slice oa ol oc).ownBlock = some k) W w9) : SI w w9 (st.1, st.2 ++ l) ma ml mc (some ⟨g, 0, none⟩) (ol + k) c9 := by
  have hW := h.go t
  have hl := ho.1
  refine ⟨h.hml, ?_, own_other hW.met t9 hW.out (by decide), ?_, hW.still.own_turn t9 hW.out⟩
  · have h1 := h.hol
    have h2 : (M.u64l st.2 ++ M.u64l l).length = (ol + k) * 1 := hl
    unfold M.u64l at h2
    simp at h2
    simp; omega
  · rw [show M.u64l (st.2 ++ l) = M.u64l st.2 ++ M.u64l l by unfold M.u64l; simp]; exact ho
theorem SI.meet {w wr W : World} {st : List Nat × List Nat} {ma : Option Addr} {ml mc : Nat} {oa : Option Addr} {ol oc : Nat} {a' : Option Addr} {m' c' p : Nat} (h : SI w wr st ma ml mc oa ol oc) (hm : (M.meet st.1 p).length = m') (ho : W.ownsRow w.heap.size 3 1 (.slice a' m' c') m' (M.ints (M.meet st.1 p))) (t : Turn (fun k => (Value.slice ma ml mc).ownBlock = some k) wr W) : SI w W (M.meet st.1 p, st.2) a' m' c' oa ol oc :=
  ⟨hm, h.hol, ho, own_other h.out t h.met (by decide), h.still.own_turn t h.met⟩
theorem SI.cell {w wr : World} {st : List Nat × List Nat} {gm ml mc i p : Nat} {oa : Option Addr} {ol oc : Nat} (h : SI w wr st (some ⟨gm, 0, none⟩) ml mc oa ol oc) (hp : st.1[i]? = some p) : wr.cell? ⟨gm, i, none⟩ = some (.int .i64 p) ∧ gm < wr.heap.size := by
  have hl := (List.getElem?_eq_some_iff.1 hp).1
  obtain ⟨g, hg, hlt, _, _, hc, _⟩ := own_form h.met (by have := h.hml; omega)
  injection hg with hg
  injection hg with e1 _ _
  subst e1
  exact ⟨hc i _ (ints_get _ _ _ hp), hlt⟩
theorem take_succ' {l : List Nat} {j : Nat} (h : j < l.length) : l.take (j + 1) = l.take j ++ [l.getD j 0] := by
  rw [List.take_succ_eq_append_getElem h, List.getD_eq_getElem?_getD, List.getElem?_eq_getElem h]; rfl
/-- What Text tells of an object. -/
theorem text_any {w : World} {s : St} {L : List RO} (h : Right w s L) {o : RO} (ho : o ∈ L) : ∃ E : Int, (E = 0 ∧ o.fs = [] ∨ E = 1 ∧ o.fs.length = o.n) ∧ ∀ W, HpIs W s → Calls Try.prog 52 #[s.ptr, .int .i64 o.at_] W fun e w' => e = .returned (.tuple #[.string (M.str o.bs), .int .i64 E]) ∧ Still W w' := by
  have hob := h.sim.obAt h.hp ho
  have hg := h.sim.good o ho
  by_cases hk : s.kind o.sh = 3
  · refine ⟨0, .inl ⟨rfl, (hg.b hk).1⟩, fun W hW => ?_⟩
    have := text_ok s o.at_ _ o.n W hW hob hk rfl
    rw [h.sim.bytes ho hk] at this
    exact this
  · refine ⟨1, .inr ⟨rfl, (hg.f hk).2.1⟩, fun W hW => ?_⟩
    have := text_unfit s o.at_ _ W hW hob hk
    rw [(hg.f hk).1]
    exact this
set_option maxRecDepth 100000 in
set_option maxHeartbeats 8000000 in
theorem sight_any {w : World} {s : St} {L : List RO} (h : Right w s L) (a : Option Addr) (n c : Nat) (rl : List Nat) (hn : rl.length = n) (hr : ReadL w a rl) (hnc : n ≤ c) (hcm : c ≤ maxLen) (hle : n ≤ 30) (hlt : ∀ v ∈ rl, v < 18446744073709551616) (hfit : ∀ v ∈ rl, s.fits (v : Nat) = true) :
    Calls Try.prog 22 #[s.ptr, .slice a n c] w fun e w' => ∃ oa ol oc, e = .returned (.slice oa ol oc) ∧ (M.sight (M.obAt L) rl).length = ol ∧ w'.ownsRow w.heap.size 33 1 (.slice oa ol oc) ol (M.u64l (M.sight (M.obAt L) rl)) ∧ ol ≤ 1000000000 ∧ (∀ v ∈ M.sight (M.obAt L) rl, v < 18446744073709551616) ∧ Still w w' := by
  have HH := Lib.hid h
  have HR := Lib.hid hr
  have HN := Lib.hid hn
  have HLT := Lib.hid hlt
  have HFIT := Lib.hid hfit
  obtain ⟨R, hR⟩ : ∃ R, M.sight (M.obAt L) rl = R := ⟨_, rfl⟩
  have HRR := Lib.hid hR
  rw [hR]
  unfold maxLen at hcm
  clear h hr hn hlt hfit hR
  go_enter Try.func22, Try.ntmps22
  go_wp2_with fail
  go_loopw [5, 6, 24] (fun vm vo v wr => ∃ (j ml mc ol oc : Nat) (ma oa : Option Addr), vm = .slice ma ml mc ∧ vo = .slice oa ol oc ∧ v = .int .i64 j ∧ j ≤ n ∧ SI w wr (M.see ([], []) (rl.take j)) ma ml mc oa ol oc ∧ Sighted (M.see ([], []) (rl.take j)) j) (fun _ _ v _ => n - (intOf v).toNat)
  case atStart => exact ⟨0, 0, 0, 0, 0, none, none, rfl, rfl, rfl, by omega, ⟨rfl, rfl, World.ownsRow_nil _ _ _ _, World.ownsRow_nil _ _ _ _, Still.refl _⟩, ⟨Nat.le_refl _, Nat.le_refl _, fun u hu => by simp [M.see] at hu⟩⟩
  case round =>
    obtain ⟨j, ml, mc, ol, oc, ma, oa, rfl, rfl, rfl, hj, hsi, hsn⟩ := hrel
    have HI := Lib.hid hsi
    have HS := Lib.hid hsn
    have HB : Hid (ml ≤ 1000000000 ∧ ol ≤ 1000000000 ∧ n ≤ 30) := by
      have h1 := hsi.hml; have h2 := hsi.hol; have h3 := hsn.m; have h4 := hsn.o
      unfold Hid; omega
    clear hsi hsn
    by_cases hlt : j < n
    · obtain ⟨b, off, rfl, hb, hcell⟩ := HR.out.at_ (by have := HN.out; omega)
      have cj := hcell j (by have := HN.out; omega)
      rw [← HI.out.still.cell (p := ⟨b, off + j, none⟩) hb] at cj
      have hb2 : b < wr.heap.size := Nat.lt_of_lt_of_le hb HI.out.still.size
      have hts := take_succ' (l := rl) (j := j) (by have := HN.out; omega)
      have hvm : rl.getD j 0 ∈ rl := getD_mem (by have := HN.out; omega)
      obtain ⟨v, hv⟩ : ∃ v, rl.getD j 0 = v := ⟨_, rfl⟩
      rw [hv] at cj hts hvm
      have hvl := HLT.out v hvm
      have hsee : M.see ([], []) (rl.take (j + 1)) = M.see1 (M.see ([], []) (rl.take j)) v := by rw [hts, see_snoc]
      have HSEE := Lib.hid hsee
      have HSS := Lib.hid (HS.out.see1 hvl (by omega))
      have HIM := Lib.hid (isImm_any v wr (by omega) (by omega))
      clear hcell hts hsee hv hvm
      obtain ⟨st, hst⟩ : ∃ st, M.see ([], []) (rl.take j) = st := ⟨_, rfl⟩
      rw [hst] at HI HS HSEE HSS
      clear hst
      by_cases he : v % 2 = 1
      · have xv : ((v : Int) % 2 == 1) = true := by rw [beq_iff_eq]; omega
        have e1 : M.see1 st v = (st.1, st.2 ++ [v]) := by unfold M.see1; rw [if_pos he]
        have HE := Lib.hid e1
        rw [xv] at HIM
        clear e1 xv he
        go_wp2_with fail
        refine HIM.out.mono ?_; rintro e w1 ⟨rfl, rfl⟩
        have HN1 := Lib.hid (one_new w1 33 (.int .u64 v) w1.heap.size rfl)
        go_wp2_with (first
          | (at_builtin; refine wpList_append_form rfl (.tmp 30) (.tmp 32) 24 rfl w.heap.size 33 1 8 (.int .u64 0) Try.underlying24 infoU rfl (by decide) oa ol oc _ rfl (own_keep HI.out.out ((Still.refl w1).alloc (.cells #[.int .u64 v] 33)) (fun _ _ e => e)) ⟨w1.heap.size, 0, none⟩ 1 1 [.int .u64 v] rfl rfl HN1.out (by simp [Value.oneCell']) (by decide) (by have := HB.out; unfold maxLen; omega) (by have := HB.out; omega) (by have := HI.out.still.size; simp; omega) ?_
             intro g9 c9 w9 hown9 ht9 hnew9
             have HI9 := Lib.hid (HI.out.app [v] ((Still.refl w1).alloc (.cells #[.int .u64 v] 33)) hown9.out ht9.out)
             clear hown9 ht9 hnew9))
        go_roundw
        case rel => exact ⟨j + 1, ml, mc, ol + 1, c9, ma, some ⟨g9, 0, none⟩, rfl, rfl, by go_num, by omega, by rw [HSEE.out, HE.out]; exact HI9.out, by rw [HSEE.out]; exact HSS.out⟩
        case measure => simp [intOf]; omega
      · have xv : ((v : Int) % 2 == 1) = false := by rw [beq_eq_false_iff_ne]; omega
        have e1 : M.see1 st v = (M.meet st.1 (v / 2), st.2 ++ [2 * M.idx st.1 (v / 2)]) := by unfold M.see1; rw [if_neg he]
        have HE := Lib.hid e1
        rw [xv] at HIM
        have hat := at_any v wr (by omega) (by omega)
        obtain ⟨p, hp⟩ : ∃ p, v / 2 = p := ⟨_, rfl⟩
        rw [show ((v : Int) / 2) = (p : Int) by omega] at hat
        rw [hp] at HE
        have HAT := Lib.hid hat
        have HPL := Lib.hid (place3_any w.heap.size ma ml mc st.1 p wr HI.out.met HI.out.hml (by have := HB.out; omega) HI.out.still.size)
        clear e1 xv he hat hp
        go_wp2_with fail
        refine HIM.out.mono ?_; rintro e w1 ⟨rfl, rfl⟩
        go_wp2_with fail
        refine HAT.out.mono ?_; rintro e w1 ⟨rfl, rfl⟩
        go_wp2_with fail
        refine HPL.out.mono ?_; rintro e w2 ⟨a', m', c', rfl, hm', hown', ht'⟩
        have hI2 := HI.out.meet hm' hown' ht'
        have hkl := idx_le st.1 p
        have hkb : M.idx st.1 p ≤ 1000000000 := by have := HI.out.hml; have := HB.out; omega
        obtain ⟨k, hk⟩ : ∃ k, M.idx st.1 p = k := ⟨_, rfl⟩
        obtain ⟨k2, hk2⟩ : ∃ k2, 2 * M.idx st.1 p = k2 := ⟨_, rfl⟩
        rw [hk2] at HE
        rw [hk] at hkb
        rw [hk]
        have hw1 : IntKind.u64.wrap (k : Int) = (k : Int) := by rw [IntKind.wrap_u64]; omega
        have hw2 : IntKind.u64.wrap ((k : Int) * 2) = (k2 : Int) := by rw [IntKind.wrap_u64]; omega
        clear hm' hown' ht' hkl hk hk2 HI HPL HIM HAT
        rename World => wr
        have HI := Lib.hid hI2
        have HN1 := Lib.hid (one_new wr 33 (.int .u64 k2) wr.heap.size rfl)
        clear hI2
        go_wp2_with (first
          | (at_builtin; refine wpList_append_form rfl (.tmp 41) (.tmp 45) 24 rfl w.heap.size 33 1 8 (.int .u64 0) Try.underlying24 infoU rfl (by decide) oa ol oc _ rfl (own_keep HI.out.out ((Still.refl wr).alloc (.cells #[.int .u64 k2] 33)) (fun _ _ e => e)) ⟨wr.heap.size, 0, none⟩ 1 1 [.int .u64 k2] rfl rfl HN1.out (by simp [Value.oneCell']) (by decide) (by have := HB.out; unfold maxLen; omega) (by have := HB.out; omega) (by have := HI.out.still.size; simp; omega) ?_
             intro g9 c9 w9 hown9 ht9 hnew9
             have HI9 := Lib.hid (HI.out.app [k2] ((Still.refl wr).alloc (.cells #[.int .u64 k2] 33)) hown9.out ht9.out)
             clear hown9 ht9 hnew9))
        go_roundw
        case rel => exact ⟨j + 1, m', c', ol + 1, c9, a', some ⟨g9, 0, none⟩, rfl, rfl, by go_num, by omega, by rw [HSEE.out, HE.out]; exact HI9.out, by rw [HSEE.out]; exact HSS.out⟩
        case measure => simp [intOf]; omega
    · obtain rfl : j = n := by omega
      clear hlt
      have htk : rl.take j = rl := List.take_of_length_le (by have := HN.out; omega)
      rw [htk] at HI HS
      have hpl : ∀ q ∈ (M.see ([], []) rl).1, ∃ o ∈ L, o.at_ = q := see_of (st := ([], [])) (fun q hq => by simp at hq) fun v hv he => by
        obtain ⟨o, ho, e⟩ := HH.out.root (HFIT.out v hv) he
        exact ⟨o, ho, by omega⟩
      have HP := Lib.hid hpl
      have HRV : Hid (M.view (M.obAt L) 1600 0 (M.see ([], []) rl) = R) := HRR.out
      obtain ⟨st0, hst0⟩ : ∃ st0, M.see ([], []) rl = st0 := ⟨_, rfl⟩
      rw [hst0] at HI HS HP HRV
      clear hpl htk hst0
      go_wp2_with fail
      rename World => wz
      go_loopw [5, 6, 10] (fun vm vo v wr => ∃ (i ml mc ol oc : Nat) (ma oa : Option Addr) (st : List Nat × List Nat), vm = .slice ma ml mc ∧ vo = .slice oa ol oc ∧ v = .int .i64 i ∧ i ≤ 1600 ∧ SI w wr st ma ml mc oa ol oc ∧ Sighted st (30 + i * 131080) ∧ (∀ q ∈ st.1, ∃ o ∈ L, o.at_ = q) ∧ M.view (M.obAt L) (1600 - i) i st = R) (fun _ _ v _ => 1600 - (intOf v).toNat)
      case atStart => exact ⟨0, ml, mc, ol, oc, ma, oa, st0, rfl, rfl, rfl, by omega, HI.out, ⟨by have := HS.out.m; omega, by have := HS.out.o; omega, HS.out.lt⟩, HP.out, HRV.out⟩
      case round =>
        clear HI HS HP HRV HB
        obtain ⟨i, ml, mc, ol, oc, ma, oa, st, rfl, rfl, rfl, hi, hsi, hsn, hpl, hview⟩ := hrel
        have HI := Lib.hid hsi
        have HS := Lib.hid hsn
        have HP := Lib.hid hpl
        have HV := Lib.hid hview
        have HB : Hid (ml ≤ 300000000 ∧ ol ≤ 300000000) := by
          have h1 := hsi.hml; have h2 := hsi.hol; have h3 := hsn.m; have h4 := hsn.o
          unfold Hid; omega
        clear hsi hsn hpl hview
        have hb1 := HB.out
        by_cases hgo : i < ml ∧ i < 1600
        · obtain ⟨p, hp⟩ : ∃ p, st.1[i]? = some p := ⟨_, List.getElem?_eq_getElem (by have := HI.out.hml; omega)⟩
          obtain ⟨o, ho, hop⟩ := HP.out p (List.mem_of_getElem? hp)
          have hvw : M.view (M.obAt L) (1600 - (i + 1)) (i + 1) (M.visit o st) = R := by
            rw [← HV.out, show 1600 - i = (1600 - (i + 1)) + 1 by omega]
            conv => rhs; unfold M.view
            rw [hp]
            show _ = M.view (M.obAt L) _ _ (M.visit (M.obAt L p) st)
            rw [← hop, obAt_of HH.out.sim ho]
          have hob := HH.out.sim.obAt HH.out.hp ho
          have hg := HH.out.sim.good o ho
          have hkd := hg.kd
          have hfl := hg.flat
          subst hop
          obtain ⟨gm, hgma, hgm, hg1, hg2, hg3, _⟩ := own_form HI.out.met (by omega)
          have cm := hg3 i _ (ints_get _ _ _ hp)
          subst hgma
          obtain ⟨E, hE, hT⟩ := text_any HH.out ho
          have hSH : ∀ W, HpIs W s → Calls Try.prog 40 #[s.ptr, .int .i64 o.at_] W fun e w' => e = .returned (.tuple #[.int .i64 o.sh, .int .i64 0]) ∧ Still W w' := fun W hW => shape_ok s o.at_ _ W hW hob
          have hLN : ∀ W, HpIs W s → Calls Try.prog 39 #[s.ptr, .int .i64 o.at_] W fun e w' => e = .returned (.tuple #[.int .i64 o.n, .int .i64 0]) ∧ Still W w' := fun W hW => len_ok s o.at_ _ W hW hob
          have HSH := Lib.hid hSH
          have HLN := Lib.hid hLN
          have HTX := Lib.hid hT
          have HE := Lib.hid hE
          have HO := Lib.hid ho
          have HVW := Lib.hid hvw
          have HPI := Lib.hid hp
          have HIO : Hid (st.2.length ≤ 300000000) := by have h1 := HI.out.hol; unfold Hid; omega
          have hsh : o.sh < 512 := by have := HH.out.hp.m_le; omega
          have hon : o.n ≤ 65536 := hkd.2.1
          have hw1 : IntKind.u64.wrap (o.sh : Int) = (o.sh : Int) := by rw [IntKind.wrap_u64]; omega
          have hw2 : IntKind.u64.wrap (o.n : Int) = (o.n : Int) := by rw [IntKind.wrap_u64]; omega
          have HBL := Lib.hid hg.bl
          have HFL := Lib.hid hg.fl
          have HLB : Hid (o.fs.length ≤ 65536 ∧ o.bs.length ≤ 65536) := ⟨hfl.2.2.2.1, hfl.2.2.2.2⟩
          have hi1 : i < ml := hgo.1
          have hi2 : i < 1600 := hgo.2
          unfold maxLen at hg2
          clear hvw hob hg hkd hfl hg3 hT hSH hLN hE ho hp hgo
          go_wp2_with fail
          refine (HSH.out _ (HH.out.still HI.out.still).hp).mono ?_; rintro e w1 ⟨rfl, t1⟩
          have cm1 : w1.cell? ⟨gm, i, none⟩ = some (.int .i64 o.at_) := (t1.cell (p := ⟨gm, i, none⟩) hgm).trans cm
          have hgm1 : gm < w1.heap.size := Nat.lt_of_lt_of_le hgm t1.size
          have HI1 := Lib.hid (HI.out.go t1)
          clear t1 cm hgm HI
          go_wp2_with fail
          refine (HLN.out _ (HH.out.still HI1.out.still).hp).mono ?_; rintro e wr ⟨rfl, t2⟩
          have cm2 : wr.cell? ⟨gm, i, none⟩ = some (.int .i64 o.at_) := (t2.cell (p := ⟨gm, i, none⟩) hgm1).trans cm1
          have hgm2 : gm < wr.heap.size := Nat.lt_of_lt_of_le hgm1 t2.size
          have HI := Lib.hid (HI1.out.go t2)
          clear t2 cm1 hgm1 HI1
          have HN1 := Lib.hid (two_new wr 33 (.int .u64 o.sh) (.int .u64 o.n) wr.heap.size rfl)
          go_wp2_with (first
            | (at_builtin; refine wpList_append_form rfl (.tmp 76) (.tmp 81) 24 rfl w.heap.size 33 1 8 (.int .u64 0) Try.underlying24 infoU rfl (by decide) oa ol oc _ rfl (own_keep HI.out.out ((Still.refl wr).alloc (.cells #[.int .u64 o.sh, .int .u64 o.n] 33)) (fun _ _ e => e)) ⟨wr.heap.size, 0, none⟩ 2 2 [.int .u64 o.sh, .int .u64 o.n] rfl rfl HN1.out (by simp [Value.oneCell']) (by decide) (by have := HB.out; unfold maxLen; omega) (by have := HB.out; omega) (by have := HI.out.still.size; simp; omega) ?_
               intro g9 c9 w9 hown9 ht9 hnew9
               have HI9 := Lib.hid (HI.out.app [o.sh, o.n] ((Still.refl wr).alloc (.cells #[.int .u64 o.sh, .int .u64 o.n] 33)) hown9.out ht9.out)
               obtain ⟨cm9, hgm9⟩ := HI9.out.cell HPI.out
               clear hown9 ht9 hnew9))
          refine (HTX.out _ (HH.out.still HI9.out.still).hp).mono ?_; rintro e w4 ⟨rfl, t4⟩
          have HI4 := Lib.hid (HI9.out.go t4)
          obtain ⟨bc, w5, hconv, t5, hz5, ⟨cs5, fr5, hb5⟩, hc5⟩ := conv_str o.bs w4 HBL.out
          have HI5 := Lib.hid (HI4.out.go t5)
          have HC5 := Lib.hid hc5
          have HB5 := Lib.hid hb5
          have hlb := HLB.out
          clear t4 t5 hc5 hb5 HI9 cm9 hgm9 cm2 hgm2 HI HN1
          go_wp2_with fail
          clear hconv
          obtain ⟨g5, hg5⟩ : ∃ g5, w4.heap.size = g5 := ⟨_, rfl⟩
          rw [hg5] at HC5 HB5 hz5 ⊢
          clear hg5
          go_loopw [6, 95] (fun vo v wr => ∃ (j ol oc : Nat) (oa : Option Addr), vo = .slice oa ol oc ∧ v = .int .i64 j ∧ j ≤ o.bs.length ∧ SI w wr (st.1, st.2 ++ [o.sh, o.n] ++ o.bs.take j) (some ⟨gm, 0, none⟩) ml mc oa ol oc ∧ wr.heap[g5]? = w5.heap[g5]? ∧ g5 < wr.heap.size) (fun _ v _ => o.bs.length - (intOf v).toNat)
          case atStart => exact ⟨0, ol + 2, c9, some ⟨g9, 0, none⟩, rfl, rfl, by omega, by rw [List.take_zero, List.append_nil]; exact HI5.out, rfl, hz5⟩
          case round =>
            obtain ⟨j, ol', oc', oa', rfl, rfl, hj, hsi, hbk, hg5l⟩ := hrel
            have HI := Lib.hid hsi
            have HBK := Lib.hid hbk
            have holen := hsi.hol
            have hob : ol' ≤ 300000000 + 2 + 65536 := by
              have h1 := HIO.out
              simp at holen
              omega
            have HB := Lib.hid hob
            clear hsi hbk holen hob
            by_cases hlt : j < o.bs.length
            · have cj : wr.cell? ⟨g5, j, none⟩ = some (.int .u8 (o.bs.getD j 0 : Nat)) := (World.cell?_of_block (w := w5) HBK.out).trans (HC5.out j hlt)
              have hts := take_succ' hlt
              have hcl := getD_lt HBL.out j
              obtain ⟨v, hv⟩ : ∃ v, o.bs.getD j 0 = v := ⟨_, rfl⟩
              rw [hv] at cj hts hcl
              have hw3 : IntKind.u64.wrap (v : Int) = (v : Int) := by rw [IntKind.wrap_u64]; omega
              have HTS := Lib.hid hts
              have HN1 := Lib.hid (one_new wr 33 (.int .u64 v) wr.heap.size rfl)
              clear hts hv
              go_wp2_with (first
                | (at_builtin; refine wpList_append_form rfl (.tmp 99) (.tmp 102) 24 rfl w.heap.size 33 1 8 (.int .u64 0) Try.underlying24 infoU rfl (by decide) oa' ol' oc' _ rfl (own_keep HI.out.out ((Still.refl wr).alloc (.cells #[.int .u64 v] 33)) (fun _ _ e => e)) ⟨wr.heap.size, 0, none⟩ 1 1 [.int .u64 v] rfl rfl HN1.out (by simp [Value.oneCell']) (by decide) (by have := HB.out; unfold maxLen; omega) (by have := HB.out; omega) (by have := HI.out.still.size; simp; omega) ?_
                   intro g10 c10 w9 hown9 ht9 hnew9
                   have HI10 := Lib.hid (HI.out.app [v] ((Still.refl wr).alloc (.cells #[.int .u64 v] 33)) hown9.out ht9.out)
                   have HB10 : Hid (w9.heap[g5]? = w5.heap[g5]? ∧ g5 < w9.heap.size) := ⟨(ht9.out.block g5 (by simp; omega) (own_block_ne (own_keep HI.out.out ((Still.refl wr).alloc (.cells #[.int .u64 v] 33)) (fun _ _ e => e)) (((Still.refl wr).alloc (.cells #[.int .u64 v] 33)).block g5 hg5l (fun e => e) |>.trans (HBK.out.trans HB5.out)) (by decide))).trans (((Still.refl wr).alloc (.cells #[.int .u64 v] 33)).block g5 hg5l (fun e => e) |>.trans HBK.out), Nat.lt_of_lt_of_le hg5l (Nat.le_trans (by simp) ht9.out.size)⟩
                   clear hown9 ht9 hnew9))
              go_roundw
              case rel => exact ⟨j + 1, ol' + 1, c10, some ⟨g10, 0, none⟩, rfl, by go_num, by omega, by rw [HTS.out, ← List.append_assoc]; exact HI10.out, HB10.out.1, HB10.out.2⟩
              case measure => simp [intOf]; omega
            · obtain rfl : j = o.bs.length := by omega
              rw [List.take_length] at HI
              clear hlt
              go_wp2_with fail
              obtain ⟨stB, hstB⟩ : ∃ stB : List Nat × List Nat, (st.1, st.2 ++ [o.sh, o.n] ++ o.bs) = stB := ⟨_, rfl⟩
              have hsB : Sighted stB (30 + i * 131080 + (2 + o.bs.length)) := by rw [← hstB]; exact HS.out.start (by omega) (by omega) HBL.out
              have hpB : stB.1[i]? = some o.at_ := by rw [← hstB]; exact HPI.out
              have hqB : ∀ q ∈ stB.1, ∃ o ∈ L, o.at_ = q := by rw [← hstB]; exact HP.out
              have hvB : M.visit o st = M.see stB o.fs := by rw [← hstB]; rfl
              rw [hstB] at HI
              rw [hvB] at HVW
              have HSB := Lib.hid hsB
              have HPB := Lib.hid hpB
              have HQB := Lib.hid hqB
              clear hstB hsB hpB hqB hvB HS HPI HP HV HIO HB HI5 HBK HI4
              have hob := ol'
              go_loopw [5, 6, 19] (fun vm vo v wr => ∃ (k ml mc ol oc : Nat) (ma oa : Option Addr), vm = .slice ma ml mc ∧ vo = .slice oa ol oc ∧ v = .int .i64 k ∧ k ≤ o.fs.length ∧ SI w wr (M.see stB (o.fs.take k)) ma ml mc oa ol oc) (fun _ _ v _ => o.fs.length - (intOf v).toNat)
              case atStart => exact ⟨0, ml, mc, ol', oc', some ⟨gm, 0, none⟩, oa', rfl, rfl, rfl, by omega, HI.out⟩
              case round =>
                clear HI hob hi1 hb1
                obtain ⟨k, ml, mc, ol, oc, ma, oa, rfl, rfl, rfl, hk, hsi⟩ := hrel
                have HI := Lib.hid hsi
                have hss : Sighted (M.see stB (o.fs.take k)) (30 + i * 131080 + (2 + o.bs.length) + (o.fs.take k).length) := HSB.out.see (fun v hv => HFL.out v (List.mem_of_mem_take hv)) (by rw [List.length_take]; omega)
                have HSK := Lib.hid hss
                have HPK := Lib.hid (see_get (l := o.fs.take k) HPB.out)
                have hob : ol ≤ 300000000 ∧ ml ≤ 300000000 := by
                  have h1 := hsi.hml; have h2 := hsi.hol; have h3 := hss.m; have h4 := hss.o
                  rw [List.length_take] at h3 h4
                  omega
                have HB := Lib.hid hob
                clear hsi hss hob
                obtain ⟨stk, hstk⟩ : ∃ stk, M.see stB (o.fs.take k) = stk := ⟨_, rfl⟩
                rw [hstk] at HI HSK HPK
                have HSTK := Lib.hid hstk
                clear hstk
                by_cases hlt : k < o.fs.length
                · rcases HE.out with ⟨hE, hfs⟩ | ⟨hE, hfs⟩
                  · rw [hfs] at hlt; simp at hlt
                  subst hE
                  have hkn : (k : Int) < o.n := by omega
                  have hon2 : k < o.n := by omega
                  have hvm : o.fs.getD k 0 ∈ o.fs := getD_mem hlt
                  have hts := take_succ' hlt
                  obtain ⟨oa1, hma1⟩ : ∃ g1, ma = some ⟨g1, 0, none⟩ := by
                    obtain ⟨g, e, _⟩ := own_form HI.out.met (by have h1 := (List.getElem?_eq_some_iff.1 HPK.out).1; have := HI.out.hml; omega)
                    exact ⟨g, e⟩
                  subst hma1
                  obtain ⟨cm, hgm⟩ := HI.out.cell HPK.out
                  have him : i < ml := by have h1 := (List.getElem?_eq_some_iff.1 HPK.out).1; have := HI.out.hml; omega
                  have hmlc : ml ≤ mc := (own_le HI.out.met).1
                  have hg := right_get (HH.out.still HI.out.still) HO.out hlt
                  have hvl := HFL.out _ hvm
                  obtain ⟨v, hv⟩ : ∃ v, o.fs.getD k 0 = v := ⟨_, rfl⟩
                  rw [hv] at hg hts hvl hvm
                  have HG := Lib.hid hg
                  have hsee : M.see stB (o.fs.take (k + 1)) = M.see1 stk v := by rw [hts, see_snoc, HSTK.out]
                  have HSEE := Lib.hid hsee
                  have HIM := Lib.hid (fun W => isImm_any v W (by omega) (by omega))
                  have HAT := Lib.hid (fun W => at_any v W (by omega) (by omega))
                  clear hg hts hsee hv hvm
                  by_cases he : v % 2 = 1
                  · have xv : ((v : Int) % 2 == 1) = true := by rw [beq_iff_eq]; omega
                    have e1 : M.see1 stk v = (stk.1, stk.2 ++ [v]) := by unfold M.see1; rw [if_pos he]
                    have HE1 := Lib.hid e1
                    rw [xv] at HIM
                    clear e1 xv he
                    go_wp2_with fail
                    refine HG.out.mono ?_; rintro e wq ⟨rfl, tq⟩
                    have HI0 := Lib.hid (HI.out.go tq)
                    clear tq HI cm hgm HG
                    go_wp2_with fail
                    refine (HIM.out _).mono ?_; rintro e wr ⟨rfl, rfl⟩
                    have HI := HI0
                    have HN1 := Lib.hid (one_new wr 33 (.int .u64 v) wr.heap.size rfl)
                    go_wp2_with (first
                      | (at_builtin; refine wpList_append_form rfl (.tmp 126) (.tmp 128) 24 rfl w.heap.size 33 1 8 (.int .u64 0) Try.underlying24 infoU rfl (by decide) oa ol oc _ rfl (own_keep HI.out.out ((Still.refl wr).alloc (.cells #[.int .u64 v] 33)) (fun _ _ e => e)) ⟨wr.heap.size, 0, none⟩ 1 1 [.int .u64 v] rfl rfl HN1.out (by simp [Value.oneCell']) (by decide) (by have := HB.out; unfold maxLen; omega) (by have := HB.out; omega) (by have := HI.out.still.size; simp; omega) ?_
                         intro g9 c9 w9 hown9 ht9 hnew9
                         have HI9 := Lib.hid (HI.out.app [v] ((Still.refl wr).alloc (.cells #[.int .u64 v] 33)) hown9.out ht9.out)
                         clear hown9 ht9 hnew9))
                    go_roundw
                    case rel => exact ⟨k + 1, ml, mc, ol + 1, c9, some ⟨oa1, 0, none⟩, some ⟨g9, 0, none⟩, rfl, rfl, by go_num, by omega, by rw [HSEE.out, HE1.out]; exact HI9.out⟩
                    case measure => simp [intOf]; omega
                  · have xv : ((v : Int) % 2 == 1) = false := by rw [beq_eq_false_iff_ne]; omega
                    have e1 : M.see1 stk v = (M.meet stk.1 (v / 2), stk.2 ++ [2 * M.idx stk.1 (v / 2)]) := by unfold M.see1; rw [if_neg he]
                    have HE1 := Lib.hid e1
                    rw [xv] at HIM
                    obtain ⟨p, hp⟩ : ∃ p, v / 2 = p := ⟨_, rfl⟩
                    rw [show ((v : Int) / 2) = (p : Int) by omega] at HAT
                    rw [hp] at HE1
                    clear e1 xv he hp
                    go_wp2_with fail
                    refine HG.out.mono ?_; rintro e wq ⟨rfl, tq⟩
                    have HI0 := Lib.hid (HI.out.go tq)
                    clear tq HI cm hgm HG
                    go_wp2_with fail
                    refine (HIM.out _).mono ?_; rintro e wq ⟨rfl, rfl⟩
                    go_wp2_with fail
                    refine (HAT.out _).mono ?_; rintro e wq ⟨rfl, rfl⟩
                    go_wp2_with fail
                    refine (place3_any w.heap.size (some ⟨oa1, 0, none⟩) ml mc stk.1 p wq HI0.out.met HI0.out.hml (by have := HB.out; omega) HI0.out.still.size).mono ?_; rintro e wr ⟨a', m', c', rfl, hm', hown', ht'⟩
                    have HI := Lib.hid (HI0.out.meet hm' hown' ht')
                    have hkl := idx_le stk.1 p
                    have hkb : M.idx stk.1 p ≤ 300000000 := by have := HI0.out.hml; have := HB.out; omega
                    obtain ⟨x, hx⟩ : ∃ x, M.idx stk.1 p = x := ⟨_, rfl⟩
                    obtain ⟨x2, hx2⟩ : ∃ x2, 2 * M.idx stk.1 p = x2 := ⟨_, rfl⟩
                    rw [hx2] at HE1
                    rw [hx] at hkb
                    rw [hx]
                    have hw4 : IntKind.u64.wrap (x : Int) = (x : Int) := by rw [IntKind.wrap_u64]; omega
                    have hw5 : IntKind.u64.wrap ((x : Int) * 2) = (x2 : Int) := by rw [IntKind.wrap_u64]; omega
                    clear hm' hown' ht' hkl hx hx2 HI0 HIM HAT
                    have HN1 := Lib.hid (one_new wr 33 (.int .u64 x2) wr.heap.size rfl)
                    go_wp2_with (first
                      | (at_builtin; refine wpList_append_form rfl (.tmp 137) (.tmp 141) 24 rfl w.heap.size 33 1 8 (.int .u64 0) Try.underlying24 infoU rfl (by decide) oa ol oc _ rfl (own_keep HI.out.out ((Still.refl wr).alloc (.cells #[.int .u64 x2] 33)) (fun _ _ e => e)) ⟨wr.heap.size, 0, none⟩ 1 1 [.int .u64 x2] rfl rfl HN1.out (by simp [Value.oneCell']) (by decide) (by have := HB.out; unfold maxLen; omega) (by have := HB.out; omega) (by have := HI.out.still.size; simp; omega) ?_
                         intro g9 c9 w9 hown9 ht9 hnew9
                         have HI9 := Lib.hid (HI.out.app [x2] ((Still.refl wr).alloc (.cells #[.int .u64 x2] 33)) hown9.out ht9.out)
                         clear hown9 ht9 hnew9))
                    go_roundw
                    case rel => exact ⟨k + 1, m', c', ol + 1, c9, a', some ⟨g9, 0, none⟩, rfl, rfl, by go_num, by omega, by rw [HSEE.out, HE1.out]; exact HI9.out⟩
                    case measure => simp [intOf]; omega
                · obtain rfl : k = o.fs.length := by omega
                  have htf : o.fs.take o.fs.length = o.fs := List.take_length
                  have HFIN : Hid (M.see stB o.fs = stk) := by have := HSTK.out; rw [htf] at this; exact this
                  have hlf := HLB.out
                  have hfin : ∀ q ∈ stk.1, ∃ o ∈ L, o.at_ = q := by
                    rw [← HFIN.out]
                    refine see_of HQB.out fun v hv he => ?_
                    obtain ⟨q, hq, e⟩ := HH.out.root (HH.out.fit o HO.out v hv) he
                    exact ⟨q, hq, by omega⟩
                  have HQF := Lib.hid hfin
                  have HSF : Hid (Sighted stk (30 + (i + 1) * 131080)) := by
                    have h1 := HSK.out
                    rw [htf] at h1
                    exact ⟨by have := h1.m; omega, by have := h1.o; omega, h1.lt⟩
                  have HVF : Hid (M.view (M.obAt L) (1600 - (i + 1)) (i + 1) stk = R) := by rw [← HFIN.out]; exact HVW.out
                  clear htf hfin hlt HSK HPK
                  rcases HE.out with ⟨hE, hfs⟩ | ⟨hE, hfs⟩
                  · subst hE
                    have xe : ((0 : Int) != 0) = false := rfl
                    have hfs0 : o.fs.length = 0 := by rw [hfs]; rfl
                    by_cases hon0 : o.fs.length < o.n
                    · go_wp2_with fail
                      go_roundw
                      case rel => exact ⟨i + 1, ml, mc, ol, oc, ma, oa, stk, rfl, rfl, by go_num, by omega, HI.out, HSF.out, HQF.out, HVF.out⟩
                      case measure => simp [intOf]; omega
                    · go_wp2_with fail
                      go_roundw
                      case rel => exact ⟨i + 1, ml, mc, ol, oc, ma, oa, stk, rfl, rfl, by go_num, by omega, HI.out, HSF.out, HQF.out, HVF.out⟩
                      case measure => simp [intOf]; omega
                  · subst hE
                    have hon0 : ¬ o.fs.length < o.n := by omega
                    clear hfs
                    go_wp2_with fail
                    go_roundw
                    case rel => exact ⟨i + 1, ml, mc, ol, oc, ma, oa, stk, rfl, rfl, by go_num, by omega, HI.out, HSF.out, HQF.out, HVF.out⟩
                    case measure => simp [intOf]; omega
        · have hfinal : R = st.2 := by
            rw [← HV.out]
            by_cases h2 : i < 1600
            · rw [show 1600 - i = (1600 - (i + 1)) + 1 by omega]
              unfold M.view
              rw [List.getElem?_eq_none (by have := HI.out.hml; omega)]
            · rw [show 1600 - i = 0 by omega]
              rfl
          have HF := Lib.hid hfinal
          clear hfinal
          by_cases hlm : i < ml
          · have hi2 : ¬ i < 1600 := by omega
            clear hgo
            go_wp2_with fail
            go_ret
            exact ⟨oa, ol, oc, rfl, by rw [HF.out]; exact HI.out.hol, by rw [HF.out]; exact HI.out.out, by have := HB.out; omega, by rw [HF.out]; exact HS.out.lt, HI.out.still⟩
          · clear hgo
            go_wp2_with fail
            go_ret
            exact ⟨oa, ol, oc, rfl, by rw [HF.out]; exact HI.out.hol, by rw [HF.out]; exact HI.out.out, by have := HB.out; omega, by rw [HF.out]; exact HS.out.lt, HI.out.still⟩
end Go.Proofs.Ythfkgkddklnnhaa
