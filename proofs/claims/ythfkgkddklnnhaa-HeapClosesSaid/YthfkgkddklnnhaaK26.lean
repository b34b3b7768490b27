/- Lemmas, put together: ReadN ReadA. -/
import Derived.Test.YthfkgkddklnnhaaK10
import Derived.Test.YthfkgkddklnnhaaK08
import Derived.Test.YthfkgkddklnnhaaK17
/- What the document's Read finds, word by word. Plain facts. -/
namespace Go.Proofs.Ythfkgkddklnnhaa
set_option linter.unusedVariables false
open M (W)

/-- There is but one way to the top, whatever else is asked on it. -/
theorem ChainTo.here {s : St} {top : Nat} {g g' : Nat → Bool} : ∀ {l hs : List Nat} {a p : Nat}, ChainTo s top g a p l → ChainTo s top g' a top hs → p < top → s.reads p top = true ∧ g' p = true ∧ p ∈ hs
  | [], [], a, p, h, h', hp => by
    have e1 : a = p := h
    have e2 : a = top := h'
    omega
  | [], b :: hs, a, p, h, h', hp => by
    have e1 : a = p := h
    subst e1
    exact ⟨h'.2.2.1, h'.2.2.2.1, by rw [h'.1]; exact List.mem_cons_self⟩
  | b :: l, [], a, p, h, h', hp => by
    have e2 : a = top := h'
    have := h.2.1
    omega
  | b :: l, c :: hs, a, p, h, h', hp => by
    obtain ⟨h1, h2, h3⟩ := ChainTo.here h.2.2.2.2 h'.2.2.2.2 hp
    exact ⟨h1, h2, List.mem_cons_of_mem _ h3⟩
/-- The words from p on, as fields. -/
def St.words (s : St) (p n : Nat) : List Nat := (List.range n).map fun i => s.ws (p + 1 + i)
theorem words_len (s : St) (p n : Nat) : (s.words p n).length = n := by simp [St.words]
theorem words_get (s : St) (p n i : Nat) (h : i < n) : (s.words p n).getD i 0 = s.ws (p + 1 + i) := by
  unfold St.words
  rw [List.getD_eq_getElem?_getD, List.getElem?_map, List.getElem?_range h]; rfl
theorem words_succ (s : St) (p n : Nat) : s.words p (n + 1) = s.words p n ++ [s.ws (p + 1 + n)] := by
  unfold St.words; rw [List.range_succ, List.map_append]; rfl
theorem bytes_len (s : St) (p n : Nat) : (s.bytes p n).length = n := by simp [St.bytes]
theorem bytes_get (s : St) (p n i : Nat) (h : i < n) : (s.bytes p n).getD i 0 = M.byteOf (s.ws (p + 1 + i / 8)) (i % 8) := by
  unfold St.bytes
  rw [List.getD_eq_getElem?_getD, List.getElem?_map, List.getElem?_range h]; rfl
theorem bytes_far (s : St) (p n i : Nat) (h : n ≤ i) : (s.bytes p n).getD i 0 = 0 := by
  rw [List.getD_eq_getElem?_getD, List.getElem?_eq_none (by rw [bytes_len]; exact h)]; rfl
theorem bytes_succ (s : St) (p n : Nat) : s.bytes p (n + 1) = s.bytes p n ++ [M.byteOf (s.ws (p + 1 + n / 8)) (n % 8)] := by
  unfold St.bytes; rw [List.range_succ, List.map_append]; rfl
theorem byteOf_lt (x j : Nat) : M.byteOf x j < 256 := Nat.mod_lt _ (by decide)
theorem bytes_lt (s : St) (p n : Nat) : ∀ v ∈ s.bytes p n, v < 256 := fun v hv => by
  unfold St.bytes at hv
  obtain ⟨i, _, rfl⟩ := List.mem_map.1 hv
  exact byteOf_lt _ _
/-- What stands when m of the last bytes have been taken. -/
def M.lastFrom (bs : List Nat) (N : Nat) : Nat → Nat
  | 0 => 0
  | m + 1 => M.lastFrom bs N m * 256 + bs.getD (N - 1 - m) 0
theorem lastFrom_lt (bs : List Nat) (hb : ∀ v ∈ bs, v < 256) (N : Nat) : ∀ m, m ≤ 8 → M.lastFrom bs N m < 256 ^ m
  | 0, _ => by simp [M.lastFrom]
  | m + 1, hm => by
    have h1 := lastFrom_lt bs hb N m (by omega)
    have h2 := getD_lt hb (N - 1 - m)
    simp only [M.lastFrom]
    rw [Nat.pow_succ]
    omega
theorem lastFrom_bytes (s : St) (p N : Nat) (h : N % 8 ≠ 0) : M.lastFrom (s.bytes p N) N (N % 8) = s.ws (p + 1 + N / 8) % 256 ^ (N % 8) := by
  obtain ⟨q, r, hr, hN⟩ : ∃ q r, r = N % 8 ∧ N = 8 * q + r := ⟨N / 8, N % 8, rfl, by omega⟩
  have hq : N / 8 = q := by omega
  rw [← hr, hq]
  have hr8 : r < 8 := by omega
  have key : ∀ t, t < r → (s.bytes p N).getD (8 * q + t) 0 = M.byteOf (s.ws (p + 1 + q)) t := fun t ht => by
    rw [bytes_get s p N _ (by omega), show (8 * q + t) / 8 = q by omega, show (8 * q + t) % 8 = t by omega]
  generalize s.ws (p + 1 + q) = x at *
  have hr0 : r ≠ 0 := by omega
  clear hr hq
  have key2 : ∀ m t, m + t + 1 = r → (s.bytes p N).getD (N - 1 - m) 0 = M.byteOf x t := fun m t e => by
    rw [show N - 1 - m = 8 * q + t by omega]; exact key t (by omega)
  clear key
  obtain rfl | rfl | rfl | rfl | rfl | rfl | rfl : r = 1 ∨ r = 2 ∨ r = 3 ∨ r = 4 ∨ r = 5 ∨ r = 6 ∨ r = 7 := by omega
  · simp only [M.lastFrom]
    rw [key2 0 0 rfl]
    unfold M.byteOf
    simp only [Nat.reduceMul, Nat.reducePow, Nat.zero_mul, Nat.pow_zero, Nat.reduceEqDiff]; omega
  · simp only [M.lastFrom]
    rw [key2 0 1 rfl, key2 1 0 rfl]
    unfold M.byteOf
    simp only [Nat.reduceMul, Nat.reducePow, Nat.zero_mul, Nat.pow_zero]; omega
  · simp only [M.lastFrom]
    rw [key2 0 2 rfl, key2 1 1 rfl, key2 2 0 rfl]
    unfold M.byteOf
    simp only [Nat.reduceMul, Nat.reducePow, Nat.zero_mul, Nat.pow_zero]; omega
  · simp only [M.lastFrom]
    rw [key2 0 3 rfl, key2 1 2 rfl, key2 2 1 rfl, key2 3 0 rfl]
    unfold M.byteOf
    simp only [Nat.reduceMul, Nat.reducePow, Nat.zero_mul, Nat.pow_zero]; omega
  · simp only [M.lastFrom]
    rw [key2 0 4 rfl, key2 1 3 rfl, key2 2 2 rfl, key2 3 1 rfl, key2 4 0 rfl]
    unfold M.byteOf
    simp only [Nat.reduceMul, Nat.reducePow, Nat.zero_mul, Nat.pow_zero]; omega
  · simp only [M.lastFrom]
    rw [key2 0 5 rfl, key2 1 4 rfl, key2 2 3 rfl, key2 3 2 rfl, key2 4 1 rfl, key2 5 0 rfl]
    unfold M.byteOf
    simp only [Nat.reduceMul, Nat.reducePow, Nat.zero_mul, Nat.pow_zero]; omega
  · simp only [M.lastFrom]
    rw [key2 0 6 rfl, key2 1 5 rfl, key2 2 4 rfl, key2 3 3 rfl, key2 4 2 rfl, key2 5 1 rfl, key2 6 0 rfl]
    unfold M.byteOf
    simp only [Nat.reduceMul, Nat.reducePow, Nat.zero_mul, Nat.pow_zero]; omega
/-- The bytes of words make these words, if behind the last byte stand noughts. -/
theorem wordOf_bytes (s : St) (p N j : Nat) (hj : j < (N + 7) / 8) (hx : s.ws (p + 1 + j) < 18446744073709551616) (hl : N % 8 = 0 ∨ s.ws (p + 1 + N / 8) / 256 ^ (N % 8) = 0) : M.wordOf (s.bytes p N) j = s.ws (p + 1 + j) := by
  have key : ∀ t, t < 8 → (s.bytes p N).getD (j * 8 + t) 0 = if j * 8 + t < N then M.byteOf (s.ws (p + 1 + j)) t else 0 := fun t ht => by
    by_cases h : j * 8 + t < N
    · rw [if_pos h, bytes_get s p N _ h, show (j * 8 + t) / 8 = j by omega, show (j * 8 + t) % 8 = t by omega]
    · rw [if_neg h]; exact bytes_far s p N _ (by omega)
  have k0 := key 0 (by decide)
  rw [Nat.add_zero] at k0
  unfold M.wordOf
  rw [k0, key 1 (by decide), key 2 (by decide), key 3 (by decide), key 4 (by decide), key 5 (by decide), key 6 (by decide), key 7 (by decide)]
  clear key k0
  by_cases hf : j * 8 + 8 ≤ N
  · rw [if_pos (by omega), if_pos (by omega), if_pos (by omega), if_pos (by omega), if_pos (by omega), if_pos (by omega), if_pos (by omega), if_pos (by omega)]
    generalize s.ws (p + 1 + j) = x at *
    unfold M.byteOf
    simp only [Nat.reduceMul, Nat.reducePow, Nat.zero_mul, Nat.pow_zero]; omega
  · have hj8 : N / 8 = j := by omega
    have h8 : N % 8 ≠ 0 := by omega
    rw [hj8] at hl
    have hl' := hl.resolve_left h8
    generalize s.ws (p + 1 + j) = x at *
    obtain ⟨r, hr⟩ : ∃ r, N % 8 = r := ⟨_, rfl⟩
    have hN : N = j * 8 + r := by omega
    rw [hr] at hl'
    subst hN
    have hr8 : r < 8 := by omega
    have hr0 : r ≠ 0 := by omega
    have kk : ∀ t, (j * 8 + t < j * 8 + r) = (t < r) := fun t => by rw [eq_iff_iff]; omega
    have k0 : (j * 8 < j * 8 + r) = (0 < r) := by rw [eq_iff_iff]; omega
    simp only [kk, k0]
    clear kk k0 hr hj8 hf hl h8 hj
    obtain rfl | rfl | rfl | rfl | rfl | rfl | rfl : r = 1 ∨ r = 2 ∨ r = 3 ∨ r = 4 ∨ r = 5 ∨ r = 6 ∨ r = 7 := by omega
    all_goals
      unfold M.byteOf
      simp only [Nat.reduceMul, Nat.reducePow, Nat.zero_mul, Nat.pow_zero, Nat.reduceLT, if_true, if_false, Nat.div_one] at hl' ⊢
      omega
theorem reads_hd {s : St} {p top : Nat} (hr : s.reads p top = true) : s.kind (M.sh (s.ws p)) ≠ 0 ∧ M.ln (s.ws p) ≤ 65536 ∧ s.needE (M.sh (s.ws p)) (M.ln (s.ws p)) = 0 := by
  unfold St.reads at hr
  rw [Bool.and_eq_true, decide_eq_true_eq, decide_eq_true_eq] at hr
  have he := hr.1
  unfold St.obE at he
  refine ⟨?_, ?_, he⟩
  · intro h0
    unfold St.needE M.needE at he
    rw [if_pos (.inl h0)] at he; omega
  · unfold St.needE M.needE at he
    generalize s.kind (M.sh (s.ws p)) = K at *
    generalize s.len (M.sh (s.ws p)) = N at *
    by_cases c1 : K = 0 ∨ M.ln (s.ws p) < 0 ∨ (K = 1 ∧ M.ln (s.ws p) ≠ N)
    · rw [if_pos c1] at he; omega
    · rw [if_neg c1] at he
      by_cases c2 : 65536 < M.ln (s.ws p)
      · rw [if_pos c2] at he; omega
      · omega
/-- A head that is right, with its words, is an object. -/
theorem good_fields {s : St} {p top sh n : Nat} (hr : s.reads p top = true) (hh : s.headB p = true) (hws : ∀ i, s.ws i < 18446744073709551616) (hsh : M.sh (s.ws p) = sh) (hn : M.ln (s.ws p) = n) (hk : s.kind sh ≠ 3) (fa : Option Addr) (fc : Nat) : Good s ⟨p, sh, n, s.words p n, [], fa, fc, none, 0⟩ := by
  obtain ⟨h1, h2, h3⟩ := reads_hd hr
  unfold St.headB at hh
  rw [decide_eq_true_eq] at hh
  rw [hsh, hn] at h3 hh
  refine ⟨h3, ?_, fun _ => ⟨rfl, words_len _ _ _, fun i hi => (words_get s p n i hi).symm⟩, fun h => absurd h hk, ?_, fun v hv => by simp at hv⟩
  · show s.ws p = (M.hd sh n 0 0).toNat
    rw [← hh]; rfl
  · intro v hv
    unfold St.words at hv
    obtain ⟨i, _, rfl⟩ := List.mem_map.1 hv
    exact hws _
theorem good_bytes {s : St} {p top sh n : Nat} (hr : s.reads p top = true) (hh : s.headB p = true) (hws : ∀ i, s.ws i < 18446744073709551616) (hsh : M.sh (s.ws p) = sh) (hn : M.ln (s.ws p) = n) (hk : s.kind sh = 3) (hl : n % 8 = 0 ∨ s.ws (p + 1 + n / 8) / 256 ^ (n % 8) = 0) (ba : Option Addr) (bc : Nat) : Good s ⟨p, sh, n, [], s.bytes p n, none, 0, ba, bc⟩ := by
  obtain ⟨h1, h2, h3⟩ := reads_hd hr
  unfold St.headB at hh
  rw [decide_eq_true_eq] at hh
  rw [hsh, hn] at h3 hh
  refine ⟨h3, ?_, fun h => absurd hk h, fun _ => ⟨rfl, bytes_len _ _ _, fun j hj => (wordOf_bytes s p n j hj (hws _) hl).symm⟩, fun v hv => by simp at hv, bytes_lt s p n⟩
  show s.ws p = (M.hd sh n 0 0).toNat
  rw [← hh]; rfl
theorem pow256 (r : Nat) : (256 : Nat) ^ r = 2 ^ (r * 8) := by rw [Nat.mul_comm, Nat.pow_mul]
/-- Such a last word is not taken. -/
theorem fill_no {s : St} {p top sh n : Nat} (hr : s.reads p top = true) (hsh : M.sh (s.ws p) = sh) (hn : M.ln (s.ws p) = n) (hk : s.kind sh = 3) (h8 : n % 8 ≠ 0) (hl : s.ws (p + 1 + n / 8) / 256 ^ (n % 8) ≠ 0) (x : Nat → Nat) : s.fillB x p = false := by
  obtain ⟨r1, r2, r3⟩ := St.reads_need hr
  obtain ⟨h1, h2, h3⟩ := reads_hd hr
  have hnd : s.nd p = 1 + (n + 7) / 8 := by
    have e : (s.ob (s.ws p)).need = M.need (s.kind sh) (s.len sh) n := by show s.need _ _ = _; unfold St.need; rw [hsh, hn]
    rw [hsh, hn] at h3
    unfold St.needE at h3
    rw [hk] at e h3
    unfold M.needE at h3
    unfold M.need at e
    rw [if_neg (by omega), if_neg (by omega), if_pos rfl] at e
    omega
  unfold St.fillB St.holds
  have ek : (s.ob (s.ws p)).kind = 3 := by show s.kind _ = 3; rw [hsh, hk]
  have en : (s.ob (s.ws p)).n = n := by show M.ln _ = _; rw [hn]
  rw [ek, en, hnd, if_pos rfl]
  have e8 : ¬ ((n : Int) % 8 = 0) := by omega
  rw [decide_eq_false e8, Bool.false_or, decide_eq_false_iff_not]
  rw [show p + (1 + (n + 7) / 8) - 1 = p + 1 + n / 8 by omega, show ((n : Int) % 8 * 8).toNat = n % 8 * 8 by omega]
  rw [pow256] at hl
  intro hc
  apply hl
  have e3 : (2 : Int) ^ (n % 8 * 8) = ((2 ^ (n % 8 * 8) : Nat) : Int) := by rw [Int.natCast_pow]; rfl
  rw [e3] at hc
  omega
/-- A field that does not fit is not taken. -/
theorem fill_unfit {s : St} {L : List RO} {o : RO} {top : Nat} (hm : s.m ≤ 512) (hg : Good s o) (ht : o.at_ + s.sz o ≤ top) {v : Nat} (hv : v ∈ o.fs) (hlt : ∀ p ∈ L, p.at_ < 65536) (hodd : v % 2 ≠ 1) (hno : ∀ p ∈ L, p.at_ ≠ v / 2) : s.fillB (M.putAll (L.map RO.at_)) o.at_ = false := by
  have hk : s.kind o.sh ≠ 3 := fun h => by have := (hg.b h).1; rw [this] at hv; simp at hv
  obtain ⟨f1, f2, f3⟩ := hg.f hk
  obtain ⟨i, hi, hvi⟩ := List.mem_iff_getElem.1 hv
  have hob := (hg.ob hm).1
  obtain ⟨z1, z2, z3⟩ := hg.sz
  rw [if_neg hk] at z1
  have hnd := (hg.reads hm ht).2.1
  unfold St.fillB St.holds
  have ek : (s.ob (s.ws o.at_)).kind = s.kind o.sh := by rw [hob]
  rw [ek, if_neg hk, hnd, List.all_eq_false]
  refine ⟨i, List.mem_range.2 (by omega), ?_⟩
  rw [f3 i (by omega), List.getD_eq_getElem?_getD, List.getElem?_eq_getElem hi, Option.getD_some, hvi]
  unfold M.fits
  rw [putAll_in (L.map RO.at_) (fun q hq => by obtain ⟨p, hp, rfl⟩ := List.mem_map.1 hq; exact hlt p hp)]
  rw [Bool.not_eq_true, Bool.or_eq_false_iff]
  refine ⟨beq_eq_false_iff_ne.2 (by omega), ?_⟩
  rw [List.any_eq_false]
  intro q hq
  obtain ⟨p, hp, rfl⟩ := List.mem_map.1 hq
  have := hno p hp
  rw [decide_eq_true_eq]; omega
/-- What Read has taken up to p. -/
structure Took (s : St) (p : Nat) (L : List RO) : Prop where
  tile : TileTo s p 0 L
  good : ∀ o ∈ L, Good s o
theorem TileTo.snoc {s : St} {o : RO} : ∀ {L : List RO} {a p : Nat}, TileTo s p a L → o.at_ = p → TileTo s (p + s.sz o) a (L ++ [o])
  | [], a, p, h, e => by
    have h' : a = p := h
    exact ⟨by rw [e, h'], by rw [h']; rfl⟩
  | b :: L, a, p, h, e => ⟨h.1, TileTo.snoc h.2 e⟩
theorem Took.snoc {s : St} {p : Nat} {L : List RO} {o : RO} (h : Took s p L) (hg : Good s o) (e : o.at_ = p) : Took s (p + s.sz o) (L ++ [o]) :=
  ⟨h.tile.snoc e, fun q hq => by
    rcases List.mem_append.1 hq with hq | hq
    · exact h.good q hq
    · obtain rfl : q = o := by simpa using hq
      exact hg⟩
theorem Took.chain {s : St} {p top : Nat} {L : List RO} (h : Took s p L) (hm : s.m ≤ 512) (hp : p ≤ top) : ChainTo s top s.headB 0 p (L.map RO.at_) :=
  chain_of hm h.tile h.good (fun o ho => ((h.good o ho).reads hm (Nat.le_refl _)).2.2) hp
theorem Took.no_head {s : St} {p top : Nat} {L : List RO} (h : Took s p L) (hm : s.m ≤ 512) (hp : p < top) (hn : s.reads p top = false ∨ s.headB p = false) : ∀ l, ¬ s.closes top l := fun l hc => by
  obtain ⟨h1, h2, _⟩ := (h.chain hm (Nat.le_of_lt hp)).here hc.1 hp
  rcases hn with e | e
  · rw [h1] at e; simp at e
  · rw [h2] at e; simp at e
theorem Took.no_fill {s : St} {p top : Nat} {L : List RO} (h : Took s p L) (hm : s.m ≤ 512) (hp : p < top) (hn : ∀ x, s.fillB x p = false) : ∀ l, ¬ s.closes top l := fun l hc => by
  obtain ⟨h1, h2, _⟩ := (h.chain hm (Nat.le_of_lt hp)).here hc.2 hp
  rw [hn] at h2; simp at h2
theorem TileTo.small {s : St} : ∀ {L : List RO} {a p : Nat}, TileTo s p a L → (∀ o ∈ L, Good s o) → ∀ o ∈ L, o.at_ + s.sz o ≤ p
  | [], _, _, _, _, o, ho => by simp at ho
  | b :: L, a, p, h, hg, o, ho => by
    rcases List.mem_cons.1 ho with rfl | ho
    · have := h.2.le; have := h.1; omega
    · exact TileTo.small h.2 (fun o ho => hg o (List.mem_cons_of_mem _ ho)) o ho
theorem Took.no_fit {s : St} {top : Nat} {L : List RO} (h : Took s top L) (hm : s.m ≤ 512) (htop : top ≤ 65536) {o : RO} (ho : o ∈ L) {v : Nat} (hv : v ∈ o.fs) (hodd : v % 2 ≠ 1) (hno : ∀ p ∈ L, p.at_ ≠ v / 2) : ∀ l, ¬ s.closes top l := fun l hc => by
  have hl : l = L.map RO.at_ := hc.1.same (h.chain hm (Nat.le_refl _))
  subst hl
  have hsm := h.tile.small h.good
  have hf := fill_unfit (L := L) hm (h.good o ho) (hsm o ho) hv (fun p hp => by have := hsm p hp; have := (h.good p hp).sz.2.2; omega) hodd hno
  have := (ChainTo.mem hc.2 o.at_ (List.mem_map_of_mem ho)).2.2.2.1
  rw [hf] at this; simp at this
theorem Took.laid {s : St} {top : Nat} {L : List RO} (h : Took s top L) (hf : ∀ o ∈ L, ∀ v ∈ o.fs, v % 2 = 1 ∨ ∃ p ∈ L, p.at_ = v / 2) : LaidAs s top L := ⟨h.tile, h.good, hf⟩
theorem Took.len_le {s : St} : ∀ {L : List RO} {a p : Nat}, TileTo s p a L → (∀ o ∈ L, Good s o) → a + L.length ≤ p
  | [], a, p, h, _ => Nat.le_of_eq h
  | b :: L, a, p, h, hg => by
    have := Took.len_le h.2 (fun o ho => hg o (List.mem_cons_of_mem _ ho))
    have := (hg b List.mem_cons_self).sz.2.2
    simp only [List.length_cons]; omega
end Go.Proofs.Ythfkgkddklnnhaa
/- What the document's Read calls: Field of a byte, and the last word of an object's bytes. -/
namespace Go.Proofs.Ythfkgkddklnnhaa
set_option linter.unusedVariables false
open Go.ChangeShapes Go.WideShapes Go.ChangeAt Go.RowKit
open M (W)

theorem refFieldB (h q : Nat) (w : World) (hq : q < 64) (h1 : h < 18446744073709551616) : Calls Try.prog 32 #[.int .u64 h, .int .i64 q, .int .i64 8] w fun e w' => e = .returned (.int .u64 ((h : Int) / (2 ^ q : Nat) % 256)) ∧ ∃ n, w' = w.drewN n := by
  have hp0 : 0 < M.pw q := Nat.two_pow_pos q
  have hp := M.pw_lt q hq
  have hpe : M.pw q = 2 ^ q := rfl
  have HP := Lib.hid (fun W => power_any q W hq)
  have H8 := Lib.hid (fun W => power_any 8 W (by decide))
  have e8 : M.pw 8 = 256 := rfl
  rw [e8] at H8
  rw [← hpe]
  generalize M.pw q = P at *
  have hz : ((P : Int) == 0) = false := beq_eq_false_iff_ne.2 (by omega)
  have hP0 : (0 : Int) < P := by omega
  have hP1 : (P : Int) < 18446744073709551616 := by omega
  have hh0 : (0 : Int) ≤ h := by omega
  have hh1 : (h : Int) < 18446744073709551616 := by omega
  clear hp0 hp hpe e8
  go_enter Try.func32, Try.ntmps32
  go_wp2_with fail
  go_quiet ((go_at_call 66; (first | (with_reducible exact Calls.quiet_of_same (HP.out _)) | (with_reducible exact Calls.quiet_of_same (H8.out _)))))
  go_wp2
  go_ret
  have d0 : (0 : Int) ≤ (h : Int) / P := Int.ediv_nonneg hh0 (by omega)
  have d1 : (h : Int) / P ≤ h := Int.ediv_le_self _ hh0
  exact ⟨ret_int (by first | rfl | (simp only [IntKind.wrap_u64]; rw [Int.tmod_eq_emod_of_nonneg (by omega)]; omega)), _, rfl⟩
set_option maxHeartbeats 2000000 in
theorem last_any (x : Value) (o : RO) (w : World) (B : Nat) (hb : o.bs.length = o.n) (hn : o.n ≤ 65536) (hl : ∀ v ∈ o.bs, v < 256) (hr : w.ownsRow B 5 1 o.bv o.bs.length (o.bs.map fun v : Nat => Value.int .u8 (v : Int))) :
    Calls Try.prog 34 #[x, .agg #[.int .i64 o.at_, .int .i64 o.sh, .int .i64 o.n, o.fv, o.bv]] w fun e w' => e = .returned (.int .u64 (M.lastFrom o.bs o.n (o.n % 8))) ∧ Still w w' := by
  have HB := Lib.hid (Blk.new w 73 o.arr)
  have HL := Lib.hid hl
  have HN := Lib.hid hb
  have HR := Lib.hid hr
  clear hl hb hr
  go_enter Try.func34, Try.ntmps34
  go_wp2_with fail
  go_loopw [5, 6] (fun v i wr => ∃ m : Nat, v = .int .u64 (M.lastFrom o.bs o.n m : Nat) ∧ i = .int .i64 ((o.n : Int) - 1 - m) ∧ m ≤ o.n % 8 ∧ wr = w.alloc (.cells o.arr 73)) (fun _ i _ => (intOf i + 1).toNat)
  case atStart => exact ⟨0, rfl, by simp, by omega, rfl⟩
  case round =>
    obtain ⟨m, rfl, rfl, hm, rfl⟩ := hrel
    obtain ⟨b0, b1, b2, b3, b4⟩ := blk5 HB.out
    have hg5 := HB.out.lt
    by_cases hlt : m < o.n % 8
    · have hlf := lastFrom_lt o.bs HL.out o.n m (by omega)
      have hpow : 256 ^ m ≤ 256 ^ 6 := Nat.pow_le_pow_right (by decide) (by omega)
      have hv0 : M.lastFrom o.bs o.n m < 281474976710656 := Nat.lt_of_lt_of_le hlf hpow
      have hcc := getD_lt HL.out (o.n - 1 - m)
      obtain ⟨i, hi⟩ : ∃ i : Nat, o.n - 1 - m = i := ⟨_, rfl⟩
      have hiI : (o.n : Int) - 1 - m = (i : Int) := by omega
      have hil : i < o.bs.length := by have := HN.out; omega
      have hst : M.lastFrom o.bs o.n (m + 1) = M.lastFrom o.bs o.n m * 256 + o.bs.getD i 0 := by rw [← hi]; rfl
      rw [hi] at hcc
      rw [hiI]
      obtain ⟨gr, hra, hgr, hr1, hr2, hr3, _⟩ := own_form HR.out (by omega)
      have hcell := hr3 i (.int .u8 (o.bs.getD i 0 : Nat)) (by rw [List.getElem?_map, List.getElem?_eq_getElem hil, List.getD_eq_getElem?_getD, List.getElem?_eq_getElem hil]; rfl)
      have hcell' : (w.alloc (.cells o.arr 73)).cell? ⟨gr, i, none⟩ = some (.int .u8 (o.bs.getD i 0 : Nat)) := (World.cell?_alloc_lt w _ ⟨gr, i, none⟩ hgr).trans hcell
      have hgr' : gr < (w.alloc (.cells o.arr 73)).heap.size := by simp; omega
      have hbv : o.bv = .slice (some ⟨gr, 0, none⟩) o.bs.length o.bc := by unfold RO.bv; rw [hra]
      rw [hbv] at b4
      obtain ⟨v, hv⟩ : ∃ v, M.lastFrom o.bs o.n m = v := ⟨_, rfl⟩
      obtain ⟨cc, hc2⟩ : ∃ cc, o.bs.getD i 0 = cc := ⟨_, rfl⟩
      rw [hc2] at hcell' hcc hst
      rw [hv] at hv0 hst ⊢
      have hw1 : IntKind.u64.wrap ((v : Int) * 256) = (v : Int) * 256 := by rw [IntKind.wrap_u64]; omega
      have hw2 : IntKind.u64.wrap (cc : Int) = (cc : Int) := by rw [IntKind.wrap_u64]; omega
      have hw3 : IntKind.u64.wrap ((v : Int) * 256 + (cc : Int)) = (v : Int) * 256 + (cc : Int) := by rw [IntKind.wrap_u64]; omega
      have HST := Lib.hid hst
      have HI := Lib.hid (And.intro hi hiI)
      have hge : ((o.n : Int) - ((o.n : Int) % 8)) ≤ (i : Int) := by omega
      unfold maxLen at hr2
      have hib : i < 65536 := by have := HN.out; omega
      clear hst hi hiI hcell hr3 hra hv hc2 hgr hbv hlf hpow
      generalize w.alloc (.cells o.arr 73) = W at *
      go_wp2_with fail
      go_roundw
      case rel => exact ⟨m + 1, by rw [HST.out]; rfl, by have := HI.out.2; congr 1; omega, by omega, trivial⟩
      case measure => simp [intOf]
    · obtain rfl : m = o.n % 8 := by omega
      have hge : ¬ ((o.n : Int) - ((o.n : Int) % 8)) ≤ ((o.n : Int) - 1 - ((o.n % 8 : Nat) : Int)) := by omega
      have hS := (Still.refl w).alloc (.cells o.arr 73)
      have HS := Lib.hid hS
      clear hS
      generalize w.alloc (.cells o.arr 73) = W at *
      go_wp2_with fail
      go_ret
      exact ⟨rfl, HS.out⟩
end Go.Proofs.Ythfkgkddklnnhaa
