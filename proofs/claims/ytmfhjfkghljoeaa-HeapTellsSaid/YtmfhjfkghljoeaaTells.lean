/- What the calls of HeapTells answer: layer 2's heap and the document's own, side by side. -/
import Derived.Test.YtmfhjfkghljoeaaText
namespace Go.Proofs.Ytmfhjfkghljoeaa
set_option linter.unusedVariables false
open Go.ChangeShapes Go.WideShapes Go.ChangeAt Go.RowKit
open M (W)

theorem text_unfit (s : St) (k : Nat) (o : Ob) (w : World) (h : HpIs w s) (ho : ObAt s k o) (hk : o.kind ≠ 3) :
    Calls Try.prog 34 #[s.ptr, .int .i64 k] w fun e w' => e = .returned (.tuple #[.string ByteArray.empty, .int .i64 1]) ∧ Still w w' := by
  have HO := object_at h ho
  unfold Ob.val at HO
  have hk2 : (o.kind != 3) = true := by simpa using hk
  clear h ho hk
  go_enter Try.func34, Try.ntmps34
  go_wp2_with fail
  refine HO.mono ?_; rintro e w1 ⟨rfl, ht⟩
  have HT := Lib.hid ht; clear ht
  go_wp2_with fail
  go_ret2
  exact ⟨rfl, HT.out.alloc _⟩
theorem Sim.byte {s : St} {L : List RO} (h : Sim s L) {o : RO} (ho : o ∈ L) (hk : s.kind o.sh = 3) (i : Nat) (hi : i < o.n) : M.byteOf (s.ws (o.at_ + 1 + i / 8)) (i % 8) = o.bs.getD i 0 := by
  obtain ⟨_, hl, hw⟩ := (h.good o ho).b hk
  have hb := (h.good o ho).bl
  rw [hw (i / 8) (by omega)]
  unfold M.wordOf
  rw [byte_word _ _ _ _ _ _ _ _ (getD_lt hb _) (getD_lt hb _) (getD_lt hb _) (getD_lt hb _) (getD_lt hb _) (getD_lt hb _) (getD_lt hb _) (getD_lt hb _) (i % 8) (by omega)]
  obtain ⟨t, ht, e⟩ : ∃ t, t < 8 ∧ i = i / 8 * 8 + t := ⟨i % 8, by omega, by omega⟩
  have hm : i % 8 = t := by omega
  rw [hm]
  generalize i / 8 * 8 = q at *
  subst e
  obtain rfl | rfl | rfl | rfl | rfl | rfl | rfl | rfl : t = 0 ∨ t = 1 ∨ t = 2 ∨ t = 3 ∨ t = 4 ∨ t = 5 ∨ t = 6 ∨ t = 7 := by omega
  all_goals simp
theorem Sim.bytes {s : St} {L : List RO} (h : Sim s L) {o : RO} (ho : o ∈ L) (hk : s.kind o.sh = 3) : s.bytes o.at_ o.n = o.bs := by
  have hl := ((h.good o ho).b hk).2.1
  apply List.ext_getElem?
  intro i
  unfold St.bytes
  rw [List.getElem?_map]
  by_cases hi : i < o.n
  · rw [List.getElem?_range hi]
    show some (M.byteOf (s.ws (o.at_ + 1 + i / 8)) (i % 8)) = _
    rw [h.byte ho hk i hi, List.getD_eq_getElem?_getD, List.getElem?_eq_getElem (show i < o.bs.length by omega)]; rfl
  · rw [List.getElem?_eq_none (show o.bs.length ≤ i by omega), List.getElem?_eq_none (by simpa using hi)]; rfl
def Ans (B : Nat) (s : St) (x : Rf) (f : FuncId) (args : Array Value) (v : Value) : Prop := ∀ W, HpIs W s → RfIs B W x → Calls Try.prog f args W fun e w' => e = .returned v ∧ Still W w'
structure Tl (B : Nat) (s : St) (x : Rf) (a b : Int) (v : Nat) (r : Int) (t f : Bool) (u : Nat) (e : Int) (c : Nat) (g : Int) (str : ByteArray) (i n j : Int) : Prop where
  find : Ans B s x 27 #[x.ptr, .int .i64 a] (.int .i64 r)
  is : ∀ W, HpIs W s → Calls Try.prog 28 #[s.ptr, .int .i64 a] W fun e w' => e = .returned (.bool t) ∧ w' = W
  fits : ∀ W, HpIs W s → Calls Try.prog 29 #[s.ptr, .int .u64 v] W fun e w' => e = .returned (.bool f) ∧ w' = W
  rfits : Ans B s x 30 #[x.ptr, .int .u64 v] (.bool f)
  get : Ans B s x 31 #[s.ptr, .int .i64 a, .int .i64 b] (.tuple #[.int .u64 u, .int .i64 e])
  rget : Ans B s x 32 #[x.ptr, .int .i64 a, .int .i64 b] (.tuple #[.int .u64 u, .int .i64 e])
  byte : Ans B s x 33 #[s.ptr, .int .i64 a, .int .i64 b] (.tuple #[.int .u8 c, .int .i64 g])
  text : Ans B s x 34 #[s.ptr, .int .i64 a] (.tuple #[.string str, .int .i64 i])
  len : Ans B s x 35 #[s.ptr, .int .i64 a] (.tuple #[.int .i64 n, .int .i64 j])
theorem tells_ways {w0 w : World} {s : St} {x : Rf} (h : Both w0 w s x) (a b : Int) (v : Nat) (hv : v < 18446744073709551616) :
    (∃ f u e, Tl w0.heap.size s x a b v (-1) false f u e 0 1 ByteArray.empty 1 0 1) ∨
    ∃ (k : Nat) (o : RO), x.L[k]? = some o ∧ o ∈ x.L ∧ ∃ (f : Bool) (u : Nat) (e : Int),
      (s.kind o.sh ≠ 3 ∧ Tl w0.heap.size s x a b v k true f u e 0 1 ByteArray.empty 1 o.n 0) ∨
      (s.kind o.sh = 3 ∧ o.bs.length = o.n ∧ (b < 0 ∨ (o.n : Int) ≤ b) ∧ Tl w0.heap.size s x a b v k true f u e 0 1 (M.str o.bs) 0 o.n 0) ∨
      (s.kind o.sh = 3 ∧ o.bs.length = o.n ∧ ∃ m : Nat, b = m ∧ m < o.n ∧ Tl w0.heap.size s x a b v k true f u e (o.bs.getD m 0) 0 (M.str o.bs) 0 o.n 0) := by
  have FI := fun W (hW : HpIs W s) => fits_any s v W hW (by omega) (by omega)
  have RFI : Ans w0.heap.size s x 30 #[x.ptr, .int .u64 v] (.bool (s.fits v)) := fun W _ hW => by
    have := refFits_any x v W hW (by omega) (by omega)
    rwa [h.fits] at this
  have IS := fun W (hW : HpIs W s) => is_any s a W hW
  cases hh : s.is a with
  | false =>
    rw [hh] at IS
    have NO := fun W (hW : HpIs W s) => NoObj.out (i := a) hW hh
    have hx : x.has a = false := by rw [h.sim.has]; exact hh
    have FN := fun W (hW : RfIs w0.heap.size W x) => find_no x a W hW (Rf.has_no hx)
    exact .inl ⟨s.fits v, 0, 1, fun W _ hr => FN W hr, IS, FI, RFI, fun W hp _ => get_no _ _ _ _ (field_no _ _ _ _ (NO W hp)), fun W _ hr => refGet_no x _ _ W hr (FN W hr),
      fun W hp _ => byte_no _ _ _ _ (octet_no _ _ _ _ (NO W hp)), fun W hp _ => text_no _ _ _ (NO W hp), fun W hp _ => len_no _ _ _ (NO W hp)⟩
  | true =>
    rw [hh] at IS
    have hx : x.has a = true := by rw [h.sim.has]; exact hh
    obtain ⟨k, o, hk, rfl, hun⟩ := Rf.has_yes hx
    have ho : o ∈ x.L := List.mem_iff_getElem?.2 ⟨k, hk⟩
    have hg := h.sim.good o ho
    have hob := h.sim.obAt h.hp ho
    have FN := fun W (hW : RfIs w0.heap.size W x) => find_at x k o o.at_ W hW hk rfl hun
    have LN : Ans w0.heap.size s x 35 #[s.ptr, .int .i64 o.at_] (.tuple #[.int .i64 o.n, .int .i64 0]) := fun W hp _ => len_ok s o.at_ _ W hp hob
    by_cases hk3 : s.kind o.sh = 3
    · obtain ⟨f1, f2, f3⟩ := hg.b hk3
      have GE : Ans w0.heap.size s x 31 #[s.ptr, .int .i64 o.at_, .int .i64 b] (.tuple #[.int .u64 0, .int .i64 1]) := fun W hp _ => get_no _ _ _ _ (field_none s o.at_ _ b W hp hob (.inl hk3))
      have RG : Ans w0.heap.size s x 32 #[x.ptr, .int .i64 o.at_, .int .i64 b] (.tuple #[.int .u64 0, .int .i64 1]) := fun W _ hr => refGet_out x _ b k o W hr hk (FN W hr) (by rw [f1]; simp; omega)
      have TX : Ans w0.heap.size s x 34 #[s.ptr, .int .i64 o.at_] (.tuple #[.string (M.str o.bs), .int .i64 0]) := fun W hp _ => by
        have := text_ok s o.at_ _ o.n W hp hob hk3 rfl
        rwa [h.sim.bytes ho hk3] at this
      by_cases hb : b < 0 ∨ (o.n : Int) ≤ b
      · exact .inr ⟨k, o, hk, ho, s.fits v, 0, 1, .inr (.inl ⟨hk3, f2, hb, fun W _ hr => FN W hr, IS, FI, RFI, GE, RG, fun W hp _ => byte_no _ _ _ _ (octet_none s o.at_ _ b W hp hob (.inr hb)), TX, LN⟩)⟩
      · obtain ⟨m, rfl⟩ := Int.eq_ofNat_of_zero_le (show 0 ≤ b by omega)
        refine .inr ⟨k, o, hk, ho, s.fits v, 0, 1, .inr (.inr ⟨hk3, f2, m, rfl, by omega, fun W _ hr => FN W hr, IS, FI, RFI, GE, RG, fun W hp _ => ?_, TX, LN⟩)⟩
        have := byte_ok s o.at_ _ m W hp hob hk3 (by show (m : Int) < (o.n : Int); omega)
        rwa [h.sim.byte ho hk3 m (by omega)] at this
    · obtain ⟨f1, f2, f3⟩ := hg.f hk3
      have BY : Ans w0.heap.size s x 33 #[s.ptr, .int .i64 o.at_, .int .i64 b] (.tuple #[.int .u8 ((0 : Nat) : Int), .int .i64 1]) := fun W hp _ => byte_no _ _ _ _ (octet_none s o.at_ _ b W hp hob (.inl hk3))
      have TX : Ans w0.heap.size s x 34 #[s.ptr, .int .i64 o.at_] (.tuple #[.string ByteArray.empty, .int .i64 1]) := fun W hp _ => text_unfit s o.at_ _ W hp hob hk3
      by_cases hb : b < 0 ∨ (o.n : Int) ≤ b
      · exact .inr ⟨k, o, hk, ho, s.fits v, 0, 1, .inl ⟨hk3, fun W _ hr => FN W hr, IS, FI, RFI, fun W hp _ => get_no _ _ _ _ (field_none s o.at_ _ b W hp hob (.inr hb)), fun W _ hr => refGet_out x _ b k o W hr hk (FN W hr) (by omega), BY, TX, LN⟩⟩
      · obtain ⟨m, rfl⟩ := Int.eq_ofNat_of_zero_le (show 0 ≤ b by omega)
        refine .inr ⟨k, o, hk, ho, s.fits v, o.fs.getD m 0, 0, .inl ⟨hk3, fun W _ hr => FN W hr, IS, FI, RFI, fun W hp _ => ?_, fun W _ hr => refGet_ok x _ m _ k o W hr hk (FN W hr) ?_, BY, TX, LN⟩⟩
        · have := get_ok s o.at_ _ m W hp hob hk3 (by show (m : Int) < (o.n : Int); omega)
          rwa [f3 m (by omega)] at this
        · rw [List.getD_eq_getElem?_getD, List.getElem?_eq_getElem (show m < o.fs.length by omega)]; rfl
end Go.Proofs.Ytmfhjfkghljoeaa
