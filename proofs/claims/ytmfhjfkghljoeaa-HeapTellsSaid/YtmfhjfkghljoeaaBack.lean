/- HeapBack: what Set and SetByte answer one behind the other, and what is read behind each. -/
import Derived.Test.YtmfhjfkghljoeaaOpenOps
namespace Go.Proofs.Ytmfhjfkghljoeaa
set_option linter.unusedVariables false
open Go.ChangeShapes Go.WideShapes Go.ChangeAt Go.RowKit
open M (W)

/-- A call at the heap s: its answer v, the heap s' behind it. -/
def CallsTo (f : FuncId) (args : Array Value) (s s' : St) (v : Value) : Prop := ∀ w, HpIs w s → Calls Try.prog f args w fun e w' => e = .returned v ∧ HpIs w' s' ∧ Turn (fun k => k = s.gw) w w'
theorem callsTo_still {f : FuncId} {args : Array Value} {s : St} {v : Value} (h : ∀ w, HpIs w s → Calls Try.prog f args w fun e w' => e = .returned v ∧ Still w w') : CallsTo f args s s v :=
  fun w hw => (h w hw).mono fun e w' ⟨he, t⟩ => ⟨he, hw.still t, Still.turn t⟩
/-- The three ways of 'Set, Get, SetByte, Byte' at one place. -/
structure BackA (s : St) (a b : Int) (v : Nat) (s1 : St) (p : Nat) : Prop where
  set : CallsTo 41 #[s.ptr, .int .i64 a, .int .i64 b, .int .u64 v] s s1 (.int .i64 0)
  get : CallsTo 31 #[s.ptr, .int .i64 a, .int .i64 b] s1 s1 (.tuple #[.int .u64 v, .int .i64 0])
  setB : ∀ c : Nat, c < 256 → CallsTo 42 #[s.ptr, .int .i64 a, .int .i64 b, .int .u8 c] s1 s1 (.int .i64 1)
  byte : CallsTo 33 #[s.ptr, .int .i64 a, .int .i64 b] s1 s1 (.tuple #[.int .u8 0, .int .i64 1])
  other : ∀ k, k ≠ p → s1.ws k = s.ws k
  g : s1.g = s.g
  n : s1.n = s.n
  gw : s1.gw = s.gw
structure BackB (s : St) (a b : Int) (v : Nat) (c : Nat) (s1 : St) (p : Nat) (x : Nat) (f : Int) : Prop where
  set : CallsTo 41 #[s.ptr, .int .i64 a, .int .i64 b, .int .u64 v] s s (.int .i64 1)
  get : CallsTo 31 #[s.ptr, .int .i64 a, .int .i64 b] s s (.tuple #[.int .u64 x, .int .i64 f])
  setB : CallsTo 42 #[s.ptr, .int .i64 a, .int .i64 b, .int .u8 c] s s1 (.int .i64 0)
  byte : CallsTo 33 #[s.ptr, .int .i64 a, .int .i64 b] s1 s1 (.tuple #[.int .u8 c, .int .i64 0])
  other : ∀ k, k ≠ p → s1.ws k = s.ws k
  g : s1.g = s.g
  n : s1.n = s.n
  gw : s1.gw = s.gw
structure BackC (s : St) (a b : Int) (v : Nat) (c : Nat) (x : Nat) (f y h : Int) : Prop where
  set : CallsTo 41 #[s.ptr, .int .i64 a, .int .i64 b, .int .u64 v] s s (.int .i64 1)
  get : CallsTo 31 #[s.ptr, .int .i64 a, .int .i64 b] s s (.tuple #[.int .u64 x, .int .i64 f])
  setB : CallsTo 42 #[s.ptr, .int .i64 a, .int .i64 b, .int .u8 c] s s (.int .i64 1)
  byte : CallsTo 33 #[s.ptr, .int .i64 a, .int .i64 b] s s (.tuple #[.int .u8 y, .int .i64 h])
theorem byteOf_setByteOf (x j c : Nat) (hj : j < 8) (hc : c < 256) (hx : x < 18446744073709551616) : M.byteOf (M.setByteOf x j c) j = c := by
  have hx8 : x = x % 256 + 256 * (x / 256 % 256 + 256 * (x / 65536 % 256 + 256 * (x / 16777216 % 256 + 256 * (x / 4294967296 % 256 + 256 * (x / 1099511627776 % 256 + 256 * (x / 281474976710656 % 256 + 256 * (x / 72057594037927936))))))) := by omega
  have h7 : x / 72057594037927936 < 256 := by omega
  rw [hx8, setByte_word _ _ _ _ _ _ _ _ (by omega) (by omega) (by omega) (by omega) (by omega) (by omega) (by omega) h7 c hc j hj]
  rw [byte_word _ _ _ _ _ _ _ _ (by split <;> omega) (by split <;> omega) (by split <;> omega) (by split <;> omega) (by split <;> omega) (by split <;> omega) (by split <;> omega) (by split <;> omega) j hj]
  obtain rfl | rfl | rfl | rfl | rfl | rfl | rfl | rfl : j = 0 ∨ j = 1 ∨ j = 2 ∨ j = 3 ∨ j = 4 ∨ j = 5 ∨ j = 6 ∨ j = 7 := by omega
  all_goals simp
theorem back_ways {s : St} {L : List RO} {w : World} (hp : HpIs w s) (h : Sim s L) (a b : Int) (v c : Nat) (hv : v < 18446744073709551616) (hc : c < 256) :
    (∃ s1 p, BackA s a b v s1 p) ∨ (∃ s1 p x f, BackB s a b v c s1 p x f) ∨ (∃ x f y h, BackC s a b v c x f y h) := by
  cases hh : s.is a with
  | false =>
    have NO := fun W (hW : HpIs W s) => NoObj.out (i := a) hW hh
    exact .inr (.inr ⟨0, 1, 0, 1, ⟨callsTo_still fun W hW => set_no _ _ _ _ _ (field_no _ _ _ _ (NO W hW)), callsTo_still fun W hW => get_no _ _ _ _ (field_no _ _ _ _ (NO W hW)),
      callsTo_still fun W hW => setByte_no _ _ _ _ _ (octet_no _ _ _ _ (NO W hW)), callsTo_still fun W hW => byte_no _ _ _ _ (octet_no _ _ _ _ (NO W hW))⟩⟩)
  | true =>
    rw [h.heads, List.any_eq_true] at hh
    obtain ⟨o, ho, hoa⟩ := hh
    have hoa' : a = o.at_ := by simpa using (of_decide_eq_true hoa).symm
    subst hoa'
    obtain ⟨k, hk⟩ := List.mem_iff_getElem?.1 ho
    have hg := h.good o ho
    have hob := h.obAt hp ho
    by_cases hk3 : s.kind o.sh = 3
    · by_cases hb : b < 0 ∨ (o.n : Int) ≤ b
      · exact .inr (.inr ⟨0, 1, 0, 1, ⟨callsTo_still fun W hW => set_no _ _ _ _ _ (field_none s o.at_ _ b W hW hob (.inl hk3)), callsTo_still fun W hW => get_no _ _ _ _ (field_none s o.at_ _ b W hW hob (.inl hk3)),
          callsTo_still fun W hW => setByte_no _ _ _ _ _ (octet_none s o.at_ _ b W hW hob (.inr hb)), callsTo_still fun W hW => byte_no _ _ _ _ (octet_none s o.at_ _ b W hW hob (.inr hb))⟩⟩)
      · obtain ⟨j, rfl⟩ := Int.eq_ofNat_of_zero_le (show 0 ≤ b by omega)
        obtain ⟨f1, f2, f3⟩ := hg.b hk3
        have hj : j < o.bs.length := by omega
        have h1 := h.setB hk hj hc
        have hp1 := fun W (hW : HpIs W (s.put (o.at_ + 1 + j / 8) (M.setByteOf (s.ws (o.at_ + 1 + j / 8)) (j % 8) c))) => h1.obAt hW (o := { o with bs := o.bs.set j c }) (by
          have hkl := (List.getElem?_eq_some_iff.1 hk).1
          exact List.mem_iff_getElem?.2 ⟨k, by rw [List.getElem?_set]; simp [hkl]⟩)
        refine .inr (.inl ⟨s.put (o.at_ + 1 + j / 8) (M.setByteOf (s.ws (o.at_ + 1 + j / 8)) (j % 8) c), o.at_ + 1 + j / 8, 0, 1, ⟨callsTo_still fun W hW => set_no _ _ _ _ _ (field_none s o.at_ _ j W hW hob (.inl hk3)), callsTo_still fun W hW => get_no _ _ _ _ (field_none s o.at_ _ j W hW hob (.inl hk3)),
          fun W hW => setByte_ok s o.at_ _ j c W hW hob hk3 (by show (j : Int) < (o.n : Int); omega) hc, callsTo_still fun W hW => ?_, fun i hi => by show (if _ then _ else _) = _; rw [if_neg hi], rfl, rfl, rfl⟩⟩)
        have := byte_ok _ o.at_ _ j W hW (hp1 W hW) hk3 (by show (j : Int) < (o.n : Int); omega)
        have e : (s.put (o.at_ + 1 + j / 8) (M.setByteOf (s.ws (o.at_ + 1 + j / 8)) (j % 8) c)).ws (o.at_ + 1 + j / 8) = M.setByteOf (s.ws (o.at_ + 1 + j / 8)) (j % 8) c := by show (if _ then _ else _) = _; rw [if_pos rfl]
        rw [e, byteOf_setByteOf _ _ _ (by omega) hc (hp.ws_lt _)] at this
        exact this
    · obtain ⟨f1, f2, f3⟩ := hg.f hk3
      by_cases hb : b < 0 ∨ (o.n : Int) ≤ b
      · exact .inr (.inr ⟨0, 1, 0, 1, ⟨callsTo_still fun W hW => set_no _ _ _ _ _ (field_none s o.at_ _ b W hW hob (.inr hb)), callsTo_still fun W hW => get_no _ _ _ _ (field_none s o.at_ _ b W hW hob (.inr hb)),
          callsTo_still fun W hW => setByte_no _ _ _ _ _ (octet_none s o.at_ _ b W hW hob (.inl hk3)), callsTo_still fun W hW => byte_no _ _ _ _ (octet_none s o.at_ _ b W hW hob (.inl hk3))⟩⟩)
      · obtain ⟨j, rfl⟩ := Int.eq_ofNat_of_zero_le (show 0 ≤ b by omega)
        have hj : j < o.fs.length := by omega
        cases hf : s.fits v with
        | false =>
          exact .inr (.inr ⟨s.ws (o.at_ + 1 + j), 0, 0, 1, ⟨callsTo_still fun W hW => set_unfit s o.at_ _ j v W hW hob hk3 (by show (j : Int) < (o.n : Int); omega) (by omega) (by omega) hf, callsTo_still fun W hW => get_ok s o.at_ _ j W hW hob hk3 (by show (j : Int) < (o.n : Int); omega),
            callsTo_still fun W hW => setByte_no _ _ _ _ _ (octet_none s o.at_ _ j W hW hob (.inl hk3)), callsTo_still fun W hW => byte_no _ _ _ _ (octet_none s o.at_ _ j W hW hob (.inl hk3))⟩⟩)
        | true =>
          have h1 := h.setF hk hj hv
          have hp1 := fun W (hW : HpIs W (s.put (o.at_ + 1 + j) v)) => h1.obAt hW (o := { o with fs := o.fs.set j v }) (by
            have hkl := (List.getElem?_eq_some_iff.1 hk).1
            exact List.mem_iff_getElem?.2 ⟨k, by rw [List.getElem?_set]; simp [hkl]⟩)
          refine .inl ⟨s.put (o.at_ + 1 + j) v, o.at_ + 1 + j, ⟨fun W hW => ?_, callsTo_still fun W hW => ?_, fun c' hc' => callsTo_still fun W hW => ?_, callsTo_still fun W hW => ?_, fun i hi => by show (if _ then _ else _) = _; rw [if_neg hi], rfl, rfl, rfl⟩⟩
          · have := set_ok s o.at_ _ j v W hW hob hk3 (by show (j : Int) < (o.n : Int); omega) (by omega) (by omega) hf
            simpa using this
          · have := get_ok _ o.at_ _ j W hW (hp1 W hW) hk3 (by show (j : Int) < (o.n : Int); omega)
            have e : (s.put (o.at_ + 1 + j) v).ws (o.at_ + 1 + j) = v := by show (if _ then _ else _) = _; rw [if_pos rfl]
            rw [e] at this
            exact this
          · exact setByte_no _ _ _ _ _ (octet_none (s.put (o.at_ + 1 + j) v) o.at_ _ j W hW (hp1 W hW) (.inl (show (s.put (o.at_ + 1 + j) v).kind o.sh ≠ 3 from hk3)))
          · exact byte_no _ _ _ _ (octet_none (s.put (o.at_ + 1 + j) v) o.at_ _ j W hW (hp1 W hW) (.inl (show (s.put (o.at_ + 1 + j) v).kind o.sh ≠ 3 from hk3)))
end Go.Proofs.Ytmfhjfkghljoeaa
