/- The document's texts. -/
import Derived.Test.YtjeehbcbflofpaaRefNum
import Derived.Lib.SmallJoins
namespace Go.Proofs.Ytjeehbcbflofpaa
set_option linter.unusedVariables false
open Go.ChangeShapes Go.WideShapes Go.ChangeAt Go.RowKit
open M (W)
theorem wpList_append_zero {P : Program} {w : World} {ops : Array Oper} {rest : List Oper} {o : Oper} {act : Act} {Q : Exit → Act → World → Prop} (hgd : o.guard = none) (s x : Operand) (t : TypeId)
    (ho : o.op = .call { callee := .builtin .append, args := #[s, x], argTypes := #[t, t] })
    (e : TypeId) (i : TypeInfo) (ht : P.underlying t = some (.slice e)) (hi : P.info? e = some i)
    (a : Option Addr) (n c : Nat) (hs : act.eval s = .slice a n c) (hnc : n ≤ c) (ad : Option Addr) (c' : Nat) (hx : act.eval x = .slice ad 0 c')
    (h : wpList P ops Q rest (act.put o.dst (.slice a n c)) w) : wpList P ops Q (o :: rest) act w := by
  have hrun := run_append_zero (P := P) w t o.type e i ht hi a n c hnc ad c'
  refine wpList_plain hgd fun K hK => ?_
  unfold Oper.wp
  simp [execOp, ho, resolve, invoke, builtin, hs, hx, hrun, Result.andThen]
  exact hK _ _ h
theorem bytesWorld_still (w : World) (e : TypeId) (s : ByteArray) : Still w (Lib.bytesWorld w e s) := by
  refine ⟨rfl, rfl, rfl, by rw [Lib.bytesWorld_size]; omega, fun k hk _ => Lib.bytesWorld_at_old w e s k hk⟩
theorem bytesWorld_chars (w : World) (e : TypeId) (s : ByteArray) (j : Nat) (u : Value) (h : ((M.chars s).map (Value.int .u8))[j]? = some u) : (Lib.bytesWorld w e s).cell? ⟨w.heap.size, j, none⟩ = some u := by
  have hj : j < s.size := by
    have := (List.getElem?_eq_some_iff.1 h).1
    simpa [M.chars_len] using this
  rw [Lib.bytesWorld_cell w e s j hj, ← h]
  have hj2 : j < s.data.toList.length := by rw [Array.length_toList]; exact hj
  unfold M.chars
  rw [List.map_map, List.getElem?_map, List.getElem?_eq_getElem hj2]
  simp [List.getD, List.getElem?_eq_getElem hj2]
set_option maxRecDepth 100000 in
theorem refText_any (s : ByteArray) {B : Nat} {v : Value} {xs : List Int} {w : World} (h : Holds8 B w v xs) (hB : B ≤ w.heap.size) (hs : s.size ≤ maxLen) (hx : (xs ++ M.text s).length ≤ 1000000000) :
    Calls Try.prog 26 #[v, .string s] w fun e w' => ∃ v', e = .returned v' ∧ Holds8 B w' v' (xs ++ M.text s) ∧ Grew B w w' v v' := by
  have HB := Lib.hid hB
  have hx' := hx
  simp only [M.text, List.length_append, M.chars_len] at hx'
  have HN := Lib.hid (refNum_any (s.size : Int) h hB (M.num_nat hs) (by omega))
  have HX : Hid ((xs ++ M.num s.size).length + s.size ≤ 1000000000) := by rw [Hid, List.length_append]; omega
  clear h hB hx hx' hs
  go_enter Try.func26, Try.ntmps26
  go_wp2_with fail
  refine HN.out.mono ?_; rintro e w1 ⟨v1, rfl, h1, g1⟩
  obtain ⟨a, c, rfl, ho⟩ := h1
  have HCV := Lib.hid (Lib.run_convert_string_bytes (P := Try.prog) w1 9 30 5 s Try.underlying9 Try.underlying30 Try.underlying5)
  have HST := Lib.hid (bytesWorld_still w1 5 s)
  have HCH := Lib.hid (bytesWorld_chars w1 5 s)
  have HO := Lib.hid ho
  have HG := Lib.hid g1
  obtain ⟨cb, hcb⟩ : ∃ cb, grownCap w1 s.size 0 5 = cb := ⟨_, rfl⟩
  rw [hcb] at HCV
  clear ho g1 hcb
  generalize Lib.bytesWorld w1 5 s = wb at *
  generalize hk : (xs ++ M.num s.size).length = k at HO HX HG ⊢
  have HK := Lib.hid hk
  clear hk
  have hcv := HCV.out
  by_cases hz : s.size = 0
  · have hle := own_le HO.out
    obtain ⟨i0, hi, _⟩ := Option.map_eq_some_iff.1 infoU8
    have hch : M.chars s = [] := List.eq_nil_of_length_eq_zero (by rw [M.chars_len]; exact hz)
    rw [hz] at hcv
    have HCHN := Lib.hid hch
    clear hz hch
    go_wp2_with (at_builtin; refine wpList_append_zero rfl (.tmp 8) (.tmp 10) 30 rfl 5 i0 Try.underlying30 hi a k c rfl hle.1 (some ⟨w1.heap.size, 0, none⟩) cb rfl ?_)
    go_ret
    refine ⟨_, rfl, ⟨a, c, ?_, ?_⟩, HG.out.trans (Grew.of_still _ HST.out (Nat.le_trans HB.out HG.out.below.size))⟩
    · unfold M.text
      rw [HCHN.out, List.append_nil, HK.out]
      rfl
    · unfold M.text
      rw [HCHN.out, List.append_nil, HK.out]
      exact own_keep HO.out HST.out (fun _ _ e => e)
  · have HZ := Lib.hid hz
    clear hz
    go_wp2_with (at_builtin; refine wpList_append_form rfl (.tmp 8) (.tmp 10) 30 rfl B 5 1 1 (.int .u8 0) Try.underlying30 infoU8 rfl (by decide) a k c _ rfl (own_keep HO.out HST.out (fun _ _ e => e)) ⟨w1.heap.size, 0, none⟩ s.size cb ((M.chars s).map (Value.int .u8)) rfl (by simp [M.chars_len]) (fun j u hj => by
          have := HCH.out j u hj
          rwa [show (⟨w1.heap.size, j, none⟩ : Addr) = (⟨w1.heap.size, 0, none⟩ : Addr).add j by by_cases hj0 : j = 0 <;> simp [Addr.add, hj0]] at this) (fun u hu => by obtain ⟨z, _, rfl⟩ := List.mem_map.1 hu; rfl) (by have := HZ.out; omega) (by have := HX.out; unfold maxLen; omega) (by have := HX.out; omega) (by have := HST.out.size; have := HG.out.below.size; have := HB.out; omega) ?_; intro g' c' w4 hr4 ht4 hn4)
    go_ret
    have hk : (xs ++ M.text s).length = k + s.size := by unfold M.text; rw [← List.append_assoc, List.length_append, HK.out, M.chars_len]
    have hap : xs ++ M.text s = xs ++ M.num s.size ++ M.chars s := by unfold M.text; rw [List.append_assoc]
    refine ⟨_, rfl, ⟨some ⟨g', 0, none⟩, c', by rw [hk]; rfl, ?_⟩, HG.out.trans ?_⟩
    · rw [hk, hap, List.map_append]; exact hr4.out
    · have hb1 := (Still.below HST.out).mono (Nat.le_trans HB.out HG.out.below.size)
      refine ⟨hb1.trans (ht4.out.below (Nat.le_trans (Nat.le_trans HB.out HG.out.below.size) HST.out.size) (fun b hb => (HO.out.lt b hb).1)), (Still.turn HST.out).trans ht4.out, fun b hb => ?_⟩
      rcases hn4.out with e | e
      · have : g' = b := by simpa [Value.ownBlock] using hb
        exact .inl (this ▸ e)
      · have : g' = b := by simpa [Value.ownBlock] using hb
        have := HST.out.size
        exact .inr (by omega)
end Go.Proofs.Ytjeehbcbflofpaa
