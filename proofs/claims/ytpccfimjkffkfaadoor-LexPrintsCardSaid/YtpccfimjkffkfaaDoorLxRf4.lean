/- The document's own reader: text. -/
import Derived.Test.YtpccfimjkffkfaaDoorLxRf3
namespace Go.Proofs.YtpccfimjkffkfaaDoor
set_option linter.unusedVariables false
set_option linter.unusedSimpArgs false
open Go.ChangeShapes Go.WideShapes Go.ChangeAt Go.RowKit
namespace Lx
theorem text_go {s o : ByteArray} {i v k : Nat} (hlt : i < s.size) (hc : s[i].toNat ≠ 34) (hu : unit ((bs s).drop i) = some (v, k)) (h : text (bs s) = (text ((bs s).drop i)).map (fun x => (bs o ++ x.1, x.2 + i))) (o' : ByteArray) (ho' : bs o' = bs o ++ [v]) :
    text (bs s) = (text ((bs s).drop (i + k))).map (fun x => (bs o' ++ x.1, x.2 + (i + k))) := by
  rw [h]
  rw [drop_lt hlt] at hu ⊢
  rw [text_step hc, hu]
  simp only
  rw [← drop_lt hlt, List.drop_drop, Option.map_map]
  congr 1
  funext x
  simp only [Function.comp, ho', List.append_assoc, List.singleton_append]
  congr 1
  omega
theorem text_no {s o : ByteArray} {i : Nat} (hlt : i < s.size) (hc : s[i].toNat ≠ 34) (hu : unit ((bs s).drop i) = none) (h : text (bs s) = (text ((bs s).drop i)).map (fun x => (bs o ++ x.1, x.2 + i))) : text (bs s) = none := by
  rw [h]
  rw [drop_lt hlt] at hu ⊢
  rw [text_step hc, hu]
  rfl
theorem text_done {s o : ByteArray} {i : Nat} (hlt : i < s.size) (hc : s[i].toNat = 34) (h : text (bs s) = (text ((bs s).drop i)).map (fun x => (bs o ++ x.1, x.2 + i))) : text (bs s) = some (bs o, i + 1) := by
  rw [h, drop_lt hlt, hc, text_end]
  simp only [Option.map_some, List.append_nil]
  congr 2
  omega
theorem unit_plain {s : ByteArray} {i : Nat} (hlt : i < s.size) (h1 : s[i].toNat ≠ 92) (h2 : ¬ s[i].toNat < 32) : unit ((bs s).drop i) = some (s[i].toNat, 1) := by
  rw [drop_lt hlt, unit, if_neg h1, if_neg h2]
theorem unit_low {s : ByteArray} {i : Nat} (hlt : i < s.size) (h2 : s[i].toNat < 32) : unit ((bs s).drop i) = none := by
  rw [drop_lt hlt, unit, if_neg (by omega), if_pos h2]
theorem unit_esc {s : ByteArray} {i : Nat} (hlt : i < s.size) (h1 : s[i].toNat = 92) : unit ((bs s).drop i) = (esc ((bs s).drop (i + 1))).map (fun x => (x.1, x.2 + 1)) := by
  rw [drop_lt hlt, unit, if_pos h1]
theorem pre1 {a : Nat} {L : List Nat} : ([a] : List Nat).isPrefixOf L = true ↔ ∃ M, L = a :: M := by
  rw [List.isPrefixOf_iff_prefix]
  constructor
  · rintro ⟨t, rfl⟩; exact ⟨t, rfl⟩
  · rintro ⟨t, rfl⟩; exact ⟨t, rfl⟩
theorem pre1_no {a b : Nat} {L : List Nat} (h : ([a] : List Nat).isPrefixOf (b :: L) = false) : b ≠ a := by
  rintro rfl
  rw [pre1.2 ⟨L, rfl⟩] at h
  cases h
def escD : List Nat → Option (Nat × Nat)
  | a :: b :: c :: _ => if dig a = true ∧ dig b = true ∧ dig c = true ∧ num [a, b, c] ≤ 255 then some (num [a, b, c], 3) else none
  | _ => none
/-- What stands behind a backslash, where it is none of the four letters. -/
theorem esc_digits {L : List Nat} (h1 : ([110] : List Nat).isPrefixOf L = false) (h2 : ([116] : List Nat).isPrefixOf L = false) (h3 : ([92] : List Nat).isPrefixOf L = false) (h4 : ([34] : List Nat).isPrefixOf L = false) : esc L = escD L := by
  cases L with
  | nil => rfl
  | cons a L =>
    have e1 := pre1_no h1
    have e2 := pre1_no h2
    have e3 := pre1_no h3
    have e4 := pre1_no h4
    clear h1 h2 h3 h4
    rcases L with _ | ⟨b, _ | ⟨c, L⟩⟩
    · unfold esc escD; simp [e1.symm, e2.symm, e3.symm, e4.symm, e1, e2, e3, e4]
    · unfold esc escD; simp [e1, e2, e3, e4]
    · unfold esc escD
      cases hd : dig a <;> simp [e1, e2, e3, e4, hd]
theorem esc_n {L : List Nat} (h : ([110] : List Nat).isPrefixOf L = true) : esc L = some (10, 1) := by
  obtain ⟨M, rfl⟩ := pre1.1 h; rfl
theorem esc_t {L : List Nat} (h : ([116] : List Nat).isPrefixOf L = true) : esc L = some (9, 1) := by
  obtain ⟨M, rfl⟩ := pre1.1 h; rfl
theorem esc_b {L : List Nat} (h : ([92] : List Nat).isPrefixOf L = true) : esc L = some (92, 1) := by
  obtain ⟨M, rfl⟩ := pre1.1 h; rfl
theorem esc_q {L : List Nat} (h : ([34] : List Nat).isPrefixOf L = true) : esc L = some (34, 1) := by
  obtain ⟨M, rfl⟩ := pre1.1 h; rfl
end Lx
/-- What text answers. -/
def RTxR (w : World) (T : Option (List Nat × Nat)) (e : Ending) (w' : World) : Prop := Still w w' ∧
  (match T with
  | none => e = .returned (.tuple #[.string { data := #[] }, .int .i64 0, .bool false])
  | some (v, k) => e = .returned (.tuple #[.string (Lx.str v), .int .i64 (k : Int), .bool true]))
theorem rtxR_no {w w' : World} {T : Option (List Nat × Nat)} (hT : T = none) (t : Still w w') : RTxR w T (.returned (.tuple #[.string { data := #[] }, .int .i64 0, .bool false])) w' := ⟨t, by rw [hT]⟩
theorem rtxR_yes {w w' : World} {T : Option (List Nat × Nat)} {o : ByteArray} {k : Nat} (hT : T = some (Lx.bs o, k)) (t : Still w w') : RTxR w T (.returned (.tuple #[.string o, .int .i64 (k : Int), .bool true])) w' := ⟨t, by rw [hT]; show _ = Ending.returned (.tuple #[.string (Lx.str (Lx.bs o)), _, _]); rw [Lx.str_bs]⟩
/-- What was read of a text so far. -/
structure RTx (w wr : World) (s o : ByteArray) (i : Nat) : Prop where
  le : i ≤ s.size
  few : o.size ≤ i
  eq : Lx.text (Lx.bs s) = (Lx.text ((Lx.bs s).drop i)).map (fun x => (Lx.bs o ++ x.1, x.2 + i))
  turn : Still w wr
theorem RTx.go {w wr w' : World} {s o : ByteArray} {i v k : Nat} (h : RTx w wr s o i) (hlt : i < s.size) (hc : s[i].toNat ≠ 34) (hu : Lx.unit ((Lx.bs s).drop i) = some (v, k)) (t : Still wr w') {o' : ByteArray} (ho : Lx.bs o' = Lx.bs o ++ [v]) : RTx w w' s o' (i + k) := by
  have hp := Lx.unit_pos hu
  rw [List.length_drop, Lx.bs_len] at hp
  refine ⟨by omega, ?_, Lx.text_go hlt hc hu h.eq o' ho, h.turn.trans t⟩
  have h1 := congrArg List.length ho
  rw [Lx.bs_len, List.length_append, Lx.bs_len, List.length_singleton] at h1
  have := h.few
  omega
theorem bs_push1 {s o : ByteArray} {i : Nat} (hlt : i < s.size) : Lx.bs (o ++ s.extract i (i + 1)) = Lx.bs o ++ [s[i].toNat] := by
  rw [Lx.bs_append, Lx.bs_extract, Lx.drop_lt hlt, show i + 1 - i = 1 by omega]
  rfl
end Go.Proofs.YtpccfimjkffkfaaDoor
