/- What lex does, over lists of bytes. No program in sight. -/
import Derived.WalkKit
import Derived.Lib.Strings
namespace Go.Proofs.YtpccfimjkffkfaaDoor
set_option linter.unusedVariables false
namespace Lx
/-- A text's bytes as numbers. -/
def bs (s : ByteArray) : List Nat := s.data.toList.map UInt8.toNat
def str (l : List Nat) : ByteArray := ⟨(l.map UInt8.ofNat).toArray⟩
theorem bs_len (s : ByteArray) : (bs s).length = s.size := by unfold bs; rw [List.length_map, Array.length_toList]; rfl
theorem bs_at {s : ByteArray} {k : Nat} (h : k < s.size) : (bs s)[k]? = some (s[k].toNat) := by
  unfold bs
  rw [List.getElem?_map, Array.getElem?_toList, Array.getElem?_eq_getElem h]
  rfl
theorem drop_lt {s : ByteArray} {k : Nat} (h : k < s.size) : (bs s).drop k = s[k].toNat :: (bs s).drop (k + 1) := by
  have hl : k < (bs s).length := by rw [bs_len]; exact h
  rw [List.drop_eq_getElem_cons hl]
  have := bs_at h
  rw [List.getElem?_eq_getElem hl] at this
  rw [Option.some.inj this]
theorem drop_ge {s : ByteArray} {k : Nat} (h : s.size ≤ k) : (bs s).drop k = [] := List.drop_eq_nil_of_le (by rw [bs_len]; exact h)
theorem byte_lt (s : ByteArray) (c : Nat) (h : c ∈ bs s) : c < 256 := by
  unfold bs at h
  obtain ⟨u, _, rfl⟩ := List.mem_map.1 h
  exact u.toNat_lt
theorem bs_str {l : List Nat} (h : ∀ c ∈ l, c < 256) : bs (str l) = l := by
  unfold bs str
  simp only [List.map_map]
  conv => rhs; rw [← List.map_id l]
  refine List.map_congr_left fun c hc => ?_
  have := h c hc
  simp; omega
theorem bs_inj {s t : ByteArray} (h : bs s = bs t) : s = t := by
  cases s with
  | mk a => cases t with
    | mk b =>
      have h2 : a.toList = b.toList := by
        unfold bs at h
        exact List.map_inj_right (fun x y e => UInt8.toNat_inj.1 e) |>.1 h
      rw [Array.toList_inj.1 h2]
theorem str_bs (s : ByteArray) : str (bs s) = s := bs_inj (bs_str (byte_lt s))
theorem bs_extract (s : ByteArray) (a b : Nat) : bs (s.extract a b) = ((bs s).drop a).take (b - a) := by
  unfold bs
  rw [show (s.extract a b).data = s.data.extract a b from ByteArray.data_extract]
  rw [Array.toList_extract, List.extract_eq_take_drop, List.map_take, List.map_drop]
theorem toList_beq (s t : ByteArray) : (s.toList == t.toList) = decide (bs s = bs t) := by
  rw [ByteArray.toList_eq, ByteArray.toList_eq]
  by_cases h : bs s = bs t
  · rw [bs_inj h]; simp
  · rw [decide_eq_false h]
    cases hq : (s.data.toList == t.data.toList) with
    | false => rfl
    | true =>
      refine absurd ?_ h
      unfold bs
      rw [eq_of_beq hq]
theorem bs_append (s t : ByteArray) : bs (s ++ t) = bs s ++ bs t := by
  unfold bs
  rw [ByteArray.data_append, Array.toList_append, List.map_append]
def dig (n : Nat) : Bool := decide (48 ≤ n) && decide (n ≤ 57)
def small (n : Nat) : Bool := decide (97 ≤ n) && decide (n ≤ 122)
def great (n : Nat) : Bool := decide (65 ≤ n) && decide (n ≤ 90)
def inName (n : Nat) : Bool := small n || great n || dig n || n == 95 || n == 39
def blank (n : Nat) : Bool := n == 32 || n == 9 || n == 10 || n == 13
/-- How many bytes it takes till d remarks are closed. -/
def closes : Nat → List Nat → Option Nat
  | 0, _ => some 0
  | _ + 1, [] => none
  | d + 1, c :: L =>
    if c = 40 ∧ L.head? = some 42 then (closesT (d + 2) L).map (· + 1)
    else if c = 42 ∧ L.head? = some 41 then (closesT d L).map (· + 1)
    else (closes (d + 1) L).map (· + 1)
where closesT : Nat → List Nat → Option Nat
  | _, [] => none
  | d, _ :: L => (closes d L).map (· + 1)
theorem closes_zero (L : List Nat) : closes 0 L = some 0 := by unfold closes; rfl
theorem closes_nil (d : Nat) : closes (d + 1) [] = none := by unfold closes; rfl
theorem closes_open (d : Nat) (L : List Nat) : closes (d + 1) (40 :: 42 :: L) = (closes (d + 2) L).map (· + 2) := by
  rw [closes, if_pos ⟨rfl, rfl⟩, closes.closesT]
  cases closes (d + 2) L <;> rfl
theorem closes_shut (d : Nat) (L : List Nat) : closes (d + 1) (42 :: 41 :: L) = (closes d L).map (· + 2) := by
  rw [closes, if_neg (by simp), if_pos ⟨rfl, rfl⟩, closes.closesT]
  cases closes d L <;> rfl
theorem closes_other (d : Nat) {c : Nat} {L : List Nat} (h1 : ¬ (c = 40 ∧ L.head? = some 42)) (h2 : ¬ (c = 42 ∧ L.head? = some 41)) : closes (d + 1) (c :: L) = (closes (d + 1) L).map (· + 1) := by
  rw [closes, if_neg h1, if_neg h2]
theorem closes_le : ∀ (n d : Nat) (L : List Nat), L.length ≤ n → ∀ k, closes d L = some k → k ≤ L.length
  | _, 0, L, _, k, h => by rw [closes_zero] at h; cases h; omega
  | _, d + 1, [], _, k, h => by rw [closes_nil] at h; cases h
  | 0, d + 1, c :: L, hn, k, h => by simp at hn
  | n + 1, d + 1, c :: L, hn, k, h => by
    simp only [List.length_cons] at hn ⊢
    by_cases h1 : c = 40 ∧ L.head? = some 42
    · obtain ⟨rfl, h1⟩ := h1
      obtain ⟨L', rfl⟩ : ∃ L', L = 42 :: L' := by cases L with | nil => cases h1 | cons a b => cases h1; exact ⟨b, rfl⟩
      rw [closes_open] at h
      obtain ⟨j, hj, rfl⟩ := Option.map_eq_some_iff.1 h
      have := closes_le n _ L' (by simp only [List.length_cons] at hn; omega) j hj
      simp only [List.length_cons]; omega
    · by_cases h2 : c = 42 ∧ L.head? = some 41
      · obtain ⟨rfl, h2⟩ := h2
        obtain ⟨L', rfl⟩ : ∃ L', L = 41 :: L' := by cases L with | nil => cases h2 | cons a b => cases h2; exact ⟨b, rfl⟩
        rw [closes_shut] at h
        obtain ⟨j, hj, rfl⟩ := Option.map_eq_some_iff.1 h
        have := closes_le n _ L' (by simp only [List.length_cons] at hn; omega) j hj
        simp only [List.length_cons]; omega
      · rw [closes_other d h1 h2] at h
        obtain ⟨j, hj, rfl⟩ := Option.map_eq_some_iff.1 h
        have := closes_le n _ L (by omega) j hj
        omega
/-- What stands between tokens: how many bytes; or where the remark begins that isn't ended. -/
def skipF : Nat → List Nat → Except Nat Nat
  | 0, _ => .ok 0
  | _ + 1, [] => .ok 0
  | f + 1, c :: L =>
    if blank c then (match skipF f L with | .ok n => .ok (n + 1) | .error n => .error (n + 1))
    else if c = 40 ∧ L.head? = some 42 then
      (match closes 1 L.tail with
      | none => .error 0
      | some n => (match skipF f (L.tail.drop n) with | .ok m => .ok (2 + n + m) | .error m => .error (2 + n + m)))
    else .ok 0
theorem skipF_more : ∀ (f g : Nat) (L : List Nat), L.length < f → L.length < g → skipF f L = skipF g L
  | 0, _, _, h, _ => by omega
  | _, 0, _, _, h => by omega
  | f + 1, g + 1, [], _, _ => rfl
  | f + 1, g + 1, c :: L, h, h' => by
    simp only [List.length_cons] at h h'
    unfold skipF
    rw [skipF_more f g L (by omega) (by omega)]
    cases hc : closes 1 L.tail with
    | none => rfl
    | some n =>
      dsimp only
      rw [skipF_more f g (L.tail.drop n) (by simp; omega) (by simp; omega)]
def skip (L : List Nat) : Except Nat Nat := skipF (L.length + 1) L
theorem skip_nil : skip [] = .ok 0 := rfl
theorem skip_blank {c : Nat} {L : List Nat} (h : blank c = true) : skip (c :: L) = (match skip L with | .ok n => .ok (n + 1) | .error n => .error (n + 1)) := by
  unfold skip
  rw [skipF, if_pos h]
  rfl
theorem skip_remark {L : List Nat} : skip (40 :: 42 :: L) = (match closes 1 L with
      | none => .error 0
      | some n => (match skip (L.drop n) with | .ok m => .ok (2 + n + m) | .error m => .error (2 + n + m))) := by
  unfold skip
  rw [skipF, if_neg (by decide), if_pos ⟨rfl, rfl⟩]
  cases hc : closes 1 (42 :: L).tail with
  | none => simp only [List.tail_cons] at hc; rw [hc]
  | some n =>
    simp only [List.tail_cons] at hc ⊢
    rw [hc]
    simp only
    rw [skipF_more ((40 :: 42 :: L).length) ((L.drop n).length + 1) (L.drop n) (by simp; omega) (by omega)]
theorem skip_here {c : Nat} {L : List Nat} (h : blank c = false) (h2 : ¬ (c = 40 ∧ L.head? = some 42)) : skip (c :: L) = .ok 0 := by
  unfold skip
  rw [skipF, if_neg (by rw [h]; decide), if_neg h2]
/-- The number that digits are. -/
def num (L : List Nat) : Nat := L.foldl (fun n c => 10 * n + (c - 48)) 0
structure Tok where
  kind : Nat
  text : List Nat
  n : Nat
/-- What stands behind a backslash: the byte that is meant, and how many bytes that takes. -/
def esc : List Nat → Option (Nat × Nat)
  | [] => none
  | a :: L =>
    if dig a then
      (match L with
      | b :: c :: _ => if dig b = true ∧ dig c = true ∧ num [a, b, c] ≤ 255 then some (num [a, b, c], 3) else none
      | _ => none)
    else if a = 110 then some (10, 1) else if a = 116 then some (9, 1) else if a = 92 then some (92, 1) else if a = 34 then some (34, 1) else none
/-- One byte of a text. -/
def unit : List Nat → Option (Nat × Nat)
  | [] => none
  | c :: L => if c = 92 then (esc L).map (fun x => (x.1, x.2 + 1)) else if c < 32 then none else some (c, 1)
/-- What stands behind a quotation mark. -/
def textF : Nat → List Nat → Option (List Nat × Nat)
  | 0, _ => none
  | _ + 1, [] => none
  | f + 1, c :: L => if c = 34 then some ([], 1) else
    (match unit (c :: L) with
    | none => none
    | some (v, k) => (textF f ((c :: L).drop k)).map (fun x => (v :: x.1, x.2 + k)))
theorem esc_pos {L : List Nat} {v k : Nat} (h : esc L = some (v, k)) : 1 ≤ k ∧ k ≤ L.length := by
  unfold esc at h
  split at h
  · cases h
  · rename_i a L
    split at h
    · split at h
      · split at h
        · cases h; simp only [List.length_cons]; omega
        · cases h
      · cases h
    · split at h
      · cases h; simp
      · split at h
        · cases h; simp
        · split at h
          · cases h; simp
          · split at h
            · cases h; simp
            · cases h
theorem unit_pos {L : List Nat} {v k : Nat} (h : unit L = some (v, k)) : 1 ≤ k ∧ k ≤ L.length := by
  unfold unit at h
  split at h
  · cases h
  · split at h
    · obtain ⟨⟨a, b⟩, hb, e⟩ := Option.map_eq_some_iff.1 h
      have := esc_pos hb
      cases e
      simp only [List.length_cons]; omega
    · split at h
      · cases h
      · cases h; simp
theorem textF_more : ∀ (f g : Nat) (L : List Nat), L.length < f → L.length < g → textF f L = textF g L
  | 0, _, _, h, _ => by omega
  | _, 0, _, _, h => by omega
  | f + 1, g + 1, [], _, _ => rfl
  | f + 1, g + 1, c :: L, h, h' => by
    unfold textF
    cases hu : unit (c :: L) with
    | none => rfl
    | some x =>
      obtain ⟨v, k⟩ := x
      have := unit_pos hu
      simp only [List.length_cons] at h h' this
      simp only
      rw [textF_more f g ((c :: L).drop k) (by simp; omega) (by simp; omega)]
def text (L : List Nat) : Option (List Nat × Nat) := textF (L.length + 1) L
theorem text_nil : text [] = none := rfl
theorem text_end (L : List Nat) : text (34 :: L) = some ([], 1) := rfl
theorem text_step {c : Nat} {L : List Nat} (h : ¬ c = 34) : text (c :: L) = (match unit (c :: L) with
    | none => none
    | some (v, k) => (text ((c :: L).drop k)).map (fun x => (v :: x.1, x.2 + k))) := by
  unfold text
  rw [textF, if_neg h]
  cases hu : unit (c :: L) with
  | none => rfl
  | some x =>
    obtain ⟨v, k⟩ := x
    have := unit_pos hu
    simp only [List.length_cons] at this ⊢
    rw [textF_more (L.length + 1) (((c :: L).drop k).length + 1) ((c :: L).drop k) (by simp; omega) (by omega)]
def kws : List (List Nat) := [[108, 101, 116], [118, 97, 108], [102, 117, 110], [97, 110, 100], [105, 110], [101, 110, 100], [105, 102], [116, 104, 101, 110], [101, 108, 115, 101], [99, 97, 115, 101], [111, 102], [102, 110], [100, 97, 116, 97, 116, 121, 112, 101], [101, 120, 99, 101, 112, 116, 105, 111, 110], [114, 97, 105, 115, 101], [104, 97, 110, 100, 108, 101], [97, 110, 100, 97, 108, 115, 111], [111, 114, 101, 108, 115, 101], [100, 105, 118], [109, 111, 100]]
def kons : List (List Nat) := [[116, 114, 117, 101], [102, 97, 108, 115, 101]]
def kind (w : List Nat) : Nat :=
  if kons.contains w then 4 else if kws.contains w then 6 else if great (w.headD 0) then 4 else 3
def pairs : List (List Nat) := [[60, 62], [60, 61], [62, 61], [58, 58], [58, 61], [61, 62], [45, 62]]
def ones : List Nat := [40, 41, 91, 93, 44, 59, 61, 60, 62, 43, 45, 42, 94, 33, 124, 95, 126]
def signLen (L : List Nat) : Nat := if pairs.contains (L.take 2) then 2 else if ones.contains (L.headD 0) then 1 else 0
/-- The token with which a text begins, and how long it is. -/
def tok (L : List Nat) : Option (Tok × Nat) :=
  let c := L.headD 0
  if dig c then
    let ds := L.takeWhile dig
    if num ds ≤ 4611686018427387903 then some (⟨1, [], num ds⟩, ds.length) else none
  else if c = 34 then (text L.tail).map fun x => (⟨2, x.1, 0⟩, x.2 + 1)
  else if c = 39 then
    let w := L.tail.takeWhile inName
    if w = [] then none else some (⟨5, 39 :: w, 0⟩, w.length + 1)
  else if small c || great c then
    let w := L.takeWhile inName
    some (⟨kind w, w, 0⟩, w.length)
  else if signLen L = 0 then none else some (⟨6, L.take (signLen L), 0⟩, signLen L)
/-- A whole text, from a place and a number of tokens on. -/
def lexF : Nat → Nat → Nat → List Nat → Except (Nat × Nat) (List (Tok × Nat))
  | 0, _, _, _ => .ok []
  | f + 1, cnt, at_, L =>
    (match skip L with
    | .error n => .error (10, at_ + n)
    | .ok n => if L.drop n = [] then .ok [] else
      (match tok (L.drop n) with
      | none => .error (10, at_ + n)
      | some (t, k) => if cnt = 4000 then .error (2, at_ + n) else
        (match lexF f (cnt + 1) (at_ + n + k) ((L.drop n).drop k) with
        | .ok l => .ok ((t, at_ + n) :: l)
        | .error e => .error e)))
def lex (L : List Nat) : Except (Nat × Nat) (List (Tok × Nat)) := if 16384 < L.length then .error (2, 0) else lexF (L.length + 1) 0 0 L
end Lx
end Go.Proofs.YtpccfimjkffkfaaDoor
