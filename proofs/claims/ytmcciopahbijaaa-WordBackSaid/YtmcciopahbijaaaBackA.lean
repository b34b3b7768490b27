/- Rows of numbers put one behind the other, and got again: no program in sight. -/
import Derived.Test.YtmcciopahbijaaaEnc
namespace Go.Proofs.Ytmcciopahbijaaa.M
set_option linter.unusedVariables false
open Go.RowKit

/-- The bytes of numbers, one behind the other. -/
def cat : List Int → List Int
  | [] => []
  | n :: r => enc (zig n) ++ cat r
theorem cat_append : ∀ (a b : List Int), cat (a ++ b) = cat a ++ cat b
  | [], b => rfl
  | n :: a, b => by simp only [List.cons_append, cat, cat_append a b, List.append_assoc]
theorem cat_len : ∀ (l : List Int), (∀ n ∈ l, -9223372036854775808 ≤ n ∧ n ≤ 9223372036854775807) → (cat l).length ≤ 10 * l.length
  | [], _ => by simp [cat]
  | n :: l, h => by
    have h1 := h n (by simp)
    have h2 := enc_len10 (zig_lt h1.1 h1.2)
    have h3 := cat_len l (fun m hm => h m (by simp [hm]))
    simp only [cat, List.length_append, List.length_cons]; omega
theorem cat_bd : ∀ (l : List Int), ∀ c ∈ cat l, 0 ≤ c ∧ c ≤ 255
  | [], c, h => by simp [cat] at h
  | n :: l, c, h => by
    simp only [cat, List.mem_append] at h
    rcases h with h | h
    · exact enc_bd _ c h
    · exact cat_bd l c h
theorem take_snoc {l : List Int} {k : Nat} (h : k < l.length) : l.take (k + 1) = l.take k ++ [l.getD k 0] := by
  rw [List.take_succ_eq_append_getElem h]; simp [List.getD, h]
theorem cat_snoc {l : List Int} {k : Nat} (h : k < l.length) : cat (l.take (k + 1)) = cat (l.take k) ++ enc (zig (l.getD k 0)) := by
  rw [take_snoc h, cat_append]; simp [cat]
/-- Behind the first k numbers' bytes stand those of the next one. -/
theorem cat_drop {l : List Int} {k : Nat} (h : k < l.length) : ∃ r, (cat l).drop (cat (l.take k)).length = enc (zig (l.getD k 0)) ++ r := by
  refine ⟨cat (l.drop (k + 1)), ?_⟩
  have e : l = l.take k ++ (l.getD k 0 :: l.drop (k + 1)) := by
    have : l.getD k 0 = l[k] := by simp [List.getD, h]
    rw [this, List.getElem_cons_drop, List.take_append_drop]
  conv => lhs; rw [e, cat_append]
  rw [← e, List.drop_left]; rfl
theorem cat_lt {l : List Int} {k : Nat} (h : k < l.length) : (cat (l.take k)).length < (cat l).length := by
  obtain ⟨r, hr⟩ := cat_drop h
  have h1 := congrArg List.length hr
  have h2 := enc_pos (zig (l.getD k 0))
  rw [List.length_drop, List.length_append] at h1; omega
theorem got_cat {l : List Int} {k : Nat} (h : k < l.length) (hb : ∀ n ∈ l, -9223372036854775808 ≤ n ∧ n ≤ 9223372036854775807) :
    got ((cat l).drop (cat (l.take k)).length) = some (zig (l.getD k 0), (enc (zig (l.getD k 0))).length) := by
  obtain ⟨r, hr⟩ := cat_drop h
  have hm : l.getD k 0 ∈ l := by simp [List.getD, h]
  have h1 := hb _ hm
  rw [hr, got_enc (zig_lt h1.1 h1.2)]
end Go.Proofs.Ytmcciopahbijaaa.M
