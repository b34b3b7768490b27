/- The document's own reader: rows of texts; signs in lists. -/
import Derived.Test.YtpccfimjkffkfaaDoorLxRf5
import Derived.Test.YtpccfimjkffkfaaDoorLxTok
import Derived.Test.YtpccfimjkffkfaaDoorLxJoinF
namespace Go.Proofs.YtpccfimjkffkfaaDoor
set_option linter.unusedVariables false
set_option linter.unusedSimpArgs false
open Go.ChangeShapes Go.WideShapes Go.ChangeAt Go.RowKit
/-- Texts lie in block g, one behind the other. -/
def Txts (w : World) (g : Nat) (L : List (List Nat)) : Prop := ∀ (i : Nat) (x : List Nat), L[i]? = some x → w.cell? ⟨g, i, none⟩ = some (.string (Lx.str x)) ∧ ∀ c ∈ x, c < 256
def txtRow (L : List (List Nat)) : Array Value := (L.map fun x => Value.string (Lx.str x)).toArray
theorem Txts.new (w : World) {L : List (List Nat)} (h : ∀ x ∈ L, ∀ c ∈ x, c < 256) : Txts (w.alloc (.cells (txtRow L) 9)) w.heap.size L := fun i x hx => ⟨by
  rw [(Blk.new w 9 (txtRow L)).cell i]
  unfold txtRow
  rw [List.getElem?_toArray, List.getElem?_map, hx]; rfl, h x (List.mem_of_getElem? hx)⟩
set_option maxHeartbeats 4000000 in
theorem among_ref {w : World} {g n c : Nat} {L : List (List Nat)} (h : Txts w g L) (hn : n = L.length) (hn2 : n ≤ 100) (s : ByteArray) :
    Calls Tryd.prog 39 #[.string s, .slice (some ⟨g, 0, none⟩) n c] w fun e w' => e = .returned (.bool (L.contains (Lx.bs s))) ∧ w' = w := by
  obtain ⟨b, hb⟩ : ∃ b, L.contains (Lx.bs s) = b := ⟨_, rfl⟩
  rw [hb]
  have H := Lib.hid (And.intro h (And.intro hn hb))
  clear h hn hb
  go_enter Tryd.func39, Tryd.ntmps39
  go_wp2_with fail
  go_loopw [9] (fun v wr => ∃ i : Nat, v = .int .i64 i ∧ i ≤ n ∧ wr = w ∧ ∀ j x, j < i → L[j]? = some x → x ≠ Lx.bs s) (fun v _ => n - (intOf v).toNat)
  case atStart => exact ⟨0, rfl, Nat.zero_le _, rfl, fun j x hj => by omega⟩
  case round =>
    obtain ⟨i, rfl, hi, hwr, hno⟩ := hrel
    subst hwr
    have HN := Lib.hid hno
    clear hno
    by_cases hlt : i < n
    · have x0 : (i : Int) < (n : Int) := by omega
      have x1 : decide (i < n) = true := decide_eq_true hlt
      obtain ⟨x, hx⟩ : ∃ x, L[i]? = some x := ⟨_, List.getElem?_eq_getElem (by have := H.out.2.1; omega)⟩
      obtain ⟨hc, h256⟩ := H.out.1 i x hx
      obtain ⟨X, hX⟩ : ∃ X, Lx.str x = X := ⟨_, rfl⟩
      have hbx : Lx.bs X = x := by rw [← hX]; exact Lx.bs_str h256
      rw [hX] at hc
      have hq : (X.toList == s.toList) = decide (x = Lx.bs s) := by rw [Lx.toList_beq, hbx]
      by_cases he : x = Lx.bs s
      · have hb : b = true := by
          rw [← H.out.2.2, List.contains_iff_mem, ← he]
          exact List.mem_of_getElem? hx
        subst hb
        rw [decide_eq_true he] at hq
        clear he hx hX hbx h256
        go_wp2_with fail
        go_ret
        exact ⟨rfl, rfl⟩
      · rw [decide_eq_false he] at hq
        have HE := Lib.hid (And.intro he hx)
        clear he hx hX hbx h256
        go_wp2_with fail
        exact ⟨⟨i + 1, by go_num, hlt, trivial, fun j y hj hy => by
          by_cases hji : j < i
          · exact HN.out j y hji hy
          · obtain rfl : j = i := by omega
            obtain rfl := Option.some.inj (hy.symm.trans HE.out.2)
            exact HE.out.1⟩, by simp [intOf]; omega⟩
    · obtain rfl : i = n := by omega
      have x0 : ¬ (i : Int) < (i : Int) := by omega
      have x1 : decide (i < i) = false := decide_eq_false (by omega)
      have hb : b = false := by
        rw [← H.out.2.2, Bool.eq_false_iff]
        intro e
        obtain ⟨j, hj, e2⟩ := List.mem_iff_getElem.1 (List.contains_iff_mem.1 e)
        exact HN.out j _ (by have := H.out.2.1; omega) (List.getElem?_eq_getElem hj) e2
      subst hb
      clear hlt
      go_wp2_with fail
      go_ret
      exact ⟨rfl, rfl⟩
def sgns : List (List Nat) := Lx.pairs ++ Lx.ones.map (fun c => [c])
theorem words_ref (w : World) : Calls Tryd.prog 40 #[] w fun e w' => e = .returned (.slice (some ⟨w.heap.size, 0, none⟩) 20 20) ∧ w' = w.alloc (.cells (txtRow Lx.kws) 9) := by
  go_enter Tryd.func40, Tryd.ntmps40
  go_wp2_with fail
  go_ret
  exact ⟨rfl, rfl⟩
theorem signs_ref (w : World) : Calls Tryd.prog 41 #[] w fun e w' => e = .returned (.slice (some ⟨w.heap.size, 0, none⟩) 24 24) ∧ w' = w.alloc (.cells (txtRow sgns) 9) := by
  go_enter Tryd.func41, Tryd.ntmps41
  go_wp2_with fail
  go_ret
  exact ⟨rfl, rfl⟩
theorem kws_small : ∀ x ∈ Lx.kws, ∀ c ∈ x, c < 256 := by decide
theorem sgns_small : ∀ x ∈ sgns, ∀ c ∈ x, c < 256 := by decide
theorem kons_small : ∀ x ∈ Lx.kons, ∀ c ∈ x, c < 256 := by decide
namespace Lx
theorem sgns_at {i : Nat} {x : List Nat} (h : sgns[i]? = some x) : (i < 7 ∧ x ∈ pairs) ∨ (7 ≤ i ∧ ∃ c ∈ ones, x = [c]) := by
  unfold sgns at h
  by_cases hi : i < 7
  · rw [List.getElem?_append_left (by exact hi)] at h
    exact .inl ⟨hi, List.mem_of_getElem? h⟩
  · rw [List.getElem?_append_right (by show 7 ≤ i; omega), List.getElem?_map] at h
    obtain ⟨c, hc, rfl⟩ := Option.map_eq_some_iff.1 h
    exact .inr ⟨by omega, c, List.mem_of_getElem? hc, rfl⟩
theorem pairs_len {x : List Nat} (h : x ∈ pairs) : x.length = 2 := by
  have : ∀ y ∈ pairs, y.length = 2 := by decide
  exact this x h
theorem take_pre {x L : List Nat} (h : x.isPrefixOf L = true) : L.take x.length = x := (List.prefix_iff_eq_take.1 (List.isPrefixOf_iff_prefix.1 h)).symm
theorem pre_take {x L : List Nat} (h : L.take x.length = x) : x.isPrefixOf L = true := List.isPrefixOf_iff_prefix.2 (List.prefix_iff_eq_take.2 h.symm)
theorem pairs_at {x : List Nat} (h : x ∈ pairs) : ∃ j, j < 7 ∧ sgns[j]? = some x := by
  obtain ⟨j, hj, e⟩ := List.mem_iff_getElem.1 h
  refine ⟨j, hj, ?_⟩
  unfold sgns
  rw [List.getElem?_append_left hj, List.getElem?_eq_getElem hj, e]
theorem sign_at {L : List Nat} {i : Nat} {x : List Nat} (hx : sgns[i]? = some x) (hp : x.isPrefixOf L = true) (hno : ∀ j y, j < i → sgns[j]? = some y → y.isPrefixOf L = false) : signLen L = x.length ∧ L.take x.length = x ∧ x ≠ [] := by
  have ht := take_pre hp
  unfold signLen
  rcases sgns_at hx with ⟨hi, hm⟩ | ⟨hi, c, hc, rfl⟩
  · have hl := pairs_len hm
    rw [hl] at ht
    rw [if_pos (by rw [List.contains_iff_mem, ht]; exact hm), hl]
    exact ⟨rfl, ht, fun e => by rw [e] at hl; cases hl⟩
  · rw [if_neg, if_pos]
    · exact ⟨rfl, ht, by simp⟩
    · cases L with
      | nil => simp at ht
      | cons a L =>
        obtain rfl : a = c := by simpa using ht
        exact List.contains_iff_mem.2 hc
    · intro e
      have hm := List.contains_iff_mem.1 e
      obtain ⟨j, hj, hj2⟩ := pairs_at hm
      have := hno j _ (by omega) hj2
      rw [pre_take (by rw [pairs_len hm])] at this
      cases this
theorem sign_none {L : List Nat} (hno : ∀ j y, j < 24 → sgns[j]? = some y → y.isPrefixOf L = false) : signLen L = 0 := by
  unfold signLen
  rw [if_neg, if_neg]
  · intro e
    have hm := List.contains_iff_mem.1 e
    obtain ⟨j, hj, e2⟩ := List.mem_iff_getElem.1 hm
    have h1 : sgns[j + 7]? = some [L.headD 0] := by
      unfold sgns
      rw [List.getElem?_append_right (by show 7 ≤ j + 7; omega), show j + 7 - pairs.length = j by show j + 7 - 7 = j; omega, List.getElem?_map, List.getElem?_eq_getElem hj, e2]; rfl
    have hj17 : j < 17 := hj
    have := hno (j + 7) _ (by omega) h1
    cases L with
    | nil => simp [ones] at hm
    | cons a L => simp at this
  · intro e
    have hm := List.contains_iff_mem.1 e
    obtain ⟨j, hj, hj2⟩ := pairs_at hm
    have := hno j _ (by omega) hj2
    rw [pre_take (by rw [pairs_len hm])] at this
    cases this
end Lx
end Go.Proofs.YtpccfimjkffkfaaDoor
