/- The reader of lex in memory: words, type variables. -/
import Derived.Test.YtpccfimjkffkfaaDoorLxName
import Derived.Test.YtpccfimjkffkfaaDoorLxWords
namespace Go.Proofs.YtpccfimjkffkfaaDoor
set_option linter.unusedVariables false
set_option linter.unusedSimpArgs false
open Go.ChangeShapes Go.WideShapes Go.ChangeAt Go.RowKit Go.Maps Go.WideMaps
theorem any_find {α : Type} (p : α → Bool) (l : List α) : l.any p = (l.find? p).isSome := by
  induction l with
  | nil => rfl
  | cons a l ih => rw [List.any_cons, List.find?_cons]; cases p a <;> simp [ih]
theorem dict_known {D : DataW Unit} (h : DictIs D (dl 20)) (t : ByteArray) {n : Nat} (hn : (if Lx.kons.contains (Lx.bs t) then some 4 else if Lx.kws.contains (Lx.bs t) then some 6 else none) = some n) : Maps.has D (wkey t) = true ∧ D.atKey (wkey t) (.lit (.int .i64 0)) = .lit (.int .i64 n) := by
  rw [← dl_is] at hn
  obtain ⟨x, hx, rfl⟩ := Option.map_eq_some_iff.1 hn
  exact ⟨by rw [h.has, any_find, hx]; rfl, by rw [h.at_, hx]⟩
theorem dict_other {D : DataW Unit} (h : DictIs D (dl 20)) (t : ByteArray) (hn : (if Lx.kons.contains (Lx.bs t) then some 4 else if Lx.kws.contains (Lx.bs t) then some 6 else none) = none) : Maps.has D (wkey t) = false := by
  rw [← dl_is] at hn
  rw [h.has, any_find, Option.map_eq_none_iff.1 hn]; rfl
set_option maxHeartbeats 4000000 in
theorem kind_any {w : World} {g : Nat} {s : ByteArray} {k mb : Nat} (h : Rdr w g s k mb) (hw : Words w mb) (t : ByteArray) (h0 : 0 < t.size) (hm : t.size ≤ maxLen) :
    Calls Tryd.prog 62 #[.pointer (some ⟨g, 0, none⟩), .string t] w fun e w' => e = .returned (.int .i64 (Lx.kind (Lx.bs t))) ∧ w' = w := by
  obtain ⟨D, hown, hd⟩ := hw
  obtain ⟨b0, b1, b2, b3, b4⟩ := h.box
  have hkey : keyOf Tryd.prog 9 (.string t) = some (wkey t) := keyOf_string_mk Tryd.underlying9 hm
  have HO := Lib.hid hown
  have HK := Lib.hid hkey
  cases hq : (if Lx.kons.contains (Lx.bs t) then some 4 else if Lx.kws.contains (Lx.bs t) then some 6 else none) with
  | some n =>
    obtain ⟨h1, h2⟩ := dict_known hd t hq
    have hkind : Lx.kind (Lx.bs t) = n := by
      unfold Lx.kind
      split at hq
      · rename_i h; rw [if_pos h]; exact Option.some.inj hq
      · rename_i h; rw [if_neg h]
        split at hq
        · rename_i h; rw [if_pos h]; exact Option.some.inj hq
        · cases hq
    rw [hkind]
    clear h hown hkey hq hkind
    go_enter Tryd.func62, Tryd.ntmps62
    go_wp2_with (at_lookup; refine wpList_lookup_own_ok_int _ rfl _ _ 42 rfl 9 3 .i64 wlaw Tryd.underlying42 Tryd.underlying3 (zeroInt _) mb 22 D rfl HO.out _ _ rfl HK.out ?_; intro c hat hwc; rw [h2] at hat; (obtain rfl : c = (n : Int) := by injection hat with hat; injection hat with _ hat; exact hat.symm); rw [h1])
    go_ret
    exact ⟨rfl, rfl⟩
  | none =>
    have h1 := dict_other hd t hq
    have hkind : Lx.kind (Lx.bs t) = if Lx.great t[0].toNat then 4 else 3 := by
      unfold Lx.kind
      have hh : (Lx.bs t).headD 0 = t[0].toNat := by
        have := Lx.drop_lt h0
        rw [List.drop_zero] at this
        rw [this]; rfl
      split at hq
      · cases hq
      · rename_i h; rw [if_neg h]
        split at hq
        · cases hq
        · rename_i h; rw [if_neg h, hh]
    rw [hkind]
    have HG := Lib.hid (isGreat_any t[0].toNat)
    clear h hown hkey hq hkind hd
    generalize Lx.great t[0].toNat = b at *
    cases b <;>
    · go_enter Tryd.func62, Tryd.ntmps62
      go_wp2_with (at_lookup; refine wpList_lookup_own_ok_int _ rfl _ _ 42 rfl 9 3 .i64 wlaw Tryd.underlying42 Tryd.underlying3 (zeroInt _) mb 22 D rfl HO.out _ _ rfl HK.out ?_; intro c hat hwc; rw [h1]; clear hat hwc)
      refine (HG.out _).mono ?_; rintro e w1 ⟨rfl, rfl⟩
      go_wp2_with fail
      go_ret
      exact ⟨rfl, rfl⟩
end Go.Proofs.YtpccfimjkffkfaaDoor
