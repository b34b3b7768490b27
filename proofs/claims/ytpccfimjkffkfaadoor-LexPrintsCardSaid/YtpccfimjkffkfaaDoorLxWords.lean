/- The words of lex, in a map. -/
import Derived.Test.YtpccfimjkffkfaaDoorLxTok
namespace Go.Proofs.YtpccfimjkffkfaaDoor
set_option linter.unusedVariables false
set_option linter.unusedSimpArgs false
open Go.ChangeShapes Go.WideShapes Go.ChangeAt Go.RowKit Go.Maps Go.WideMaps
def wkey (s : ByteArray) : Lit := .string s.data.toList
/-- What a map of words holds, as a list of words and kinds. -/
structure DictIs (D : DataW Unit) (l : List (List Nat × Nat)) : Prop where
  map : IsMap D
  has : ∀ s : ByteArray, Maps.has D (wkey s) = l.any fun x => x.1 == Lx.bs s
  at_ : ∀ s : ByteArray, D.atKey (wkey s) (.lit (.int .i64 0)) = .lit (.int .i64 (match l.find? (fun x => x.1 == Lx.bs s) with | some x => (x.2 : Int) | none => 0))
theorem wkey_ne {s t : ByteArray} (h : Lx.bs s ≠ Lx.bs t) : wkey s ≠ wkey t := fun e => h (by
  unfold wkey at e
  injection e with e
  unfold Lx.bs
  rw [e])
theorem DictIs.put {D : DataW Unit} {l : List (List Nat × Nat)} (h : DictIs D l) (t : ByteArray) (v : Nat) : DictIs (D.put (wkey t) (.lit (.int .i64 v))) ((Lx.bs t, v) :: l) := by
  have hk : WideAt.IsKeyLit (wkey t) := by trivial
  refine ⟨?_, fun s => ?_, fun s => ?_⟩
  · obtain ⟨es, rfl⟩ := h.map
    exact ⟨_, rfl⟩
  · by_cases e : Lx.bs s = Lx.bs t
    · rw [Lx.bs_inj e, has_put_same h.map hk]; simp
    · rw [has_put_other (wkey_ne e), h.has s, List.any_cons]
      have : (Lx.bs t == Lx.bs s) = false := beq_eq_false_iff_ne.2 fun e' => e e'.symm
      rw [this]; rfl
  · by_cases e : Lx.bs s = Lx.bs t
    · rw [Lx.bs_inj e, atKey_put_same h.map hk]; simp
    · rw [atKey_put_other (wkey_ne e), h.at_ s, List.find?_cons]
      have : (Lx.bs t == Lx.bs s) = false := beq_eq_false_iff_ne.2 fun e' => e e'.symm
      rw [this]
def dl0 : List (List Nat × Nat) := [(Lx.bs ⟨#[102, 97, 108, 115, 101]⟩, 4), (Lx.bs ⟨#[116, 114, 117, 101]⟩, 4)]
def kwB (i : Nat) : ByteArray := Lx.str (Lx.kws.getD i [])
def dl : Nat → List (List Nat × Nat)
  | 0 => dl0
  | i + 1 => (Lx.bs (kwB i), 6) :: dl i
def kwRow : Array Value := #[.string { data := #[108, 101, 116] }, .string { data := #[118, 97, 108] }, .string { data := #[102, 117, 110] }, .string { data := #[97, 110, 100] }, .string { data := #[105, 110] }, .string { data := #[101, 110, 100] }, .string { data := #[105, 102] }, .string { data := #[116, 104, 101, 110] }, .string { data := #[101, 108, 115, 101] }, .string { data := #[99, 97, 115, 101] }, .string { data := #[111, 102] }, .string { data := #[102, 110] }, .string { data := #[100, 97, 116, 97, 116, 121, 112, 101] }, .string { data := #[101, 120, 99, 101, 112, 116, 105, 111, 110] }, .string { data := #[114, 97, 105, 115, 101] }, .string { data := #[104, 97, 110, 100, 108, 101] }, .string { data := #[97, 110, 100, 97, 108, 115, 111] }, .string { data := #[111, 114, 101, 108, 115, 101] }, .string { data := #[100, 105, 118] }, .string { data := #[109, 111, 100] }]
theorem kwRow_at {i : Nat} (h : i < 20) : kwRow[i]? = some (.string (kwB i)) := by
  have : i = 0 ∨ i = 1 ∨ i = 2 ∨ i = 3 ∨ i = 4 ∨ i = 5 ∨ i = 6 ∨ i = 7 ∨ i = 8 ∨ i = 9 ∨ i = 10 ∨ i = 11 ∨ i = 12 ∨ i = 13 ∨ i = 14 ∨ i = 15 ∨ i = 16 ∨ i = 17 ∨ i = 18 ∨ i = 19 := by omega
  rcases this with rfl | rfl | rfl | rfl | rfl | rfl | rfl | rfl | rfl | rfl | rfl | rfl | rfl | rfl | rfl | rfl | rfl | rfl | rfl | rfl <;> rfl
/-- The words at mb. -/
def Words (w : World) (mb : Nat) : Prop := ∃ D : DataW Unit, w.ownsMap Tryd.prog 9 (plainElem Tryd.prog 3) mb 22 D ∧ DictIs D (dl 20)
theorem Words.keep {S : Nat → Prop} {w w' : World} {mb : Nat} (h : Words w mb) (t : Turn S w w') (hs : ¬ S mb) : Words w' mb := by
  obtain ⟨D, ⟨es, clock, hb, r⟩, hd⟩ := h
  exact ⟨D, ⟨es, clock, (t.block mb (Array.getElem?_eq_some_iff.1 hb).1 hs).trans hb, r⟩, hd⟩
theorem Words.lt {w : World} {mb : Nat} (h : Words w mb) : mb < w.heap.size := by
  obtain ⟨D, h, _⟩ := h
  exact h.lt
theorem kwB_small (i : Nat) : (kwB i).size ≤ maxLen := by
  unfold maxLen
  by_cases h : i < 20
  · have : i = 0 ∨ i = 1 ∨ i = 2 ∨ i = 3 ∨ i = 4 ∨ i = 5 ∨ i = 6 ∨ i = 7 ∨ i = 8 ∨ i = 9 ∨ i = 10 ∨ i = 11 ∨ i = 12 ∨ i = 13 ∨ i = 14 ∨ i = 15 ∨ i = 16 ∨ i = 17 ∨ i = 18 ∨ i = 19 := by omega
    rcases this with rfl | rfl | rfl | rfl | rfl | rfl | rfl | rfl | rfl | rfl | rfl | rfl | rfl | rfl | rfl | rfl | rfl | rfl | rfl | rfl <;> decide
  · have : kwB i = ByteArray.empty := by
      unfold kwB
      rw [List.getD_eq_getElem?_getD, List.getElem?_eq_none (by simp [Lx.kws]; omega)]
      rfl
    rw [this]; decide
theorem wlaw : Keyed Tryd.prog 9 := string_keyed Tryd.underlying9
theorem zeroInt (w : World) : (zeroValue 3).run Tryd.prog w = .ok (.int .i64 0) w := by kernel_rfl
set_option maxHeartbeats 4000000 in
theorem words_any (w : World) : Calls Tryd.prog 21 #[] w fun e w' => e = .returned (.map (some w.heap.size)) ∧ Still w w' ∧ Words w' w.heap.size := by
  have hmm := @run_makeMap Tryd.prog
  have h0 : (w.alloc (.map #[] 0)).ownsMap Tryd.prog 9 (plainElem Tryd.prog 3) w.heap.size 0 (.map [] : DataW Unit) := World.ownsMap_made _ _ _ _
  have d0 : DictIs (.map []) [] := ⟨⟨[], rfl⟩, fun s => rfl, fun s => rfl⟩
  obtain ⟨w1, hrun1, hown1, hg1⟩ := h0.update wlaw Tryd.underlying42 (by decide) (key := .string { data := #[116, 114, 117, 101] }) (val := .int .i64 4) (kl := wkey { data := #[116, 114, 117, 101] }) (d := .lit (.int .i64 4)) (ps := []) (keyOf_string_mk Tryd.underlying9 (by decide)) (plainElem_int Tryd.underlying3 (by decide))
  obtain ⟨w2, hrun2, hown2, hg2⟩ := hown1.update wlaw Tryd.underlying42 (by decide) (key := .string { data := #[102, 97, 108, 115, 101] }) (val := .int .i64 4) (kl := wkey { data := #[102, 97, 108, 115, 101] }) (d := .lit (.int .i64 4)) (ps := []) (keyOf_string_mk Tryd.underlying9 (by decide)) (plainElem_int Tryd.underlying3 (by decide))
  have d2 := (d0.put { data := #[116, 114, 117, 101] } 4).put { data := #[102, 97, 108, 115, 101] } 4
  have s2 : Still w w2 := (((Still.refl w).alloc _).grown hg1 (fun k hk hl => by cases hk; omega)).grown hg2 (fun k hk hl => by cases hk; omega)
  have hb2 : w.heap.size < w2.heap.size := hown2.lt
  have HB := Lib.hid (And.intro s2 (And.intro hb2 (And.intro hown2 d2)))
  clear h0 d0 hown1 hg1 hown2 hg2 d2 s2
  go_enter Tryd.func21, Tryd.ntmps21
  go_wp2_with fail
  go_loopw [8] (fun v wr => ∃ (i : Nat) (D : DataW Unit), v = .int .i64 i ∧ i ≤ 20 ∧ wr.ownsMap Tryd.prog 9 (plainElem Tryd.prog 3) w.heap.size (2 + i) D ∧ DictIs D (dl i) ∧ Still w wr ∧ Blk wr w2.heap.size 9 kwRow) (fun v wr => 20 - (intOf v).toNat)
  case atStart => exact ⟨0, _, rfl, by omega, HB.out.2.2.1.alloc _, HB.out.2.2.2, HB.out.1.alloc _, Blk.new w2 _ _⟩
  case round =>
    obtain ⟨i, D, rfl, hi, hown, hd, hst, hblk⟩ := hrel
    have HH := Lib.hid (And.intro hd (And.intro hst hblk))
    by_cases hlt : i < 20
    · have c0 : wr.cell? ⟨w2.heap.size, i, none⟩ = some (.string (kwB i)) := (hblk.cell i).trans (kwRow_at hlt)
      have hkey : keyOf Tryd.prog 9 (.string (kwB i)) = some (wkey (kwB i)) := keyOf_string_mk Tryd.underlying9 (kwB_small i)
      obtain ⟨w3, hrun3, hown3, hg3⟩ := hown.update wlaw Tryd.underlying42 (by unfold maxLen; omega) (key := .string (kwB i)) (val := .int .i64 6) (kl := wkey (kwB i)) (d := .lit (.int .i64 6)) (ps := []) hkey (plainElem_int Tryd.underlying3 (by decide))
      have H3 := Lib.hid (And.intro hown3 hg3)
      clear hown hown3 hg3 hd hst hblk hkey
      go_wp2_with fail
      have hne : w2.heap.size ≠ w.heap.size := by have := HB.out.2.1; omega
      exact ⟨⟨i + 1, _, by go_num, by omega, H3.out.1, HH.out.1.put (kwB i) 6, HH.out.2.1.grown H3.out.2 (fun k hk hl => by cases hk; omega), (H3.out.2.block _ HH.out.2.2.lt (fun e => hne (Option.some.inj e))).trans HH.out.2.2⟩, by simp [intOf]; omega⟩
    · obtain rfl : i = 20 := by omega
      clear hd hst hblk
      have HO := Lib.hid hown
      clear hown
      go_wp2_with fail
      go_ret
      exact ⟨rfl, HH.out.2.1, ⟨D, HO.out, HH.out.1⟩⟩
theorem dl_eq : dl 20 = Lx.kws.reverse.map (fun k => (k, 6)) ++ [(Lx.kons.getD 1 [], 4), (Lx.kons.getD 0 [], 4)] := by kernel_rfl
/-- What the map says of a word. -/
theorem dl_is (L : List Nat) : ((dl 20).find? (fun x => x.1 == L)).map (·.2) = if Lx.kons.contains L then some 4 else if Lx.kws.contains L then some 6 else none := by
  by_cases h1 : L ∈ Lx.kons
  · have h : L = [116, 114, 117, 101] ∨ L = [102, 97, 108, 115, 101] := by simpa [Lx.kons] using h1
    rcases h with rfl | rfl <;> (rw [dl_eq]; rfl)
  · rw [if_neg (by simpa using h1)]
    by_cases h2 : L ∈ Lx.kws
    · rw [if_pos (by simpa using h2)]
      have h : ∃ i, i < 20 ∧ Lx.kws[i]? = some L := by
        obtain ⟨i, hi, e⟩ := List.mem_iff_getElem.1 h2
        exact ⟨i, hi, by rw [List.getElem?_eq_getElem hi, e]⟩
      obtain ⟨i, hi, e⟩ := h
      have : i = 0 ∨ i = 1 ∨ i = 2 ∨ i = 3 ∨ i = 4 ∨ i = 5 ∨ i = 6 ∨ i = 7 ∨ i = 8 ∨ i = 9 ∨ i = 10 ∨ i = 11 ∨ i = 12 ∨ i = 13 ∨ i = 14 ∨ i = 15 ∨ i = 16 ∨ i = 17 ∨ i = 18 ∨ i = 19 := by omega
      rcases this with rfl | rfl | rfl | rfl | rfl | rfl | rfl | rfl | rfl | rfl | rfl | rfl | rfl | rfl | rfl | rfl | rfl | rfl | rfl | rfl <;> (obtain rfl := Option.some.inj e; rw [dl_eq]; rfl)
    · rw [if_neg (by simpa using h2), dl_eq]
      rw [List.find?_eq_none.2]
      · rfl
      · intro x hx e
        have e' : x.1 = L := by simpa using e
        rcases List.mem_append.1 hx with hx | hx
        · obtain ⟨k, hk, rfl⟩ := List.mem_map.1 hx
          exact h2 (by rw [← e']; exact List.mem_reverse.1 hk)
        · simp only [List.mem_cons, List.not_mem_nil, or_false] at hx
          rcases hx with rfl | rfl
          · exact h1 (by rw [← e']; decide)
          · exact h1 (by rw [← e']; decide)
end Go.Proofs.YtpccfimjkffkfaaDoor
