/- WordBack, walked: for a row of at most 100 numbers, and for a longer one, of which the first 100 are taken. -/
import Derived.Test.YtmcciopahbijaaaOwn
import Derived.Test.YtmcciopahbijaaaBackA
namespace Go.Proofs.Ytmcciopahbijaaa
set_option linter.unusedVariables false
open Go.ChangeShapes Go.WideShapes Go.ChangeAt Go.RowKit
open M (W)

/-- A row that holds something is no nil slice: where it lies, and its cells. -/
theorem own_cells {w : World} {base : Nat} {v : Value} {n : Nat} {xs : List Int} (h : w.ownsRow base 5 1 v n (xs.map (Value.int .u8))) (hn : 0 < n) :
    ∃ g cap, v = .slice (some ⟨g, 0, none⟩) n cap ∧ base ≤ g ∧ g < w.heap.size ∧ xs.length = n ∧ n ≤ cap ∧ ∀ j, j < n → w.cell? ⟨g, 0 + j, none⟩ = some (.int .u8 (xs.getD j 0)) := by
  obtain ⟨hl, h⟩ := h
  have hxl : xs.length = n := by simpa using hl
  rcases h with ⟨rfl, rfl⟩ | ⟨g, cap, cur, rfl, hb, hg, h1, h2, h3, h4⟩
  · omega
  · have hlt : g < w.heap.size := by
      rcases Nat.lt_or_ge g w.heap.size with h | h
      · exact h
      · rw [Array.getElem?_eq_none h] at hg; simp at hg
    refine ⟨g, cap, rfl, hb, hlt, hxl, h1, fun i hi => ?_⟩
    have hx : (cur.toList.take (n * 1))[i]? = some (.int .u8 (xs.getD i 0)) := by
      rw [h4]; simp [List.getD, List.getElem?_eq_getElem (show i < xs.length by omega)]
    rw [List.getElem?_take_of_lt (by omega)] at hx
    rw [Array.getElem?_toList] at hx
    simp only [World.cell?, hg, Nat.zero_add]
    simpa using hx

set_option maxHeartbeats 8000000 in
/-- At most 100 numbers. -/
theorem back_in (b off cap : Nat) (l : List Int) (x y : Int) (w : World) (hm : l.length ≤ 100) (hpos : 0 < l.length) (hb : b < w.heap.size)
    (hc : ∀ j, j < l.length → w.cell? ⟨b, off + j, none⟩ = some (.int .i64 (l.getD j 0))) (hr : ∀ n ∈ l, -9223372036854775808 ≤ n ∧ n ≤ 9223372036854775807)
    (lx : -9223372036854775808 ≤ x) (ux : x ≤ 9223372036854775807) (ly : -9223372036854775808 ≤ y) (uy : y ≤ 9223372036854775807) :
    Calls Try.prog 15 #[.slice (some ⟨b, off, none⟩) l.length cap, .int .i64 x, .int .i64 y] w fun e w' => e = .returned (.bool true) ∧ Below w.heap.size w w' := by
  obtain ⟨i0, hi, hz0, hz1, hz2⟩ := info_parts infoU8
  have HB := Lib.hid (M.cat_len l hr)
  have HC := Lib.hid hc; have HR := Lib.hid hr
  clear hc hr
  have HL := Lib.hid (rfl : l.length = l.length)
  have HLM := Lib.hid hm
  go_enter Try.func15, Try.ntmps15
  go_wp2_with fail
  go_loopw [7, 23] (fun v k wr => ∃ i : Nat, i ≤ l.length ∧ k = .int .i64 i ∧ wr.ownsRow w.heap.size 5 1 v (M.cat (l.take i)).length ((M.cat (l.take i)).map (Value.int .u8)) ∧ Below w.heap.size w wr) (fun _ k _ => l.length - (intOf k).toNat)
  case atStart => exact ⟨0, by omega, rfl, World.ownsRow_nil _ _ _ _, Below.refl _ _⟩
  case round =>
    obtain ⟨i, hil, rfl, hown, hbr⟩ := hrel
    have hsz := hbr.size
    by_cases hlt : i < l.length
    · have hlt' : i < l.length := by have := HL.out; omega
      have hcell : wr.cell? ⟨b, off + i, none⟩ = some (.int .i64 (l.getD i 0)) := by rw [hbr.cell (p := ⟨b, off + i, none⟩) hb]; exact HC.out i hlt'
      have hmem : l.getD i 0 ∈ l := by simp [List.getD, hlt']
      have hbd := HR.out _ hmem
      obtain ⟨ln, un⟩ := hbd
      have HS := Lib.hid (M.cat_snoc hlt')
      have HCL := Lib.hid (M.cat_lt hlt')
      have HEL := Lib.hid (M.enc_len10 (M.zig_lt ln un))
      have HEP := Lib.hid (M.enc_pos (M.zig (l.getD i 0)))
      generalize hn : l.getD i 0 = n at *
      have HN := Lib.hid hn; clear hn hmem hlt'
      have HO := Lib.hid hown; clear hown
      go_wp2_with fail
      refine (put_any n _ ln un).mono ?_; rintro e wp ⟨vp, rfl, hownp, hbp⟩
      obtain ⟨g, cp, hv, hg0, hg1, hgl, hgc, hcells⟩ := own_cells hownp HEP.out
      rw [hv]
      have HO2 := Lib.hid (own_later HO.out hbp)
      have hb2 : Below w.heap.size w wp := below_then hbr hbp
      have hs2 := hb2.size
      have HCE := Lib.hid hcells
      clear hv hownp hcells HO hbp hcell hgl
      have h0 : (M.cat (l.take i)).length + (M.enc (M.zig n)).length ≤ 2000 := by
        have h1 := HCL.out
        have h2 := HEL.out
        have h3 := HB.out
        have h4 := HL.out
        have h5 := HLM.out
        omega
      go_wp2_with (at_builtin; refine wpList_append_own _ rfl _ _ 46 rfl w.heap.size 5 i0 (.int .u8 0) 1 1 Try.underlying46 hi hz0 hz1 hz2 rfl (by decide) _ _ _ rfl HO2.out ⟨g, 0, none⟩ (M.enc (M.zig n)).length cp ((M.enc (M.zig n)).map (Value.int .u8)) rfl ?c0 ?c1 ?c2 ?c3 ?c4 ?c5 ?_)
      case c0 => simp
      case c1 =>
        intro j u hj
        have hjl : j < (M.enc (M.zig n)).length := by
          rcases Nat.lt_or_ge j (M.enc (M.zig n)).length with h | h
          · exact h
          · rw [List.getElem?_eq_none (by simpa using h)] at hj; simp at hj
        have e : (⟨g, 0, none⟩ : Addr).add j = ⟨g, 0 + j, none⟩ := by by_cases h : j = 0 <;> simp [Addr.add, h]
        rw [e, HCE.out j hjl]
        simp [List.getElem?_eq_getElem hjl] at hj
        simp [List.getD, List.getElem?_eq_getElem hjl, hj]
      case c2 => intro u hu; rw [List.mem_map] at hu; obtain ⟨z, _, rfl⟩ := hu; rfl
      case c3 => unfold maxLen; omega
      case c4 => omega
      case c5 => omega
      intro v' w1 hown1 hgrow _
      have hb1 : Below w.heap.size w w1 := hb2.grown hgrow hs2 (fun k hk => (HO2.out.lt k hk).1)
      have HO := Lib.hid hown1; clear hown1 hb2 hgrow h0
      go_wp2
      go_roundw
      case rel =>
        refine ⟨i + 1, by omega, by go_num, ?_, hb1⟩
        have := HO.out
        rw [HS.out, List.map_append, List.length_append]; exact this
      case measure => simp [intOf]; omega
    · have hil2 : i = l.length := by have := HL.out; omega
      subst hil2
      rw [List.take_length] at hown
      have hN : 0 < (M.cat l).length := by have := M.cat_lt (l := l) (k := 0) hpos; omega
      obtain ⟨g, cp, hv, hg0, hg1, hgl, hgc, hcells⟩ := own_cells hown hN
      rw [hv]
      have HCE := Lib.hid hcells
      have HBR := Lib.hid hbr
      have hmx : (M.cat l).length ≤ 1000 := by have := HB.out; have := HL.out; have := HLM.out; omega
      clear hv hown hcells hbr hgl hN
      go_wp2_with fail
      go_loop [10, 34] (fun t k => ∃ i : Nat, i ≤ l.length ∧ k = .int .i64 i ∧ t = .int .i64 (M.cat (l.take i)).length) (fun _ k => l.length - (intOf k).toNat)
      case atStart => exact ⟨0, by omega, rfl, rfl⟩
      case round =>
        obtain ⟨i, hil, rfl, rfl⟩ := hrel
        by_cases hlt : i < l.length
        · have hlt' : i < l.length := by have := HL.out; omega
          have hcell : wr.cell? ⟨b, off + i, none⟩ = some (.int .i64 (l.getD i 0)) := by rw [HBR.out.cell (p := ⟨b, off + i, none⟩) hb]; exact HC.out i hlt'
          have hcl := M.cat_lt hlt'
          have HS := Lib.hid (M.cat_snoc hlt')
          have HG := Lib.hid (M.got_cat hlt' HR.out)
          have hep := M.enc_pos (M.zig (l.getD i 0))
          have hz := M.zag_zig (l.getD i 0)
          have HRES := Lib.hid (getRes_some (L := M.cat l) (k := (M.cat (l.take i)).length) hcl HG.out)
          clear hlt'
          generalize l.getD i 0 = n at *
          have HZ := Lib.hid hz; clear hz
          generalize hT : (M.cat (l.take i)).length = T at *
          have HT := Lib.hid hT; clear hT
          generalize hE : (M.enc (M.zig n)).length = E at *
          have HE := Lib.hid hE; clear hE
          go_wp2_with fail
          refine (get_in g 0 cp (M.cat l) T _ (by omega) hcl HCE.out (M.cat_bd l)).mono ?_; rintro e w2 ⟨rfl, rfl⟩
          rw [HRES.out, HZ.out]
          go_wp2_with fail
          go_round
          case rel => exact ⟨i + 1, by omega, by go_num, by rw [HS.out, List.length_append, HT.out, HE.out]; go_num⟩
          case measure => simp [intOf]; omega
        · have hil2 : i = l.length := by have := HL.out; omega
          subst hil2
          rw [List.take_length]
          clear HC HR HB HCE hb hpos
          have hbd := HBR.out.drew
          have hNN : (((M.cat l).length : Int) == ((M.cat l).length : Int)) = true := by simp
          by_cases hxy : x = y
          · subst hxy
            have hxx : ((x : Int) == x) = true := by simp
            have hss : ((strOfNums (M.enc (M.zig x))).toList == (strOfNums (M.enc (M.zig x))).toList) = true := by simp
            go_wp2_with fail
            refine wp_region_any (by kernel_rfl) ?_
            change wpAny _ _ _ _ _ _ _ (World.drew _)
            refine wpAny_take (i := 0) (v := ?_) rfl (by kernel_rfl) (by kernel_rfl) (by kernel_rfl) (fun _ _ _ h => h) (Or.inl ⟨by rfl, ?_⟩) ?_
            rotate_left
            · intro w; go_simp; try with_reducible rfl
            go_simp
            refine wpAny_take (i := 1) (v := ?_) rfl (by kernel_rfl) (by kernel_rfl) (by kernel_rfl) (fun _ _ _ h => h) (Or.inl ⟨by rfl, ?_⟩) ?_
            rotate_left
            · intro w; go_simp; try with_reducible rfl
            go_simp
            refine wpAny_take (i := 2) (v := ?_) rfl (by kernel_rfl) (by kernel_rfl) (by kernel_rfl) (fun _ _ _ h => h) (Or.inl ⟨by rfl, ?_⟩) ?_
            rotate_left
            · intro w; go_simp; try with_reducible rfl
            go_simp
            refine wpAny_take (i := 3) (v := ?_) rfl (by kernel_rfl) (by kernel_rfl) (by kernel_rfl) (fun _ _ _ h => h) (Or.inl ⟨by rfl, ?_⟩) ?_
            rotate_left
            · intro w; go_simp; try with_reducible rfl
            go_simp
            refine wpAny_take (i := 4) (v := ?_) rfl (by kernel_rfl) (by kernel_rfl) (by kernel_rfl) (fun _ _ _ h => h) (Or.inl ⟨by rfl, ?_⟩) ?_
            rotate_left
            · intro w; go_simp; try with_reducible rfl
            go_simp
            refine wpAny_take (i := 5) (v := ?_) rfl (by kernel_rfl) (by kernel_rfl) (by kernel_rfl) (fun _ _ _ h => h) (Or.inl ⟨by rfl, ?_⟩) ?_
            rotate_left
            · intro w; go_simp; try with_reducible rfl
            go_simp
            refine wpAny_take (i := 8) (v := ?_) rfl (by kernel_rfl) (by kernel_rfl) (by kernel_rfl) (fun _ _ _ h => h) (Or.inl ⟨by rfl, ?_⟩) ?_
            rotate_left
            · intro w; go_simp; try with_reducible rfl
            go_simp
            refine wpAny_take (i := 12) (v := ?_) rfl (by kernel_rfl) (by kernel_rfl) (by kernel_rfl) (fun _ _ _ h => h) (Or.inl ⟨by rfl, ?_⟩) ?_
            rotate_left
            · intro w; go_simp; try with_reducible rfl
            go_simp
            refine wpAny_take (i := 13) (v := ?_) rfl (by kernel_rfl) (by kernel_rfl) (by kernel_rfl) (fun _ _ _ h => h) (Or.inl ⟨by rfl, ?_⟩) ?_
            rotate_left
            · intro w; go_simp; try with_reducible rfl
            go_simp
            refine wpAny_take (i := 14) (v := ?_) rfl (by kernel_rfl) (by kernel_rfl) (by kernel_rfl) (fun _ _ _ h => h) (Or.inl ⟨by rfl, ?_⟩) ?_
            rotate_left
            · intro w; go_simp; try with_reducible rfl
            go_simp
            refine wpAny_ready (rs := [6]) (by kernel_rfl) (by simp) ?_
            refine AllReady.cons rfl (fun K hK => ?_) AllReady.nil
            go_simp
            go_wp2_with (first | (go_at_call 46; refine (put_any _ _ (by assumption) (by assumption)).mono ?_; rintro e wp ⟨vp, rfl, hown, hb⟩; have hp1 := own_string_later hown; have hp2 : Below wp.heap.size wp wp := Below.refl _ _; have hp3 : Below w.heap.size w wp := below_then (by assumption) hb; clear hown) | (go_at_call 18; refine (lives_any _).mono ?_; rintro e wl ⟨rfl, hb⟩; have hl3 : Below w.heap.size w wl := below_then (by assumption) hb))
            refine wpAny_ready (rs := [7, 9]) (by kernel_rfl) (by simp) ?_
            refine AllReady.cons rfl (fun K hK => ?_) (AllReady.cons rfl (fun K hK => ?_) AllReady.nil)
            · go_simp
              refine hK _ _ ?_; clear hK K
              refine wpAny_ready (rs := [9]) (by kernel_rfl) (by simp) ?_
              refine AllReady.cons rfl (fun K hK => ?_) AllReady.nil
              go_simp
              go_wp2_with (first | (go_at_call 46; refine (put_any _ _ (by assumption) (by assumption)).mono ?_; rintro e wp ⟨vp, rfl, hown, hb⟩; have hp1 := own_string_later hown; have hp2 : Below wp.heap.size wp wp := Below.refl _ _; have hp3 : Below w.heap.size w wp := below_then (by assumption) hb; clear hown) | (go_at_call 18; refine (lives_any _).mono ?_; rintro e wl ⟨rfl, hb⟩; have hl3 : Below w.heap.size w wl := below_then (by assumption) hb))
              refine wpAny_ready (rs := [10]) (by kernel_rfl) (by simp) ?_
              refine AllReady.cons rfl (fun K hK => ?_) AllReady.nil
              go_simp
              refine hK _ _ ?_; clear hK K
              refine wpAny_take (i := 11) (v := ?_) rfl (by kernel_rfl) (by kernel_rfl) (by kernel_rfl) (fun _ _ _ h => h) (Or.inl ⟨by rfl, ?_⟩) ?_
              rotate_left
              · intro w; go_simp; try with_reducible rfl
              go_simp
              refine wpAny_take (i := 15) (v := ?_) rfl (by kernel_rfl) (by kernel_rfl) (by kernel_rfl) (fun _ _ _ h => h) (Or.inl ⟨by rfl, ?_⟩) ?_
              rotate_left
              · intro w; go_simp; try with_reducible rfl
              go_simp
              refine wpAny_take (i := 16) (v := ?_) rfl (by kernel_rfl) (by kernel_rfl) (by kernel_rfl) (fun _ _ _ h => h) (Or.inl ⟨by rfl, ?_⟩) ?_
              rotate_left
              · intro w; go_simp; try with_reducible rfl
              go_simp
              refine wpAny_take (i := 17) (v := ?_) rfl (by kernel_rfl) (by kernel_rfl) (by kernel_rfl) (fun _ _ _ h => h) (Or.inl ⟨by rfl, ?_⟩) ?_
              rotate_left
              · intro w; go_simp; try with_reducible rfl
              go_simp
              refine wpAny_ready (rs := [18]) (by kernel_rfl) (by simp) ?_
              refine AllReady.cons rfl (fun K hK => ?_) AllReady.nil
              go_simp
              go_wp2_with (first | (go_at_call 46; refine (put_any _ _ (by assumption) (by assumption)).mono ?_; rintro e wp ⟨vp, rfl, hown, hb⟩; have hp1 := own_string_later hown; have hp2 : Below wp.heap.size wp wp := Below.refl _ _; have hp3 : Below w.heap.size w wp := below_then (by assumption) hb; clear hown) | (go_at_call 18; refine (lives_any _).mono ?_; rintro e wl ⟨rfl, hb⟩; have hl3 : Below w.heap.size w wl := below_then (by assumption) hb))
              refine wpAny_take (i := 19) (v := ?_) rfl (by kernel_rfl) (by kernel_rfl) (by kernel_rfl) (fun _ _ _ h => h) (Or.inl ⟨by rfl, ?_⟩) ?_
              rotate_left
              · intro w; go_simp; try with_reducible rfl
              go_simp
              refine wpAny_take (i := 20) (v := ?_) rfl (by kernel_rfl) (by kernel_rfl) (by kernel_rfl) (fun _ _ _ h => h) (Or.inl ⟨by rfl, ?_⟩) ?_
              rotate_left
              · intro w; go_simp; try with_reducible rfl
              go_simp
              refine wpAny_done (by kernel_rfl) ?_ _
              go_wp2
              go_ret
              exact ⟨rfl, hl3⟩
            · go_simp
              go_wp2_with (first | (go_at_call 46; refine (put_any _ _ (by assumption) (by assumption)).mono ?_; rintro e wp ⟨vp, rfl, hown, hb⟩; have hp1 := own_string_later hown; have hp2 : Below wp.heap.size wp wp := Below.refl _ _; have hp3 : Below w.heap.size w wp := below_then (by assumption) hb; clear hown) | (go_at_call 18; refine (lives_any _).mono ?_; rintro e wl ⟨rfl, hb⟩; have hl3 : Below w.heap.size w wl := below_then (by assumption) hb))
              refine wpAny_ready (rs := [7, 10]) (by kernel_rfl) (by simp) ?_
              refine AllReady.cons rfl (fun K hK => ?_) (AllReady.cons rfl (fun K hK => ?_) AllReady.nil)
              · go_simp
                refine hK _ _ ?_; clear hK K
                refine wpAny_ready (rs := [10]) (by kernel_rfl) (by simp) ?_
                refine AllReady.cons rfl (fun K hK => ?_) AllReady.nil
                go_simp
                refine hK _ _ ?_; clear hK K
                refine wpAny_take (i := 11) (v := ?_) rfl (by kernel_rfl) (by kernel_rfl) (by kernel_rfl) (fun _ _ _ h => h) (Or.inl ⟨by rfl, ?_⟩) ?_
                rotate_left
                · intro w; go_simp; try with_reducible rfl
                go_simp
                refine wpAny_take (i := 15) (v := ?_) rfl (by kernel_rfl) (by kernel_rfl) (by kernel_rfl) (fun _ _ _ h => h) (Or.inl ⟨by rfl, ?_⟩) ?_
                rotate_left
                · intro w; go_simp; try with_reducible rfl
                go_simp
                refine wpAny_take (i := 16) (v := ?_) rfl (by kernel_rfl) (by kernel_rfl) (by kernel_rfl) (fun _ _ _ h => h) (Or.inl ⟨by rfl, ?_⟩) ?_
                rotate_left
                · intro w; go_simp; try with_reducible rfl
                go_simp
                refine wpAny_take (i := 17) (v := ?_) rfl (by kernel_rfl) (by kernel_rfl) (by kernel_rfl) (fun _ _ _ h => h) (Or.inl ⟨by rfl, ?_⟩) ?_
                rotate_left
                · intro w; go_simp; try with_reducible rfl
                go_simp
                refine wpAny_ready (rs := [18]) (by kernel_rfl) (by simp) ?_
                refine AllReady.cons rfl (fun K hK => ?_) AllReady.nil
                go_simp
                go_wp2_with (first | (go_at_call 46; refine (put_any _ _ (by assumption) (by assumption)).mono ?_; rintro e wp ⟨vp, rfl, hown, hb⟩; have hp1 := own_string_later hown; have hp2 : Below wp.heap.size wp wp := Below.refl _ _; have hp3 : Below w.heap.size w wp := below_then (by assumption) hb; clear hown) | (go_at_call 18; refine (lives_any _).mono ?_; rintro e wl ⟨rfl, hb⟩; have hl3 : Below w.heap.size w wl := below_then (by assumption) hb))
                refine wpAny_take (i := 19) (v := ?_) rfl (by kernel_rfl) (by kernel_rfl) (by kernel_rfl) (fun _ _ _ h => h) (Or.inl ⟨by rfl, ?_⟩) ?_
                rotate_left
                · intro w; go_simp; try with_reducible rfl
                go_simp
                refine wpAny_take (i := 20) (v := ?_) rfl (by kernel_rfl) (by kernel_rfl) (by kernel_rfl) (fun _ _ _ h => h) (Or.inl ⟨by rfl, ?_⟩) ?_
                rotate_left
                · intro w; go_simp; try with_reducible rfl
                go_simp
                refine wpAny_done (by kernel_rfl) ?_ _
                go_wp2
                go_ret
                exact ⟨rfl, hl3⟩
              · go_simp
                refine hK _ _ ?_; clear hK K
                refine wpAny_ready (rs := [7]) (by kernel_rfl) (by simp) ?_
                refine AllReady.cons rfl (fun K hK => ?_) AllReady.nil
                go_simp
                refine hK _ _ ?_; clear hK K
                refine wpAny_take (i := 11) (v := ?_) rfl (by kernel_rfl) (by kernel_rfl) (by kernel_rfl) (fun _ _ _ h => h) (Or.inl ⟨by rfl, ?_⟩) ?_
                rotate_left
                · intro w; go_simp; try with_reducible rfl
                go_simp
                refine wpAny_take (i := 15) (v := ?_) rfl (by kernel_rfl) (by kernel_rfl) (by kernel_rfl) (fun _ _ _ h => h) (Or.inl ⟨by rfl, ?_⟩) ?_
                rotate_left
                · intro w; go_simp; try with_reducible rfl
                go_simp
                refine wpAny_take (i := 16) (v := ?_) rfl (by kernel_rfl) (by kernel_rfl) (by kernel_rfl) (fun _ _ _ h => h) (Or.inl ⟨by rfl, ?_⟩) ?_
                rotate_left
                · intro w; go_simp; try with_reducible rfl
                go_simp
                refine wpAny_take (i := 17) (v := ?_) rfl (by kernel_rfl) (by kernel_rfl) (by kernel_rfl) (fun _ _ _ h => h) (Or.inl ⟨by rfl, ?_⟩) ?_
                rotate_left
                · intro w; go_simp; try with_reducible rfl
                go_simp
                refine wpAny_ready (rs := [18]) (by kernel_rfl) (by simp) ?_
                refine AllReady.cons rfl (fun K hK => ?_) AllReady.nil
                go_simp
                go_wp2_with (first | (go_at_call 46; refine (put_any _ _ (by assumption) (by assumption)).mono ?_; rintro e wp ⟨vp, rfl, hown, hb⟩; have hp1 := own_string_later hown; have hp2 : Below wp.heap.size wp wp := Below.refl _ _; have hp3 : Below w.heap.size w wp := below_then (by assumption) hb; clear hown) | (go_at_call 18; refine (lives_any _).mono ?_; rintro e wl ⟨rfl, hb⟩; have hl3 : Below w.heap.size w wl := below_then (by assumption) hb))
                refine wpAny_take (i := 19) (v := ?_) rfl (by kernel_rfl) (by kernel_rfl) (by kernel_rfl) (fun _ _ _ h => h) (Or.inl ⟨by rfl, ?_⟩) ?_
                rotate_left
                · intro w; go_simp; try with_reducible rfl
                go_simp
                refine wpAny_take (i := 20) (v := ?_) rfl (by kernel_rfl) (by kernel_rfl) (by kernel_rfl) (fun _ _ _ h => h) (Or.inl ⟨by rfl, ?_⟩) ?_
                rotate_left
                · intro w; go_simp; try with_reducible rfl
                go_simp
                refine wpAny_done (by kernel_rfl) ?_ _
                go_wp2
                go_ret
                exact ⟨rfl, hl3⟩
          · have hss : ((strOfNums (M.enc (M.zig x))).toList == (strOfNums (M.enc (M.zig y))).toList) = false := by
              cases h : ((strOfNums (M.enc (M.zig x))).toList == (strOfNums (M.enc (M.zig y))).toList) with
              | false => rfl
              | true => exact absurd (M.zig_inj (M.enc_inj (str_eq (M.enc_bd _) (M.enc_bd _) h))) hxy
            have hxx : ((x : Int) == y) = false := by simpa using hxy
            have HXY := Lib.hid hxy; clear hxy
            go_wp2_with fail
            refine wp_region_any (by kernel_rfl) ?_
            change wpAny _ _ _ _ _ _ _ (World.drew _)
            refine wpAny_take (i := 0) (v := ?_) rfl (by kernel_rfl) (by kernel_rfl) (by kernel_rfl) (fun _ _ _ h => h) (Or.inl ⟨by rfl, ?_⟩) ?_
            rotate_left
            · intro w; go_simp; try with_reducible rfl
            go_simp
            refine wpAny_take (i := 1) (v := ?_) rfl (by kernel_rfl) (by kernel_rfl) (by kernel_rfl) (fun _ _ _ h => h) (Or.inl ⟨by rfl, ?_⟩) ?_
            rotate_left
            · intro w; go_simp; try with_reducible rfl
            go_simp
            refine wpAny_take (i := 2) (v := ?_) rfl (by kernel_rfl) (by kernel_rfl) (by kernel_rfl) (fun _ _ _ h => h) (Or.inl ⟨by rfl, ?_⟩) ?_
            rotate_left
            · intro w; go_simp; try with_reducible rfl
            go_simp
            refine wpAny_take (i := 3) (v := ?_) rfl (by kernel_rfl) (by kernel_rfl) (by kernel_rfl) (fun _ _ _ h => h) (Or.inl ⟨by rfl, ?_⟩) ?_
            rotate_left
            · intro w; go_simp; try with_reducible rfl
            go_simp
            refine wpAny_take (i := 4) (v := ?_) rfl (by kernel_rfl) (by kernel_rfl) (by kernel_rfl) (fun _ _ _ h => h) (Or.inl ⟨by rfl, ?_⟩) ?_
            rotate_left
            · intro w; go_simp; try with_reducible rfl
            go_simp
            refine wpAny_take (i := 5) (v := ?_) rfl (by kernel_rfl) (by kernel_rfl) (by kernel_rfl) (fun _ _ _ h => h) (Or.inl ⟨by rfl, ?_⟩) ?_
            rotate_left
            · intro w; go_simp; try with_reducible rfl
            go_simp
            refine wpAny_take (i := 8) (v := ?_) rfl (by kernel_rfl) (by kernel_rfl) (by kernel_rfl) (fun _ _ _ h => h) (Or.inl ⟨by rfl, ?_⟩) ?_
            rotate_left
            · intro w; go_simp; try with_reducible rfl
            go_simp
            refine wpAny_take (i := 12) (v := ?_) rfl (by kernel_rfl) (by kernel_rfl) (by kernel_rfl) (fun _ _ _ h => h) (Or.inl ⟨by rfl, ?_⟩) ?_
            rotate_left
            · intro w; go_simp; try with_reducible rfl
            go_simp
            refine wpAny_take (i := 13) (v := ?_) rfl (by kernel_rfl) (by kernel_rfl) (by kernel_rfl) (fun _ _ _ h => h) (Or.inl ⟨by rfl, ?_⟩) ?_
            rotate_left
            · intro w; go_simp; try with_reducible rfl
            go_simp
            refine wpAny_take (i := 14) (v := ?_) rfl (by kernel_rfl) (by kernel_rfl) (by kernel_rfl) (fun _ _ _ h => h) (Or.inl ⟨by rfl, ?_⟩) ?_
            rotate_left
            · intro w; go_simp; try with_reducible rfl
            go_simp
            refine wpAny_ready (rs := [6]) (by kernel_rfl) (by simp) ?_
            refine AllReady.cons rfl (fun K hK => ?_) AllReady.nil
            go_simp
            go_wp2_with (first | (go_at_call 46; refine (put_any _ _ (by assumption) (by assumption)).mono ?_; rintro e wp ⟨vp, rfl, hown, hb⟩; have hp1 := own_string_later hown; have hp2 : Below wp.heap.size wp wp := Below.refl _ _; have hp3 : Below w.heap.size w wp := below_then (by assumption) hb; clear hown) | (go_at_call 18; refine (lives_any _).mono ?_; rintro e wl ⟨rfl, hb⟩; have hl3 : Below w.heap.size w wl := below_then (by assumption) hb))
            refine wpAny_ready (rs := [7, 9]) (by kernel_rfl) (by simp) ?_
            refine AllReady.cons rfl (fun K hK => ?_) (AllReady.cons rfl (fun K hK => ?_) AllReady.nil)
            · go_simp
              refine hK _ _ ?_; clear hK K
              refine wpAny_ready (rs := [9]) (by kernel_rfl) (by simp) ?_
              refine AllReady.cons rfl (fun K hK => ?_) AllReady.nil
              go_simp
              go_wp2_with (first | (go_at_call 46; refine (put_any _ _ (by assumption) (by assumption)).mono ?_; rintro e wp ⟨vp, rfl, hown, hb⟩; have hp1 := own_string_later hown; have hp2 : Below wp.heap.size wp wp := Below.refl _ _; have hp3 : Below w.heap.size w wp := below_then (by assumption) hb; clear hown) | (go_at_call 18; refine (lives_any _).mono ?_; rintro e wl ⟨rfl, hb⟩; have hl3 : Below w.heap.size w wl := below_then (by assumption) hb))
              refine wpAny_ready (rs := [10]) (by kernel_rfl) (by simp) ?_
              refine AllReady.cons rfl (fun K hK => ?_) AllReady.nil
              go_simp
              refine hK _ _ ?_; clear hK K
              refine wpAny_take (i := 11) (v := ?_) rfl (by kernel_rfl) (by kernel_rfl) (by kernel_rfl) (fun _ _ _ h => h) (Or.inl ⟨by rfl, ?_⟩) ?_
              rotate_left
              · intro w; go_simp; try with_reducible rfl
              go_simp
              refine wpAny_take (i := 15) (v := ?_) rfl (by kernel_rfl) (by kernel_rfl) (by kernel_rfl) (fun _ _ _ h => h) (Or.inl ⟨by rfl, ?_⟩) ?_
              rotate_left
              · intro w; go_simp; try with_reducible rfl
              go_simp
              refine wpAny_take (i := 16) (v := ?_) rfl (by kernel_rfl) (by kernel_rfl) (by kernel_rfl) (fun _ _ _ h => h) (Or.inl ⟨by rfl, ?_⟩) ?_
              rotate_left
              · intro w; go_simp; try with_reducible rfl
              go_simp
              refine wpAny_take (i := 17) (v := ?_) rfl (by kernel_rfl) (by kernel_rfl) (by kernel_rfl) (fun _ _ _ h => h) (Or.inl ⟨by rfl, ?_⟩) ?_
              rotate_left
              · intro w; go_simp; try with_reducible rfl
              go_simp
              refine wpAny_ready (rs := [18]) (by kernel_rfl) (by simp) ?_
              refine AllReady.cons rfl (fun K hK => ?_) AllReady.nil
              go_simp
              go_wp2_with (first | (go_at_call 46; refine (put_any _ _ (by assumption) (by assumption)).mono ?_; rintro e wp ⟨vp, rfl, hown, hb⟩; have hp1 := own_string_later hown; have hp2 : Below wp.heap.size wp wp := Below.refl _ _; have hp3 : Below w.heap.size w wp := below_then (by assumption) hb; clear hown) | (go_at_call 18; refine (lives_any _).mono ?_; rintro e wl ⟨rfl, hb⟩; have hl3 : Below w.heap.size w wl := below_then (by assumption) hb))
              refine wpAny_take (i := 19) (v := ?_) rfl (by kernel_rfl) (by kernel_rfl) (by kernel_rfl) (fun _ _ _ h => h) (Or.inl ⟨by rfl, ?_⟩) ?_
              rotate_left
              · intro w; go_simp; try with_reducible rfl
              go_simp
              refine wpAny_take (i := 20) (v := ?_) rfl (by kernel_rfl) (by kernel_rfl) (by kernel_rfl) (fun _ _ _ h => h) (Or.inl ⟨by rfl, ?_⟩) ?_
              rotate_left
              · intro w; go_simp; try with_reducible rfl
              go_simp
              refine wpAny_done (by kernel_rfl) ?_ _
              go_wp2
              go_ret
              exact ⟨rfl, hl3⟩
            · go_simp
              go_wp2_with (first | (go_at_call 46; refine (put_any _ _ (by assumption) (by assumption)).mono ?_; rintro e wp ⟨vp, rfl, hown, hb⟩; have hp1 := own_string_later hown; have hp2 : Below wp.heap.size wp wp := Below.refl _ _; have hp3 : Below w.heap.size w wp := below_then (by assumption) hb; clear hown) | (go_at_call 18; refine (lives_any _).mono ?_; rintro e wl ⟨rfl, hb⟩; have hl3 : Below w.heap.size w wl := below_then (by assumption) hb))
              refine wpAny_ready (rs := [7, 10]) (by kernel_rfl) (by simp) ?_
              refine AllReady.cons rfl (fun K hK => ?_) (AllReady.cons rfl (fun K hK => ?_) AllReady.nil)
              · go_simp
                refine hK _ _ ?_; clear hK K
                refine wpAny_ready (rs := [10]) (by kernel_rfl) (by simp) ?_
                refine AllReady.cons rfl (fun K hK => ?_) AllReady.nil
                go_simp
                refine hK _ _ ?_; clear hK K
                refine wpAny_take (i := 11) (v := ?_) rfl (by kernel_rfl) (by kernel_rfl) (by kernel_rfl) (fun _ _ _ h => h) (Or.inl ⟨by rfl, ?_⟩) ?_
                rotate_left
                · intro w; go_simp; try with_reducible rfl
                go_simp
                refine wpAny_take (i := 15) (v := ?_) rfl (by kernel_rfl) (by kernel_rfl) (by kernel_rfl) (fun _ _ _ h => h) (Or.inl ⟨by rfl, ?_⟩) ?_
                rotate_left
                · intro w; go_simp; try with_reducible rfl
                go_simp
                refine wpAny_take (i := 16) (v := ?_) rfl (by kernel_rfl) (by kernel_rfl) (by kernel_rfl) (fun _ _ _ h => h) (Or.inl ⟨by rfl, ?_⟩) ?_
                rotate_left
                · intro w; go_simp; try with_reducible rfl
                go_simp
                refine wpAny_take (i := 17) (v := ?_) rfl (by kernel_rfl) (by kernel_rfl) (by kernel_rfl) (fun _ _ _ h => h) (Or.inl ⟨by rfl, ?_⟩) ?_
                rotate_left
                · intro w; go_simp; try with_reducible rfl
                go_simp
                refine wpAny_ready (rs := [18]) (by kernel_rfl) (by simp) ?_
                refine AllReady.cons rfl (fun K hK => ?_) AllReady.nil
                go_simp
                go_wp2_with (first | (go_at_call 46; refine (put_any _ _ (by assumption) (by assumption)).mono ?_; rintro e wp ⟨vp, rfl, hown, hb⟩; have hp1 := own_string_later hown; have hp2 : Below wp.heap.size wp wp := Below.refl _ _; have hp3 : Below w.heap.size w wp := below_then (by assumption) hb; clear hown) | (go_at_call 18; refine (lives_any _).mono ?_; rintro e wl ⟨rfl, hb⟩; have hl3 : Below w.heap.size w wl := below_then (by assumption) hb))
                refine wpAny_take (i := 19) (v := ?_) rfl (by kernel_rfl) (by kernel_rfl) (by kernel_rfl) (fun _ _ _ h => h) (Or.inl ⟨by rfl, ?_⟩) ?_
                rotate_left
                · intro w; go_simp; try with_reducible rfl
                go_simp
                refine wpAny_take (i := 20) (v := ?_) rfl (by kernel_rfl) (by kernel_rfl) (by kernel_rfl) (fun _ _ _ h => h) (Or.inl ⟨by rfl, ?_⟩) ?_
                rotate_left
                · intro w; go_simp; try with_reducible rfl
                go_simp
                refine wpAny_done (by kernel_rfl) ?_ _
                go_wp2
                go_ret
                exact ⟨rfl, hl3⟩
              · go_simp
                refine hK _ _ ?_; clear hK K
                refine wpAny_ready (rs := [7]) (by kernel_rfl) (by simp) ?_
                refine AllReady.cons rfl (fun K hK => ?_) AllReady.nil
                go_simp
                refine hK _ _ ?_; clear hK K
                refine wpAny_take (i := 11) (v := ?_) rfl (by kernel_rfl) (by kernel_rfl) (by kernel_rfl) (fun _ _ _ h => h) (Or.inl ⟨by rfl, ?_⟩) ?_
                rotate_left
                · intro w; go_simp; try with_reducible rfl
                go_simp
                refine wpAny_take (i := 15) (v := ?_) rfl (by kernel_rfl) (by kernel_rfl) (by kernel_rfl) (fun _ _ _ h => h) (Or.inl ⟨by rfl, ?_⟩) ?_
                rotate_left
                · intro w; go_simp; try with_reducible rfl
                go_simp
                refine wpAny_take (i := 16) (v := ?_) rfl (by kernel_rfl) (by kernel_rfl) (by kernel_rfl) (fun _ _ _ h => h) (Or.inl ⟨by rfl, ?_⟩) ?_
                rotate_left
                · intro w; go_simp; try with_reducible rfl
                go_simp
                refine wpAny_take (i := 17) (v := ?_) rfl (by kernel_rfl) (by kernel_rfl) (by kernel_rfl) (fun _ _ _ h => h) (Or.inl ⟨by rfl, ?_⟩) ?_
                rotate_left
                · intro w; go_simp; try with_reducible rfl
                go_simp
                refine wpAny_ready (rs := [18]) (by kernel_rfl) (by simp) ?_
                refine AllReady.cons rfl (fun K hK => ?_) AllReady.nil
                go_simp
                go_wp2_with (first | (go_at_call 46; refine (put_any _ _ (by assumption) (by assumption)).mono ?_; rintro e wp ⟨vp, rfl, hown, hb⟩; have hp1 := own_string_later hown; have hp2 : Below wp.heap.size wp wp := Below.refl _ _; have hp3 : Below w.heap.size w wp := below_then (by assumption) hb; clear hown) | (go_at_call 18; refine (lives_any _).mono ?_; rintro e wl ⟨rfl, hb⟩; have hl3 : Below w.heap.size w wl := below_then (by assumption) hb))
                refine wpAny_take (i := 19) (v := ?_) rfl (by kernel_rfl) (by kernel_rfl) (by kernel_rfl) (fun _ _ _ h => h) (Or.inl ⟨by rfl, ?_⟩) ?_
                rotate_left
                · intro w; go_simp; try with_reducible rfl
                go_simp
                refine wpAny_take (i := 20) (v := ?_) rfl (by kernel_rfl) (by kernel_rfl) (by kernel_rfl) (fun _ _ _ h => h) (Or.inl ⟨by rfl, ?_⟩) ?_
                rotate_left
                · intro w; go_simp; try with_reducible rfl
                go_simp
                refine wpAny_done (by kernel_rfl) ?_ _
                go_wp2
                go_ret
                exact ⟨rfl, hl3⟩
set_option maxHeartbeats 8000000 in
/-- More than 100 numbers: the first 100 are taken. -/
theorem back_long (b off cap len : Nat) (l : List Int) (x y : Int) (w : World) (hm : 100 < len) (hlc : len ≤ cap) (hcm : cap ≤ 9223372036854775807) (hl : l.length = 100) (hpos : 0 < l.length) (hb : b < w.heap.size)
    (hc : ∀ j, j < l.length → w.cell? ⟨b, off + j, none⟩ = some (.int .i64 (l.getD j 0))) (hr : ∀ n ∈ l, -9223372036854775808 ≤ n ∧ n ≤ 9223372036854775807)
    (lx : -9223372036854775808 ≤ x) (ux : x ≤ 9223372036854775807) (ly : -9223372036854775808 ≤ y) (uy : y ≤ 9223372036854775807) :
    Calls Try.prog 15 #[.slice (some ⟨b, off, none⟩) len cap, .int .i64 x, .int .i64 y] w fun e w' => e = .returned (.bool true) ∧ Below w.heap.size w w' := by
  obtain ⟨i0, hi, hz0, hz1, hz2⟩ := info_parts infoU8
  have HB := Lib.hid (M.cat_len l hr)
  have HC := Lib.hid hc; have HR := Lib.hid hr
  clear hc hr
  have HL := Lib.hid hl
  have HLM := Lib.hid (show l.length ≤ 100 by omega)
  have hd1 : decide ((100 : Int) < (len : Int)) = true := by simp; omega
  clear hl
  go_enter Try.func15, Try.ntmps15
  go_wp2_with fail
  go_loopw [7, 23] (fun v k wr => ∃ i : Nat, i ≤ 100 ∧ k = .int .i64 i ∧ wr.ownsRow w.heap.size 5 1 v (M.cat (l.take i)).length ((M.cat (l.take i)).map (Value.int .u8)) ∧ Below w.heap.size w wr) (fun _ k _ => 100 - (intOf k).toNat)
  case atStart => exact ⟨0, by omega, rfl, World.ownsRow_nil _ _ _ _, Below.refl _ _⟩
  case round =>
    obtain ⟨i, hil, rfl, hown, hbr⟩ := hrel
    have hsz := hbr.size
    by_cases hlt : i < 100
    · have hlt' : i < l.length := by have := HL.out; omega
      have hcell : wr.cell? ⟨b, off + i, none⟩ = some (.int .i64 (l.getD i 0)) := by rw [hbr.cell (p := ⟨b, off + i, none⟩) hb]; exact HC.out i hlt'
      have hmem : l.getD i 0 ∈ l := by simp [List.getD, hlt']
      have hbd := HR.out _ hmem
      obtain ⟨ln, un⟩ := hbd
      have HS := Lib.hid (M.cat_snoc hlt')
      have HCL := Lib.hid (M.cat_lt hlt')
      have HEL := Lib.hid (M.enc_len10 (M.zig_lt ln un))
      have HEP := Lib.hid (M.enc_pos (M.zig (l.getD i 0)))
      generalize hn : l.getD i 0 = n at *
      have HN := Lib.hid hn; clear hn hmem hlt'
      have HO := Lib.hid hown; clear hown
      go_wp2_with fail
      refine (put_any n _ ln un).mono ?_; rintro e wp ⟨vp, rfl, hownp, hbp⟩
      obtain ⟨g, cp, hv, hg0, hg1, hgl, hgc, hcells⟩ := own_cells hownp HEP.out
      rw [hv]
      have HO2 := Lib.hid (own_later HO.out hbp)
      have hb2 : Below w.heap.size w wp := below_then hbr hbp
      have hs2 := hb2.size
      have HCE := Lib.hid hcells
      clear hv hownp hcells HO hbp hcell hgl
      have h0 : (M.cat (l.take i)).length + (M.enc (M.zig n)).length ≤ 2000 := by
        have h1 := HCL.out
        have h2 := HEL.out
        have h3 := HB.out
        have h4 := HL.out
        have h5 := HLM.out
        omega
      go_wp2_with (at_builtin; refine wpList_append_own _ rfl _ _ 46 rfl w.heap.size 5 i0 (.int .u8 0) 1 1 Try.underlying46 hi hz0 hz1 hz2 rfl (by decide) _ _ _ rfl HO2.out ⟨g, 0, none⟩ (M.enc (M.zig n)).length cp ((M.enc (M.zig n)).map (Value.int .u8)) rfl ?c0 ?c1 ?c2 ?c3 ?c4 ?c5 ?_)
      case c0 => simp
      case c1 =>
        intro j u hj
        have hjl : j < (M.enc (M.zig n)).length := by
          rcases Nat.lt_or_ge j (M.enc (M.zig n)).length with h | h
          · exact h
          · rw [List.getElem?_eq_none (by simpa using h)] at hj; simp at hj
        have e : (⟨g, 0, none⟩ : Addr).add j = ⟨g, 0 + j, none⟩ := by by_cases h : j = 0 <;> simp [Addr.add, h]
        rw [e, HCE.out j hjl]
        simp [List.getElem?_eq_getElem hjl] at hj
        simp [List.getD, List.getElem?_eq_getElem hjl, hj]
      case c2 => intro u hu; rw [List.mem_map] at hu; obtain ⟨z, _, rfl⟩ := hu; rfl
      case c3 => unfold maxLen; omega
      case c4 => omega
      case c5 => omega
      intro v' w1 hown1 hgrow _
      have hb1 : Below w.heap.size w w1 := hb2.grown hgrow hs2 (fun k hk => (HO2.out.lt k hk).1)
      have HO := Lib.hid hown1; clear hown1 hb2 hgrow h0
      go_wp2
      go_roundw
      case rel =>
        refine ⟨i + 1, by omega, by go_num, ?_, hb1⟩
        have := HO.out
        rw [HS.out, List.map_append, List.length_append]; exact this
      case measure => simp [intOf]; omega
    · have hil2 : i = l.length := by have := HL.out; omega
      subst hil2
      rw [List.take_length] at hown
      have hN : 0 < (M.cat l).length := by have := M.cat_lt (l := l) (k := 0) hpos; omega
      obtain ⟨g, cp, hv, hg0, hg1, hgl, hgc, hcells⟩ := own_cells hown hN
      rw [hv]
      have HCE := Lib.hid hcells
      have HBR := Lib.hid hbr
      have hmx : (M.cat l).length ≤ 1000 := by have := HB.out; have := HL.out; have := HLM.out; omega
      clear hv hown hcells hbr hgl hN
      go_wp2_with fail
      go_loop [10, 34] (fun t k => ∃ i : Nat, i ≤ 100 ∧ k = .int .i64 i ∧ t = .int .i64 (M.cat (l.take i)).length) (fun _ k => 100 - (intOf k).toNat)
      case atStart => exact ⟨0, by omega, rfl, rfl⟩
      case round =>
        obtain ⟨i, hil, rfl, rfl⟩ := hrel
        by_cases hlt : i < 100
        · have hlt' : i < l.length := by have := HL.out; omega
          have hcell : wr.cell? ⟨b, off + i, none⟩ = some (.int .i64 (l.getD i 0)) := by rw [HBR.out.cell (p := ⟨b, off + i, none⟩) hb]; exact HC.out i hlt'
          have hcl := M.cat_lt hlt'
          have HS := Lib.hid (M.cat_snoc hlt')
          have HG := Lib.hid (M.got_cat hlt' HR.out)
          have hep := M.enc_pos (M.zig (l.getD i 0))
          have hz := M.zag_zig (l.getD i 0)
          have HRES := Lib.hid (getRes_some (L := M.cat l) (k := (M.cat (l.take i)).length) hcl HG.out)
          clear hlt'
          generalize l.getD i 0 = n at *
          have HZ := Lib.hid hz; clear hz
          generalize hT : (M.cat (l.take i)).length = T at *
          have HT := Lib.hid hT; clear hT
          generalize hE : (M.enc (M.zig n)).length = E at *
          have HE := Lib.hid hE; clear hE
          go_wp2_with fail
          refine (get_in g 0 cp (M.cat l) T _ (by omega) hcl HCE.out (M.cat_bd l)).mono ?_; rintro e w2 ⟨rfl, rfl⟩
          rw [HRES.out, HZ.out]
          go_wp2_with fail
          go_round
          case rel => exact ⟨i + 1, by omega, by go_num, by rw [HS.out, List.length_append, HT.out, HE.out]; go_num⟩
          case measure => simp [intOf]; omega
        · have hil2 : i = l.length := by have := HL.out; omega
          subst hil2
          rw [List.take_length]
          clear HC HR HB HCE hb hpos
          have hbd := HBR.out.drew
          have hNN : (((M.cat l).length : Int) == ((M.cat l).length : Int)) = true := by simp
          by_cases hxy : x = y
          · subst hxy
            have hxx : ((x : Int) == x) = true := by simp
            have hss : ((strOfNums (M.enc (M.zig x))).toList == (strOfNums (M.enc (M.zig x))).toList) = true := by simp
            go_wp2_with fail
            refine wp_region_any (by kernel_rfl) ?_
            change wpAny _ _ _ _ _ _ _ (World.drew _)
            refine wpAny_take (i := 0) (v := ?_) rfl (by kernel_rfl) (by kernel_rfl) (by kernel_rfl) (fun _ _ _ h => h) (Or.inl ⟨by rfl, ?_⟩) ?_
            rotate_left
            · intro w; go_simp; try with_reducible rfl
            go_simp
            refine wpAny_take (i := 1) (v := ?_) rfl (by kernel_rfl) (by kernel_rfl) (by kernel_rfl) (fun _ _ _ h => h) (Or.inl ⟨by rfl, ?_⟩) ?_
            rotate_left
            · intro w; go_simp; try with_reducible rfl
            go_simp
            refine wpAny_take (i := 2) (v := ?_) rfl (by kernel_rfl) (by kernel_rfl) (by kernel_rfl) (fun _ _ _ h => h) (Or.inl ⟨by rfl, ?_⟩) ?_
            rotate_left
            · intro w; go_simp; try with_reducible rfl
            go_simp
            refine wpAny_take (i := 3) (v := ?_) rfl (by kernel_rfl) (by kernel_rfl) (by kernel_rfl) (fun _ _ _ h => h) (Or.inl ⟨by rfl, ?_⟩) ?_
            rotate_left
            · intro w; go_simp; try with_reducible rfl
            go_simp
            refine wpAny_take (i := 4) (v := ?_) rfl (by kernel_rfl) (by kernel_rfl) (by kernel_rfl) (fun _ _ _ h => h) (Or.inl ⟨by rfl, ?_⟩) ?_
            rotate_left
            · intro w; go_simp; try with_reducible rfl
            go_simp
            refine wpAny_take (i := 5) (v := ?_) rfl (by kernel_rfl) (by kernel_rfl) (by kernel_rfl) (fun _ _ _ h => h) (Or.inl ⟨by rfl, ?_⟩) ?_
            rotate_left
            · intro w; go_simp; try with_reducible rfl
            go_simp
            refine wpAny_take (i := 8) (v := ?_) rfl (by kernel_rfl) (by kernel_rfl) (by kernel_rfl) (fun _ _ _ h => h) (Or.inl ⟨by rfl, ?_⟩) ?_
            rotate_left
            · intro w; go_simp; try with_reducible rfl
            go_simp
            refine wpAny_take (i := 12) (v := ?_) rfl (by kernel_rfl) (by kernel_rfl) (by kernel_rfl) (fun _ _ _ h => h) (Or.inl ⟨by rfl, ?_⟩) ?_
            rotate_left
            · intro w; go_simp; try with_reducible rfl
            go_simp
            refine wpAny_take (i := 13) (v := ?_) rfl (by kernel_rfl) (by kernel_rfl) (by kernel_rfl) (fun _ _ _ h => h) (Or.inl ⟨by rfl, ?_⟩) ?_
            rotate_left
            · intro w; go_simp; try with_reducible rfl
            go_simp
            refine wpAny_take (i := 14) (v := ?_) rfl (by kernel_rfl) (by kernel_rfl) (by kernel_rfl) (fun _ _ _ h => h) (Or.inl ⟨by rfl, ?_⟩) ?_
            rotate_left
            · intro w; go_simp; try with_reducible rfl
            go_simp
            refine wpAny_ready (rs := [6]) (by kernel_rfl) (by simp) ?_
            refine AllReady.cons rfl (fun K hK => ?_) AllReady.nil
            go_simp
            go_wp2_with (first | (go_at_call 46; refine (put_any _ _ (by assumption) (by assumption)).mono ?_; rintro e wp ⟨vp, rfl, hown, hb⟩; have hp1 := own_string_later hown; have hp2 : Below wp.heap.size wp wp := Below.refl _ _; have hp3 : Below w.heap.size w wp := below_then (by assumption) hb; clear hown) | (go_at_call 18; refine (lives_any _).mono ?_; rintro e wl ⟨rfl, hb⟩; have hl3 : Below w.heap.size w wl := below_then (by assumption) hb))
            refine wpAny_ready (rs := [7, 9]) (by kernel_rfl) (by simp) ?_
            refine AllReady.cons rfl (fun K hK => ?_) (AllReady.cons rfl (fun K hK => ?_) AllReady.nil)
            · go_simp
              refine hK _ _ ?_; clear hK K
              refine wpAny_ready (rs := [9]) (by kernel_rfl) (by simp) ?_
              refine AllReady.cons rfl (fun K hK => ?_) AllReady.nil
              go_simp
              go_wp2_with (first | (go_at_call 46; refine (put_any _ _ (by assumption) (by assumption)).mono ?_; rintro e wp ⟨vp, rfl, hown, hb⟩; have hp1 := own_string_later hown; have hp2 : Below wp.heap.size wp wp := Below.refl _ _; have hp3 : Below w.heap.size w wp := below_then (by assumption) hb; clear hown) | (go_at_call 18; refine (lives_any _).mono ?_; rintro e wl ⟨rfl, hb⟩; have hl3 : Below w.heap.size w wl := below_then (by assumption) hb))
              refine wpAny_ready (rs := [10]) (by kernel_rfl) (by simp) ?_
              refine AllReady.cons rfl (fun K hK => ?_) AllReady.nil
              go_simp
              refine hK _ _ ?_; clear hK K
              refine wpAny_take (i := 11) (v := ?_) rfl (by kernel_rfl) (by kernel_rfl) (by kernel_rfl) (fun _ _ _ h => h) (Or.inl ⟨by rfl, ?_⟩) ?_
              rotate_left
              · intro w; go_simp; try with_reducible rfl
              go_simp
              refine wpAny_take (i := 15) (v := ?_) rfl (by kernel_rfl) (by kernel_rfl) (by kernel_rfl) (fun _ _ _ h => h) (Or.inl ⟨by rfl, ?_⟩) ?_
              rotate_left
              · intro w; go_simp; try with_reducible rfl
              go_simp
              refine wpAny_take (i := 16) (v := ?_) rfl (by kernel_rfl) (by kernel_rfl) (by kernel_rfl) (fun _ _ _ h => h) (Or.inl ⟨by rfl, ?_⟩) ?_
              rotate_left
              · intro w; go_simp; try with_reducible rfl
              go_simp
              refine wpAny_take (i := 17) (v := ?_) rfl (by kernel_rfl) (by kernel_rfl) (by kernel_rfl) (fun _ _ _ h => h) (Or.inl ⟨by rfl, ?_⟩) ?_
              rotate_left
              · intro w; go_simp; try with_reducible rfl
              go_simp
              refine wpAny_ready (rs := [18]) (by kernel_rfl) (by simp) ?_
              refine AllReady.cons rfl (fun K hK => ?_) AllReady.nil
              go_simp
              go_wp2_with (first | (go_at_call 46; refine (put_any _ _ (by assumption) (by assumption)).mono ?_; rintro e wp ⟨vp, rfl, hown, hb⟩; have hp1 := own_string_later hown; have hp2 : Below wp.heap.size wp wp := Below.refl _ _; have hp3 : Below w.heap.size w wp := below_then (by assumption) hb; clear hown) | (go_at_call 18; refine (lives_any _).mono ?_; rintro e wl ⟨rfl, hb⟩; have hl3 : Below w.heap.size w wl := below_then (by assumption) hb))
              refine wpAny_take (i := 19) (v := ?_) rfl (by kernel_rfl) (by kernel_rfl) (by kernel_rfl) (fun _ _ _ h => h) (Or.inl ⟨by rfl, ?_⟩) ?_
              rotate_left
              · intro w; go_simp; try with_reducible rfl
              go_simp
              refine wpAny_take (i := 20) (v := ?_) rfl (by kernel_rfl) (by kernel_rfl) (by kernel_rfl) (fun _ _ _ h => h) (Or.inl ⟨by rfl, ?_⟩) ?_
              rotate_left
              · intro w; go_simp; try with_reducible rfl
              go_simp
              refine wpAny_done (by kernel_rfl) ?_ _
              go_wp2
              go_ret
              exact ⟨rfl, hl3⟩
            · go_simp
              go_wp2_with (first | (go_at_call 46; refine (put_any _ _ (by assumption) (by assumption)).mono ?_; rintro e wp ⟨vp, rfl, hown, hb⟩; have hp1 := own_string_later hown; have hp2 : Below wp.heap.size wp wp := Below.refl _ _; have hp3 : Below w.heap.size w wp := below_then (by assumption) hb; clear hown) | (go_at_call 18; refine (lives_any _).mono ?_; rintro e wl ⟨rfl, hb⟩; have hl3 : Below w.heap.size w wl := below_then (by assumption) hb))
              refine wpAny_ready (rs := [7, 10]) (by kernel_rfl) (by simp) ?_
              refine AllReady.cons rfl (fun K hK => ?_) (AllReady.cons rfl (fun K hK => ?_) AllReady.nil)
              · go_simp
                refine hK _ _ ?_; clear hK K
                refine wpAny_ready (rs := [10]) (by kernel_rfl) (by simp) ?_
                refine AllReady.cons rfl (fun K hK => ?_) AllReady.nil
                go_simp
                refine hK _ _ ?_; clear hK K
                refine wpAny_take (i := 11) (v := ?_) rfl (by kernel_rfl) (by kernel_rfl) (by kernel_rfl) (fun _ _ _ h => h) (Or.inl ⟨by rfl, ?_⟩) ?_
                rotate_left
                · intro w; go_simp; try with_reducible rfl
                go_simp
                refine wpAny_take (i := 15) (v := ?_) rfl (by kernel_rfl) (by kernel_rfl) (by kernel_rfl) (fun _ _ _ h => h) (Or.inl ⟨by rfl, ?_⟩) ?_
                rotate_left
                · intro w; go_simp; try with_reducible rfl
                go_simp
                refine wpAny_take (i := 16) (v := ?_) rfl (by kernel_rfl) (by kernel_rfl) (by kernel_rfl) (fun _ _ _ h => h) (Or.inl ⟨by rfl, ?_⟩) ?_
                rotate_left
                · intro w; go_simp; try with_reducible rfl
                go_simp
                refine wpAny_take (i := 17) (v := ?_) rfl (by kernel_rfl) (by kernel_rfl) (by kernel_rfl) (fun _ _ _ h => h) (Or.inl ⟨by rfl, ?_⟩) ?_
                rotate_left
                · intro w; go_simp; try with_reducible rfl
                go_simp
                refine wpAny_ready (rs := [18]) (by kernel_rfl) (by simp) ?_
                refine AllReady.cons rfl (fun K hK => ?_) AllReady.nil
                go_simp
                go_wp2_with (first | (go_at_call 46; refine (put_any _ _ (by assumption) (by assumption)).mono ?_; rintro e wp ⟨vp, rfl, hown, hb⟩; have hp1 := own_string_later hown; have hp2 : Below wp.heap.size wp wp := Below.refl _ _; have hp3 : Below w.heap.size w wp := below_then (by assumption) hb; clear hown) | (go_at_call 18; refine (lives_any _).mono ?_; rintro e wl ⟨rfl, hb⟩; have hl3 : Below w.heap.size w wl := below_then (by assumption) hb))
                refine wpAny_take (i := 19) (v := ?_) rfl (by kernel_rfl) (by kernel_rfl) (by kernel_rfl) (fun _ _ _ h => h) (Or.inl ⟨by rfl, ?_⟩) ?_
                rotate_left
                · intro w; go_simp; try with_reducible rfl
                go_simp
                refine wpAny_take (i := 20) (v := ?_) rfl (by kernel_rfl) (by kernel_rfl) (by kernel_rfl) (fun _ _ _ h => h) (Or.inl ⟨by rfl, ?_⟩) ?_
                rotate_left
                · intro w; go_simp; try with_reducible rfl
                go_simp
                refine wpAny_done (by kernel_rfl) ?_ _
                go_wp2
                go_ret
                exact ⟨rfl, hl3⟩
              · go_simp
                refine hK _ _ ?_; clear hK K
                refine wpAny_ready (rs := [7]) (by kernel_rfl) (by simp) ?_
                refine AllReady.cons rfl (fun K hK => ?_) AllReady.nil
                go_simp
                refine hK _ _ ?_; clear hK K
                refine wpAny_take (i := 11) (v := ?_) rfl (by kernel_rfl) (by kernel_rfl) (by kernel_rfl) (fun _ _ _ h => h) (Or.inl ⟨by rfl, ?_⟩) ?_
                rotate_left
                · intro w; go_simp; try with_reducible rfl
                go_simp
                refine wpAny_take (i := 15) (v := ?_) rfl (by kernel_rfl) (by kernel_rfl) (by kernel_rfl) (fun _ _ _ h => h) (Or.inl ⟨by rfl, ?_⟩) ?_
                rotate_left
                · intro w; go_simp; try with_reducible rfl
                go_simp
                refine wpAny_take (i := 16) (v := ?_) rfl (by kernel_rfl) (by kernel_rfl) (by kernel_rfl) (fun _ _ _ h => h) (Or.inl ⟨by rfl, ?_⟩) ?_
                rotate_left
                · intro w; go_simp; try with_reducible rfl
                go_simp
                refine wpAny_take (i := 17) (v := ?_) rfl (by kernel_rfl) (by kernel_rfl) (by kernel_rfl) (fun _ _ _ h => h) (Or.inl ⟨by rfl, ?_⟩) ?_
                rotate_left
                · intro w; go_simp; try with_reducible rfl
                go_simp
                refine wpAny_ready (rs := [18]) (by kernel_rfl) (by simp) ?_
                refine AllReady.cons rfl (fun K hK => ?_) AllReady.nil
                go_simp
                go_wp2_with (first | (go_at_call 46; refine (put_any _ _ (by assumption) (by assumption)).mono ?_; rintro e wp ⟨vp, rfl, hown, hb⟩; have hp1 := own_string_later hown; have hp2 : Below wp.heap.size wp wp := Below.refl _ _; have hp3 : Below w.heap.size w wp := below_then (by assumption) hb; clear hown) | (go_at_call 18; refine (lives_any _).mono ?_; rintro e wl ⟨rfl, hb⟩; have hl3 : Below w.heap.size w wl := below_then (by assumption) hb))
                refine wpAny_take (i := 19) (v := ?_) rfl (by kernel_rfl) (by kernel_rfl) (by kernel_rfl) (fun _ _ _ h => h) (Or.inl ⟨by rfl, ?_⟩) ?_
                rotate_left
                · intro w; go_simp; try with_reducible rfl
                go_simp
                refine wpAny_take (i := 20) (v := ?_) rfl (by kernel_rfl) (by kernel_rfl) (by kernel_rfl) (fun _ _ _ h => h) (Or.inl ⟨by rfl, ?_⟩) ?_
                rotate_left
                · intro w; go_simp; try with_reducible rfl
                go_simp
                refine wpAny_done (by kernel_rfl) ?_ _
                go_wp2
                go_ret
                exact ⟨rfl, hl3⟩
          · have hss : ((strOfNums (M.enc (M.zig x))).toList == (strOfNums (M.enc (M.zig y))).toList) = false := by
              cases h : ((strOfNums (M.enc (M.zig x))).toList == (strOfNums (M.enc (M.zig y))).toList) with
              | false => rfl
              | true => exact absurd (M.zig_inj (M.enc_inj (str_eq (M.enc_bd _) (M.enc_bd _) h))) hxy
            have hxx : ((x : Int) == y) = false := by simpa using hxy
            have HXY := Lib.hid hxy; clear hxy
            go_wp2_with fail
            refine wp_region_any (by kernel_rfl) ?_
            change wpAny _ _ _ _ _ _ _ (World.drew _)
            refine wpAny_take (i := 0) (v := ?_) rfl (by kernel_rfl) (by kernel_rfl) (by kernel_rfl) (fun _ _ _ h => h) (Or.inl ⟨by rfl, ?_⟩) ?_
            rotate_left
            · intro w; go_simp; try with_reducible rfl
            go_simp
            refine wpAny_take (i := 1) (v := ?_) rfl (by kernel_rfl) (by kernel_rfl) (by kernel_rfl) (fun _ _ _ h => h) (Or.inl ⟨by rfl, ?_⟩) ?_
            rotate_left
            · intro w; go_simp; try with_reducible rfl
            go_simp
            refine wpAny_take (i := 2) (v := ?_) rfl (by kernel_rfl) (by kernel_rfl) (by kernel_rfl) (fun _ _ _ h => h) (Or.inl ⟨by rfl, ?_⟩) ?_
            rotate_left
            · intro w; go_simp; try with_reducible rfl
            go_simp
            refine wpAny_take (i := 3) (v := ?_) rfl (by kernel_rfl) (by kernel_rfl) (by kernel_rfl) (fun _ _ _ h => h) (Or.inl ⟨by rfl, ?_⟩) ?_
            rotate_left
            · intro w; go_simp; try with_reducible rfl
            go_simp
            refine wpAny_take (i := 4) (v := ?_) rfl (by kernel_rfl) (by kernel_rfl) (by kernel_rfl) (fun _ _ _ h => h) (Or.inl ⟨by rfl, ?_⟩) ?_
            rotate_left
            · intro w; go_simp; try with_reducible rfl
            go_simp
            refine wpAny_take (i := 5) (v := ?_) rfl (by kernel_rfl) (by kernel_rfl) (by kernel_rfl) (fun _ _ _ h => h) (Or.inl ⟨by rfl, ?_⟩) ?_
            rotate_left
            · intro w; go_simp; try with_reducible rfl
            go_simp
            refine wpAny_take (i := 8) (v := ?_) rfl (by kernel_rfl) (by kernel_rfl) (by kernel_rfl) (fun _ _ _ h => h) (Or.inl ⟨by rfl, ?_⟩) ?_
            rotate_left
            · intro w; go_simp; try with_reducible rfl
            go_simp
            refine wpAny_take (i := 12) (v := ?_) rfl (by kernel_rfl) (by kernel_rfl) (by kernel_rfl) (fun _ _ _ h => h) (Or.inl ⟨by rfl, ?_⟩) ?_
            rotate_left
            · intro w; go_simp; try with_reducible rfl
            go_simp
            refine wpAny_take (i := 13) (v := ?_) rfl (by kernel_rfl) (by kernel_rfl) (by kernel_rfl) (fun _ _ _ h => h) (Or.inl ⟨by rfl, ?_⟩) ?_
            rotate_left
            · intro w; go_simp; try with_reducible rfl
            go_simp
            refine wpAny_take (i := 14) (v := ?_) rfl (by kernel_rfl) (by kernel_rfl) (by kernel_rfl) (fun _ _ _ h => h) (Or.inl ⟨by rfl, ?_⟩) ?_
            rotate_left
            · intro w; go_simp; try with_reducible rfl
            go_simp
            refine wpAny_ready (rs := [6]) (by kernel_rfl) (by simp) ?_
            refine AllReady.cons rfl (fun K hK => ?_) AllReady.nil
            go_simp
            go_wp2_with (first | (go_at_call 46; refine (put_any _ _ (by assumption) (by assumption)).mono ?_; rintro e wp ⟨vp, rfl, hown, hb⟩; have hp1 := own_string_later hown; have hp2 : Below wp.heap.size wp wp := Below.refl _ _; have hp3 : Below w.heap.size w wp := below_then (by assumption) hb; clear hown) | (go_at_call 18; refine (lives_any _).mono ?_; rintro e wl ⟨rfl, hb⟩; have hl3 : Below w.heap.size w wl := below_then (by assumption) hb))
            refine wpAny_ready (rs := [7, 9]) (by kernel_rfl) (by simp) ?_
            refine AllReady.cons rfl (fun K hK => ?_) (AllReady.cons rfl (fun K hK => ?_) AllReady.nil)
            · go_simp
              refine hK _ _ ?_; clear hK K
              refine wpAny_ready (rs := [9]) (by kernel_rfl) (by simp) ?_
              refine AllReady.cons rfl (fun K hK => ?_) AllReady.nil
              go_simp
              go_wp2_with (first | (go_at_call 46; refine (put_any _ _ (by assumption) (by assumption)).mono ?_; rintro e wp ⟨vp, rfl, hown, hb⟩; have hp1 := own_string_later hown; have hp2 : Below wp.heap.size wp wp := Below.refl _ _; have hp3 : Below w.heap.size w wp := below_then (by assumption) hb; clear hown) | (go_at_call 18; refine (lives_any _).mono ?_; rintro e wl ⟨rfl, hb⟩; have hl3 : Below w.heap.size w wl := below_then (by assumption) hb))
              refine wpAny_ready (rs := [10]) (by kernel_rfl) (by simp) ?_
              refine AllReady.cons rfl (fun K hK => ?_) AllReady.nil
              go_simp
              refine hK _ _ ?_; clear hK K
              refine wpAny_take (i := 11) (v := ?_) rfl (by kernel_rfl) (by kernel_rfl) (by kernel_rfl) (fun _ _ _ h => h) (Or.inl ⟨by rfl, ?_⟩) ?_
              rotate_left
              · intro w; go_simp; try with_reducible rfl
              go_simp
              refine wpAny_take (i := 15) (v := ?_) rfl (by kernel_rfl) (by kernel_rfl) (by kernel_rfl) (fun _ _ _ h => h) (Or.inl ⟨by rfl, ?_⟩) ?_
              rotate_left
              · intro w; go_simp; try with_reducible rfl
              go_simp
              refine wpAny_take (i := 16) (v := ?_) rfl (by kernel_rfl) (by kernel_rfl) (by kernel_rfl) (fun _ _ _ h => h) (Or.inl ⟨by rfl, ?_⟩) ?_
              rotate_left
              · intro w; go_simp; try with_reducible rfl
              go_simp
              refine wpAny_take (i := 17) (v := ?_) rfl (by kernel_rfl) (by kernel_rfl) (by kernel_rfl) (fun _ _ _ h => h) (Or.inl ⟨by rfl, ?_⟩) ?_
              rotate_left
              · intro w; go_simp; try with_reducible rfl
              go_simp
              refine wpAny_ready (rs := [18]) (by kernel_rfl) (by simp) ?_
              refine AllReady.cons rfl (fun K hK => ?_) AllReady.nil
              go_simp
              go_wp2_with (first | (go_at_call 46; refine (put_any _ _ (by assumption) (by assumption)).mono ?_; rintro e wp ⟨vp, rfl, hown, hb⟩; have hp1 := own_string_later hown; have hp2 : Below wp.heap.size wp wp := Below.refl _ _; have hp3 : Below w.heap.size w wp := below_then (by assumption) hb; clear hown) | (go_at_call 18; refine (lives_any _).mono ?_; rintro e wl ⟨rfl, hb⟩; have hl3 : Below w.heap.size w wl := below_then (by assumption) hb))
              refine wpAny_take (i := 19) (v := ?_) rfl (by kernel_rfl) (by kernel_rfl) (by kernel_rfl) (fun _ _ _ h => h) (Or.inl ⟨by rfl, ?_⟩) ?_
              rotate_left
              · intro w; go_simp; try with_reducible rfl
              go_simp
              refine wpAny_take (i := 20) (v := ?_) rfl (by kernel_rfl) (by kernel_rfl) (by kernel_rfl) (fun _ _ _ h => h) (Or.inl ⟨by rfl, ?_⟩) ?_
              rotate_left
              · intro w; go_simp; try with_reducible rfl
              go_simp
              refine wpAny_done (by kernel_rfl) ?_ _
              go_wp2
              go_ret
              exact ⟨rfl, hl3⟩
            · go_simp
              go_wp2_with (first | (go_at_call 46; refine (put_any _ _ (by assumption) (by assumption)).mono ?_; rintro e wp ⟨vp, rfl, hown, hb⟩; have hp1 := own_string_later hown; have hp2 : Below wp.heap.size wp wp := Below.refl _ _; have hp3 : Below w.heap.size w wp := below_then (by assumption) hb; clear hown) | (go_at_call 18; refine (lives_any _).mono ?_; rintro e wl ⟨rfl, hb⟩; have hl3 : Below w.heap.size w wl := below_then (by assumption) hb))
              refine wpAny_ready (rs := [7, 10]) (by kernel_rfl) (by simp) ?_
              refine AllReady.cons rfl (fun K hK => ?_) (AllReady.cons rfl (fun K hK => ?_) AllReady.nil)
              · go_simp
                refine hK _ _ ?_; clear hK K
                refine wpAny_ready (rs := [10]) (by kernel_rfl) (by simp) ?_
                refine AllReady.cons rfl (fun K hK => ?_) AllReady.nil
                go_simp
                refine hK _ _ ?_; clear hK K
                refine wpAny_take (i := 11) (v := ?_) rfl (by kernel_rfl) (by kernel_rfl) (by kernel_rfl) (fun _ _ _ h => h) (Or.inl ⟨by rfl, ?_⟩) ?_
                rotate_left
                · intro w; go_simp; try with_reducible rfl
                go_simp
                refine wpAny_take (i := 15) (v := ?_) rfl (by kernel_rfl) (by kernel_rfl) (by kernel_rfl) (fun _ _ _ h => h) (Or.inl ⟨by rfl, ?_⟩) ?_
                rotate_left
                · intro w; go_simp; try with_reducible rfl
                go_simp
                refine wpAny_take (i := 16) (v := ?_) rfl (by kernel_rfl) (by kernel_rfl) (by kernel_rfl) (fun _ _ _ h => h) (Or.inl ⟨by rfl, ?_⟩) ?_
                rotate_left
                · intro w; go_simp; try with_reducible rfl
                go_simp
                refine wpAny_take (i := 17) (v := ?_) rfl (by kernel_rfl) (by kernel_rfl) (by kernel_rfl) (fun _ _ _ h => h) (Or.inl ⟨by rfl, ?_⟩) ?_
                rotate_left
                · intro w; go_simp; try with_reducible rfl
                go_simp
                refine wpAny_ready (rs := [18]) (by kernel_rfl) (by simp) ?_
                refine AllReady.cons rfl (fun K hK => ?_) AllReady.nil
                go_simp
                go_wp2_with (first | (go_at_call 46; refine (put_any _ _ (by assumption) (by assumption)).mono ?_; rintro e wp ⟨vp, rfl, hown, hb⟩; have hp1 := own_string_later hown; have hp2 : Below wp.heap.size wp wp := Below.refl _ _; have hp3 : Below w.heap.size w wp := below_then (by assumption) hb; clear hown) | (go_at_call 18; refine (lives_any _).mono ?_; rintro e wl ⟨rfl, hb⟩; have hl3 : Below w.heap.size w wl := below_then (by assumption) hb))
                refine wpAny_take (i := 19) (v := ?_) rfl (by kernel_rfl) (by kernel_rfl) (by kernel_rfl) (fun _ _ _ h => h) (Or.inl ⟨by rfl, ?_⟩) ?_
                rotate_left
                · intro w; go_simp; try with_reducible rfl
                go_simp
                refine wpAny_take (i := 20) (v := ?_) rfl (by kernel_rfl) (by kernel_rfl) (by kernel_rfl) (fun _ _ _ h => h) (Or.inl ⟨by rfl, ?_⟩) ?_
                rotate_left
                · intro w; go_simp; try with_reducible rfl
                go_simp
                refine wpAny_done (by kernel_rfl) ?_ _
                go_wp2
                go_ret
                exact ⟨rfl, hl3⟩
              · go_simp
                refine hK _ _ ?_; clear hK K
                refine wpAny_ready (rs := [7]) (by kernel_rfl) (by simp) ?_
                refine AllReady.cons rfl (fun K hK => ?_) AllReady.nil
                go_simp
                refine hK _ _ ?_; clear hK K
                refine wpAny_take (i := 11) (v := ?_) rfl (by kernel_rfl) (by kernel_rfl) (by kernel_rfl) (fun _ _ _ h => h) (Or.inl ⟨by rfl, ?_⟩) ?_
                rotate_left
                · intro w; go_simp; try with_reducible rfl
                go_simp
                refine wpAny_take (i := 15) (v := ?_) rfl (by kernel_rfl) (by kernel_rfl) (by kernel_rfl) (fun _ _ _ h => h) (Or.inl ⟨by rfl, ?_⟩) ?_
                rotate_left
                · intro w; go_simp; try with_reducible rfl
                go_simp
                refine wpAny_take (i := 16) (v := ?_) rfl (by kernel_rfl) (by kernel_rfl) (by kernel_rfl) (fun _ _ _ h => h) (Or.inl ⟨by rfl, ?_⟩) ?_
                rotate_left
                · intro w; go_simp; try with_reducible rfl
                go_simp
                refine wpAny_take (i := 17) (v := ?_) rfl (by kernel_rfl) (by kernel_rfl) (by kernel_rfl) (fun _ _ _ h => h) (Or.inl ⟨by rfl, ?_⟩) ?_
                rotate_left
                · intro w; go_simp; try with_reducible rfl
                go_simp
                refine wpAny_ready (rs := [18]) (by kernel_rfl) (by simp) ?_
                refine AllReady.cons rfl (fun K hK => ?_) AllReady.nil
                go_simp
                go_wp2_with (first | (go_at_call 46; refine (put_any _ _ (by assumption) (by assumption)).mono ?_; rintro e wp ⟨vp, rfl, hown, hb⟩; have hp1 := own_string_later hown; have hp2 : Below wp.heap.size wp wp := Below.refl _ _; have hp3 : Below w.heap.size w wp := below_then (by assumption) hb; clear hown) | (go_at_call 18; refine (lives_any _).mono ?_; rintro e wl ⟨rfl, hb⟩; have hl3 : Below w.heap.size w wl := below_then (by assumption) hb))
                refine wpAny_take (i := 19) (v := ?_) rfl (by kernel_rfl) (by kernel_rfl) (by kernel_rfl) (fun _ _ _ h => h) (Or.inl ⟨by rfl, ?_⟩) ?_
                rotate_left
                · intro w; go_simp; try with_reducible rfl
                go_simp
                refine wpAny_take (i := 20) (v := ?_) rfl (by kernel_rfl) (by kernel_rfl) (by kernel_rfl) (fun _ _ _ h => h) (Or.inl ⟨by rfl, ?_⟩) ?_
                rotate_left
                · intro w; go_simp; try with_reducible rfl
                go_simp
                refine wpAny_done (by kernel_rfl) ?_ _
                go_wp2
                go_ret
                exact ⟨rfl, hl3⟩
end Go.Proofs.Ytmcciopahbijaaa
