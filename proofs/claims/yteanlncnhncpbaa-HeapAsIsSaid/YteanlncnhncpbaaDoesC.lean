/- Does, of one kind of calls. -/
import Derived.Test.YteanlncnhncpbaaDoes
namespace Go.Proofs.Yteanlncnhncpbaa
set_option linter.unusedVariables false
open Go.ChangeShapes Go.WideShapes Go.ChangeAt Go.RowKit
open M (W)

set_option maxHeartbeats 4000000 in
set_option maxRecDepth 100000 in
theorem does_3_no {w0 w : World} {s : St} {x : Rf} (h : Both w0 w s x) (a b : Int) (v : Nat) (ha : -9223372036854775808 ≤ a) (hv : v < 18446744073709551616) (hfew : x.L.length < 1000) :
    Calls Try.prog 18 #[s.ptr, x.ptr, .agg #[.int .i64 3, .int .i64 a, .int .i64 b, .int .u64 v, .bool false]] w fun e w' => e = .returned (.bool true) ∧ After w0 w' s x := by
  obtain ⟨r, hpl⟩ := place_any x a w h.rf ha
  obtain ⟨la, lc, hlv⟩ := h.rf.lv_slice
  have hgx := h.rf.blk.lt
  have c2 : w.cell? ⟨x.gx, 2, none⟩ = some (.slice la x.L.length lc) := by rw [h.rf.c2, hlv]
  rw [hlv] at hpl
  have HPL := Lib.hid hpl
  have HB := Lib.hid h
  have HFEW := Lib.hid hfew
  have hsg := h.hp.blk.lt
  have hsgw := h.hp.words.lt
  obtain ⟨cc, hcc⟩ : ∃ cc : Nat, cc = v % 256 := ⟨_, rfl⟩
  have hc1 : IntKind.u8.wrap (v : Int) = (cc : Int) := by rw [IntKind.wrap_u8]; omega
  have hc2 : ((v : Int) % 256) = (cc : Int) := by omega
  have HCC := Lib.hid (show cc < 256 by omega)
  clear hcc
  clear hpl h hlv
  go_enter Try.func18, Try.ntmps18
  go_wp2_with fail
  go_quiet ((go_at_call 51; first | exact Calls.quiet_of_same (HPL.out _ (((Still.refl w).alloc _).drewN _)) | exact quiet_add_same (HPL.out _ (((Still.refl w).alloc _).drewN _))))
  go_wp2_with fail
  go_region_with (first
    | (go_at_call 54; refine (both_setByte1 (HB.out.still (((Still.refl w).alloc _).drewN _)) r b cc HCC.out).mono ?_; rintro e w1 ⟨q, rfl, t1, hop⟩; obtain ⟨b0, b1, b2, b3, b4⟩ := box_keep ((Still.refl _).drewN _) t1 hsg hsgw; have HOP := Lib.hid hop)
    | (go_at_call 55; refine HOP.out.mono ?_; rintro e w2 ⟨rfl, hA⟩; have HA := Lib.hid hA; clear hA))
  all_goals
    have hqq : ((q : Int) == q) = true := by simp
    go_wp2_with fail
    go_ret
    exact ⟨rfl, HA.out⟩

set_option maxHeartbeats 4000000 in
set_option maxRecDepth 100000 in
theorem does_3_empty {w0 w : World} {s : St} {x : Rf} (h : Both w0 w s x) (a b : Int) (v : Nat) (ha : -9223372036854775808 ≤ a) (hv : v < 18446744073709551616) (hfew : x.L.length < 1000) (hL : x.L.length = 0) :
    Calls Try.prog 18 #[s.ptr, x.ptr, .agg #[.int .i64 3, .int .i64 a, .int .i64 b, .int .u64 v, .bool true]] w fun e w' => e = .returned (.bool true) ∧ After w0 w' s x := by
  obtain ⟨r, hpl⟩ := place_any x a w h.rf ha
  obtain ⟨la, lc, hlv⟩ := h.rf.lv_slice
  have hgx := h.rf.blk.lt
  have c2 : w.cell? ⟨x.gx, 2, none⟩ = some (.slice la x.L.length lc) := by rw [h.rf.c2, hlv]
  rw [hlv] at hpl
  have HPL := Lib.hid hpl
  have HB := Lib.hid h
  have HFEW := Lib.hid hfew
  have hsg := h.hp.blk.lt
  have hsgw := h.hp.words.lt
  rw [hL] at c2 HPL
  obtain ⟨cc, hcc⟩ : ∃ cc : Nat, cc = v % 256 := ⟨_, rfl⟩
  have hc1 : IntKind.u8.wrap (v : Int) = (cc : Int) := by rw [IntKind.wrap_u8]; omega
  have hc2 : ((v : Int) % 256) = (cc : Int) := by omega
  have HCC := Lib.hid (show cc < 256 by omega)
  clear hcc
  clear hpl h hlv hfew hL
  go_enter Try.func18, Try.ntmps18
  go_wp2_with fail
  go_quiet ((go_at_call 51; first | exact Calls.quiet_of_same (HPL.out _ (((Still.refl w).alloc _).drewN _)) | exact quiet_add_same (HPL.out _ (((Still.refl w).alloc _).drewN _))))
  go_wp2_with fail
  go_region_with (first
    | (go_at_call 54; refine (both_setByte1 (HB.out.still (((Still.refl w).alloc _).drewN _)) r b cc HCC.out).mono ?_; rintro e w1 ⟨q, rfl, t1, hop⟩; obtain ⟨b0, b1, b2, b3, b4⟩ := box_keep ((Still.refl _).drewN _) t1 hsg hsgw; have HOP := Lib.hid hop)
    | (go_at_call 55; refine HOP.out.mono ?_; rintro e w2 ⟨rfl, hA⟩; have HA := Lib.hid hA; clear hA))
  all_goals
    have hqq : ((q : Int) == q) = true := by simp
    go_wp2_with fail
    go_ret
    exact ⟨rfl, HA.out⟩

set_option maxHeartbeats 4000000 in
set_option maxRecDepth 100000 in
theorem does_3_at {w0 w : World} {s : St} {x : Rf} (h : Both w0 w s x) (a b : Int) (v : Nat) (ha : -9223372036854775808 ≤ a) (hv : v < 18446744073709551616) (hfew : x.L.length < 1000) (hL : 0 < x.L.length) :
    Calls Try.prog 18 #[s.ptr, x.ptr, .agg #[.int .i64 3, .int .i64 a, .int .i64 b, .int .u64 v, .bool true]] w fun e w' => e = .returned (.bool true) ∧ After w0 w' s x := by
  obtain ⟨r, hpl⟩ := place_any x a w h.rf ha
  obtain ⟨la, lc, hlv⟩ := h.rf.lv_slice
  have hgx := h.rf.blk.lt
  have c2 : w.cell? ⟨x.gx, 2, none⟩ = some (.slice la x.L.length lc) := by rw [h.rf.c2, hlv]
  rw [hlv] at hpl
  have HPL := Lib.hid hpl
  have HB := Lib.hid h
  have HFEW := Lib.hid hfew
  have hsg := h.hp.blk.lt
  have hsgw := h.hp.words.lt
  rcases h.rf.lv_form with ⟨_, h0⟩ | ⟨g, cap, h1, hg, hb, hle, hm, hf, hc⟩
  · rw [h0] at hL; simp at hL
  have hqm : v % x.L.length < x.L.length := Nat.mod_lt _ hL
  obtain ⟨oo, ho⟩ : ∃ o, x.L[v % x.L.length]? = some o := ⟨_, List.getElem?_eq_getElem hqm⟩
  obtain ⟨d0, _⟩ := hc _ oo ho
  have hla : la = some ⟨g, 0, none⟩ := by rw [h1] at hlv; injection hlv with e; exact e.symm
  subst hla
  obtain ⟨j, hjj⟩ : ∃ j, v % x.L.length = j := ⟨_, rfl⟩
  have e1 : ((v : Int) % (x.L.length : Int)) = (j : Int) := by rw [← hjj]; simp
  have e2 : (v : Int).tmod (x.L.length : Int) = (j : Int) := by rw [← e1]; exact Int.tmod_eq_emod_of_nonneg (by omega)
  rw [hjj] at d0 hqm
  have htop := ((h.sim.tile.get ho).2)
  have hnn := h.hp.n_le
  have htt := h.hp.top_le
  have hat : oo.at_ ≤ 65536 := by omega
  obtain ⟨y, hy⟩ : ∃ y, oo.at_ * 2 = y := ⟨_, rfl⟩
  have hy1 : (oo.at_ : Int) * 2 = (y : Int) := by omega
  have hy2 : y < 18446744073709551616 := by omega
  have hy4 : y < 4294967296 := by omega
  have hz : ((x.L.length : Int) == 0) = false := beq_eq_false_iff_ne.2 (by omega)
  have hy3 : IntKind.u64.wrap (y : Int) = (y : Int) := by rw [IntKind.wrap_u64]; omega
  have hw1 : IntKind.u64.wrap (oo.at_ : Int) = (oo.at_ : Int) := by rw [IntKind.wrap_u64]; omega
  have hw2 : IntKind.u64.wrap (x.L.length : Int) = (x.L.length : Int) := by rw [IntKind.wrap_u64]; omega
  have hw3 : IntKind.i64.wrap (j : Int) = (j : Int) := by rw [IntKind.wrap_i64]; omega
  have HY2 := Lib.hid hy2
  obtain ⟨cc, hcc⟩ : ∃ cc : Nat, cc = y % 256 := ⟨_, rfl⟩
  have hc1 : IntKind.u8.wrap (y : Int) = (cc : Int) := by rw [IntKind.wrap_u8]; omega
  have hc2 : ((y : Int) % 256) = (cc : Int) := by omega
  have HCC := Lib.hid (show cc < 256 by omega)
  clear hcc
  clear hpl h hlv hc h1 ho hm hf hjj htop htt hle hy hnn hb
  go_enter Try.func18, Try.ntmps18
  go_wp2_with fail
  go_quiet (fail)
  go_wp2_with fail
  go_quiet ((go_at_call 51; first | exact Calls.quiet_of_same (HPL.out _ (((Still.refl w).alloc _).drewN _)) | exact quiet_add_same (HPL.out _ (((Still.refl w).alloc _).drewN _))))
  go_wp2_with fail
  go_region_with (first
    | (go_at_call 54; refine (both_setByte1 (HB.out.still (((Still.refl w).alloc _).drewN _)) r b cc HCC.out).mono ?_; rintro e w1 ⟨q, rfl, t1, hop⟩; obtain ⟨b0, b1, b2, b3, b4⟩ := box_keep ((Still.refl _).drewN _) t1 hsg hsgw; have HOP := Lib.hid hop)
    | (go_at_call 55; refine HOP.out.mono ?_; rintro e w2 ⟨rfl, hA⟩; have HA := Lib.hid hA; clear hA))
  all_goals
    have hqq : ((q : Int) == q) = true := by simp
    go_wp2_with fail
    go_ret
    exact ⟨rfl, HA.out⟩
end Go.Proofs.Yteanlncnhncpbaa
