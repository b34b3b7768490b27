/- The document's instruction, as bytes. -/
import Derived.Test.YthlifflapgccbaaGreatL10
import Derived.Test.YthlifflapgccbaaGreatWrInstr
namespace Go.Proofs.YthlifflapgccbaaGreat
set_option linter.unusedVariables false
open Go.ChangeShapes Go.WideShapes Go.ChangeAt Go.RowKit
open M (W)
theorem Holds8.long {B : Nat} {w w' : World} {v v' : Value} {xs : List Int} (h : Holds8 B w v xs) (k : Grew B w w' v v') (hB : B ≤ w.heap.size) : B ≤ w'.heap.size := Nat.le_trans hB k.below.size
/-- A row that was appended to by another row. -/
theorem Grew.row {B : Nat} {a : Option Addr} {k c : Nat} {xs ys : List Int} {w wp w4 : World} {a' : Option Addr} {m cap : Nat} (h : w.ownsRow B 5 1 (.slice a k c) k (xs.map (Value.int .u8))) (hk : xs.length = k) (hB : B ≤ w.heap.size) (hy : ys.length = m) (hbp : Below w.heap.size w wp)
    (r2 : w4.ownsRow B 5 1 (.slice a' (k + m) cap) (k + m) (xs.map (Value.int .u8) ++ ys.map (Value.int .u8))) (r3 : Turn (fun j => (Value.slice a k c).ownBlock = some j) wp w4) (r4 : (Value.slice a' (k + m) cap).ownBlock = (Value.slice a k c).ownBlock ∨ ∃ g, a' = some ⟨g, 0, none⟩ ∧ wp.heap.size ≤ g) :
    Holds8 B w4 (.slice a' (k + m) cap) (xs ++ ys) ∧ Grew B w w4 (.slice a k c) (.slice a' (k + m) cap) := by
  have hkk : (xs ++ ys).length = k + m := by rw [List.length_append, hk, hy]
  refine ⟨⟨a', cap, by rw [hkk], ?_⟩, (hbp.mono hB).trans (r3.below (Nat.le_trans hB hbp.size) (fun b hb => (h.lt b hb).1)), (Turn.of_below hbp (fun k h1 h2 => by omega)).trans r3, fun b hb => ?_⟩
  · rw [hkk, List.map_append]; exact r2
  · rcases r4 with e | ⟨g, e, hg⟩
    · exact .inl (e ▸ hb)
    · subst e
      have : g = b := by simpa [Value.ownBlock] using hb
      have := hbp.size
      exact .inr (by omega)
set_option maxRecDepth 100000 in
set_option maxHeartbeats 4000000 in
theorem refInstr_any {B : Nat} {v : Value} {xs : List Int} {w : World} {la : Option Addr} {ln lc : Nat} {ma : Option Addr} {mn mc : Nat} {va : Option Addr} {vn vc : Nat} {x : M.Ins} (h : Holds8 B w v xs) (hB : B ≤ w.heap.size) (hp : InsIs B w [.int .i64 x.op, .int .i64 x.d, .int .i64 x.a, .int .i64 x.b, .int .i64 x.c, .int .i64 x.n, .slice la ln lc, .slice ma mn mc, .slice va vn vc] x) (hx : (xs ++ M.bIns x).length ≤ 1000000000) :
    Calls Tryz.prog 49 #[v, .agg #[.int .i64 x.op, .int .i64 x.d, .int .i64 x.a, .int .i64 x.b, .int .i64 x.c, .int .i64 x.n, .slice la ln lc, .slice ma mn mc, .slice va vn vc]] w fun e w' => ∃ v', e = .returned v' ∧ Holds8 B w' v' (xs ++ M.bIns x) ∧ Grew B w w' v v' := by
  have hop : In64 x.op := by
    obtain ⟨la', ln', lc', ma', mn', mc', va', vn', vc', he, hl, hm, hv, ⟨k0, _⟩, _⟩ := hp
    exact k0
  have HP := Lib.hid hp
  have HB := Lib.hid hB
  have hx' := hx
  simp only [M.bIns, List.length_append] at hx'
  have hS : Still w (w.alloc (.cells #[.int .i64 x.op, .int .i64 x.d, .int .i64 x.a, .int .i64 x.b, .int .i64 x.c, .int .i64 x.n, .slice la ln lc, .slice ma mn mc, .slice va vn vc] 70)) := (Still.refl w).alloc _
  have HBX := Lib.hid (Blk.new w 70 #[.int .i64 x.op, .int .i64 x.d, .int .i64 x.a, .int .i64 x.b, .int .i64 x.c, .int .i64 x.n, .slice la ln lc, .slice ma mn mc, .slice va vn vc])
  have HS := Lib.hid hS
  have H0 := Lib.hid (h.keep hS)
  have HN := Lib.hid (refNum_any x.op (h.keep hS) (Nat.le_trans hB hS.size) hop (by omega))
  have HLET := Lib.hid (uses_letters x.op)
  have hxall : Hid (∀ pos, (xs ++ M.num x.op ++ ((M.uses x.op).data.toList.take pos).flatMap (M.field x)).length ≤ 1000000000) := fun pos => by
    have h1 : ((M.uses x.op).data.toList.flatMap (M.field x)).length = (((M.uses x.op).data.toList.take pos).flatMap (M.field x)).length + (((M.uses x.op).data.toList.drop pos).flatMap (M.field x)).length := by
      rw [← List.length_append, ← List.flatMap_append, List.take_append_drop]
    simp only [List.length_append]
    omega
  have HE : Hid (M.bIns x = M.num x.op ++ (M.uses x.op).data.toList.flatMap (M.field x)) := rfl
  have HU := Lib.hid (fun W => refUses_any x.op W)
  have hus : (M.uses x.op).size ≤ 6 := by have := uses_len x.op; rw [Array.length_toList] at this; exact this
  clear h hp hx hx' hB hop hS
  generalize M.bIns x = bi at *
  generalize hu : M.uses x.op = u at *
  go_enter Tryz.func49, Tryz.ntmps49
  go_wp2_with fail
  refine HN.out.mono ?_; rintro e w1 ⟨v1, rfl, h1, g1⟩
  have HX1 := Lib.hid (g1.blk H0.out HBX.out (by decide))
  have H1 := Lib.hid (And.intro h1 ((Grew.of_still v HS.out HB.out).trans g1))
  obtain ⟨bl, b0⟩ : w.heap.size < w1.heap.size ∧ w1.cell? ⟨w.heap.size, 0, none⟩ = some (.int .i64 x.op) := ⟨HX1.out.lt, HX1.out.cell 0⟩
  clear h1 g1
  go_wp2_with fail
  refine (HU.out _).mono ?_; rintro e w2 ⟨rfl, t2⟩
  have HX2 := Lib.hid (t2.blk HX1.out)
  have H2 := Lib.hid (And.intro (H1.out.1.keep t2) (H1.out.2.trans (Grew.of_still v1 t2 (Nat.le_trans HB.out H1.out.2.below.size))))
  clear t2 bl b0
  go_wp2_with fail
  go_loopw [0, 6] (fun z q wr => ∃ i : Nat, q = .int .i64 i ∧ i ≤ u.size ∧ Holds8 B wr z (xs ++ M.num x.op ++ (u.data.toList.take i).flatMap (M.field x)) ∧ Grew B w wr v z ∧ Blk wr w.heap.size 70 #[.int .i64 x.op, .int .i64 x.d, .int .i64 x.a, .int .i64 x.b, .int .i64 x.c, .int .i64 x.n, .slice la ln lc, .slice ma mn mc, .slice va vn vc]) (fun _ q _ => u.size - (intOf q).toNat)
  case atStart => exact ⟨0, rfl, by omega, by simpa using H2.out.1, H2.out.2, HX2.out⟩
  case round =>
    obtain ⟨i, rfl, hi, hh, hg, hbx⟩ := hrel
    have hBr : B ≤ wr.heap.size := Nat.le_trans HB.out hg.below.size
    by_cases hlt : i < u.size
    · have hlet := HLET.out _ (letter_mem u i hlt)
      have hst := take_letter u (M.field x) i hlt
      have hlen : (xs ++ M.num x.op ++ (u.data.toList.take i).flatMap (M.field x)).length ≤ 1000000000 := hxall.out i
      have hlen2 : (xs ++ M.num x.op ++ (u.data.toList.take i).flatMap (M.field x) ++ M.field x (u[i]'hlt)).length ≤ 1000000000 := by
        have := hxall.out (i + 1)
        rw [hst] at this
        simpa only [List.append_assoc] using this
      have HST := Lib.hid hst
      have HG := Lib.hid hg
      have HX3 := Lib.hid hbx
      obtain ⟨la', ln', lc', ma', mn', mc', va', vn', vc', he, hl, hm, hv, ⟨k0, k1, k2, k3, k4, k5⟩, il, im, iv⟩ := HP.out.keep hg.below HB.out
      simp only [List.cons.injEq, Value.slice.injEq, and_true, true_and] at he
      obtain ⟨⟨rfl, rfl, rfl⟩, ⟨rfl, rfl, rfl⟩, ⟨rfl, rfl, rfl⟩⟩ := he
      obtain ⟨e0, e1, e2, e3, e4, e5, e6, e7, e8, e9⟩ := insBox hbx
      have HH := Lib.hid hh
      have HBr := Lib.hid hBr
      rcases hlet with hR | hR | hR | hR | hR | hR | hR | hR
      · have hn : (u[i]'hlt).toNat = 68 := by rw [hR]; rfl
        rw [hR] at hst hlen2
        have HST2 := Lib.hid hst
        have HC := Lib.hid (refNum_any x.d hh hBr k1 hlen)
        clear hh hg hbx hBr hlen hlen2 hst hR hl hm hv k0 k1 k2 k3 k4 k5 il im iv
        go_wp2_with fail
        refine HC.out.mono ?_; rintro e w3 ⟨v3, rfl, h3, g3⟩
        have HX4 := Lib.hid (g3.blk HH.out HX3.out (by decide))
        have H3 := Lib.hid (And.intro h3 (HG.out.trans g3))
        clear h3 g3 hn e0 e1 e2 e3 e4 e5 e6 e7 e8 e9
        go_wp2_with fail
        go_roundw
        case rel => exact ⟨i + 1, by go_num, by omega, by have := H3.out.1; rw [HST2.out]; rw [show M.field x 68 = M.num x.d from rfl]; simpa only [List.append_assoc] using this, H3.out.2, HX4.out⟩
        case measure => simp [intOf]; omega
      · have hn : (u[i]'hlt).toNat = 65 := by rw [hR]; rfl
        rw [hR] at hst hlen2
        have HST2 := Lib.hid hst
        have HC := Lib.hid (refNum_any x.a hh hBr k2 hlen)
        clear hh hg hbx hBr hlen hlen2 hst hR hl hm hv k0 k1 k2 k3 k4 k5 il im iv
        go_wp2_with fail
        refine HC.out.mono ?_; rintro e w3 ⟨v3, rfl, h3, g3⟩
        have HX4 := Lib.hid (g3.blk HH.out HX3.out (by decide))
        have H3 := Lib.hid (And.intro h3 (HG.out.trans g3))
        clear h3 g3 hn e0 e1 e2 e3 e4 e5 e6 e7 e8 e9
        go_wp2_with fail
        go_roundw
        case rel => exact ⟨i + 1, by go_num, by omega, by have := H3.out.1; rw [HST2.out]; rw [show M.field x 65 = M.num x.a from rfl]; simpa only [List.append_assoc] using this, H3.out.2, HX4.out⟩
        case measure => simp [intOf]; omega
      · have hn : (u[i]'hlt).toNat = 66 := by rw [hR]; rfl
        rw [hR] at hst hlen2
        have HST2 := Lib.hid hst
        have HC := Lib.hid (refNum_any x.b hh hBr k3 hlen)
        clear hh hg hbx hBr hlen hlen2 hst hR hl hm hv k0 k1 k2 k3 k4 k5 il im iv
        go_wp2_with fail
        refine HC.out.mono ?_; rintro e w3 ⟨v3, rfl, h3, g3⟩
        have HX4 := Lib.hid (g3.blk HH.out HX3.out (by decide))
        have H3 := Lib.hid (And.intro h3 (HG.out.trans g3))
        clear h3 g3 hn e0 e1 e2 e3 e4 e5 e6 e7 e8 e9
        go_wp2_with fail
        go_roundw
        case rel => exact ⟨i + 1, by go_num, by omega, by have := H3.out.1; rw [HST2.out]; rw [show M.field x 66 = M.num x.b from rfl]; simpa only [List.append_assoc] using this, H3.out.2, HX4.out⟩
        case measure => simp [intOf]; omega
      · have hn : (u[i]'hlt).toNat = 67 := by rw [hR]; rfl
        rw [hR] at hst hlen2
        have HST2 := Lib.hid hst
        have HC := Lib.hid (refNum_any x.c hh hBr k4 hlen)
        clear hh hg hbx hBr hlen hlen2 hst hR hl hm hv k0 k1 k2 k3 k4 k5 il im iv
        go_wp2_with fail
        refine HC.out.mono ?_; rintro e w3 ⟨v3, rfl, h3, g3⟩
        have HX4 := Lib.hid (g3.blk HH.out HX3.out (by decide))
        have H3 := Lib.hid (And.intro h3 (HG.out.trans g3))
        clear h3 g3 hn e0 e1 e2 e3 e4 e5 e6 e7 e8 e9
        go_wp2_with fail
        go_roundw
        case rel => exact ⟨i + 1, by go_num, by omega, by have := H3.out.1; rw [HST2.out]; rw [show M.field x 67 = M.num x.c from rfl]; simpa only [List.append_assoc] using this, H3.out.2, HX4.out⟩
        case measure => simp [intOf]; omega
      · have hn : (u[i]'hlt).toNat = 78 := by rw [hR]; rfl
        rw [hR] at hst hlen2
        have HST2 := Lib.hid hst
        have K5 := Lib.hid k5
        have HLN := Lib.hid hlen
        have HPP := Lib.hid (refPut_any x.n wr k5.1 k5.2)
        clear hh hg hbx hBr hlen hlen2 hst hR hl hm hv k0 k1 k2 k3 k4 k5 il im iv
        have hh2 := HH.out
        obtain ⟨az, cz, rfl, hoz⟩ := hh2
        have HOZ := Lib.hid hoz
        clear hoz
        generalize hk : (xs ++ M.num x.op ++ (u.data.toList.take i).flatMap (M.field x)).length = kz at *
        have HK := Lib.hid hk
        clear hk
        go_wp2_with fail
        refine HPP.out.mono ?_; rintro e wp ⟨vp, rfl, hop, hbp⟩
        obtain ⟨ap, cp, rfl⟩ := own_slice hop
        have HBP := Lib.hid hbp
        have HOP := Lib.hid hop
        clear hop hbp
        go_wp2_with (at_builtin; refine wpList_append_row rfl (.tmp 53) (.tmp 56) 22 rfl B 5 1 1 (.int .u8 0) Tryz.underlying22 infoU8 rfl (by decide) az kz cz _ rfl (own_later HOZ.out HBP.out) wr.heap.size ap (M.enc (M.zig x.n)).length cp _ rfl HOP.out (fun u hu => by obtain ⟨z, _, rfl⟩ := List.mem_map.1 hu; rfl) (by have := M.num_len K5.out; have := HLN.out; unfold M.num at *; unfold maxLen; omega) (by have := M.num_len K5.out; have := HLN.out; unfold M.num at *; omega) (by have := HBP.out.size; have := HBr.out; omega) ?_; intro a3 c3 w3 hr3 ht3 hn3)
        have hfin := Grew.row HOZ.out HK.out HBr.out rfl HBP.out hr3.out ht3.out hn3.out
        have HX4 := Lib.hid (hfin.2.blk HH.out HX3.out (by decide))
        have H3 := Lib.hid (And.intro hfin.1 (HG.out.trans hfin.2))
        clear hn e0 e1 e2 e3 e4 e5 e6 e7 e8 e9 hfin
        go_roundw
        case rel => exact ⟨i + 1, by go_num, by omega, by have := H3.out.1; rw [HST2.out]; rw [show M.field x 78 = M.enc (M.zig x.n) from rfl]; simpa only [List.append_assoc] using this, H3.out.2, HX4.out⟩
        case measure => simp [intOf]; omega
      · have hn : (u[i]'hlt).toNat = 76 := by rw [hR]; rfl
        rw [hR] at hst hlen2
        have HST2 := Lib.hid hst
        have HC := Lib.hid (refNums_any (c := lc) hh hBr il hl hlen2)
        clear hh hg hbx hBr hlen hlen2 hst hR hl hm hv k0 k1 k2 k3 k4 k5 il im iv
        go_wp2_with fail
        refine HC.out.mono ?_; rintro e w3 ⟨v3, rfl, h3, g3⟩
        have HX4 := Lib.hid (g3.blk HH.out HX3.out (by decide))
        have H3 := Lib.hid (And.intro h3 (HG.out.trans g3))
        clear h3 g3 hn e0 e1 e2 e3 e4 e5 e6 e7 e8 e9
        go_wp2_with fail
        go_roundw
        case rel => exact ⟨i + 1, by go_num, by omega, by have := H3.out.1; rw [HST2.out]; rw [show M.field x 76 = M.nums x.l from rfl]; simpa only [List.append_assoc] using this, H3.out.2, HX4.out⟩
        case measure => simp [intOf]; omega
      · have hn : (u[i]'hlt).toNat = 77 := by rw [hR]; rfl
        rw [hR] at hst hlen2
        have HST2 := Lib.hid hst
        have HC := Lib.hid (refNums_any (c := mc) hh hBr im hm hlen2)
        clear hh hg hbx hBr hlen hlen2 hst hR hl hm hv k0 k1 k2 k3 k4 k5 il im iv
        go_wp2_with fail
        refine HC.out.mono ?_; rintro e w3 ⟨v3, rfl, h3, g3⟩
        have HX4 := Lib.hid (g3.blk HH.out HX3.out (by decide))
        have H3 := Lib.hid (And.intro h3 (HG.out.trans g3))
        clear h3 g3 hn e0 e1 e2 e3 e4 e5 e6 e7 e8 e9
        go_wp2_with fail
        go_roundw
        case rel => exact ⟨i + 1, by go_num, by omega, by have := H3.out.1; rw [HST2.out]; rw [show M.field x 77 = M.nums x.m from rfl]; simpa only [List.append_assoc] using this, H3.out.2, HX4.out⟩
        case measure => simp [intOf]; omega
      · have hn : (u[i]'hlt).toNat = 108 := by rw [hR]; rfl
        rw [hR] at hst hlen2
        have HST2 := Lib.hid hst
        have HC := Lib.hid (refNums_any (c := vc) hh hBr iv hv hlen2)
        clear hh hg hbx hBr hlen hlen2 hst hR hl hm hv k0 k1 k2 k3 k4 k5 il im iv
        go_wp2_with fail
        refine HC.out.mono ?_; rintro e w3 ⟨v3, rfl, h3, g3⟩
        have HX4 := Lib.hid (g3.blk HH.out HX3.out (by decide))
        have H3 := Lib.hid (And.intro h3 (HG.out.trans g3))
        clear h3 g3 hn e0 e1 e2 e3 e4 e5 e6 e7 e8 e9
        go_wp2_with fail
        go_roundw
        case rel => exact ⟨i + 1, by go_num, by omega, by have := H3.out.1; rw [HST2.out]; rw [show M.field x 108 = M.nums x.v from rfl]; simpa only [List.append_assoc] using this, H3.out.2, HX4.out⟩
        case measure => simp [intOf]; omega
    · obtain rfl : i = u.size := by omega
      have hall : u.data.toList.take u.size = u.data.toList := List.take_of_length_le (by rw [Array.length_toList]; exact Nat.le_refl _)
      rw [hall, List.append_assoc, ← HE.out] at hh
      have H4 := Lib.hid (And.intro hh hg)
      clear hh hg hbx hall hBr
      go_wp2_with fail
      go_ret
      exact ⟨_, rfl, H4.out.1, H4.out.2⟩
end Go.Proofs.YthlifflapgccbaaGreat
