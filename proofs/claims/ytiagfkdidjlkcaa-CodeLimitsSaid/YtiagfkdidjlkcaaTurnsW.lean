/- CodeTurns, for any image, place and byte. -/
import Derived.Test.YtiagfkdidjlkcaaL15
import Derived.Test.YtiagfkdidjlkcaaL09
namespace Go.Proofs.Ytiagfkdidjlkcaa
set_option linter.unusedVariables false
set_option linter.unusedSimpArgs false
open Go.ChangeShapes Go.WideShapes Go.ChangeAt Go.RowKit
open M (W)
theorem xor8 (a b : Nat) (ha : a < 256) (hb : b < 256) : bits .xor .u8 (a : Int) (b : Int) = ((a ^^^ b : Nat) : Int) := by
  have hx : a ^^^ b < 2 ^ 8 := Nat.xor_lt_two_pow (by omega) (by omega)
  have h1 : (BitVec.ofInt 8 (a : Int)).toNat = a := by
    rw [BitVec.ofInt_natCast, BitVec.toNat_ofNat]; exact Nat.mod_eq_of_lt (by omega)
  have h2 : (BitVec.ofInt 8 (b : Int)).toNat = b := by
    rw [BitVec.ofInt_natCast, BitVec.toNat_ofNat]; exact Nat.mod_eq_of_lt (by omega)
  show IntKind.u8.wrap ((BitVec.ofInt 8 (a : Int) ^^^ BitVec.ofInt 8 (b : Int)).toNat : Int) = _
  rw [BitVec.toNat_xor, h1, h2, IntKind.wrap_u8]
  omega
theorem xor_turn {x wi : Int} (hx : 0 ≤ x ∧ x ≤ 255) (hw : 0 ≤ wi ∧ wi ≤ 255) (h0 : ¬ wi = 0) : ∃ b : Int, bits .xor .u8 x wi = b ∧ 0 ≤ b ∧ b ≤ 255 ∧ b ≠ x := by
  obtain ⟨a, rfl⟩ := Int.eq_ofNat_of_zero_le hx.1
  obtain ⟨c, rfl⟩ := Int.eq_ofNat_of_zero_le hw.1
  refine ⟨_, xor8 a c (by omega) (by omega), by omega, ?_, fun e => ?_⟩
  · have : a ^^^ c < 2 ^ 8 := Nat.xor_lt_two_pow (by omega) (by omega)
    omega
  · have h1 : a ^^^ c = a := by omega
    have h2 : a ^^^ (a ^^^ c) = a ^^^ a := by rw [h1]
    rw [← Nat.xor_assoc, Nat.xor_self, Nat.zero_xor] at h2
    omega
theorem good_turn {m m' : M.Img} {XS : List Int} {k : Nat} {x b : Int} (h : M.Good XS m) (hx : XS[k]? = some x) (hb : b ≠ x) (h' : M.Good (XS.set k b) m') : m' ≠ m := fun e => by
  subst e
  have := h'.1.trans h.1.symm
  have h2 : (XS.set k b)[k]? = some b := by
    rw [List.getElem?_set_self (by exact (List.getElem?_eq_some_iff.1 hx).1)]
  rw [this, hx] at h2
  exact hb (Option.some.inj h2).symm
theorem nilImg {w : World} : ImgIs w.heap.size w ⟨none, 0, 0, none, 0, 0, none, 0, 0, none, 0, 0, none, 0, 0, 0, 0⟩ ⟨[], [], [], [], [], 0, 0⟩ :=
  ⟨rfl, rfl, by constructor <;> decide, by constructor <;> decide, ⟨Nat.zero_le _, Nat.zero_le _, Nat.zero_le _, Nat.zero_le _, Nat.zero_le _⟩, ⟨rfl, fun h => absurd h (by decide)⟩, ⟨rfl, fun h => absurd h (by decide)⟩, ⟨rfl, fun h => absurd h (by decide)⟩, ⟨rfl, fun h => absurd h (by decide)⟩, ⟨rfl, fun h => absurd h (by decide)⟩⟩
set_option maxRecDepth 100000 in
set_option maxHeartbeats 8000000 in
theorem codeTurns_w {v : ImgV} {m : M.Img} {w : World} {at' : Nat} {wi : Int} (hp : ImgIs w.heap.size w v m) (hf : M.fitImg m) (hat : at' < 18446744073709551616) (hwi : 0 ≤ wi ∧ wi ≤ 255) :
    Calls Try.prog 6 #[.agg #[.slice v.ta v.tn v.tc, .slice v.sa v.sn v.sc, .slice v.xa v.xn v.xc, .slice v.na v.nn v.nc, .slice v.fa v.fn v.fc, .int .i64 v.main, .int .i64 v.exn], .int .u64 at', .int .u8 wi] w fun e w' => e = .returned (.bool true) ∧ Below w.heap.size w w' := by
  have HLI := Lib.hid (fun W (hW : Below w.heap.size w W) => light_any (Nat.le_refl _) (hp.later hW) hf)
  have hla : M.light m = true → M.wImg m ≤ 40000 := fun h => of_decide_eq_true h
  have hsz := size_le m
  have hbl := hp.len
  have HEB := Lib.hid (fun W (hW : Below w.heap.size w W) (h : M.light m = true) => encode_bad (Nat.le_refl _) (hp.later hW) (by have := hla h; omega))
  have HEG := Lib.hid (fun W (hW : Below w.heap.size w W) (h : M.light m = true) => encode_good (Nat.le_refl _) (hp.later hW) (by have := hla h; omega) (by have := hla h; omega))
  have HLEN : Hid (M.light m = true → 4 ≤ (M.bel4 ++ M.bImg m).length ∧ (M.bel4 ++ M.bImg m).length ≤ 9000000) := fun h => by
    have := hla h
    simp only [List.length_append, M.bel4, List.length_cons, List.length_nil]
    omega
  have HGOOD : Hid (M.check m = 0 → M.Good (M.bel4 ++ M.bImg m) m) := fun h => ⟨rfl, hp.ok (M.check_zero h).2, h⟩
  have HBYTES : Hid (M.check m = 0 → M.Bytes (M.bel4 ++ M.bImg m)) := fun h => M.Bytes.app (by intro c hc; simp [M.bel4] at hc; omega) (M.byt_Img m)
  have HWI := Lib.hid hwi
  have HPM := Lib.hid hp
  have HAT := Lib.hid hat
  clear hla hsz hbl hp hf hwi hat
  obtain ⟨ta, tn, tc, sa, sn, sc, xa, xn, xc, na, nn, nc, fa, fn, fc, mi, ei⟩ := v
  dsimp only at HLI HEB HEG ⊢
  generalize M.light m = lt at *
  have hb0 : Below w.heap.size w (w.alloc (.cells #[.slice ta tn tc, .slice sa sn sc, .slice xa xn xc, .slice na nn nc, .slice fa fn fc, .int .i64 mi, .int .i64 ei] 27)) := (Still.below ((Still.refl w).alloc _))
  have HB0 := Lib.hid hb0
  have HX0 := Lib.hid (Blk.new w 27 #[.slice ta tn tc, .slice sa sn sc, .slice xa xn xc, .slice na nn nc, .slice fa fn fc, .int .i64 mi, .int .i64 ei])
  clear hb0
  go_enter Try.func6, Try.ntmps6
  go_wp2_with fail
  refine (HLI.out _ HB0.out).mono ?_; rintro e w1 ⟨rfl, t1⟩
  have HB1 := Lib.hid (below_next HB0.out (Still.below t1))
  have HX1 := Lib.hid (t1.blk HX0.out)
  clear t1
  obtain ⟨b0, b1, b2, b3, b4, b5, b6, b7⟩ := imgBox HX1.out
  by_cases hq : lt = false ∨ wi = 0
  · skip
    cases lt with
    | false =>
      go_wp2_with fail
      clear b0 b1 b2 b3 b4 b5 b6 b7
      refine (lives4_any _).mono ?_; rintro e w2 ⟨rfl, t2⟩
      have HB2 := Lib.hid (below_next HB1.out t2)
      clear t2
      go_wp2_with fail
      go_ret
      exact ⟨rfl, HB2.out⟩
    | true =>
      obtain rfl : wi = 0 := by simpa using hq
      clear hq
      go_wp2_with fail
      clear b0 b1 b2 b3 b4 b5 b6 b7
      refine (lives4_any _).mono ?_; rintro e w2 ⟨rfl, t2⟩
      have HB2 := Lib.hid (below_next HB1.out t2)
      clear t2
      go_wp2_with fail
      go_ret
      exact ⟨rfl, HB2.out⟩
  · obtain rfl : lt = true := by cases lt <;> simp_all
    have HW0 : Hid (¬ wi = 0) := fun e => hq (.inr e)
    have x0 : (wi == 0) = false := beq_eq_false_iff_ne.2 HW0.out
    clear hq
    by_cases hr : M.check m = 0
    · rw [hr] at HEG HGOOD HBYTES
      have HG := Lib.hid (HGOOD.out rfl)
      have HBY := Lib.hid (HBYTES.out rfl)
      have HLE := Lib.hid (HLEN.out rfl)
      clear hr HGOOD HBYTES HLEN
      go_wp2_with fail
      clear b0 b1 b2 b3 b4 b5 b6 b7
      refine (HEG.out _ HB1.out (by simp) (by simp)).mono ?_; rintro e w2 ⟨a, c, rfl, ho, t2⟩
      have HB2 := Lib.hid (below_next HB1.out t2)
      have HO := Lib.hid ho
      have t2' := t2
      clear t2 ho
      obtain ⟨XS, hXS⟩ : ∃ XS, M.bel4 ++ M.bImg m = XS := ⟨_, rfl⟩
      rw [hXS] at HO HG HBY HLE
      rw [hXS]
      have hkk := HLE.out
      obtain ⟨kk, hkl⟩ : ∃ kk, XS.length = kk := ⟨_, rfl⟩
      have HKL := Lib.hid hkl
      rw [hkl] at HO hkk
      rw [hkl]
      clear hkl
      obtain ⟨r, rfl, hraw⟩ := own_raw (L := XS) (by rw [HKL.out]; exact HO.out) (by rw [HKL.out]; omega)
      have hkc : kk ≤ c ∧ c ≤ maxLen := by have := hraw.le; rw [HKL.out] at this; exact this
      obtain ⟨k, hk⟩ : ∃ k, at' % kk = k := ⟨_, rfl⟩
      have hkle : k < kk := by rw [← hk]; exact Nat.mod_lt at' (show 0 < kk by omega)
      have e1 : wrap64 ((at' : Int) % (kk : Int)) = (k : Int) := by
        rw [show ((at' : Int) % (kk : Int)) = ((at' % kk : Nat) : Int) by push_cast; rfl, hk]
        unfold wrap64
        omega
      have hat := HAT.out
      obtain ⟨x, hx⟩ : ∃ x, XS[k]? = some x := ⟨_, List.getElem?_eq_getElem (by rw [HKL.out]; exact hkle)⟩
      have hxb : 0 ≤ x ∧ x ≤ 255 := HBY.out x (List.mem_of_getElem? hx)
      have d0 : w2.cell? ⟨r, k, none⟩ = some (.int .u8 x) := by
        have := hraw.cells k (by rw [HKL.out]; exact hkle)
        rw [Nat.zero_add] at this
        rw [this]
        simp [List.getD, hx]
      have d1 : w2.frozen? ⟨r, k, none⟩ = false := World.ownsRow.frozenAt HO.out k
      have hkc1 := hkc.1
      have hkc2 : c ≤ 9223372036854775807 := by have := hkc.2; unfold maxLen at this; omega
      have y0 : ((kk : Int) == 0) = false := beq_eq_false_iff_ne.2 (by omega)
      have HX := Lib.hid hx
      clear hraw hkc hk hx
      obtain ⟨bb, hbb, hb0, hb1, hbx⟩ := xor_turn hxb HWI.out HW0.out
      have HBX := Lib.hid hbx
      have hrow := (World.ownsRow.stored HO.out k (.int .u8 bb)).1
      rw [← List.map_set] at hrow
      have hrl := HO.out.lt r rfl
      have hBT : Below w.heap.size w (w2.setCell ⟨r, k, none⟩ (.int .u8 bb)) := HB2.out.trans (((Turn.refl (fun i => i = r) w2).setCell (p := ⟨r, k, none⟩) (fun _ => rfl) _).below HB2.out.size (fun b hb => by have := HB1.out.size; omega))
      have HBT := Lib.hid hBT
      have HXT := Lib.hid ((Below.blk t2' HX1.out).keep ((Turn.refl (fun i => i = r) w2).setCell (p := ⟨r, k, none⟩) (fun _ => rfl) (.int .u8 bb)) (by have := HX1.out.lt; omega))
      obtain ⟨r2, e2, hraw2⟩ := own_raw (L := XS.set k bb) (by rw [List.length_set, HKL.out]; exact hrow) (by rw [List.length_set, HKL.out]; omega)
      have hdec := decode_any hraw2 (fun c hc => by
        rcases List.mem_or_eq_of_mem_set hc with h | rfl
        · exact HBY.out c h
        · exact ⟨hb0, hb1⟩) (by rw [List.length_set, HKL.out]; omega)
      rw [List.length_set, HKL.out] at hdec
      simp only [Option.some.injEq, Addr.mk.injEq, and_true] at e2
      subst e2
      have HDEC := Lib.hid hdec
      clear hraw2 hrow hBT hdec hbx hb0 hb1 hxb hrl t2'
      go_wp2_with fail
      refine HDEC.out.mono ?_; rintro e w3 ⟨t3, hres⟩
      have HB3 := Lib.hid (below_next HBT.out (Still.below t3))
      have HX3 := Lib.hid (t3.blk HXT.out)
      have HT3 := Lib.hid t3
      clear t3 HDEC hbb
      rcases hres with ⟨y, m', rfl, hq, hg⟩ | ⟨rfl, hno⟩
      · have hne := good_turn HG.out HX.out HBX.out hg
        have HIY := Lib.hid (hq.is (B := w3.heap.size) fun b hb => hb.2)
        obtain ⟨ya, yb, yc, yd, ye, yf, yg, yh, yi, yj, yk, yl, ym, yn, yo, yp, yq⟩ := y
        have S4 : Hid (Still w3 (w3.alloc (.cells #[.slice ya yb yc, .slice yd ye yf, .slice yg yh yi, .slice yj yk yl, .slice ym yn yo, .int .i64 yp, .int .i64 yq] 27))) := (Still.refl w3).alloc _
        have HB4 := Lib.hid (below_next HB3.out (Still.below S4.out))
        have HX4 := Lib.hid (S4.out.blk HX3.out)
        have HSAME := Lib.hid (Same_any (HIY.out.later (Still.below S4.out)) (HPM.out.later HB4.out) (Nat.le_refl _))
        obtain ⟨b0, b1, b2, b3, b4, b5, b6, b7⟩ := imgBox HX4.out
        obtain ⟨n0, n1, n2, n3, n4, n5, n6, n7⟩ := imgBox (Blk.new w3 27 #[.slice ya yb yc, .slice yd ye yf, .slice yg yh yi, .slice yj yk yl, .slice ym yn yo, .int .i64 yp, .int .i64 yq])
        have HNE := Lib.hid hne
        clear hq hg hne
        dsimp only
        go_wp2_with fail
        refine HSAME.out.mono ?_; rintro e w5 ⟨rr, rfl, hrr, t5⟩
        obtain rfl : rr = false := by
          cases rr with
          | false => rfl
          | true => exact absurd (hrr.1 rfl) HNE.out
        have HB5 := Lib.hid (below_next HB4.out (Still.below t5))
        clear t5 hrr b0 b1 b2 b3 b4 b5 b6 b7 n0 n1 n2 n3 n4 n5 n6 n7
        go_wp2_with fail
        refine (lives4_any _).mono ?_; rintro e w6 ⟨rfl, t6⟩
        have HB6 := Lib.hid (below_next HB5.out t6)
        clear t6
        go_wp2_with fail
        go_ret
        exact ⟨rfl, HB6.out⟩
      · have S4 : Hid (Still w3 (w3.alloc (.cells #[.slice none 0 0, .slice none 0 0, .slice none 0 0, .slice none 0 0, .slice none 0 0, .int .i64 0, .int .i64 0] 27))) := (Still.refl w3).alloc _
        have HB4 := Lib.hid (below_next HB3.out (Still.below S4.out))
        have HSAME := Lib.hid (Same_any (nilImg (w := w3.alloc (.cells #[.slice none 0 0, .slice none 0 0, .slice none 0 0, .slice none 0 0, .slice none 0 0, .int .i64 0, .int .i64 0] 27))) nilImg (Nat.le_refl _))
        obtain ⟨n0, n1, n2, n3, n4, n5, n6, n7⟩ := imgBox (Blk.new w3 27 #[.slice none 0 0, .slice none 0 0, .slice none 0 0, .slice none 0 0, .slice none 0 0, .int .i64 0, .int .i64 0])
        clear hno
        go_wp2_with fail
        refine HSAME.out.mono ?_; rintro e w5 ⟨rr, rfl, hrr, t5⟩
        obtain rfl : rr = true := hrr.2 (by simp)
        have HB5 := Lib.hid (below_next HB4.out (Still.below t5))
        clear t5 hrr n0 n1 n2 n3 n4 n5 n6 n7
        go_wp2_with fail
        refine (lives4_any _).mono ?_; rintro e w6 ⟨rfl, t6⟩
        have HB6 := Lib.hid (below_next HB5.out t6)
        clear t6
        go_wp2_with fail
        go_ret
        exact ⟨rfl, HB6.out⟩
    · have hr1 : (M.check m != (0 : Int)) = true := bne_iff_ne.2 hr
      go_wp2_with fail
      clear b0 b1 b2 b3 b4 b5 b6 b7
      refine (HEB.out _ HB1.out (by simp) hr).mono ?_; rintro e w2 ⟨rfl, t2⟩
      have HB2 := Lib.hid (below_next HB1.out (Still.below t2))
      clear t2
      go_wp2_with fail
      refine (lives4_any _).mono ?_; rintro e w3 ⟨rfl, t3⟩
      have HB3 := Lib.hid (below_next HB2.out t3)
      clear t3
      go_wp2_with fail
      go_ret
      exact ⟨rfl, HB3.out⟩
theorem codeTurns_z {v : ImgV} {m : M.Img} {w : World} {z wi : Int} (hp : ImgIs w.heap.size w v m) (hf : M.fitImg m) (hz : (Lit.int .u64 z).wf = true) (hw : (Lit.int .u8 wi).wf = true) :
    Calls Try.prog 6 #[.agg (ImgV.cells v), .int .u64 z, .int .u8 wi] w fun e w' => e = .returned (.bool true) ∧ Below w.heap.size w w' := by
  have h1 : IntKind.u64.min = 0 := rfl
  have h2 : IntKind.u64.max = 18446744073709551615 := rfl
  have h3 : IntKind.u8.min = 0 := rfl
  have h4 : IntKind.u8.max = 255 := rfl
  simp [Lit.wf, h1, h2] at hz
  simp [Lit.wf, h3, h4] at hw
  obtain ⟨n, rfl⟩ := Int.eq_ofNat_of_zero_le hz.1
  exact codeTurns_w hp hf (by omega) hw
end Go.Proofs.Ytiagfkdidjlkcaa
