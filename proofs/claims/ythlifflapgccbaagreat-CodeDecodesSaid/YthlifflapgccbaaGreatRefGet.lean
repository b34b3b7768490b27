/- The contract of the document's own Get. -/
import Derived.Test.YthlifflapgccbaaGreatL01
import Derived.Deep.RegionWith
import Derived.Laws.BytesArg
namespace Go.Proofs.YthlifflapgccbaaGreat
set_option linter.unusedVariables false
open Go.ChangeShapes Go.WideShapes Go.ChangeAt Go.RowKit
open M (W)

/-- A row of bytes of the call's own, as a string. -/
theorem own_string {w : World} {base : Nat} {v : Value} {n : Nat} {xs : List Int} (h : w.ownsRow base 5 1 v n (xs.map (Value.int .u8))) :
    (convert 22 9 v).run Tryz.prog w = .ok (.string (strOfNums xs)) w := by
  obtain ⟨hl, h⟩ := h
  rcases h with ⟨rfl, rfl⟩ | ⟨g, cap, cur, rfl, hb, hg, h1, h2, h3, h4⟩
  · have : xs = [] := by simpa using hl
    subst this
    exact run_convert_bytes_nil w 22 5 Tryz.underlying22 Tryz.underlying5 0 0 9 Tryz.underlying9
  · refine run_convert_bytes_arg w 22 5 Tryz.underlying22 Tryz.underlying5 g 0 n cap xs (by simpa using hl) ?_ 9 Tryz.underlying9
    intro i hi
    have hn : xs.length = n := by simpa using hl
    have hx : (cur.toList.take (n * 1))[i]? = some (.int .u8 (xs.getD i 0)) := by
      rw [h4]; simp [List.getD, List.getElem?_eq_getElem (show i < xs.length by omega)]
    rw [List.getElem?_take_of_lt (by omega)] at hx
    rw [Array.getElem?_toList] at hx
    simp only [World.cell?, hg, Nat.zero_add]
    simpa using hx

theorem str_eq {a b : List Int} (ha : ∀ c ∈ a, 0 ≤ c ∧ c ≤ 255) (hb : ∀ c ∈ b, 0 ≤ c ∧ c ≤ 255) (h : ((strOfNums a).toList == (strOfNums b).toList) = true) : a = b := by
  have h1 : (strOfNums a).toList = (strOfNums b).toList := by simpa using h
  rw [ByteArray.toList_eq, ByteArray.toList_eq, strOfNums_data, strOfNums_data] at h1
  clear h
  induction a generalizing b with
  | nil => cases b with
    | nil => rfl
    | cons y b => simp at h1
  | cons x a ih => cases b with
    | nil => simp at h1
    | cons y b =>
      simp only [List.map_cons, List.cons.injEq] at h1
      have hx := ha x (by simp)
      have hy := hb y (by simp)
      have e : x.toNat % 256 = y.toNat % 256 := by
        have := congrArg UInt8.toNat h1.1
        simpa using this
      rw [ih (fun c hc => ha c (by simp [hc])) (fun c hc => hb c (by simp [hc])) h1.2]
      congr 1; omega
theorem str_ne {a b : List Int} (h : ((strOfNums a).toList == (strOfNums b).toList) = false) : a ≠ b := by
  intro e; subst e; simp at h

def vv (p : List Int) : Nat := M.val p % 18446744073709551616
def uu (i : Nat) : Nat := 128 ^ i % 18446744073709551616
theorem vv_step {p : List Int} {c : Int} {i : Nat} (hp : p.length = i) (c0 : 0 ≤ c) : IntKind.u64.wrap ((vv p : Int) + IntKind.u64.wrap (c % 128 * (uu i : Int))) = (vv (p ++ [c]) : Int) := by
  obtain ⟨C, hC⟩ := Int.eq_ofNat_of_zero_le (show 0 ≤ c % 128 by omega)
  have hC2 : c.toNat % 128 = C := by omega
  have e : (C * (128 ^ i % 18446744073709551616)) % 18446744073709551616 = (C * 128 ^ i) % 18446744073709551616 := by rw [Nat.mul_mod, Nat.mod_mod, ← Nat.mul_mod]
  have e1 : IntKind.u64.wrap ((C : Int) * (uu i : Int)) = ((C * 128 ^ i % 18446744073709551616 : Nat) : Int) := by
    rw [IntKind.wrap_u64]; unfold uu; rw [← e]; simp only [Int.natCast_emod, Int.natCast_mul, Int.natCast_pow, Int.cast_ofNat_Int]
  rw [hC, e1, IntKind.wrap_u64]
  unfold vv
  rw [M.val_append, hC2, hp]
  omega
theorem uu_step (i : Nat) : IntKind.u64.wrap ((uu i : Int) * 128) = (uu (i + 1) : Int) := by
  rw [IntKind.wrap_u64]; unfold uu; rw [Nat.pow_succ]; omega
theorem vv_lt (p : List Int) : vv p < 18446744073709551616 := Nat.mod_lt _ (by decide)
theorem refPut_of (n : Int) (X : Nat) (w : World) (hX : X < 18446744073709551616) (hn : M.zag X = n) : Calls Tryz.prog 74 #[.int .i64 n] w fun e w' =>
    ∃ v, e = .returned v ∧ w'.ownsRow w.heap.size 5 1 v (M.enc X).length ((M.enc X).map (Value.int .u8)) ∧ Below w.heap.size w w' := by
  have hb := M.zag_bd hX
  rw [hn] at hb
  have := refPut_any n w hb.1 hb.2
  rwa [← hn, M.zig_zag, hn] at this
theorem zag_even {X : Nat} (h : X % 2 = 0) : M.zag X = (X : Int) / 2 := by unfold M.zag; rw [if_pos h]; omega
theorem zag_odd {X : Nat} (h : X % 2 = 1) : M.zag X = -((X : Int) / 2) - 1 := by unfold M.zag; rw [if_neg (by omega)]; omega
theorem slice_part (b off len cap k j : Nat) (h1 : k < j) (h2 : j ≤ cap) (w : World) :
    (Instr.slice 22 (.slice (some ⟨b, off, none⟩) len cap) (some (.int .i64 k)) (some (.int .i64 j)) none).run Tryz.prog w = .ok (.slice (some ⟨b, off + k, none⟩) (j - k) (cap - k)) w := by
  rw [run_slice_lh w 22 _ _ _ (by kernel_rfl) _ _ _ _ (by omega) (by omega) (by omega)]
  have hs : (sizeOf (Tryz.prog.elem 22)).run Tryz.prog w = .ok 1 w := by kernel_rfl
  rw [hs]
  simp only [Result.andThen, sliced, Int.toNat_natCast, Nat.mul_one]
  rw [if_neg (by omega)]
  simp [Addr.add]
theorem part_string {w : World} {b off : Nat} {L : List Int} (k n : Nat) (cap : Nat) (h : k + n ≤ L.length) (hc : ∀ j, j < L.length → w.cell? ⟨b, off + j, none⟩ = some (.int .u8 (L.getD j 0))) :
    (convert 22 9 (.slice (some ⟨b, off + k, none⟩) n cap)).run Tryz.prog w = .ok (.string (strOfNums ((L.drop k).take n))) w := by
  refine run_convert_bytes_arg w 22 5 Tryz.underlying22 Tryz.underlying5 b (off + k) n cap ((L.drop k).take n) (by simp; omega) ?_ 9 Tryz.underlying9
  intro i hi
  rw [Nat.add_assoc, hc (k + i) (by omega)]
  simp [List.getD, hi]
set_option maxRecDepth 100000 in
set_option maxHeartbeats 3200000 in
theorem refGet_in (b off cap : Nat) (L : List Int) (k : Nat) (w : World) (hm : L.length ≤ 140737488351232) (hk : k < L.length) (hcap : L.length ≤ cap) (hbk : b < w.heap.size)
    (hc : ∀ j, j < L.length → w.cell? ⟨b, off + j, none⟩ = some (.int .u8 (L.getD j 0))) (hr : ∀ c ∈ L, 0 ≤ c ∧ c ≤ 255) :
    Calls Tryz.prog 42 #[.slice (some ⟨b, off, none⟩) L.length cap, .int .i64 k] w fun e w' => e = .returned (getRes L k) ∧ Below w.heap.size w w' := by
  go_enter Tryz.func42, Tryz.ntmps42
  go_wp2_with fail
  go_loop [7, 8, 9] (fun v u x => ∃ i : Nat, i ≤ 10 ∧ k + i ≤ L.length ∧ x = .int .i64 ((k : Int) + i) ∧ v = .int .u64 (vv ((L.drop k).take i)) ∧ u = .int .u64 (uu i) ∧ M.all8 ((L.drop k).take i)) (fun _ _ x => L.length - (intOf x).toNat)
  case atStart => exact ⟨0, by omega, by omega, by go_num, rfl, rfl, by intro c hc; simp at hc⟩
  case round =>
    obtain ⟨i, hi, hi2, rfl, rfl, rfl, h8⟩ := hrel
    by_cases hlt : i < 10 ∧ k + i < L.length
    · obtain ⟨hlt, hlt2⟩ := hlt
      obtain ⟨p, r, c, hD, hp, hpl, hcv, hcm, hsn⟩ := at_byte (L := L) (k := k) (i := i) hlt2
      have hcell := hc (k + i) (by omega)
      rw [← hcv] at hcell
      obtain ⟨c0, c1⟩ := hr c hcm
      rw [← hp] at h8 ⊢
      have hg1 : (k : Int) + i < L.length := by omega
      have hg2 : (k : Int) + i < k + 10 := by omega
      have HC := Lib.hid hc; have HR := Lib.hid hr; have HD := Lib.hid hD; have HP := Lib.hid hp; have HL := Lib.hid hpl; have HS := Lib.hid hsn; have HV := Lib.hid hcv; have H8 := Lib.hid h8
      clear hc hr hD hp hpl hsn hcv h8 hcm
      have hX := vv_lt (p ++ [c])
      have hu := vv_step (c := c) HL.out c0
      have hu2 := uu_step i
      by_cases hcont : 128 ≤ c
      · go_wp2_with fail
        go_round
        case rel => exact ⟨i + 1, by omega, by omega, by go_num, by rw [HS.out], rfl, by rw [← HS.out]; exact all8_snoc H8.out hcont c1⟩
        case measure => simp [intOf]; omega
      · have HF := Lib.hid (M.fits_iff H8.out (by have := HL.out; omega) c0 (by omega : c < 128))
        have HT := Lib.hid (fun hf => M.fits_lt (p := p) (c := c) (by have := HL.out; omega) c0 hf)
        generalize hg : vv (p ++ [c]) = X at *
        have HX := Lib.hid hg; clear hg
        have hsl : ∀ w', Below w.heap.size w w' → (convert 22 9 (.slice (some ⟨b, off + k, none⟩) (i + 1) (cap - k))).run Tryz.prog w' = .ok (.string (strOfNums (p ++ [c]))) w' := by
          intro w' hb
          rw [HS.out]
          exact part_string k (i + 1) (cap - k) (by omega) (fun j hj => by rw [hb.cell (p := ⟨b, off + j, none⟩) hbk]; exact HC.out j hj)
        have hsp : ∀ w', (Instr.slice 22 (.slice (some ⟨b, off, none⟩) L.length cap) (some (.int .i64 k)) (some (.int .i64 ((k : Int) + i + 1))) none).run Tryz.prog w' = .ok (.slice (some ⟨b, off + k, none⟩) (i + 1) (cap - k)) w' := by
          intro w'
          have := slice_part b off L.length cap k (k + i + 1) (by omega) (by omega) w'
          rw [show k + i + 1 - k = i + 1 by omega] at this
          rw [← this]; simp
        have hbd : Below w.heap.size w w.drew := (Below.refl _ _).drew
        have hsum : IntKind.i64.wrap ((k : Int) + i + 1) = (k : Int) + i + 1 := IntWalk.i64_in _ (by omega)
        have HB := Lib.hid (show ∀ x ∈ p ++ [c], 0 ≤ x ∧ x ≤ 255 by
          intro x hx; rw [List.mem_append] at hx
          rcases hx with hx | hx
          · have := H8.out x hx; omega
          · simp at hx; omega)
        have HX1 := Lib.hid (show M.val (p ++ [c]) % 18446744073709551616 = X from HX.out)
        by_cases hpar : X % 2 = 1
        · go_wp2_with fail
          go_region_with ((go_at_call 74; refine (refPut_of _ X _ hX (zag_odd hpar)).mono ?_; rintro e w1 ⟨v, rfl, hown, hb⟩; have hb1 : Below w.heap.size w w1 := hbd.trans hb; have hcv := own_string hown; clear hown hb))
          all_goals go_wp2
          all_goals go_ret3
          all_goals first
            | (have hf := HF.out.2 (by rw [HX1.out]; exact str_eq (M.enc_bd X) HB.out ‹_›)
               have hv := HT.out hf
               have hXv : M.val (p ++ [c]) = X := by rw [← HX.out]; exact (Nat.mod_eq_of_lt hv).symm
               refine ⟨?_, by assumption⟩
               rw [getRes_some hk (by rw [HD.out]; exact M.got_yes H8.out (by have := HL.out; omega) (by omega) hf), HL.out, hXv, zag_odd hpar]
               go_num)
            | (have hne := str_ne ‹_›
               have hf : M.fits (p ++ [c]) = false := by
                 cases hf : M.fits (p ++ [c]) with
                 | false => rfl
                 | true => exact absurd (by have := HF.out.1 hf; rw [HX1.out] at this; exact this) hne
               refine ⟨?_, by assumption⟩
               rw [getRes_none hk (by rw [HD.out]; exact M.got_no H8.out (by have := HL.out; omega) (by omega) hf)]; rfl)
        · have hpar0 : X % 2 = 0 := by omega
          clear hpar
          go_wp2_with fail
          go_region_with ((go_at_call 74; refine (refPut_of _ X _ hX (zag_even hpar0)).mono ?_; rintro e w1 ⟨v, rfl, hown, hb⟩; have hb1 : Below w.heap.size w w1 := hbd.trans hb; have hcv := own_string hown; clear hown hb))
          all_goals go_wp2
          all_goals go_ret3
          all_goals first
            | (have hf := HF.out.2 (by rw [HX1.out]; exact str_eq (M.enc_bd X) HB.out ‹_›)
               have hv := HT.out hf
               have hXv : M.val (p ++ [c]) = X := by rw [← HX.out]; exact (Nat.mod_eq_of_lt hv).symm
               refine ⟨?_, by assumption⟩
               rw [getRes_some hk (by rw [HD.out]; exact M.got_yes H8.out (by have := HL.out; omega) (by omega) hf), HL.out, hXv, zag_even hpar0]
               go_num)
            | (have hne := str_ne ‹_›
               have hf : M.fits (p ++ [c]) = false := by
                 cases hf : M.fits (p ++ [c]) with
                 | false => rfl
                 | true => exact absurd (by have := HF.out.1 hf; rw [HX1.out] at this; exact this) hne
               refine ⟨?_, by assumption⟩
               rw [getRes_none hk (by rw [HD.out]; exact M.got_no H8.out (by have := HL.out; omega) (by omega) hf)]; rfl)
    · have HE := Lib.hid (show M.got (L.drop k) = none by
        have h := M.got_end (r := (L.drop k).drop i) h8 (by rcases Nat.lt_or_ge i 10 with h | h; · right; simp; omega
                                                            · left; rw [List.length_take]; simp; omega)
        rwa [List.take_append_drop] at h)
      clear hc hr h8
      by_cases h10 : (k : Int) + i < L.length
      · have h11 : ¬ (k : Int) + i < k + 10 := by omega
        go_wp2_with fail
        go_ret3
        refine ⟨?_, Below.refl _ _⟩
        rw [getRes_none hk HE.out]; rfl
      · go_wp2_with fail
        go_ret3
        refine ⟨?_, Below.refl _ _⟩
        rw [getRes_none hk HE.out]; rfl
end Go.Proofs.YthlifflapgccbaaGreat
