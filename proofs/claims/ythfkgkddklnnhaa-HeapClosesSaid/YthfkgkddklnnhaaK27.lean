/- Lemmas, put together: Read. -/
import Derived.Test.YthfkgkddklnnhaaK26
import Derived.Test.YthfkgkddklnnhaaK19
import Derived.Deep.RegionLaw
import Derived.Deep.RegionHeld3
import Derived.Deep.QuietTactic
import Derived.BigQuiet
/- The document's Read: the objects that a row of words is, or none. -/
namespace Go.Proofs.Ythfkgkddklnnhaa
set_option linter.unusedVariables false
open Go.ChangeShapes Go.WideShapes Go.ChangeAt Go.RowKit
open M (W)

/-- The first n words of f can be read there. -/
structure RdW (w : World) (a : Option Addr) (n : Nat) (f : Nat → Nat) : Prop where
  at_ : 0 < n → ∃ b off, a = some ⟨b, off, none⟩ ∧ b < w.heap.size ∧ ∀ i, i < n → w.cell? ⟨b, off + i, none⟩ = some (.int .u64 (f i : Nat))
theorem RdW.still {w w' : World} {a : Option Addr} {n : Nat} {f : Nat → Nat} (h : RdW w a n f) (t : Still w w') : RdW w' a n f :=
  ⟨fun h0 => by
    obtain ⟨b, off, e, hb, hc⟩ := h.at_ h0
    exact ⟨b, off, e, Nat.lt_of_lt_of_le hb t.size, fun i hi => by rw [t.cell (p := ⟨b, _, none⟩) hb]; exact hc i hi⟩⟩
def ReadPost (s : St) (la : Option Addr) (top : Nat) (w : World) (e : Ending) (w' : World) : Prop :=
  (∃ x : Rf, e = .returned (.tuple #[x.ptr, .bool true]) ∧ RfIs w.heap.size w' x ∧ x.a = la ∧ x.n = s.n ∧ x.len = s.m ∧ x.K = s.lk ∧ x.N = s.ln ∧ LaidAs s top x.L ∧ Still w w') ∨
  (e = .returned (.tuple #[.pointer none, .bool false]) ∧ Still w w' ∧ ∀ l, ¬ s.closes top l)
/-- What Read has between two objects. -/
structure Mid (w : World) (s : St) (la : Option Addr) (gx p : Nat) (wr : World) (x : Rf) : Prop where
  a : x.a = la
  rf : RfIs w.heap.size wr x
  gx : x.gx = gx
  n : x.n = s.n
  len : x.len = s.m
  K : x.K = s.lk
  N : x.N = s.ln
  took : Took s p x.L
  still : Still w wr
theorem Mid.start (w : World) (s : St) (a : Option Addr) (c : Nat) (hL : Lays w a s.m s.lk s.ln) : Mid w s a w.heap.size 0 (w.alloc (.cells #[.int .i64 s.n, .slice a s.m c, .slice none 0 0] 39)) (Rf.new w.heap.size s.n a s.m c s.lk s.ln) := by
  have T : Still w (w.alloc (.cells #[.int .i64 s.n, .slice a s.m c, .slice none 0 0] 39)) := (Still.refl w).alloc _
  refine ⟨rfl, ⟨Nat.le_refl _, T.size, ?_, hL.still T, ?_, World.ownsRow_nil _ _ _ _, fun o ho => by simp [Rf.new] at ho, by simp [Rf.new], by simp [Rf.new]⟩, rfl, rfl, rfl, rfl, rfl, ⟨rfl, fun o ho => by simp [Rf.new] at ho⟩, T⟩
  · refine ⟨_, heap_alloc_new w _, rfl, fun i hi => ?_⟩
    match i, hi with
    | 0, _ => rfl
    | 1, _ => rfl
    | 2, _ => rfl
  · intro b off e hl
    obtain ⟨b', off', e', hb, _⟩ := hL.at_ hl
    have : some (⟨b, off, none⟩ : Addr) = some ⟨b', off', none⟩ := e.symm.trans e'
    injection this with this
    injection this with e1 _ _
    omega
theorem Mid.go {w wr wr' : World} {s : St} {la : Option Addr} {gx p : Nat} {x : Rf} (h : Mid w s la gx p wr x) (t : Still wr wr') : Mid w s la gx p wr' x := { h with rf := h.rf.still t, still := h.still.trans t }
theorem Mid.kd {w wr : World} {s : St} {la : Option Addr} {gx p : Nat} {x : Rf} (h : Mid w s la gx p wr x) (i : Int) : M.kd x.len x.K i = s.kind i ∧ M.kd x.len x.N i = s.len i := by
  rw [h.len, h.K, h.N]; exact ⟨rfl, rfl⟩
/-- One object more. -/
theorem Mid.more {w wr W W4 : World} {s : St} {la : Option Addr} {gx p g cap : Nat} {x : Rf} {o : RO} (h : Mid w s la gx p wr x) (hW : Still wr W) (ho : o.row W wr.heap.size)
    (hrow : W4.ownsRow w.heap.size 73 5 (.slice (some ⟨g, 0, none⟩) (x.L.length + 1) cap) (x.L.length + 1) (x.L.flatMap RO.cells ++ o.cells)) (t4 : Turn (fun k => x.lv.ownBlock = some k) W W4) (hl : x.L.length < 1000) (hg : Good s o) (hat : o.at_ = p) :
    Mid w s la gx (p + s.sz o) (W4.setCell ⟨x.gx, 2, none⟩ (.slice (some ⟨g, 0, none⟩) (x.L.length + 1) cap)) (x.more (.slice (some ⟨g, 0, none⟩) (x.L.length + 1) cap) o) := by
  obtain ⟨r1, r2⟩ := h.rf.more hW ho hrow t4 hl
  refine ⟨h.a, r1, h.gx, h.n, h.len, h.K, h.N, h.took.snoc hg hat, ?_⟩
  refine Still.own h.still (r2.mono ?_)
  rintro k _ (rfl | hk)
  · exact h.rf.base
  · exact (h.rf.row.lt k hk).1
theorem need_of {K L N : Int} (h : M.needE K L N = 0) : K ≠ 0 ∧ 0 ≤ N ∧ N ≤ 65536 ∧ M.need K L N = if K = 3 then 1 + (N + 7) / 8 else 1 + N := by
  unfold M.needE at h
  unfold M.need
  by_cases c1 : K = 0 ∨ N < 0 ∨ (K = 1 ∧ N ≠ L)
  · rw [if_pos c1] at h; omega
  · rw [if_neg c1] at h ⊢
    by_cases c2 : 65536 < N
    · rw [if_pos c2] at h; omega
    · rw [if_neg c2]; exact ⟨by omega, by omega, by omega, rfl⟩
theorem field_byte (V q j : Nat) (h : q = j * 8) : ((V : Int) / ((2 ^ q : Nat) : Int) % 256) = (M.byteOf V j : Nat) := by
  rw [Int.natCast_pow]; exact byte_fin V q j h
set_option maxRecDepth 100000 in
set_option maxHeartbeats 8000000 in
theorem read_in (s : St) (top : Nat) (htop : top ≤ s.n) (hn : s.n ≤ 1000) (hm : s.m ≤ 512) (hkk : ∀ j, j < s.m → s.lk j = 1 ∨ s.lk j = 2 ∨ s.lk j = 3) (hws : ∀ i, s.ws i < 18446744073709551616) (a : Option Addr) (c : Nat) (la : Option Addr) (lc : Nat) (w : World) (hR : RdW w a s.n s.ws) (hc : s.n ≤ c) (hcm : c ≤ maxLen) (hL : Lays w la s.m s.lk s.ln) :
    Calls Try.prog 10 #[.slice a s.n c, .int .i64 top, .slice la s.m lc] w (ReadPost s la top w) := by
  unfold maxLen at hcm
  have HS := Lib.hid (Mid.start w s la lc hL)
  have HR := Lib.hid hR
  have HL := Lib.hid hL
  have HK := Lib.hid hkk
  have HWS := Lib.hid hws
  have xt1 : decide ((top : Int) < 0) = false := decide_eq_false (by omega)
  have xt2 : decide (s.n < top) = false := decide_eq_false (by omega)
  clear hR hL hkk hws
  go_enter Try.func10, Try.ntmps10
  go_wp2_with fail
  go_loopw [9] (fun v wr => ∃ (p : Nat) (x : Rf), v = .int .i64 p ∧ p ≤ top ∧ Mid w s la w.heap.size p wr x) (fun v _ => top - (intOf v).toNat)
  case atStart => exact ⟨0, _, rfl, by omega, HS.out⟩
  case round =>
    clear HS
    obtain ⟨p, x, rfl, hp, hmid⟩ := hrel
    have HM := Lib.hid hmid
    have hgx := hmid.gx
    have HPT : Hid (x.ptr = .pointer (some ⟨w.heap.size, 0, none⟩)) := by show Value.pointer (some ⟨x.gx, 0, none⟩) = _; rw [hgx]
    clear hmid hgx
    by_cases hlt : p < top
    · obtain ⟨b, off, rfl, hb, hcell⟩ := (HR.out.still HM.out.still).at_ (by omega)
      have cv := hcell p (by omega)
      clear hcell
      have hv := HWS.out p
      obtain ⟨A, hA⟩ : ∃ A : Nat, M.sh (s.ws p) = A := ⟨(M.sh _).toNat, (Int.toNat_of_nonneg (M.sh_lo _)).symm⟩
      obtain ⟨N, hN⟩ : ∃ N : Nat, M.ln (s.ws p) = N := ⟨(M.ln _).toNat, (Int.toNat_of_nonneg (M.ln_lo _)).symm⟩
      have hA1 := M.sh_hi (s.ws p)
      have hN1 := M.ln_hi (s.ws p)
      rw [hA] at hA1
      rw [hN] at hN1
      have hw1 : IntKind.i64.wrap (A : Int) = (A : Int) := by rw [IntKind.wrap_i64]; omega
      have hw2 : IntKind.i64.wrap (N : Int) = (N : Int) := by rw [IntKind.wrap_i64]; omega
      have F1 : ∀ W, Calls Try.prog 32 #[.int .u64 (s.ws p : Nat), .int .i64 1, .int .i64 20] W fun e w' => e = .returned (.int .u64 A) ∧ ∃ n, w' = W.drewN n := fun W => by
        have := refFld1 (s.ws p : Nat) W (by omega) (by omega)
        rw [show M.fld ((s.ws p : Nat) : Int) 2 1048576 = A from hA] at this
        exact this
      have F2 : ∀ W, Calls Try.prog 32 #[.int .u64 (s.ws p : Nat), .int .i64 21, .int .i64 20] W fun e w' => e = .returned (.int .u64 N) ∧ ∃ n, w' = W.drewN n := fun W => by
        have := refFld21 (s.ws p : Nat) W (by omega) (by omega)
        rw [show M.fld ((s.ws p : Nat) : Int) 2097152 1048576 = N from hN] at this
        exact this
      obtain ⟨v, hve⟩ : ∃ v, s.ws p = v := ⟨_, rfl⟩
      rw [hve] at hv cv F1 F2
      have HF1 := Lib.hid F1
      have HF2 := Lib.hid F2
      have HVE := Lib.hid hve
      have HA := Lib.hid hA
      have HN := Lib.hid hN
      clear F1 F2 hve hA hN
      go_wp2_with fail
      go_quiet (first | (go_at_call 32; (with_reducible exact Calls.quiet_of (HF1.out _))) | (go_at_call 32; (with_reducible exact Calls.quiet_of (HF2.out _))))
      have cv1 : (wr.drewN nq).cell? ⟨b, off + p, none⟩ = some (.int .u64 v) := cv
      have hb1 : b < (wr.drewN nq).heap.size := hb
      have HM1 := Lib.hid (HM.out.go ((Still.refl wr).drewN nq))
      clear cv hb HF1 HF2 hw1 hw2
      generalize wr.drewN nq = w1 at *
      have hNE := Rf.E_any x A N w1 HM1.out.rf (by rw [HM1.out.len, HM1.out.K]; exact HK.out) w1 (Still.refl w1)
      rw [HPT.out, (HM1.out.kd A).1, (HM1.out.kd A).2] at hNE
      obtain ⟨D, hD⟩ : ∃ D : Nat, M.need (s.kind A) (s.len A) N = D := ⟨_, (Int.toNat_of_nonneg (M.need_bd _ _ _).1).symm⟩
      have hDb := (M.need_bd (s.kind A) (s.len A) N).2
      obtain ⟨E, hE⟩ : ∃ E, M.needE (s.kind A) (s.len A) N = E := ⟨_, rfl⟩
      obtain ⟨H, hH⟩ : ∃ H : Nat, M.hd A N 0 0 = H := ⟨_, (Int.toNat_of_nonneg (M.hd_lo ..)).symm⟩
      have hreads : s.reads p top = (decide (E = 0) && decide ((D : Int) ≤ top - p)) := by
        unfold St.reads St.obE
        show (decide (s.needE _ _ = 0) && decide (s.need _ _ ≤ _)) = _
        unfold St.needE St.need
        rw [HA.out, HN.out, hE, hD]
      have hheadB : s.headB p = decide ((v : Int) = H) := by
        unfold St.headB
        rw [HA.out, HN.out, HVE.out, hH]
      have HHD : ∀ W : World, Calls Try.prog 30 #[.int .i64 A, .int .i64 N] W fun e w' => e = .returned (.int .u64 H) ∧ ∃ n, w' = W.drewN n := by
        intro W; rw [← hH]; exact M.hd_head A N ▸ refHead_any A N W
      rw [hD, hE] at hNE
      rw [hD] at hDb
      have HNE := Lib.hid hNE
      have HHD2 := Lib.hid HHD
      have HRE := Lib.hid hreads
      have HHB := Lib.hid hheadB
      have HDE := Lib.hid (And.intro hD (And.intro hE hH))
      have htop2 : top ≤ 1000 := by omega
      clear hNE HHD hreads hheadB hD hE hH
      have hpt2 : IntKind.i64.wrap ((top : Int) - (p : Int)) = (top : Int) - (p : Int) := by rw [IntKind.wrap_i64]; omega
      by_cases hE0 : E = 0
      case neg =>
        have xE : ((E : Int) != 0) = true := by simpa using hE0
        have hno := HM1.out.took.no_head hm hlt (.inl (by rw [HRE.out, decide_eq_false hE0, Bool.false_and]))
        have HNO := Lib.hid hno
        clear hno hE0
        go_wp2_with fail
        refine HNE.out.mono ?_; rintro e w1 ⟨rfl, rfl⟩
        go_wp2_with fail
        go_quiet (fail)
        go_wp2_with fail
        go_ret2
        exact .inr ⟨rfl, HM1.out.still.drewN _, HNO.out⟩
      subst hE0
      by_cases hh : H = v
      case neg =>
        have xH : ((H : Int) != v) = true := by simp; omega
        have hno := HM1.out.took.no_head hm hlt (.inr (by rw [HHB.out]; exact decide_eq_false (by omega)))
        have HNO := Lib.hid hno
        clear hno hh
        go_wp2_with fail
        refine HNE.out.mono ?_; rintro e w1 ⟨rfl, rfl⟩
        go_wp2_with fail
        go_quiet ((go_at_call 30; (with_reducible exact Calls.quiet_of (HHD2.out _))))
        go_wp2_with fail
        go_ret2
        exact .inr ⟨rfl, HM1.out.still.drewN _, HNO.out⟩
      subst hh
      have xH : ((H : Int) != H) = false := by simp
      by_cases hd : p + D ≤ top
      case neg =>
        have xd : decide ((top : Int) - (p : Int) < (D : Int)) = true := decide_eq_true (by omega)
        have hno := HM1.out.took.no_head hm hlt (.inl (by rw [HRE.out, decide_eq_false (show ¬ ((D : Int) ≤ (top : Int) - p) by omega), Bool.and_false]))
        have HNO := Lib.hid hno
        have hd' : (top : Int) - (p : Int) < (D : Int) := by omega
        clear hno hd
        go_wp2_with fail
        refine HNE.out.mono ?_; rintro e w1 ⟨rfl, rfl⟩
        go_wp2_with fail
        go_quiet ((go_at_call 30; (with_reducible exact Calls.quiet_of (HHD2.out _))))
        go_wp2_with fail
        go_ret2
        exact .inr ⟨rfl, HM1.out.still.drewN _, HNO.out⟩
      have xd : decide ((top : Int) - (p : Int) < (D : Int)) = false := decide_eq_false (by omega)
      have hd' : ¬ ((top : Int) - (p : Int) < (D : Int)) := by omega
      go_wp2_with fail
      refine HNE.out.mono ?_; rintro e w1 ⟨rfl, rfl⟩
      go_wp2_with fail
      go_quiet ((go_at_call 30; (with_reducible exact Calls.quiet_of (HHD2.out _))))
      have HM2 := Lib.hid (HM1.out.go ((Still.refl w1).drewN nq))
      have cvt := (HR.out.still HM2.out.still).at_ (by omega)
      have HCV := Lib.hid cvt
      clear cv1 hb1 HM1 HNE HHD2 hpt2 xH xd hd' cvt
      generalize w1.drewN nq = w2 at *
      obtain ⟨n1, n2, n3, n4⟩ := need_of HDE.out.2.1
      rw [HDE.out.1] at n4
      have hAm : A < s.m := by
        unfold St.kind at n1
        by_cases hc : 0 ≤ (A : Int) ∧ (A : Int) < s.m
        · exact_mod_cast hc.2
        · rw [if_neg hc] at n1; exact absurd rfl n1
      have hkA : s.kind A = s.lk A := by unfold St.kind; rw [if_pos ⟨by omega, by omega⟩]; rfl
      by_cases hk3 : s.kind A = 3
      · rw [if_pos hk3] at n4
        have hlk : s.lk A = 3 := by rw [← hkA]; exact hk3
        have HLK := Lib.hid hlk
        have HK3 := Lib.hid hk3
        have hND : D = 1 + (N + 7) / 8 := by omega
        have HND := Lib.hid hND
        have hN3 : N ≤ 8000 := by omega
        clear n1 n2 n3 n4 hkA hk3 hlk hND
        go_wp2_with fail
        go_loopw [15] (fun v wq => ∃ (i : Nat) (ba : Option Addr) (bc : Nat), v = .int .i64 i ∧ i ≤ N ∧ Still w2 wq ∧ Blk wq w2.heap.size 73 #[.int .i64 p, .int .i64 A, .int .i64 N, .slice none 0 0, .slice ba i bc] ∧ wq.ownsRow w2.heap.size 5 1 (.slice ba i bc) i ((s.bytes p i).map fun v : Nat => Value.int .u8 (v : Int))) (fun v _ => N - (intOf v).toNat)
        case atStart => exact ⟨0, none, 0, rfl, by omega, (Still.refl _).alloc _, Blk.new _ _ _, World.ownsRow_nil _ _ _ _⟩
        case round =>
          obtain ⟨i, ba, bc, rfl, hi, ht, hblk, hown⟩ := hrel
          have hMW := HM2.out.still.trans ht
          obtain ⟨lb, loff, rfl, hlb, hlc⟩ := (HL.out.still hMW).at_ (by omega)
          obtain ⟨k0, _⟩ := hlc A hAm
          rw [HLK.out] at k0
          have HO := Lib.hid hown
          have HB := Lib.hid hblk
          have HT := Lib.hid ht
          have HMW := Lib.hid hMW
          by_cases hlt2 : i < N
          · obtain ⟨_, _, e0, hbw, hcell⟩ := (HR.out.still hMW).at_ (by omega)
            injection e0 with e0
            injection e0 with e1 e2
            subst e1; subst e2
            obtain ⟨P, hP⟩ : ∃ P, p + 1 + i / 8 = P := ⟨_, rfl⟩
            have hPn : P < s.n := by have := HND.out; omega
            have cP := hcell P hPn
            have hV := HWS.out P
            obtain ⟨V, hVe⟩ : ∃ V, s.ws P = V := ⟨_, rfl⟩
            rw [hVe] at cP hV
            obtain ⟨q, hq⟩ : ∃ q, i % 8 * 8 = q := ⟨_, rfl⟩
            obtain ⟨p1, hp1⟩ : ∃ p1, p + 1 = p1 := ⟨_, rfl⟩
            obtain ⟨i8, hi8⟩ : ∃ i8, i / 8 = i8 := ⟨_, rfl⟩
            obtain ⟨r8, hr8⟩ : ∃ r8, i % 8 = r8 := ⟨_, rfl⟩
            have HFB := Lib.hid (fun W => refFieldB V q W (by omega) hV)
            rw [show ((V : Int) / ((2 ^ q : Nat) : Int) % 256) = (M.byteOf V (i % 8) : Nat) from field_byte V q _ hq.symm] at HFB
            have hY := byteOf_lt V (i % 8)
            have hYe : s.bytes p (i + 1) = s.bytes p i ++ [M.byteOf V (i % 8)] := by rw [bytes_succ, hP, hVe]
            obtain ⟨Y, hYY⟩ : ∃ Y, M.byteOf V (i % 8) = Y := ⟨_, rfl⟩
            rw [hYY] at HFB hY hYe
            have s1 : IntKind.i64.wrap ((p : Int) + 1) = (p1 : Int) := by rw [IntKind.wrap_i64]; omega
            have s2 : (i : Int).tdiv 8 = (i8 : Int) := by rw [Int.tdiv_eq_ediv_of_nonneg (by omega)]; omega
            have s2' : IntKind.i64.wrap (i8 : Int) = (i8 : Int) := by rw [IntKind.wrap_i64]; omega
            have s3 : IntKind.i64.wrap ((p1 : Int) + (i8 : Int)) = (P : Int) := by rw [IntKind.wrap_i64]; omega
            have s4 : (i : Int).tmod 8 = (r8 : Int) := by rw [Int.tmod_eq_emod_of_nonneg (by omega)]; omega
            have s4' : IntKind.i64.wrap (r8 : Int) = (r8 : Int) := by rw [IntKind.wrap_i64]; omega
            have s5 : IntKind.i64.wrap ((r8 : Int) * 8) = (q : Int) := by rw [IntKind.wrap_i64]; omega
            have s6 : IntKind.u8.wrap (Y : Int) = (Y : Int) := by rw [IntKind.wrap_u8]; omega
            have d4 : wr.cell? ⟨w2.heap.size, 4, none⟩ = some (.slice ba i bc) := hblk.cell 4
            have d4f : wr.frozen? ⟨w2.heap.size, 4, none⟩ = false := hblk.frozen 4
            have hbl := hblk.lt
            have HYE := Lib.hid hYe
            clear hlc hown hblk ht hMW hcell hP hVe hq hp1 hi8 hr8 hYY hYe hV
            go_wp2_with fail
            have d4a : ∀ n, ((wr.drewN n).alloc (.cells #[.int .u8 Y] 5)).cell? ⟨w2.heap.size, 4, none⟩ = some (.slice ba i bc) := fun n => (World.cell?_alloc_lt (wr.drewN n) _ ⟨w2.heap.size, 4, none⟩ hbl).trans d4
            go_region_law (first
              | (go_simp; go_at_call 32; (with_reducible refine (HFB.out _).mono ?_); rintro e wf ⟨rfl, nf, rfl⟩)
              | (refine step_append_form rfl (.tmp 90) (.tmp 104) 71 rfl w2.heap.size 5 1 1 (.int .u8 0) Try.underlying71 infoB rfl (by decide) ba i bc _ (by simp [Act.eval]) (own_keep HO.out (((Still.refl wr).drewN _).alloc _) (fun _ _ e => e)) ⟨wr.heap.size, 0, none⟩ 1 1 [.int .u8 Y] (by simp [Act.eval]) rfl (cell_one_new _ _ _) (by simp [Value.oneCell']) (by decide) (by unfold maxLen; omega) (by omega) (by have := HT.out.size; simp; omega) ?_
                 intro g' c' w4 hr4 ht4 hn4
                 have hb4 := (Still.blk (((Still.refl wr).drewN _).alloc _) HB.out).keep ht4.out (own_blk HO.out HB.out (by decide))
                 have q4 := hb4.cell 4
                 have q4f := hb4.frozen 4
                 simp only [List.getElem?_toArray, List.getElem?_cons_succ, List.getElem?_cons_zero] at q4
                 have HB4 := Lib.hid hb4
                 clear hb4))
            all_goals
              go_wp2_with fail
              go_roundw
              case rel =>
                have hsz : w2.heap.size ≤ w4.heap.size := Nat.le_trans HT.out.size (Nat.le_trans (by simp) ht4.out.size)
                refine ⟨i + 1, some ⟨g', 0, none⟩, c', by go_num, by omega, ?_, ?_, ?_⟩
                · refine Turn.setCell (Still.own ((HT.out.drewN _).alloc _) (ht4.out.below_only HO.out HT.out.size)) (fun e => absurd e (Nat.lt_irrefl _)) _
                · have := HB4.out.set 4 (.slice (some ⟨g', 0, none⟩) (i + 1) c')
                  simpa using this
                · rw [HYE.out, List.map_append]
                  exact own_keep (S := fun k => k = w2.heap.size) hr4.out ((Turn.refl (fun k => k = w2.heap.size) w4).setCell (fun _ => rfl) _) (fun k hk e => own_blk hr4.out HB4.out (by decide) (by rw [hk, e]))
              case measure => simp [intOf]; omega
          · obtain rfl : i = N := by omega
            obtain ⟨o, ho⟩ : ∃ o : RO, o = ⟨p, A, i, [], s.bytes p i, none, 0, ba, bc⟩ := ⟨_, rfl⟩
            have hbv : o.bv = .slice ba i bc := by rw [ho]; simp [RO.bv, bytes_len]
            have hfv : o.fv = .slice none 0 0 := by rw [ho]; rfl
            have hrow : o.row wr w2.heap.size := by
              refine ⟨?_, ?_⟩
              · rw [hfv, ho]; exact World.ownsRow_nil _ _ _ _
              · rw [hbv, ho, bytes_len]; exact hown
            have hsz : s.sz o = D := by
              unfold St.sz
              rw [ho]
              show (M.need (s.kind A) (s.len A) i).toNat = D
              rw [HDE.out.1]; rfl
            have hreads : s.reads p top = true := by rw [HRE.out, decide_eq_true (show (D : Int) ≤ (top : Int) - p by omega)]; simp
            have hheadB : s.headB p = true := by rw [HHB.out]; simp
            have HOROW := Lib.hid hrow
            have HSZ := Lib.hid hsz
            have HO2 := Lib.hid ho
            have HRD := Lib.hid hreads
            have HHD := Lib.hid hheadB
            have hbl := hblk.lt
            have d0 : wr.cell? ⟨w2.heap.size, 0, none⟩ = some (.int .i64 p) := hblk.cell 0
            have d1 : wr.cell? ⟨w2.heap.size, 1, none⟩ = some (.int .i64 A) := hblk.cell 1
            have d2 : wr.cell? ⟨w2.heap.size, 2, none⟩ = some (.int .i64 i) := hblk.cell 2
            have d3 : wr.cell? ⟨w2.heap.size, 3, none⟩ = some (.slice none 0 0) := hblk.cell 3
            have d4 : wr.cell? ⟨w2.heap.size, 4, none⟩ = some (.slice ba i bc) := hblk.cell 4
            obtain ⟨r, hr⟩ : ∃ r, i % 8 = r := ⟨_, rfl⟩
            have s1 : (i : Int).tmod 8 = (r : Int) := by rw [Int.tmod_eq_emod_of_nonneg (by omega)]; omega
            have s1' : (i : Int) % 8 = (r : Int) := by omega
            have s2 : IntKind.i64.wrap (r : Int) = (r : Int) := by rw [IntKind.wrap_i64]; omega
            by_cases h8 : r = 0
            · have x8 : ((r : Int) != 0) = false := by rw [h8]; rfl
              have hgood : Good s o := by
                rw [ho]
                exact good_bytes HRD.out HHD.out HWS.out HA.out HN.out HK3.out (.inl (by omega)) ba bc
              have HGO := Lib.hid hgood
              clear hlc hown hblk ht hMW ho hbv hfv hrow hsz hreads hheadB hgood h8 hr d0 d1 d2 d3 d4
              go_wp2_with fail
              go_quiet (fail)
              have HWQ : Hid (Still w2 (wr.drewN nq)) := HT.out.drewN nq
              have HBQ : Hid (Blk (wr.drewN nq) w2.heap.size 73 #[.int .i64 p, .int .i64 A, .int .i64 i, .slice none 0 0, .slice ba i bc]) := HB.out
              have HRQ : Hid (o.row (wr.drewN nq) w2.heap.size) := HOROW.out
              clear k0 hlb HO HB HT HMW HOROW hbl s1 s1' s2 x8
              generalize wr.drewN nq = wr at *
              have hbl := HBQ.out.lt
              have d0 : wr.cell? ⟨w2.heap.size, 0, none⟩ = some (.int .i64 p) := HBQ.out.cell 0
              have d1 : wr.cell? ⟨w2.heap.size, 1, none⟩ = some (.int .i64 A) := HBQ.out.cell 1
              have d2 : wr.cell? ⟨w2.heap.size, 2, none⟩ = some (.int .i64 i) := HBQ.out.cell 2
              have d3 : wr.cell? ⟨w2.heap.size, 3, none⟩ = some (.slice none 0 0) := HBQ.out.cell 3
              have d4 : wr.cell? ⟨w2.heap.size, 4, none⟩ = some (.slice ba i bc) := HBQ.out.cell 4
              obtain ⟨xa, xc, hlv⟩ := HM2.out.rf.lv_slice
              have hrfq := HM2.out.rf.still HWQ.out
              have c2 : wr.cell? ⟨w.heap.size, 2, none⟩ = some (.slice xa x.L.length xc) := by rw [← HM2.out.gx, ← hlv]; exact hrfq.c2
              have c2f : wr.frozen? ⟨w.heap.size, 2, none⟩ = false := by rw [← HM2.out.gx]; exact hrfq.blk.frozen 2
              have hgx : w.heap.size < wr.heap.size := by rw [← HM2.out.gx]; exact hrfq.blk.lt
              have HROW : Hid (wr.ownsRow w.heap.size 73 5 (.slice xa x.L.length xc) x.L.length (x.L.flatMap RO.cells)) := by
                have := hrfq.row; rw [hlv] at this; exact this
              have NLX : Hid ((Value.slice xa x.L.length xc).ownBlock ≠ some w.heap.size) := by
                have := own_type hrfq.row hrfq.blk (by decide); rw [hlv, HM2.out.gx] at this; exact this
              have hlen : x.L.length < 1000 := by
                have h1 := Took.len_le HM2.out.took.tile HM2.out.took.good
                omega
              have HLEN := Lib.hid hlen
              have HLV := Lib.hid hlv
              have HCL : Hid (o.cells = [.int .i64 p, .int .i64 A, .int .i64 i, .slice none 0 0, .slice ba i bc]) := by rw [HO2.out]; simp [Hid, RO.cells, RO.bv, RO.fv, bytes_len]
              have hsrc : Hid (∀ n (j : Nat) u, o.cells[j]? = some u → ((wr.drewN n).alloc (.cells #[.int .i64 p, .int .i64 A, .int .i64 i, .slice none 0 0, .slice ba i bc] 73)).cell? ((⟨wr.heap.size, 0, none⟩ : Addr).add j) = some u) := fun n j u hj => by
                rw [Addr.add_lit, Nat.zero_add, show wr.heap.size = (wr.drewN n).heap.size from rfl, (Blk.new (wr.drewN n) 73 #[.int .i64 p, .int .i64 A, .int .i64 i, .slice none 0 0, .slice ba i bc]).cell j]
                rw [HCL.out] at hj
                simpa using hj
              have hone : Hid (∀ u ∈ o.cells, u.oneCell' = true) := cells_one o
              have hlen5 : Hid (o.cells.length = 1 * 5) := by simp [Hid, RO.cells]
              have HGXX := Lib.hid HM2.out.gx
              have HC2 := Lib.hid c2
              have HCF := Lib.hid c2f
              have hw3 : IntKind.i64.wrap ((p : Int) + (D : Int)) = (p : Int) + (D : Int) := by rw [IntKind.wrap_i64]; omega
              clear hrfq hlv hlen
              go_wp2_with fail
              go_region_law (refine step_append_form rfl (.tmp 147) (.tmp 149) 37 rfl w.heap.size 73 5 72 _ Try.underlying37 infoO rfl (by decide) xa x.L.length xc _ (by simp [Act.eval]) (own_keep HROW.out (((Still.refl wr).drewN _).alloc _) (fun _ _ e => e)) ⟨wr.heap.size, 0, none⟩ 1 1 o.cells (by simp [Act.eval]) hlen5.out (hsrc.out _) hone.out (by decide) (by have := HLEN.out; unfold maxLen; omega) (by have := HLEN.out; omega) (by simp; omega) ?_; intro g' c' w4 hr4 ht4 hn4; have q2 : w4.cell? ⟨w.heap.size, 2, none⟩ = some (.slice xa x.L.length xc) := (ht4.out.cell (p := ⟨w.heap.size, 2, none⟩) (by simp; omega) NLX.out).trans ((World.cell?_alloc_lt (wr.drewN _) _ ⟨w.heap.size, 2, none⟩ hgx).trans HC2.out); have q2f : w4.frozen? ⟨w.heap.size, 2, none⟩ = false := (ht4.out.frozen (p := ⟨w.heap.size, 2, none⟩) (by simp; omega) NLX.out).trans (((Still.refl wr).drewN _).alloc _ |>.frozen (p := ⟨w.heap.size, 2, none⟩) hgx (fun e => e) |>.trans HCF.out))
              all_goals
                go_wp2_with fail
                go_roundw
                case rel =>
                  have ht5 : Turn (fun k => x.lv.ownBlock = some k) wr w4 := by rw [HLV.out]; exact (Still.turn (((Still.refl wr).drewN _).alloc _)).trans ht4.out
                  have hmore := HM2.out.more HWQ.out HRQ.out hr4.out ht5 HLEN.out HGO.out (by rw [HO2.out])
                  rw [HSZ.out, HGXX.out] at hmore
                  exact ⟨p + D, _, by go_num, by omega, hmore⟩
                case measure => have := HND.out; simp [intOf]; omega
            · have x8 : ((r : Int) != 0) = true := by simp; omega
              obtain ⟨Q, hQ⟩ : ∃ Q, p + 1 + i / 8 = Q := ⟨_, rfl⟩
              have hQn : Q < s.n := by have := HND.out; omega
              obtain ⟨_, _, e0, hbw, hcell⟩ := (HR.out.still hMW).at_ (by omega)
              injection e0 with e0
              injection e0 with e1 e2
              subst e1; subst e2
              have cQ := hcell Q hQn
              obtain ⟨V, hVe⟩ : ∃ V, s.ws Q = V := ⟨_, rfl⟩
              rw [hVe] at cQ
              obtain ⟨LF, hLF⟩ : ∃ LF, M.lastFrom (s.bytes p i) i (i % 8) = LF := ⟨_, rfl⟩
              have hLFV : LF = V % 256 ^ (i % 8) := by rw [← hLF, lastFrom_bytes s p i (by omega), hQ, hVe]
              obtain ⟨S1, hS1⟩ : ∃ S1, p + D = S1 := ⟨_, rfl⟩
              have s3 : IntKind.i64.wrap ((p : Int) + (D : Int)) = (S1 : Int) := by rw [IntKind.wrap_i64]; omega
              have s4 : IntKind.i64.wrap ((S1 : Int) - 1) = (Q : Int) := by rw [IntKind.wrap_i64]; have := HND.out; omega
              have hla : ∀ W, Still wr W → Calls Try.prog 34 #[.pointer (some ⟨w.heap.size, 0, none⟩), .agg #[.int .i64 p, .int .i64 A, .int .i64 i, .slice none 0 0, .slice ba i bc]] W fun e w' => e = .returned (.int .u64 LF) ∧ w'.cell? ⟨b, off + Q, none⟩ = some (.int .u64 V) ∧ w'.cell? ⟨lb, loff + A * 2, none⟩ = some (.int .i64 3) ∧ w'.cell? ⟨w2.heap.size, 0, none⟩ = some (.int .i64 p) ∧ w'.cell? ⟨w2.heap.size, 1, none⟩ = some (.int .i64 A) ∧ w'.cell? ⟨w2.heap.size, 2, none⟩ = some (.int .i64 i) ∧ w'.cell? ⟨w2.heap.size, 3, none⟩ = some (.slice none 0 0) ∧ w'.cell? ⟨w2.heap.size, 4, none⟩ = some (.slice ba i bc) ∧ Still wr w' := fun W tW => by
                have := last_any (.pointer (some ⟨w.heap.size, 0, none⟩)) o W w2.heap.size (by rw [ho]; exact bytes_len _ _ _) (by rw [ho]; show i ≤ 65536; omega) (by rw [ho]; exact bytes_lt _ _ _) (own_keep hrow.2 tW (fun _ _ e => e))
                rw [hbv, hfv] at this
                rw [show o.at_ = p by rw [ho], show o.sh = A by rw [ho], show o.n = i by rw [ho], show o.bs = s.bytes p i by rw [ho], hLF] at this
                exact this.mono fun _ _ ⟨he, hw⟩ => ⟨he, ((tW.trans hw).cell (p := ⟨b, off + Q, none⟩) hbw).trans cQ, ((tW.trans hw).cell (p := ⟨lb, _, none⟩) hlb).trans k0, ((tW.trans hw).cell (p := ⟨w2.heap.size, _, none⟩) hbl).trans d0, ((tW.trans hw).cell (p := ⟨w2.heap.size, _, none⟩) hbl).trans d1, ((tW.trans hw).cell (p := ⟨w2.heap.size, _, none⟩) hbl).trans d2, ((tW.trans hw).cell (p := ⟨w2.heap.size, _, none⟩) hbl).trans d3, ((tW.trans hw).cell (p := ⟨w2.heap.size, _, none⟩) hbl).trans d4, tW.trans hw⟩
              have HLA := Lib.hid hla
              have HSD : Still wr wr.drew := (Still.refl wr).drew
              have HLFV := Lib.hid hLFV
              have HQ := Lib.hid hQ
              have HVE := Lib.hid hVe
              have HR8 := Lib.hid hr
              by_cases hVL : V = LF
              · subst hVL
                have xL : ((V : Int) != V) = false := by simp
                have hgood : Good s o := by
                  rw [ho]
                  refine good_bytes HRD.out HHD.out HWS.out HA.out HN.out HK3.out (.inr ?_) ba bc
                  rw [hQ, hVe]
                  have hp256 : 0 < 256 ^ (i % 8) := Nat.pow_pos (by decide)
                  rw [Nat.div_eq_zero_iff]
                  right
                  have := Nat.mod_lt V hp256
                  omega
                have HGO := Lib.hid hgood
                clear hlc hown hblk ht hMW ho hbv hfv hrow hsz hreads hheadB hgood h8 hr hcell hLF hLFV hla hVe hQ hS1
                go_wp2_with fail
                go_region_held3 (fun W => W.cell? ⟨b, off + Q, none⟩ = some (.int .u64 V) ∧ W.cell? ⟨lb, loff + A * 2, none⟩ = some (.int .i64 3) ∧ W.cell? ⟨w2.heap.size, 0, none⟩ = some (.int .i64 p) ∧ W.cell? ⟨w2.heap.size, 1, none⟩ = some (.int .i64 A) ∧ W.cell? ⟨w2.heap.size, 2, none⟩ = some (.int .i64 i) ∧ W.cell? ⟨w2.heap.size, 3, none⟩ = some (.slice none 0 0) ∧ W.cell? ⟨w2.heap.size, 4, none⟩ = some (.slice ba i bc) ∧ Still wr W) (go_keep) (first
                  | (go_at_call 34; refine (HLA.out _ ?_).mono ?_; (simp [*]); rintro e w5 ⟨rfl, q1, q2, q3, q4, q5, q6, q7, q8⟩))
                have HWQ : Hid (Still w2 w5) := HT.out.trans q8
                have HBQ := Lib.hid (Still.blk q8 HB.out)
                have HRQ : Hid (o.row w5 w2.heap.size) := ⟨own_keep HOROW.out.1 q8 (fun _ _ e => e), own_keep HOROW.out.2 q8 (fun _ _ e => e)⟩
                clear k0 hlb HO HB HT HMW HOROW hbl s1 s1' s2 x8 d0 d1 d2 d3 d4 q1 q2 q3 q4 q5 q6 q7 q8 cQ hbw HLA HSD xL s3 s4
                have hbl := HBQ.out.lt
                have d0 : w5.cell? ⟨w2.heap.size, 0, none⟩ = some (.int .i64 p) := HBQ.out.cell 0
                have d1 : w5.cell? ⟨w2.heap.size, 1, none⟩ = some (.int .i64 A) := HBQ.out.cell 1
                have d2 : w5.cell? ⟨w2.heap.size, 2, none⟩ = some (.int .i64 i) := HBQ.out.cell 2
                have d3 : w5.cell? ⟨w2.heap.size, 3, none⟩ = some (.slice none 0 0) := HBQ.out.cell 3
                have d4 : w5.cell? ⟨w2.heap.size, 4, none⟩ = some (.slice ba i bc) := HBQ.out.cell 4
                obtain ⟨xa, xc, hlv⟩ := HM2.out.rf.lv_slice
                have hrfq := HM2.out.rf.still HWQ.out
                have c2 : w5.cell? ⟨w.heap.size, 2, none⟩ = some (.slice xa x.L.length xc) := by rw [← HM2.out.gx, ← hlv]; exact hrfq.c2
                have c2f : w5.frozen? ⟨w.heap.size, 2, none⟩ = false := by rw [← HM2.out.gx]; exact hrfq.blk.frozen 2
                have hgx : w.heap.size < w5.heap.size := by rw [← HM2.out.gx]; exact hrfq.blk.lt
                have HROW : Hid (w5.ownsRow w.heap.size 73 5 (.slice xa x.L.length xc) x.L.length (x.L.flatMap RO.cells)) := by
                  have := hrfq.row; rw [hlv] at this; exact this
                have NLX : Hid ((Value.slice xa x.L.length xc).ownBlock ≠ some w.heap.size) := by
                  have := own_type hrfq.row hrfq.blk (by decide); rw [hlv, HM2.out.gx] at this; exact this
                have hlen : x.L.length < 1000 := by
                  have h1 := Took.len_le HM2.out.took.tile HM2.out.took.good
                  omega
                have HLEN := Lib.hid hlen
                have HLV := Lib.hid hlv
                have HCL : Hid (o.cells = [.int .i64 p, .int .i64 A, .int .i64 i, .slice none 0 0, .slice ba i bc]) := by rw [HO2.out]; simp [Hid, RO.cells, RO.bv, RO.fv, bytes_len]
                have hsrc : Hid (∀ n (j : Nat) u, o.cells[j]? = some u → ((w5.drewN n).alloc (.cells #[.int .i64 p, .int .i64 A, .int .i64 i, .slice none 0 0, .slice ba i bc] 73)).cell? ((⟨w5.heap.size, 0, none⟩ : Addr).add j) = some u) := fun n j u hj => by
                  rw [Addr.add_lit, Nat.zero_add, show w5.heap.size = (w5.drewN n).heap.size from rfl, (Blk.new (w5.drewN n) 73 #[.int .i64 p, .int .i64 A, .int .i64 i, .slice none 0 0, .slice ba i bc]).cell j]
                  rw [HCL.out] at hj
                  simpa using hj
                have hone : Hid (∀ u ∈ o.cells, u.oneCell' = true) := cells_one o
                have hlen5 : Hid (o.cells.length = 1 * 5) := by simp [Hid, RO.cells]
                have HGXX := Lib.hid HM2.out.gx
                have HC2 := Lib.hid c2
                have HCF := Lib.hid c2f
                have hw3 : IntKind.i64.wrap ((p : Int) + (D : Int)) = (p : Int) + (D : Int) := by rw [IntKind.wrap_i64]; omega
                clear hrfq hlv hlen
                go_wp2_with fail
                go_region_law (refine step_append_form rfl (.tmp 147) (.tmp 149) 37 rfl w.heap.size 73 5 72 _ Try.underlying37 infoO rfl (by decide) xa x.L.length xc _ (by simp [Act.eval]) (own_keep HROW.out (((Still.refl w5).drewN _).alloc _) (fun _ _ e => e)) ⟨w5.heap.size, 0, none⟩ 1 1 o.cells (by simp [Act.eval]) hlen5.out (hsrc.out _) hone.out (by decide) (by have := HLEN.out; unfold maxLen; omega) (by have := HLEN.out; omega) (by simp; omega) ?_; intro g' c' w4 hr4 ht4 hn4; have q2 : w4.cell? ⟨w.heap.size, 2, none⟩ = some (.slice xa x.L.length xc) := (ht4.out.cell (p := ⟨w.heap.size, 2, none⟩) (by simp; omega) NLX.out).trans ((World.cell?_alloc_lt (w5.drewN _) _ ⟨w.heap.size, 2, none⟩ hgx).trans HC2.out); have q2f : w4.frozen? ⟨w.heap.size, 2, none⟩ = false := (ht4.out.frozen (p := ⟨w.heap.size, 2, none⟩) (by simp; omega) NLX.out).trans (((Still.refl w5).drewN _).alloc _ |>.frozen (p := ⟨w.heap.size, 2, none⟩) hgx (fun e => e) |>.trans HCF.out))
                all_goals
                  go_wp2_with fail
                  go_roundw
                  case rel =>
                    have ht5 : Turn (fun k => x.lv.ownBlock = some k) w5 w4 := by rw [HLV.out]; exact (Still.turn (((Still.refl w5).drewN _).alloc _)).trans ht4.out
                    have hmore := HM2.out.more HWQ.out HRQ.out hr4.out ht5 HLEN.out HGO.out (by rw [HO2.out])
                    rw [HSZ.out, HGXX.out] at hmore
                    exact ⟨p + D, _, by go_num, by omega, hmore⟩
                  case measure => have := HND.out; simp [intOf]; omega
              · have xL : ((V : Int) != LF) = true := by simp; omega
                have hno : ∀ l, ¬ s.closes top l := by
                  refine HM2.out.took.no_fill hm hlt (fill_no HRD.out HA.out HN.out HK3.out (by omega) ?_)
                  rw [hQ, hVe]
                  intro h0
                  have hp256 : 0 < 256 ^ (i % 8) := Nat.pow_pos (by decide)
                  have h1 := Nat.div_add_mod V (256 ^ (i % 8))
                  rw [h0, Nat.mul_zero, Nat.zero_add] at h1
                  exact hVL (by rw [hLFV]; exact h1.symm)
                have HNO := Lib.hid hno
                clear hlc hown hblk ht hMW ho hbv hfv hrow hsz hreads hheadB h8 hr hcell hLF hLFV hla hVe hQ hS1 hno hVL
                go_wp2_with fail
                go_region_held3 (fun W => W.cell? ⟨b, off + Q, none⟩ = some (.int .u64 V) ∧ W.cell? ⟨lb, loff + A * 2, none⟩ = some (.int .i64 3) ∧ W.cell? ⟨w2.heap.size, 0, none⟩ = some (.int .i64 p) ∧ W.cell? ⟨w2.heap.size, 1, none⟩ = some (.int .i64 A) ∧ W.cell? ⟨w2.heap.size, 2, none⟩ = some (.int .i64 i) ∧ W.cell? ⟨w2.heap.size, 3, none⟩ = some (.slice none 0 0) ∧ W.cell? ⟨w2.heap.size, 4, none⟩ = some (.slice ba i bc) ∧ Still wr W) (go_keep) (first
                  | (go_at_call 34; refine (HLA.out _ ?_).mono ?_; (simp [*]); rintro e w5 ⟨rfl, q1, q2, q3, q4, q5, q6, q7, q8⟩))
                go_wp2_with fail
                go_ret2
                exact .inr ⟨rfl, HMW.out.trans q8, HNO.out⟩
      · rw [if_neg hk3] at n4
        obtain ⟨K, hK⟩ : ∃ K, s.lk A = K := ⟨_, rfl⟩
        have xk : ((K : Int) == 3) = false := beq_eq_false_iff_ne.2 (by rw [← hK, ← hkA]; exact hk3)
        have HLK := Lib.hid hK
        have HK3 := Lib.hid hk3
        have hND : D = 1 + N := by omega
        have HND := Lib.hid hND
        have hN3 : N ≤ 1000 := by omega
        clear n1 n2 n3 n4 hkA hk3 hK hND
        go_wp2_with fail
        go_loopw [15] (fun v wq => ∃ (i : Nat) (ba : Option Addr) (bc : Nat), v = .int .i64 i ∧ i ≤ N ∧ Still w2 wq ∧ Blk wq w2.heap.size 73 #[.int .i64 p, .int .i64 A, .int .i64 N, .slice ba i bc, .slice none 0 0] ∧ wq.ownsRow w2.heap.size 33 1 (.slice ba i bc) i ((s.words p i).map fun v : Nat => Value.int .u64 (v : Int))) (fun v _ => N - (intOf v).toNat)
        case atStart => exact ⟨0, none, 0, rfl, by omega, (Still.refl _).alloc _, Blk.new _ _ _, World.ownsRow_nil _ _ _ _⟩
        case round =>
          obtain ⟨i, ba, bc, rfl, hi, ht, hblk, hown⟩ := hrel
          have hMW := HM2.out.still.trans ht
          obtain ⟨lb, loff, rfl, hlb, hlc⟩ := (HL.out.still hMW).at_ (by omega)
          obtain ⟨k0, _⟩ := hlc A hAm
          rw [HLK.out] at k0
          have HO := Lib.hid hown
          have HB := Lib.hid hblk
          have HT := Lib.hid ht
          have HMW := Lib.hid hMW
          by_cases hlt2 : i < N
          · obtain ⟨_, _, e0, hbw, hcell⟩ := (HR.out.still hMW).at_ (by omega)
            injection e0 with e0
            injection e0 with e1 e2
            subst e1; subst e2
            obtain ⟨P, hP⟩ : ∃ P, p + 1 + i = P := ⟨_, rfl⟩
            have hPn : P < s.n := by have := HND.out; omega
            have cP := hcell P hPn
            obtain ⟨p1, hp1⟩ : ∃ p1, p + 1 = p1 := ⟨_, rfl⟩
            have hYe : s.words p (i + 1) = s.words p i ++ [s.ws P] := by rw [words_succ, hP]
            obtain ⟨Y, hYY⟩ : ∃ Y, s.ws P = Y := ⟨_, rfl⟩
            rw [hYY] at cP hYe
            have s1 : IntKind.i64.wrap ((p : Int) + 1) = (p1 : Int) := by rw [IntKind.wrap_i64]; omega
            have s3 : IntKind.i64.wrap ((p1 : Int) + (i : Int)) = (P : Int) := by rw [IntKind.wrap_i64]; omega
            have d3 : wr.cell? ⟨w2.heap.size, 3, none⟩ = some (.slice ba i bc) := hblk.cell 3
            have d3f : wr.frozen? ⟨w2.heap.size, 3, none⟩ = false := hblk.frozen 3
            have hbl := hblk.lt
            have HYE := Lib.hid hYe
            clear hlc hown hblk ht hMW hcell hP hp1 hYY hYe
            go_wp2_with fail
            have d3a : ∀ n, ((wr.drewN n).alloc (.cells #[.int .u64 Y] 33)).cell? ⟨w2.heap.size, 3, none⟩ = some (.slice ba i bc) := fun n => (World.cell?_alloc_lt (wr.drewN n) _ ⟨w2.heap.size, 3, none⟩ hbl).trans d3
            have d3b : (wr.drew.alloc (.cells #[.int .u64 Y] 33)).cell? ⟨w2.heap.size, 3, none⟩ = some (.slice ba i bc) := (World.cell?_alloc_lt wr.drew _ ⟨w2.heap.size, 3, none⟩ hbl).trans d3
            go_region_law (refine step_append_form rfl (.tmp 108) (.tmp 116) 24 rfl w2.heap.size 33 1 8 (.int .u64 0) Try.underlying24 infoU rfl (by decide) ba i bc _ (by simp [Act.eval]) (own_keep HO.out (((Still.refl wr).drewN _).alloc _) (fun _ _ e => e)) ⟨wr.heap.size, 0, none⟩ 1 1 [.int .u64 Y] (by simp [Act.eval]) rfl (cell_one_new _ _ _) (by simp [Value.oneCell']) (by decide) (by unfold maxLen; omega) (by omega) (by have := HT.out.size; simp; omega) ?_
                           intro g' c' w4 hr4 ht4 hn4
                           have hb4 := (Still.blk (((Still.refl wr).drewN _).alloc _) HB.out).keep ht4.out (own_blk HO.out HB.out (by decide))
                           have q4 := hb4.cell 3
                           have q4f := hb4.frozen 3
                           simp only [List.getElem?_toArray, List.getElem?_cons_succ, List.getElem?_cons_zero] at q4
                           have HB4 := Lib.hid hb4
                           clear hb4)
            all_goals
              go_wp2_with fail
              go_roundw
              case rel =>
                have hsz : w2.heap.size ≤ w4.heap.size := Nat.le_trans HT.out.size (Nat.le_trans (by simp) ht4.out.size)
                refine ⟨i + 1, some ⟨g', 0, none⟩, c', by go_num, by omega, ?_, ?_, ?_⟩
                · refine Turn.setCell (Still.own ((HT.out.drewN _).alloc _) (ht4.out.below_only HO.out HT.out.size)) (fun e => absurd e (Nat.lt_irrefl _)) _
                · have := HB4.out.set 3 (.slice (some ⟨g', 0, none⟩) (i + 1) c')
                  simpa using this
                · rw [HYE.out, List.map_append]
                  exact own_keep (S := fun k => k = w2.heap.size) hr4.out ((Turn.refl (fun k => k = w2.heap.size) w4).setCell (fun _ => rfl) _) (fun k hk e => own_blk hr4.out HB4.out (by decide) (by rw [hk, e]))
              case measure => simp [intOf]; omega
          · obtain rfl : i = N := by omega
            obtain ⟨o, ho⟩ : ∃ o : RO, o = ⟨p, A, i, s.words p i, [], ba, bc, none, 0⟩ := ⟨_, rfl⟩
            have hbv : o.bv = .slice none 0 0 := by rw [ho]; rfl
            have hfv : o.fv = .slice ba i bc := by rw [ho]; simp [RO.fv, words_len]
            have hrow : o.row wr w2.heap.size := by
              refine ⟨?_, ?_⟩
              · rw [hfv, ho, words_len]; exact hown
              · rw [hbv, ho]; exact World.ownsRow_nil _ _ _ _
            have hsz : s.sz o = D := by
              unfold St.sz
              rw [ho]
              show (M.need (s.kind A) (s.len A) i).toNat = D
              rw [HDE.out.1]; rfl
            have hreads : s.reads p top = true := by rw [HRE.out, decide_eq_true (show (D : Int) ≤ (top : Int) - p by omega)]; simp
            have hheadB : s.headB p = true := by rw [HHB.out]; simp
            have HOROW := Lib.hid hrow
            have HSZ := Lib.hid hsz
            have HO2 := Lib.hid ho
            have hgood : Good s o := by
              rw [ho]
              exact good_fields hreads hheadB HWS.out HA.out HN.out HK3.out ba bc
            have HGO := Lib.hid hgood
            clear hlc hown hblk ht hMW ho hbv hfv hrow hsz hreads hheadB hgood
            go_wp2_with fail
            go_quiet (fail)
            have HWQ : Hid (Still w2 (wr.drewN nq)) := HT.out.drewN nq
            have HBQ : Hid (Blk (wr.drewN nq) w2.heap.size 73 #[.int .i64 p, .int .i64 A, .int .i64 i, .slice ba i bc, .slice none 0 0]) := HB.out
            have HRQ : Hid (o.row (wr.drewN nq) w2.heap.size) := HOROW.out
            clear k0 hlb HO HB HT HMW HOROW xk
            generalize wr.drewN nq = wr at *
            have hbl := HBQ.out.lt
            have d0 : wr.cell? ⟨w2.heap.size, 0, none⟩ = some (.int .i64 p) := HBQ.out.cell 0
            have d1 : wr.cell? ⟨w2.heap.size, 1, none⟩ = some (.int .i64 A) := HBQ.out.cell 1
            have d2 : wr.cell? ⟨w2.heap.size, 2, none⟩ = some (.int .i64 i) := HBQ.out.cell 2
            have d3 : wr.cell? ⟨w2.heap.size, 3, none⟩ = some (.slice ba i bc) := HBQ.out.cell 3
            have d4 : wr.cell? ⟨w2.heap.size, 4, none⟩ = some (.slice none 0 0) := HBQ.out.cell 4
            obtain ⟨xa, xc, hlv⟩ := HM2.out.rf.lv_slice
            have hrfq := HM2.out.rf.still HWQ.out
            have c2 : wr.cell? ⟨w.heap.size, 2, none⟩ = some (.slice xa x.L.length xc) := by rw [← HM2.out.gx, ← hlv]; exact hrfq.c2
            have c2f : wr.frozen? ⟨w.heap.size, 2, none⟩ = false := by rw [← HM2.out.gx]; exact hrfq.blk.frozen 2
            have hgx : w.heap.size < wr.heap.size := by rw [← HM2.out.gx]; exact hrfq.blk.lt
            have HROW : Hid (wr.ownsRow w.heap.size 73 5 (.slice xa x.L.length xc) x.L.length (x.L.flatMap RO.cells)) := by
              have := hrfq.row; rw [hlv] at this; exact this
            have NLX : Hid ((Value.slice xa x.L.length xc).ownBlock ≠ some w.heap.size) := by
              have := own_type hrfq.row hrfq.blk (by decide); rw [hlv, HM2.out.gx] at this; exact this
            have hlen : x.L.length < 1000 := by
              have h1 := Took.len_le HM2.out.took.tile HM2.out.took.good
              omega
            have HLEN := Lib.hid hlen
            have HLV := Lib.hid hlv
            have HCL : Hid (o.cells = [.int .i64 p, .int .i64 A, .int .i64 i, .slice ba i bc, .slice none 0 0]) := by rw [HO2.out]; simp [Hid, RO.cells, RO.bv, RO.fv, words_len]
            have hsrc : Hid (∀ n (j : Nat) u, o.cells[j]? = some u → ((wr.drewN n).alloc (.cells #[.int .i64 p, .int .i64 A, .int .i64 i, .slice ba i bc, .slice none 0 0] 73)).cell? ((⟨wr.heap.size, 0, none⟩ : Addr).add j) = some u) := fun n j u hj => by
              rw [Addr.add_lit, Nat.zero_add, show wr.heap.size = (wr.drewN n).heap.size from rfl, (Blk.new (wr.drewN n) 73 #[.int .i64 p, .int .i64 A, .int .i64 i, .slice ba i bc, .slice none 0 0]).cell j]
              rw [HCL.out] at hj
              simpa using hj
            have hone : Hid (∀ u ∈ o.cells, u.oneCell' = true) := cells_one o
            have hlen5 : Hid (o.cells.length = 1 * 5) := by simp [Hid, RO.cells]
            have HGXX := Lib.hid HM2.out.gx
            have HC2 := Lib.hid c2
            have HCF := Lib.hid c2f
            have hw3 : IntKind.i64.wrap ((p : Int) + (D : Int)) = (p : Int) + (D : Int) := by rw [IntKind.wrap_i64]; omega
            clear hrfq hlv hlen
            go_wp2_with fail
            go_region_law (refine step_append_form rfl (.tmp 147) (.tmp 149) 37 rfl w.heap.size 73 5 72 _ Try.underlying37 infoO rfl (by decide) xa x.L.length xc _ (by simp [Act.eval]) (own_keep HROW.out (((Still.refl wr).drewN _).alloc _) (fun _ _ e => e)) ⟨wr.heap.size, 0, none⟩ 1 1 o.cells (by simp [Act.eval]) hlen5.out (hsrc.out _) hone.out (by decide) (by have := HLEN.out; unfold maxLen; omega) (by have := HLEN.out; omega) (by simp; omega) ?_; intro g' c' w4 hr4 ht4 hn4; have q2 : w4.cell? ⟨w.heap.size, 2, none⟩ = some (.slice xa x.L.length xc) := (ht4.out.cell (p := ⟨w.heap.size, 2, none⟩) (by simp; omega) NLX.out).trans ((World.cell?_alloc_lt (wr.drewN _) _ ⟨w.heap.size, 2, none⟩ hgx).trans HC2.out); have q2f : w4.frozen? ⟨w.heap.size, 2, none⟩ = false := (ht4.out.frozen (p := ⟨w.heap.size, 2, none⟩) (by simp; omega) NLX.out).trans (((Still.refl wr).drewN _).alloc _ |>.frozen (p := ⟨w.heap.size, 2, none⟩) hgx (fun e => e) |>.trans HCF.out))
            all_goals
              go_wp2_with fail
              go_roundw
              case rel =>
                have ht5 : Turn (fun k => x.lv.ownBlock = some k) wr w4 := by rw [HLV.out]; exact (Still.turn (((Still.refl wr).drewN _).alloc _)).trans ht4.out
                have hmore := HM2.out.more HWQ.out HRQ.out hr4.out ht5 HLEN.out HGO.out (by rw [HO2.out])
                rw [HSZ.out, HGXX.out] at hmore
                exact ⟨p + D, _, by go_num, by omega, hmore⟩
              case measure => have := HND.out; simp [intOf]; omega
    · obtain rfl : p = top := by omega
      obtain ⟨xa, xc, hlv⟩ := HM.out.rf.lv_slice
      have c2 : wr.cell? ⟨w.heap.size, 2, none⟩ = some (.slice xa x.L.length xc) := by rw [← HM.out.gx, ← hlv]; exact HM.out.rf.c2
      have hgx : w.heap.size < wr.heap.size := by rw [← HM.out.gx]; exact HM.out.rf.blk.lt
      have HLV := Lib.hid hlv
      have hfew := HM.out.rf.few
      clear hlv
      go_wp2_with fail
      go_loopw [161] (fun v wq => ∃ j : Nat, v = .int .i64 j ∧ j ≤ x.L.length ∧ Still wr wq ∧ ∀ k o, k < j → x.L[k]? = some o → ∀ v ∈ o.fs, x.fits (v : Nat) = true) (fun v _ => x.L.length - (intOf v).toNat)
      case atStart => exact ⟨0, rfl, by omega, Still.refl _, fun k o hk => by omega⟩
      case round =>
        rename World => wq
        obtain ⟨j, rfl, hj, ht, hfit⟩ := hrel
        have HT := Lib.hid ht
        have HFIT := Lib.hid hfit
        by_cases hjl : j < x.L.length
        · obtain ⟨o, ho⟩ : ∃ o, x.L[j]? = some o := ⟨_, List.getElem?_eq_getElem hjl⟩
          rcases (HM.out.rf.still ht).lv_form with ⟨_, h0⟩ | ⟨g, cap, h1, hg, hb, hle, hmm, hf, hcc⟩
          · rw [h0] at hjl; simp at hjl
          have h2 := h1.symm.trans HLV.out
          injection h2 with h3 _ h4
          subst h3; subst h4
          obtain ⟨d0, d1, d2, d3, d4⟩ := hcc j o ho
          have hom := List.mem_of_getElem? ho
          have hgo := HM.out.took.good o hom
          have hfl := hgo.flat.2.2.2.1
          have hflt := hgo.fl
          have HFR := Lib.hid ((HM.out.rf.still (ht.alloc (.cells o.arr 73))).rows o hom).1
          have HBK := Lib.hid (Blk.new wq 73 o.arr)
          have HOM := Lib.hid hom
          have HOJ := Lib.hid ho
          have HFLT := Lib.hid hflt
          clear hcc h1 hf hb hle ht hfit hom hgo hflt ho c2
          unfold maxLen at hmm
          go_wp2_with fail
          go_loopw [168] (fun v wp => ∃ m : Nat, v = .int .i64 m ∧ m ≤ o.fs.length ∧ Still (wq.alloc (.cells o.arr 73)) wp ∧ ∀ i, i < m → x.fits (o.fs.getD i 0 : Nat) = true) (fun v _ => o.fs.length - (intOf v).toNat)
          case atStart => exact ⟨0, rfl, by omega, Still.refl _, fun i hi => by omega⟩
          case round =>
            rename World => wp
            obtain ⟨m, rfl, hm1, ht2, hf2⟩ := hrel
            have HT2 := Lib.hid ht2
            have HF2 := Lib.hid hf2
            by_cases hml : m < o.fs.length
            · obtain ⟨gr, hra, hgr, hr1, hr2, hr3, _⟩ := own_form HFR.out (by omega)
              obtain ⟨V, hV⟩ : ∃ V, o.fs.getD m 0 = V := ⟨_, rfl⟩
              have hVm : V ∈ o.fs := by rw [← hV, List.getD_eq_getElem?_getD, List.getElem?_eq_getElem hml]; exact List.getElem_mem _
              have hVl := HFLT.out V hVm
              have cm := hr3 m (.int .u64 V) (by rw [List.getElem?_map, List.getElem?_eq_getElem hml, ← hV, List.getD_eq_getElem?_getD, List.getElem?_eq_getElem hml]; rfl)
              rw [← ht2.cell (p := ⟨gr, m, none⟩) hgr] at cm
              have hgr' : gr < wp.heap.size := Nat.lt_of_lt_of_le hgr ht2.size
              have hfv : o.fv = .slice (some ⟨gr, 0, none⟩) o.fs.length o.fc := by unfold RO.fv; rw [hra]
              have HFV := Lib.hid hfv
              unfold maxLen at hr2
              have hX := refFits_any x (V : Nat) wp (HM.out.rf.still ((HT.out.alloc _).trans ht2)) (by omega) (by omega)
              rw [HPT.out] at hX
              have HVV := Lib.hid hV
              have HVM := Lib.hid hVm
              obtain ⟨oa, hoa⟩ : ∃ oa, o.fa = oa := ⟨_, rfl⟩
              have hoa2 : oa = some ⟨gr, 0, none⟩ := by rw [← hoa, hra]
              cases hx : x.fits (V : Nat) with
              | true =>
                rw [hx] at hX
                have HX := Lib.hid hX
                have HXX := Lib.hid hx
                clear ht2 hf2 hr3 hX hx hV hVm hfv
                simp only [hra]
                clear hra hoa hoa2
                go_wp2_with fail
                refine HX.out.mono ?_; rintro e w9 ⟨rfl, t9⟩
                have HT9 := Lib.hid t9
                clear t9
                go_wp2_with fail
                go_roundw
                case rel => exact ⟨m + 1, by go_num, by omega, HT2.out.trans HT9.out, fun i hi => by
                  by_cases e : i = m
                  · subst e; rw [HVV.out]; exact HXX.out
                  · exact HF2.out i (by omega)⟩
                case measure => simp [intOf]; omega
              | false =>
                rw [hx] at hX
                have HX := Lib.hid hX
                have hno : ∀ l, ¬ s.closes p l := by
                  unfold Rf.fits at hx
                  rw [Bool.or_eq_false_iff] at hx
                  have hodd : V % 2 ≠ 1 := by have := beq_eq_false_iff_ne.1 hx.1; omega
                  refine HM.out.took.no_fit hm (by omega) HOM.out hVm hodd fun q hq e => ?_
                  have := Rf.has_no hx.2 q hq
                  omega
                have HNO := Lib.hid hno
                clear ht2 hf2 hr3 hX hx hV hVm hfv hno
                simp only [hra]
                clear hra hoa hoa2
                go_wp2_with fail
                refine HX.out.mono ?_; rintro e w9 ⟨rfl, t9⟩
                have HT9 := Lib.hid t9
                clear t9
                go_wp2_with fail
                go_ret2
                exact .inr ⟨rfl, HM.out.still.trans ((HT.out.alloc _).trans (HT2.out.trans HT9.out)), HNO.out⟩
            · obtain rfl : m = o.fs.length := by omega
              clear ht2 hf2
              go_wp2_with fail
              go_roundw
              case rel => exact ⟨j + 1, by go_num, by omega, (HT.out.alloc _).trans HT2.out, fun k q hk hq v hv => by
                by_cases e : k = j
                · subst e
                  have : q = o := by have h1 := HOJ.out; rw [hq] at h1; injection h1
                  subst this
                  obtain ⟨i, hi, rfl⟩ := List.mem_iff_getElem.1 hv
                  have := HF2.out i hi
                  rwa [List.getD_eq_getElem?_getD, List.getElem?_eq_getElem hi] at this
                · exact HFIT.out k q (by omega) hq v hv⟩
              case measure => simp [intOf]; omega
        · obtain rfl : j = x.L.length := by omega
          have hlaid : LaidAs s p x.L := by
            refine HM.out.took.laid fun o ho v hv => ?_
            obtain ⟨k, hk, rfl⟩ := List.mem_iff_getElem.1 ho
            have h1 := hfit k _ hk (List.getElem?_eq_getElem hk) v hv
            unfold Rf.fits at h1
            rw [Bool.or_eq_true] at h1
            rcases h1 with h1 | h1
            · left; have := beq_iff_eq.1 h1; omega
            · right
              unfold Rf.has at h1
              obtain ⟨q, hq, e⟩ := List.any_eq_true.1 h1
              exact ⟨q, hq, by have := of_decide_eq_true e; omega⟩
          have HLA := Lib.hid hlaid
          clear ht hfit hlaid c2
          go_wp2_with fail
          go_ret2
          exact .inl ⟨x, congrArg (fun v => Ending.returned (.tuple #[v, .bool true])) HPT.out.symm, HM.out.rf.still HT.out, HM.out.a, HM.out.n, HM.out.len, HM.out.K, HM.out.N, HLA.out, HM.out.still.trans HT.out⟩
end Go.Proofs.Ythfkgkddklnnhaa
