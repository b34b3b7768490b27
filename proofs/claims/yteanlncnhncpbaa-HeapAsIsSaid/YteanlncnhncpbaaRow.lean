/- The document's Row: all words of the heap. -/
import Derived.Test.YteanlncnhncpbaaAgree
namespace Go.Proofs.Yteanlncnhncpbaa
set_option linter.unusedVariables false
open Go.ChangeShapes Go.WideShapes Go.ChangeAt Go.RowKit
open M (W)

theorem Still.own_turn {w W W' : World} {e : TypeId} {size n : Nat} {v : Value} {xs : List Value} (h : Still w W) (t : Turn (fun k => v.ownBlock = some k) W W') (hown : W.ownsRow w.heap.size e size v n xs) : Still w W' :=
  Still.own h (t.below_only hown h.size)
def RO.arr (o : RO) : Array Value := #[.int .i64 o.at_, .int .i64 o.sh, .int .i64 o.n, o.fv, o.bv]
theorem blk5 {W : World} {g : Nat} {t : TypeId} {o : RO} (h : Blk W g t o.arr) : W.cell? ⟨g, 0, none⟩ = some (.int .i64 o.at_) ∧ W.cell? ⟨g, 1, none⟩ = some (.int .i64 o.sh) ∧ W.cell? ⟨g, 2, none⟩ = some (.int .i64 o.n) ∧ W.cell? ⟨g, 3, none⟩ = some o.fv ∧ W.cell? ⟨g, 4, none⟩ = some o.bv := ⟨h.cell 0, h.cell 1, h.cell 2, h.cell 3, h.cell 4⟩
theorem Blk.other {W W' : World} {g : Nat} {t e : TypeId} {cs : Array Value} {base size n : Nat} {v : Value} {xs : List Value} (h : Blk W g t cs) (tr : Turn (fun k => v.ownBlock = some k) W W') (hown : W.ownsRow base e size v n xs) (hne : e ≠ t) : Blk W' g t cs :=
  h.keep tr (own_blk hown h hne)

theorem one_new (W : World) (t : TypeId) (v : Value) (g : Nat) (hg : W.heap.size = g) : ∀ (j : Nat) u, [v][j]? = some u → (W.alloc (.cells #[v] t)).cell? ((⟨g, 0, none⟩ : Addr).add j) = some u := by
  subst hg
  intro j u hj
  match j, hj with
  | 0, hj =>
    obtain rfl : v = u := by simpa using hj
    exact (Blk.new W t #[v]).cell 0
  | j + 1, hj => simp at hj

def lenV : Value → Nat
  | .slice _ n _ => n
  | _ => 0
set_option maxRecDepth 100000 in
set_option maxHeartbeats 8000000 in
theorem row_any {B : Nat} (s : St) (x : Rf) (w : World) (h : Agree B w s x) :
    Calls Try.prog 22 #[x.ptr] w fun e w' => (∃ a c, e = .returned (.slice a s.n c) ∧ w'.ownsRow w.heap.size 30 1 (.slice a s.n c) s.n (M.u64s s.ws s.n)) ∧ Still w w' := by
  have c2 := h.rf.c2
  have c0 := h.rf.c0
  rw [h.n] at c0
  have hfew := h.rf.few
  have hgx := h.rf.blk.lt
  have hn := h.hp.n_le
  have htn := h.hp.top_le
  have HH := Lib.hid h
  obtain ⟨la, lc, hlv⟩ := h.rf.lv_slice
  have HLV := Lib.hid hlv
  rw [hlv] at c2
  clear h hlv
  go_enter Try.func22, Try.ntmps22
  go_wp2_with fail
  go_loopw [3, 14] (fun l i wr => ∃ (j p : Nat) (a : Option Addr) (n c : Nat), i = .int .i64 j ∧ l = .slice a n c ∧ j ≤ x.L.length ∧ n = p ∧ Tile s p (x.L.drop j) ∧ Still w wr ∧ wr.ownsRow w.heap.size 30 1 (.slice a n c) n (M.u64s s.ws p)) (fun _ i _ => x.L.length - (intOf i).toNat)
  case atStart => exact ⟨0, 0, none, 0, 0, rfl, rfl, by omega, rfl, HH.out.sim.tile, Still.refl _, World.ownsRow_nil _ _ _ _⟩
  case round =>
    obtain ⟨j, p, a, n, c, rfl, rfl, hj, rfl, htile, ht, hown⟩ := hrel
    have hptop := htile.le
    have HW := Lib.hid ht
    have HO := Lib.hid hown
    by_cases hjl : j < x.L.length
    · obtain ⟨o, ho⟩ : ∃ o, x.L[j]? = some o := ⟨_, List.getElem?_eq_getElem hjl⟩
      rcases HH.out.rf.lv_form with ⟨_, h0⟩ | ⟨g, cap, h1, hg, hb, hle, hm, hf, hc⟩
      · rw [h0] at hjl; simp at hjl
      have h2 := h1.symm.trans HLV.out
      injection h2 with h3 _ h4
      subst h3; subst h4
      unfold maxLen at hm
      have HLE := Lib.hid hle
      have HC := Lib.hid hc
      clear hc h1 hf hb hle
      obtain ⟨d0, d1, d2, d3, d4⟩ := HC.out j o ho
      have e0 : wr.cell? ⟨g, j * 5, none⟩ = some (.int .i64 o.at_) := by rw [ht.cell hg]; exact d0
      have e1 : wr.cell? ⟨g, j * 5 + 1, none⟩ = some (.int .i64 o.sh) := by rw [ht.cell hg]; exact d1
      have e2 : wr.cell? ⟨g, j * 5 + 2, none⟩ = some (.int .i64 o.n) := by rw [ht.cell hg]; exact d2
      have e3 : wr.cell? ⟨g, j * 5 + 3, none⟩ = some o.fv := by rw [ht.cell hg]; exact d3
      have e4 : wr.cell? ⟨g, j * 5 + 4, none⟩ = some o.bv := by rw [ht.cell hg]; exact d4
      have hgr : g < wr.heap.size := Nat.lt_of_lt_of_le hg ht.size
      have hom := List.mem_of_getElem? ho
      have HG := Lib.hid (HH.out.sim.good o hom)
      obtain ⟨hat, htile2⟩ := htile.drop ho
      subst hat
      have hp2 := htile2.le
      obtain ⟨z1, z2, z3, z4, z5⟩ := HG.out.flat
      have HROW := Lib.hid (HH.out.rf.rows o hom)
      have hhd : ((s.ws o.at_ : Nat) : Int) = M.hd o.sh o.n 0 0 := by rw [HG.out.hd]; exact Int.toNat_of_nonneg (M.hd_lo ..)
      have HHD : ∀ W : World, Calls Try.prog 57 #[.int .i64 o.sh, .int .i64 o.n] W fun e w' => e = .returned (.int .u64 (s.ws o.at_)) ∧ ∃ n, w' = W.drewN n := by
        intro W; rw [hhd]; exact M.hd_head o.sh o.n ▸ refHead_any o.sh o.n W
      obtain ⟨g5, hg5⟩ : ∃ g5, wr.heap.size = g5 := ⟨_, rfl⟩
      have HG5 := Lib.hid hg5
      have HT2 := Lib.hid htile2
      have HZ := Lib.hid (And.intro z1 (And.intro z2 z3))
      clear d0 d1 d2 d3 d4 ht hown htile htile2 z1 z2 z3 hhd ho c2 hom hg5
      go_wp2_with fail
      refine (HHD _).mono ?_; rintro e w1 ⟨rfl, nd, rfl⟩
      have S1 : Still wr (((wr.alloc (.cells o.arr 54)).drewN nd).alloc (.cells #[.int .u64 (s.ws o.at_)] 30)) := (((Still.refl wr).alloc _).drewN nd).alloc _
      have B1 := ((Blk.new wr 54 o.arr).drewN nd).alloc (.cells #[.int .u64 (s.ws o.at_)] 30)
      have N1 := one_new ((wr.alloc (.cells o.arr 54)).drewN nd) 30 (.int .u64 (s.ws o.at_)) (wr.heap.size + 1) (by simp)
      have HOA := Lib.hid (own_keep (HO.out) S1 (fun _ _ e => e))
      have HS1 := Lib.hid S1
      have HB1 := Lib.hid B1
      have HN1 := Lib.hid N1
      clear S1 B1 N1 e0 e1 e2 e3 e4 HHD
      go_wp2_with (first
        | (at_builtin; refine wpList_append_form rfl (.tmp 18) (.tmp 24) 37 rfl w.heap.size 30 1 8 (.int .u64 0) Try.underlying37 infoU rfl (by decide) a o.at_ c _ rfl HOA.out ⟨wr.heap.size + 1, 0, none⟩ 1 1 [.int .u64 (s.ws o.at_)] rfl rfl HN1.out (by simp [Value.oneCell']) (by decide) (by unfold maxLen; omega) (by omega) (Nat.le_trans HW.out.size HS1.out.size) ?_
           intro g1 c1 w2 hown2 ht2 hnew2
           have HW2 := Lib.hid ((HW.out.trans HS1.out).own_turn ht2.out HOA.out)
           have HB2 := Lib.hid (HB1.out.other ht2.out HOA.out (by decide))
           have HO2 : Hid (w2.ownsRow w.heap.size 30 1 (.slice (some ⟨g1, 0, none⟩) (o.at_ + 1) c1) (o.at_ + 1) (M.u64s s.ws (o.at_ + 1))) := by rw [u64s_succ]; exact hown2.out
           obtain ⟨b0, b1, b2, b3, b4⟩ := blk5 HB2.out
           have hg5l := HB2.out.lt
           clear hown2 ht2 hnew2 HOA HS1 HB1 HN1)
        | (at_builtin; refine wpList_append_row rfl (.tmp 26) (.tmp 28) 37 rfl w.heap.size 30 1 8 (.int .u64 0) Try.underlying37 infoU rfl (by decide) _ (o.at_ + 1) c1 _ rfl HO2.out B o.fa o.fs.length o.fc (o.fs.map fun v : Nat => Value.int .u64 (v : Int)) rfl (own_keep HROW.out.1 HW2.out (fun _ _ e => e)) (nats_one _) (by unfold maxLen; omega) (by omega) HW2.out.size ?_
           intro a2 c2 w3 hown3 ht3 hnew3
           have HW3 := Lib.hid (HW2.out.own_turn ht3.out HO2.out)
           have HB3 := Lib.hid (HB2.out.other ht3.out HO2.out (by decide))
           have HO3 : Hid (w3.ownsRow w.heap.size 30 1 (.slice a2 (o.at_ + 1 + o.fs.length) c2) (o.at_ + 1 + o.fs.length) (M.u64s s.ws (o.at_ + 1 + o.fs.length))) := by rw [← u64s_row _ _ _ HZ.out.2.1]; exact hown3.out
           clear hown3 ht3 hnew3 HO2 HW2 HB2 b0 b1 b2 b3 b4 hg5l))
      have hsz := HZ.out.1
      have hgxr : x.gx < wr.heap.size := Nat.lt_of_lt_of_le hgx HW.out.size
      have hwr : w.heap.size ≤ wr.heap.size := HW.out.size
      generalize wr.heap.size = g5 at *
      obtain ⟨F, hF⟩ : ∃ F, o.at_ + 1 + o.fs.length = F := ⟨_, rfl⟩
      rw [hF] at HO3 ⊢
      have HF := Lib.hid hF
      have HSZ := Lib.hid hsz
      have hbl := z5
      have hlast : F + (o.bs.length + 7) / 8 ≤ s.top := by omega
      clear hF hsz HO hptop hp2 z5 z4
      go_loopw [3, 6] (fun l i wq => ∃ (q Q n c : Nat) (a : Option Addr), i = .int .i64 Q ∧ l = .slice a n c ∧ Q = q * 8 ∧ q ≤ (o.bs.length + 7) / 8 ∧ n = F + q ∧ Still w wq ∧ Blk wq g5 54 o.arr ∧ wq.ownsRow w.heap.size 30 1 (.slice a n c) n (M.u64s s.ws n)) (fun _ i _ => 65544 - (intOf i).toNat)
      case atStart => exact ⟨0, 0, F, c2, a2, rfl, rfl, rfl, by omega, rfl, HW3.out, HB3.out, HO3.out⟩
      case round =>
        obtain ⟨q, Q, n, c, a, rfl, rfl, hQ, hq, hn2, ht, hblk, hown⟩ := hrel
        obtain ⟨b0, b1, b2, b3, b4⟩ := blk5 hblk
        have hg5l := hblk.lt
        have HT := Lib.hid ht
        have HBK := Lib.hid hblk
        have HOW := Lib.hid hown
        have HQ := Lib.hid hQ
        have HN2 := Lib.hid hn2
        clear ht hblk hown HW3 HB3 HO3 hQ hn2
        by_cases hql : Q < o.bs.length
        · obtain ⟨gb, hba, hgb, hbc1, hbc2, hbcell, _⟩ := own_form HROW.out.2 (by omega)
          have b4' : wr.cell? ⟨g5, 4, none⟩ = some (.slice (some ⟨gb, 0, none⟩) o.bs.length o.bc) := by rw [b4, ← hba]
          have hgbr : gb < wr.heap.size := Nat.lt_of_lt_of_le hgb HT.out.size
          have HBC : Hid (∀ i, i < o.bs.length → wr.cell? ⟨gb, i, none⟩ = some (.int .u8 (o.bs.getD i 0 : Nat))) := fun i hi => by
            rw [HT.out.cell (p := ⟨gb, i, none⟩) hgb]
            refine hbcell i _ ?_
            rw [List.getElem?_map, List.getElem?_eq_getElem hi, List.getD_eq_getElem?_getD, List.getElem?_eq_getElem hi]; rfl
          unfold maxLen at hbc2
          clear hbcell b4 hba
          go_wp2_with fail
          go_loopw [7, 8] (fun v k wk => ∃ (m : Nat), m ≤ 8 ∧ k = .int .i64 (7 - (m : Int)) ∧ v = .int .u64 (M.wordFrom o.bs q m : Nat) ∧ wk = wr) (fun _ k _ => (intOf k + 1).toNat)
          case atStart => exact ⟨0, by omega, rfl, rfl, rfl⟩
          case round =>
            obtain ⟨m, hm8, rfl, rfl, rfl⟩ := hrel
            by_cases hm : m < 8
            · obtain ⟨t, ht⟩ : ∃ t : Nat, 7 - (m : Int) = t := ⟨7 - m, by omega⟩
              have HT7 := Lib.hid ht
              have hv0 := wordFrom_lt o.bs HG.out.bl q m (by omega)
              have hv7 : 256 ^ m ≤ 256 ^ 7 := Nat.pow_le_pow_right (by decide) (by omega)
              have hvw : M.wordFrom o.bs q m < 72057594037927936 := Nat.lt_of_lt_of_le hv0 hv7
              have hcc := getD_lt HG.out.bl (q * 8 + (7 - m))
              obtain ⟨i, hi⟩ : ∃ i, Q + t = i := ⟨_, rfl⟩
              have hii : q * 8 + (7 - m) = i := by have := HQ.out; omega
              have hsum : (Q : Int) + (t : Int) = (i : Int) := by omega
              have hstep : M.wordFrom o.bs q (m + 1) = M.wordFrom o.bs q m * 256 + o.bs.getD i 0 := by rw [← hii]; rfl
              rw [hii] at hcc
              rw [ht]
              obtain ⟨v, hv⟩ : ∃ v, M.wordFrom o.bs q m = v := ⟨_, rfl⟩
              rw [hv] at hvw hstep ⊢
              obtain ⟨v2, hv2⟩ : ∃ v2, v * 256 = v2 := ⟨_, rfl⟩
              have hw1 : IntKind.u64.wrap ((v : Int) * 256) = (v2 : Int) := by rw [IntKind.wrap_u64]; omega
              have ht0 : t ≤ 7 := by omega
              have ht1 : (0 : Int) ≤ t := by omega
              have HST := Lib.hid hstep
              have HV2 := Lib.hid hv2
              have HII := Lib.hid hi
              clear ht hv0 hv7 hv hstep hii hi hm8
              by_cases hib : i < o.bs.length
              · have hcell := HBC.out i hib
                obtain ⟨cc, hc2⟩ : ∃ cc, o.bs.getD i 0 = cc := ⟨_, rfl⟩
                rw [hc2] at hcell hcc HST
                obtain ⟨v3, hv3⟩ : ∃ v3, v2 + cc = v3 := ⟨_, rfl⟩
                have hw2 : IntKind.u64.wrap (cc : Int) = (cc : Int) := by rw [IntKind.wrap_u64]; omega
                have hw3 : IntKind.u64.wrap ((v2 : Int) + (cc : Int)) = (v3 : Int) := by rw [IntKind.wrap_u64]; have := HV2.out; omega
                have HV3 := Lib.hid hv3
                clear hc2 hv2 hv3
                go_wp2_with fail
                refine ⟨⟨m + 1, by omega, by have := HT7.out; congr 1; omega, by rw [HST.out, HV2.out, HV3.out], trivial⟩, by simp [intOf]⟩
              · have hc0 : o.bs.getD i 0 = 0 := by rw [List.getD_eq_getElem?_getD, List.getElem?_eq_none (by omega)]; rfl
                rw [hc0, Nat.add_zero] at HST
                clear hc0 hcc
                go_wp2_with fail
                refine ⟨⟨m + 1, by omega, by have := HT7.out; congr 1; omega, by rw [HST.out, HV2.out]; rfl, trivial⟩, by simp [intOf]⟩
            · obtain rfl : m = 8 := by omega
              have hword : M.wordFrom o.bs q 8 = s.ws n := by
                have hat := HF.out; have h3 := HZ.out.2.2 q (by have := HQ.out; omega); have := HN2.out
                rw [wordFrom_8, ← h3, hat, ← this]
              have h78 : (7 : Int) - ((8 : Nat) : Int) = -1 := by decide
              rw [hword, h78]
              have hnn : n < 65536 := by have := HN2.out; have := HQ.out; omega
              have HNN := Lib.hid hnn
              clear hword h78 hm8 hm
              have HN1 := Lib.hid (one_new wr 30 (.int .u64 (s.ws n)) wr.heap.size rfl)
              go_wp2_with (first
                | (at_builtin; refine wpList_append_form rfl (.tmp 60) (.tmp 62) 37 rfl w.heap.size 30 1 8 (.int .u64 0) Try.underlying37 infoU rfl (by decide) a n c _ rfl (own_keep HOW.out ((Still.refl wr).alloc (.cells #[.int .u64 (s.ws n)] 30)) (fun _ _ e => e)) ⟨wr.heap.size, 0, none⟩ 1 1 [.int .u64 (s.ws n)] rfl rfl HN1.out (by simp [Value.oneCell']) (by decide) (by unfold maxLen; omega) (by omega) (by have := HT.out.size; simp; omega) ?_
                   intro g9 c9 w9 hown9 ht9 hnew9))
              go_roundw
              case rel =>
                have howA := own_keep HOW.out ((Still.refl wr).alloc (.cells #[.int .u64 (s.ws n)] 30)) (fun _ _ e => e)
                refine ⟨q + 1, Q + 8, n + 1, c9, some ⟨g9, 0, none⟩, by go_num, rfl, by have := HQ.out; omega, by have := HQ.out; omega, by have := HN2.out; omega, (HT.out.trans ((Still.refl wr).alloc _)).own_turn ht9.out howA, (HBK.out.alloc _).other ht9.out howA (by decide), ?_⟩
                rw [u64s_succ]; exact hown9.out
              case measure => simp [intOf]; omega
        · have hend : n = o.at_ + s.sz o := by have := HN2.out; have := HF.out; have := HSZ.out; have := HQ.out; omega
          have HEND := Lib.hid hend
          clear hend
          go_wp2_with fail
          go_roundw
          case rel => exact ⟨j + 1, o.at_ + s.sz o, a, n, c, by go_num, rfl, by omega, HEND.out, HT2.out, HT.out, by rw [← HEND.out]; exact HOW.out⟩
          case measure => simp [intOf]; omega
    · obtain rfl : j = x.L.length := by omega
      have hend : n = s.top := by have := htile; rw [List.drop_length] at this; exact this
      subst hend
      clear htile hptop ht hown c2
      go_wp2_with fail
      go_loopw [3] (fun l wq => ∃ (n c : Nat) (a : Option Addr), l = .slice a n c ∧ s.top ≤ n ∧ n ≤ s.n ∧ Still w wq ∧ wq.ownsRow w.heap.size 30 1 (.slice a n c) n (M.u64s s.ws n)) (fun l _ => s.n - lenV l)
      case atStart => exact ⟨s.top, c, a, rfl, by omega, by omega, HW.out, HO.out⟩
      case round =>
        obtain ⟨n, c, a, rfl, hn1, hn2, ht, hown⟩ := hrel
        have c0' : wr.cell? ⟨x.gx, 0, none⟩ = some (.int .i64 s.n) := by rw [ht.cell hgx]; exact c0
        have hgxr : x.gx < wr.heap.size := Nat.lt_of_lt_of_le hgx ht.size
        have HT := Lib.hid ht
        have HOW := Lib.hid hown
        clear ht hown
        by_cases hlt : n < s.n
        · have HN1 := Lib.hid (one_new wr 30 (.int .u64 0) wr.heap.size rfl)
          go_wp2_with (first
            | (at_builtin; refine wpList_append_form rfl (.tmp 72) (.tmp 73) 37 rfl w.heap.size 30 1 8 (.int .u64 0) Try.underlying37 infoU rfl (by decide) a n c _ rfl (own_keep HOW.out ((Still.refl wr).alloc (.cells #[.int .u64 0] 30)) (fun _ _ e => e)) ⟨wr.heap.size, 0, none⟩ 1 1 [.int .u64 0] rfl rfl HN1.out (by simp [Value.oneCell']) (by decide) (by unfold maxLen; omega) (by omega) (by have := HT.out.size; simp; omega) ?_
               intro g9 c9 w9 hown9 ht9 hnew9))
          go_roundw
          case rel =>
            have howA := own_keep HOW.out ((Still.refl wr).alloc (.cells #[.int .u64 0] 30)) (fun _ _ e => e)
            refine ⟨n + 1, c9, some ⟨g9, 0, none⟩, rfl, by omega, by omega, (HT.out.trans ((Still.refl wr).alloc _)).own_turn ht9.out howA, ?_⟩
            rw [u64s_succ, HH.out.sim.zero n hn1]; exact hown9.out
          case measure => simp [lenV]; omega
        · obtain rfl : n = s.n := by omega
          go_wp2_with fail
          go_ret
          exact ⟨⟨a, c, rfl, HOW.out⟩, HT.out⟩
end Go.Proofs.Yteanlncnhncpbaa
