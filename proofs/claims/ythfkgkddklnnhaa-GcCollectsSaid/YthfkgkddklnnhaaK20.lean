/- Lemmas, put together: Reached Made3 OpenCase Fit Alike. -/
import Derived.Test.YthfkgkddklnnhaaK16
import Derived.Test.YthfkgkddklnnhaaK19
import Derived.Test.YthfkgkddklnnhaaK04
import Derived.Test.YthfkgkddklnnhaaK07
import Derived.Test.YthfkgkddklnnhaaK17
import Derived.Deep.QuietTactic
import Derived.BigQuiet
/- The document's Reached. -/
namespace Go.Proofs.Ythfkgkddklnnhaa
set_option linter.unusedVariables false
open Go.ChangeShapes Go.WideShapes Go.ChangeAt Go.RowKit
open M (W)

abbrev M.u64l (l : List Nat) : List Value := l.map fun v : Nat => Value.int .u64 (v : Int)
theorem u64l_one (l : List Nat) : ∀ u ∈ M.u64l l, u.oneCell' = true := by
  intro u hu
  obtain ⟨v, _, rfl⟩ := List.mem_map.1 hu
  rfl
theorem infoBool : (Try.prog.info? 4).map (fun i => (i.zero, i.size, i.bytes)) = some (some (.bool false), 1, 1) := by kernel_rfl
theorem infoWord : (Try.prog.info? 33).map (fun i => (i.zero, i.size, i.bytes)) = some (some (.int .u64 0), 1, 8) := by kernel_rfl
theorem makeBools (n : Nat) (h : n ≤ 65536) : ∀ W, (Instr.makeSlice 100 (.int .i64 (n : Int)) (.int .i64 (n : Int))).run Try.prog W = .ok (.slice (some ⟨W.heap.size, 0, none⟩) n n) (W.alloc (.cells (madeCells #[.bool false] n) 4)) :=
  fun W => run_make_row' _ _ _ 1 Try.underlying100 infoBool rfl .i64 .i64 n (by omega) (by omega) W
def M.slen : Value → Nat
  | .slice _ n _ => n
  | _ => 0
def M.isAt (W : World) (g k : Nat) : Bool := match W.cell? ⟨g, k, none⟩ with
  | some (.bool true) => true
  | _ => false
theorem left_congr {L : List RO} {is js : Nat → Bool} (h : ∀ k, k < L.length → is k = js k) : M.unseen L is = M.unseen L js :=
  sumTo_congr _ fun k hk => by rw [h k hk]
theorem left_at {L : List RO} {is : Nat → Bool} {W : World} {g : Nat} (h : W.rowIs g 4 L.length (fun k => .bool (is k))) : M.unseen L (M.isAt W g) = M.unseen L is :=
  left_congr fun k hk => by
    unfold M.isAt
    rw [h.cell (i := k) hk]
    cases is k <;> rfl
set_option maxRecDepth 100000 in
set_option maxHeartbeats 4000000 in
theorem reached_any {B : Nat} (x : Rf) (w : World) (h : RfIs B w x) (rl : List Nat) (a : Option Addr) (n cap base' : Nat) (hsrc : Que w base' 33 a n cap (M.u64l rl)) (hlt : ∀ v ∈ rl, v < 18446744073709551616) (hn : n ≤ 65536)
    (hfl : ∀ o ∈ x.L, o.fs.length ≤ 65536) (hfb : ∀ o ∈ x.L, ∀ v ∈ o.fs, v < 18446744073709551616) (hfT : ∀ v ∈ rl, v % 2 = 0 → ∃ o ∈ x.L, o.at_ = v / 2) (hfF : ∀ o ∈ x.L, ∀ v ∈ o.fs, v % 2 = 0 → ∃ p ∈ x.L, p.at_ = v / 2)
    (hun : ∀ (j k : Nat) (p o : RO), x.L[j]? = some p → x.L[k]? = some o → p.at_ = o.at_ → j = k) :
    Calls Try.prog 47 #[x.ptr, .slice a n cap] w fun e w' => ∃ (gi : Nat) (is : Nat → Bool), e = .returned (.slice (some ⟨gi, 0, none⟩) x.L.length x.L.length) ∧ w'.rowIs gi 4 x.L.length (fun k => .bool (is k)) ∧ (∀ (k : Nat) (o : RO), x.L[k]? = some o → (is k = true ↔ M.Rch x.L rl o.at_)) ∧ Still w w' ∧ w.heap.size ≤ gi := by
  have c2 := h.c2
  have hfew := h.few
  have hgx := h.blk.lt
  obtain ⟨la, lc, hlv, hlc⟩ : ∃ la lc, x.lv = .slice la x.L.length lc ∧ x.L.length ≤ lc := by
    rcases h.lv_form with ⟨h1, h0⟩ | ⟨g, cap, h1, _, _, h2, _⟩
    · exact ⟨none, 0, by rw [h1, h0]; rfl, by rw [h0]; simp⟩
    · exact ⟨_, _, h1, h2⟩
  rw [hlv] at c2
  obtain ⟨N, hN⟩ : ∃ N, x.L.length = N := ⟨_, rfl⟩
  have hmk := makeBools N (by omega)
  rw [hN] at c2 hfew ⊢
  have HH := Lib.hid h
  have HS := Lib.hid hsrc
  have HLV := Lib.hid hlv
  have HST := Lib.hid (Rs.start hfT)
  have HLT := Lib.hid hlt
  have HFL := Lib.hid hfl
  have HFB := Lib.hid hfb
  have HFF := Lib.hid hfF
  have HUN := Lib.hid hun
  have HN := Lib.hid hN
  have hnl : rl.length = n := by have := hsrc.1; simpa using this
  have HNL := Lib.hid hnl
  clear h hsrc hlv hlt hfl hfb hfT hfF hun hN hnl hlc
  go_enter Try.func47, Try.ntmps47
  have HQ0 : Hid (Que ((w.alloc (.cells (madeCells #[.bool false] N) 4)).alloc (.cells #[] 33)) (w.heap.size + 1) 33 (some ⟨w.heap.size + 1, 0, none⟩) 0 0 []) :=
    ⟨rfl, Nat.le_refl _, by unfold maxLen; omega, .inr ⟨w.heap.size + 1, 0, #[], rfl, Nat.le_refl _, by have := heap_alloc_new (w.alloc (.cells (madeCells #[.bool false] N) 4)) (.cells #[] 33); simpa using this, by simp, rfl⟩⟩
  have HS0 : Hid (Still w ((w.alloc (.cells (madeCells #[.bool false] N) 4)).alloc (.cells #[] 33))) := ((Still.refl w).alloc _).alloc _
  have HR0 : Hid (((w.alloc (.cells (madeCells #[.bool false] N) 4)).alloc (.cells #[] 33)).rowIs w.heap.size 4 N (fun _ => .bool false)) := (World.rowIs_made w (.bool false) N 4).alloc _
  go_wp2_with (first
    | (at_builtin; refine wpList_append_que rfl (.tmp 15) (.tmp 16) 24 rfl (w.heap.size + 1) 33 8 (.int .u64 0) Try.underlying24 infoWord rfl (some ⟨w.heap.size + 1, 0, none⟩) 0 0 [] rfl HQ0.out base' a n cap (M.u64l rl) rfl (HS.out.still HS0.out) (u64l_one _) (by unfold maxLen; omega) (by omega) (by simp) ?_
       intro a1 c1 w1 hq1 ht1 hn1))
  have HQ1 : Hid (Que w1 (w.heap.size + 1) 33 a1 n c1 (M.u64l rl)) := Lib.hid (by have := hq1.out; simpa using this)
  have HT1 : Hid (Turn (fun k => w.heap.size + 1 ≤ k) ((w.alloc (.cells (madeCells #[.bool false] N) 4)).alloc (.cells #[] 33)) w1) := ht1.out.mono fun k _ ⟨off, e⟩ => by injection e with e; injection e with e; omega
  have HS1 : Hid (Still w w1) := Still.own HS0.out (HT1.out.mono fun k _ e => by omega)
  have HR1 : Hid (w1.rowIs w.heap.size 4 N (fun _ => .bool false)) := HR0.out.of_block (HT1.out.block _ HR0.out.lt (by omega))
  clear hq1 ht1 hn1 HQ0 HS0 HR0 HT1
  obtain ⟨gi, hgi⟩ : ∃ gi, w.heap.size = gi := ⟨_, rfl⟩
  rw [hgi] at HQ1 HR1 ⊢
  have HGI := Lib.hid hgi
  have HGN : Hid (gi + 1 ≤ w1.heap.size) := Lib.hid (by have := HR1.out.lt; omega)
  clear hgi hmk
  go_loopw [6] (fun t wr => ∃ (a' : Option Addr) (n' c' : Nat) (is : Nat → Bool) (tl : List Nat), t = .slice a' n' c' ∧ Que wr (gi + 1) 33 a' n' c' (M.u64l tl) ∧ wr.rowIs gi 4 N (fun k => .bool (is k)) ∧ Rs x.L rl is tl ∧ (∀ v ∈ tl, v < 18446744073709551616) ∧ tl.length + M.unseen x.L is ≤ 65601536 ∧ Still w wr ∧ gi + 1 ≤ wr.heap.size) (fun t wr => M.slen t + M.unseen x.L (M.isAt wr gi))
  case atStart => exact ⟨a1, n, c1, fun _ => false, rl, rfl, HQ1.out, HR1.out, HST.out, HLT.out, by
    have := left_le (is := fun _ => false) HFL.out
    have h2 := HN.out
    have h3 := HNL.out
    omega, HS1.out, HGN.out⟩
  case round =>
    obtain ⟨a', n', c', is, tl, rfl, hq, hr, hrs, htl, hbd, ht, hsz⟩ := hrel
    obtain ⟨hq1, hq2, hq3, hq4⟩ := id hq
    have hnl : tl.length = n' := by simpa using hq1
    have HQ := Lib.hid hq
    have HR := Lib.hid hr
    have HRS := Lib.hid hrs
    have HTL := Lib.hid htl
    have HT := Lib.hid ht
    have HBD := Lib.hid hbd
    have HNL2 := Lib.hid hnl
    unfold maxLen at hq3
    cases tl with
    | nil =>
      obtain rfl : n' = 0 := hnl.symm
      clear hq hr hrs htl ht hbd hnl hq1 hq4
      go_wp2_with fail
      go_ret
      exact ⟨gi, is, rfl, HR.out, HRS.out.over HUN.out, HT.out, by have := HGI.out; omega⟩
    | cons v tl =>
      obtain ⟨g, off, rfl, hbg, hgl, hn0, hcell⟩ := hq.head
      obtain ⟨n', rfl⟩ : ∃ k, n' = k + 1 := ⟨n' - 1, by omega⟩
      have hrest := hq.rest
      obtain ⟨ar, har⟩ : ∃ ar, (if c' = 1 then some (⟨g, off, none⟩ : Addr) else some ⟨g, off + 1, none⟩) = ar := ⟨_, rfl⟩
      rw [har] at hrest
      have hv := htl v (List.mem_cons_self)
      have HRE := Lib.hid hrest
      have HV := Lib.hid (And.intro hbg hv)
      by_cases ho : v % 2 = 1
      · have e1 : ((v : Int) % 2 == 1) = true := beq_iff_eq.2 (by omega)
        clear hq hr hrs htl ht hbd hnl hq1 hq4 hrest hbg
        have HMS := Lib.hid (left_at (by rw [HN.out]; exact HR.out))
        go_wp2_with fail
        refine ⟨⟨_, _, _, is, tl, rfl, HRE.out, HR.out, HRS.out.pop (.inl ho), fun u hu => HTL.out u (List.mem_cons_of_mem _ hu), by have := HBD.out; simp only [List.length_cons] at this; omega, HT.out, hsz⟩, ?_⟩
        simp only [M.slen]; omega
      · have e1 : ((v : Int) % 2 == 1) = false := beq_eq_false_iff_ne.2 (by omega)
        obtain ⟨o, hom, hoa⟩ := hrs.tfit v (List.mem_cons_self) (by omega)
        obtain ⟨k, hk⟩ := List.mem_iff_getElem?.1 hom
        have hkl : k < N := by rw [← HN.out]; exact (List.getElem?_eq_some_iff.1 hk).1
        have e2 : IntKind.i64.wrap ((v : Int) / 2) = ((v / 2 : Nat) : Int) := by rw [IntKind.wrap_i64]; omega
        have HFI := find_at x k o ((v / 2 : Nat) : Int) wr (HH.out.still ht) hk (by rw [hoa]) fun j p hj hp e => by
          have := HUN.out j k p o hp hk (by omega)
          omega
        have HFD := Lib.hid HFI
        have HKK := Lib.hid (And.intro hk (And.intro hoa hom))
        obtain ⟨i, hi⟩ : ∃ i, v / 2 = i := ⟨_, rfl⟩
        rw [hi] at HFD e2
        clear hq hr hrs htl ht hbd hnl hq1 hq4 hrest hbg HFI hom hoa hk hi
        go_wp2_with fail
        refine HFD.out.mono ?_; rintro e w2 ⟨rfl, t2⟩
        have HT2 := Lib.hid t2
        have HR2 := Lib.hid (HR.out.of_block (t2.block _ HR.out.lt (fun e => e)))
        have hgi2 : gi < w2.heap.size := HR2.out.lt
        have hci : w2.cell? ⟨gi, k, none⟩ = some (.bool (is k)) := HR2.out.cell (i := k) hkl
        clear t2 hcell hgl
        cases hb : is k with
        | true =>
          rw [hb] at hci
          have HIK := Lib.hid hb
          clear hb
          have HMS := Lib.hid (left_at (by rw [HN.out]; exact HR.out))
          have HM2 := Lib.hid (left_at (by rw [HN.out]; exact HR2.out))
          go_wp2_with fail
          refine ⟨⟨_, _, _, is, tl, rfl, HRE.out.still HT2.out, HR2.out, HRS.out.pop (.inr ⟨k, o, HKK.out.1, HKK.out.2.1, HIK.out⟩), fun u hu => HTL.out u (List.mem_cons_of_mem _ hu), by have := HBD.out; simp only [List.length_cons] at this; omega, HT.out.trans HT2.out, by have := HT2.out.size; omega⟩, ?_⟩
          simp only [M.slen, HM2.out, HMS.out]; omega
        | false =>
          rw [hb] at hci
          have HIK := Lib.hid hb
          clear hb
          have hom := HKK.out.2.2
          have HLF := Lib.hid (left_tick HKK.out.1 HIK.out)
          have HNW := Lib.hid (HRS.out.new HFF.out (by omega) HKK.out.1 HKK.out.2.1)
          have hfrz := HR2.out.frozen k
          have hRF := HH.out.still (HT.out.trans HT2.out)
          have hgin : x.gx ≠ gi := by have := HGI.out; omega
          have t3 : Turn (fun b => b = gi) w2 (w2.setCell ⟨gi, k, none⟩ (.bool true)) := (Turn.refl (fun b => b = gi) w2).setCell (p := ⟨gi, k, none⟩) (fun _ => rfl) _
          have c2' : (w2.setCell ⟨gi, k, none⟩ (.bool true)).cell? ⟨x.gx, 2, none⟩ = some (.slice la N lc) := by
            have h1 := hRF.c2
            have h2 := HLV.out
            rw [HN.out] at h2
            rw [t3.cell (p := ⟨x.gx, 2, none⟩) hRF.blk.lt hgin, h1, h2]
          obtain ⟨gl, hla, c53, hgll⟩ : ∃ gl, la = some ⟨gl, 0, none⟩ ∧ (w2.setCell ⟨gi, k, none⟩ (.bool true)).cell? ⟨gl, k * 5 + 3, none⟩ = some o.fv ∧ gl < (w2.setCell ⟨gi, k, none⟩ (.bool true)).heap.size := by
            rcases hRF.lv_form with ⟨_, h0⟩ | ⟨gl, cp, h1, hgl, hb2, hle, hm, hf, hc⟩
            · rw [h0] at hom; simp at hom
            · have h2 := h1.symm.trans HLV.out
              injection h2 with h2 _ _
              have hne : gl ≠ gi := fun e => by
                have hr := hRF.row
                rw [h1] at hr
                exact own_type hr HR2.out (by decide) (by rw [e]; rfl)
              exact ⟨gl, h2.symm, by rw [t3.cell (p := ⟨gl, k * 5 + 3, none⟩) hgl hne]; exact (hc k o HKK.out.1).2.2.2.1, by simpa using hgl⟩
          subst hla
          have HT3 := Lib.hid t3
          have HQ3 : Hid (Que (w2.setCell ⟨gi, k, none⟩ (.bool true)) (gi + 1) 33 ar n' (c' - 1) (M.u64l tl)) := (HRE.out.still HT2.out).keep t3 fun g' off' e h => by
            obtain ⟨_, _, _, ⟨h1, _⟩ | ⟨g2, off2, cur2, h1, hb3, _⟩⟩ := HRE.out
            · rw [h1] at e; simp at e
            · rw [h1] at e; injection e with e; injection e with e; omega
          have HR3 : Hid ((w2.setCell ⟨gi, k, none⟩ (.bool true)).rowIs gi 4 N (fun j => .bool (M.tick is k j))) := (HR2.out.set k (.bool true)).congr fun j _ => by
            unfold M.tick
            by_cases e : j = k
            · simp [e]
            · simp [e]
          have HF3 : Hid (Que (w2.setCell ⟨gi, k, none⟩ (.bool true)) B 33 o.fa o.fs.length o.fc (M.u64l o.fs)) := ((Que.of_own (hRF.rows o hom).1).keep t3 fun g' off' e h => by
            have := (Que.of_own (hRF.rows o hom).1).ne HR2.out (by decide) g' off' e
            exact this h)
          have hfll := HFL.out o hom
          have hS3 : Still w (w2.setCell ⟨gi, k, none⟩ (.bool true)) := Still.own (HT.out.trans HT2.out) (t3.mono fun b _ e => by have := HGI.out; omega)
          have HS3 := Lib.hid hS3
          have hbd := HBD.out
          have hsz2 : gi + 1 ≤ (w2.setCell ⟨gi, k, none⟩ (.bool true)).heap.size := by simp; omega
          simp only [List.length_cons] at hbd
          have hnl2 := HNL2.out
          simp only [List.length_cons] at hnl2
          have HSZ := Lib.hid hsz2
          clear hRF t3 hgin hS3 hsz2
          go_wp2_with (first
            | (at_builtin; refine wpList_append_que rfl (.tmp 45) (.tmp 53) 24 rfl (gi + 1) 33 8 (.int .u64 0) Try.underlying24 infoWord rfl ar n' (c' - 1) _ rfl HQ3.out B o.fa o.fs.length o.fc _ rfl HF3.out (u64l_one _) (by unfold maxLen; omega) (by omega) HSZ.out ?_
               intro a4 c4 w4 hq4 ht4 hn4))
          have HM2 := Lib.hid (left_at (by rw [HN.out]; exact HR.out))
          have HT4 : Hid (Turn (fun b => gi + 1 ≤ b) (w2.setCell ⟨gi, k, none⟩ (.bool true)) w4) := ht4.out.mono fun b _ ⟨off2, e⟩ => by
            obtain ⟨_, _, _, ⟨h1, _⟩ | ⟨g2, off3, cur2, h1, hb3, _⟩⟩ := HQ3.out
            · rw [h1] at e; simp at e
            · rw [h1] at e; injection e with e; injection e with e; omega
          have HR4 := Lib.hid (HR3.out.of_block (HT4.out.block _ HR3.out.lt (by omega)))
          have HM4 := Lib.hid (left_at (by rw [HN.out]; exact HR4.out))
          have hlf := HLF.out
          refine ⟨⟨_, _, _, M.tick is k, tl ++ o.fs, rfl, ?_, HR4.out, HNW.out, fun u hu => ?_, ?_, Still.own HS3.out (HT4.out.mono fun b _ e => by have := HGI.out; omega), by have := HT4.out.size; have := HSZ.out; omega⟩, ?_⟩
          · have := hq4.out
            rwa [← List.map_append] at this
          · rcases List.mem_append.1 hu with hu | hu
            · exact HTL.out u (List.mem_cons_of_mem _ hu)
            · exact HFB.out o hom u hu
          · rw [List.length_append]; omega
          · simp only [M.slen, HM2.out, HM4.out]; omega
end Go.Proofs.Ythfkgkddklnnhaa
/- The laws' own Made of layer 3: a heap on both sides, and roots. -/
namespace Go.Proofs.Ythfkgkddklnnhaa
set_option linter.unusedVariables false
open Go.ChangeShapes Go.WideShapes Go.ChangeAt Go.RowKit
open M (W)

/-- A row of roots that came in. -/
structure Rts (w : World) (a : Option Addr) (len : Nat) (G : Nat → Nat) (near : Nat → Bool) : Prop where
  at_ : 0 < len → ∃ b off, a = some ⟨b, off, none⟩ ∧ b < w.heap.size ∧ ∀ j, j < len → G j < 18446744073709551616 ∧ w.cell? ⟨b, off + j * 2, none⟩ = some (.int .u64 (G j)) ∧ w.cell? ⟨b, off + j * 2 + 1, none⟩ = some (.bool (near j))
theorem Rts.below {w w' : World} {a : Option Addr} {len : Nat} {G : Nat → Nat} {near : Nat → Bool} (h : Rts w a len G near) (t : Below w.heap.size w w') : Rts w' a len G near :=
  ⟨fun h0 => by
    obtain ⟨b, off, e, hb, hc⟩ := h.at_ h0
    refine ⟨b, off, e, Nat.lt_of_lt_of_le hb t.size, fun j hj => ?_⟩
    have key : ∀ i, w'.cell? ⟨b, i, none⟩ = w.cell? ⟨b, i, none⟩ := fun i => t.cell (p := ⟨b, i, none⟩) hb
    rw [key, key]
    exact hc j hj⟩
/-- What Made leaves, if there is a heap. -/
structure Cased (w w1 : World) (s : St) (x : Rf) (a : Option Addr) (n c : Nat) (rl : List Nat) (w' : World) : Prop where
  still : Still w w1
  both : Both w1 w' s x
  sn : s.n = 1500
  few : x.L.length ≤ 200
  len : rl.length = n
  le : n ≤ 30
  lt : ∀ v ∈ rl, v < 18446744073709551616
  own : ∃ B, w'.ownsRow B 33 1 (.slice a n c) n (M.u64l rl) ∧ s.g < B ∧ s.gw < B ∧ w1.heap.size ≤ B
theorem Cased.of {w w1 w2 W : World} {s : St} {x : Rf} {a : Option Addr} {n c : Nat} {rl : List Nat} (h1 : Still w w1) (hb : Both w1 w2 s x) (hs : s.n = 1500) (hf : x.L.length ≤ 200) (ht : Still w2 W) (hl : rl.length = n) (hn : n ≤ 30) (hlt : ∀ v ∈ rl, v < 18446744073709551616) (ho : W.ownsRow w2.heap.size 33 1 (.slice a n c) n (M.u64l rl)) : Cased w w1 s x a n c rl W :=
  ⟨h1, hb.still ht, hs, hf, hl, hn, hlt, _, ho, hb.hp.blk.lt, hb.hp.words.lt, hb.below.size⟩
def Made3 (w : World) (n0 : Nat) (K N : Nat → Int) (e : Ending) (w' : World) : Prop :=
  (e = .returned (.tuple #[.pointer none, .pointer none, .slice none 0 0]) ∧ Still w w') ∨
  ∃ w1 s x a n c rl, e = .returned (.tuple #[s.ptr, x.ptr, .slice a n c]) ∧ Cased w w1 s x a n c rl w' ∧ s.m = n0 ∧ s.lk = K ∧ s.ln = N
set_option maxRecDepth 100000 in
set_option maxHeartbeats 4000000 in
theorem made3_nil (K N : Nat → Int) (a0 : Option Addr) (n0 c0 : Nat) (a1 : Option Addr) (n1 c1 : Nat) (a2 : Option Addr) (n2 c2 : Nat) (w : World)
    (HM : ∀ W, Still w W → Calls Try.prog 6 #[.int .i64 1500, .slice a0 n0 c0, .slice a1 n1 c1] W (MadeNil W)) :
    Calls Try.prog 16 #[.agg #[.slice a0 n0 c0, .slice a1 n1 c1, .slice a2 n2 c2]] w (Made3 w n0 K N) := by
  have HMM := Lib.hid HM
  clear HM
  go_enter Try.func16, Try.ntmps16
  go_wp2_with fail
  refine (HMM.out _ ((Still.refl w).alloc _)).mono ?_; rintro e w1 ⟨rfl, t1⟩
  have HT := Lib.hid (((Still.refl w).alloc _).trans t1)
  clear t1
  go_wp2_with fail
  go_ret3
  exact .inl ⟨rfl, HT.out⟩
set_option maxRecDepth 100000 in
set_option maxHeartbeats 4000000 in
theorem made3_ok (K N : Nat → Int) (a0 : Option Addr) (n0 c0 : Nat) (a1 : Option Addr) (n1 c1 : Nat) (a2 : Option Addr) (n2 c2 : Nat) (G : Nat → Nat) (near : Nat → Bool) (w : World)
    (HM : ∀ W, Still w W → Calls Try.prog 6 #[.int .i64 1500, .slice a0 n0 c0, .slice a1 n1 c1] W (MadeAt W 1500 n0 K N)) (hR : Rts w a2 n2 G near) (hc2 : n2 ≤ c2) (hcm : c2 ≤ maxLen) :
    Calls Try.prog 16 #[.agg #[.slice a0 n0 c0, .slice a1 n1 c1, .slice a2 n2 c2]] w (Made3 w n0 K N) := by
  have HMM := Lib.hid HM
  have HR := Lib.hid hR
  clear HM hR
  go_enter Try.func16, Try.ntmps16
  go_wp2_with fail
  have S1 : Still w (w.alloc (.cells #[.slice a0 n0 c0, .slice a1 n1 c1, .slice a2 n2 c2] 48)) := (Still.refl w).alloc _
  have B1 : Blk (w.alloc (.cells #[.slice a0 n0 c0, .slice a1 n1 c1, .slice a2 n2 c2] 48)) w.heap.size 48 #[.slice a0 n0 c0, .slice a1 n1 c1, .slice a2 n2 c2] := Blk.new w _ _
  refine (HMM.out _ S1).mono ?_; rintro e w2 ⟨s, x, rfl, hb, hsn, hfew, hlay⟩
  have HLAY := Lib.hid hlay
  clear hlay
  generalize w.alloc (.cells #[.slice a0 n0 c0, .slice a1 n1 c1, .slice a2 n2 c2] 48) = w1 at *
  have HS1 := Lib.hid S1
  have HB := Lib.hid hb
  have HRR := Lib.hid ((HR.out.below (Still.below S1)).below hb.below)
  have b2 : Blk w2 w.heap.size 48 #[.slice a0 n0 c0, .slice a1 n1 c1, .slice a2 n2 c2] := (hb.below.block _ B1.lt).trans B1
  have hcs := Blk.cell b2 2
  have hbl := b2.lt
  have hgx := hb.rf.blk.lt
  have hg1 := hb.hp.blk.lt
  have hg2 := hb.hp.words.lt
  obtain ⟨la, lc, hlv⟩ := hb.rf.lv_slice
  have cx2 : w2.cell? ⟨x.gx, 2, none⟩ = some (.slice la x.L.length lc) := by rw [hb.rf.c2, hlv]
  have HLV := Lib.hid hlv
  unfold maxLen at hcm
  clear hb S1 B1 b2 hlv
  change w2.cell? ⟨w.heap.size, 2, none⟩ = some (.slice a2 n2 c2) at hcs
  go_wp2_with fail
  go_loopw [7, 24] (fun t v wr => ∃ (j : Nat) (a : Option Addr) (n c : Nat) (rl : List Nat), v = .int .i64 j ∧ t = .slice a n c ∧ rl.length = n ∧ n = j ∧ j ≤ n2 ∧ j ≤ 30 ∧ (∀ u ∈ rl, u < 18446744073709551616) ∧ wr.ownsRow w2.heap.size 33 1 (.slice a n c) n (M.u64l rl) ∧ Still w2 wr) (fun _ v _ => n2 - (intOf v).toNat)
  case atStart => exact ⟨0, none, 0, 0, [], rfl, rfl, rfl, rfl, by omega, by omega, by simp, World.ownsRow_nil _ _ _ _, Still.refl _⟩
  case round =>
    obtain ⟨j, a, n, c, rl, rfl, rfl, hrl, rfl, hj, hj30, hlt, hown, ht⟩ := hrel
    have HRL := Lib.hid hrl
    have HLT := Lib.hid hlt
    have HOW := Lib.hid hown
    have HT := Lib.hid ht
    by_cases hjl : n < n2
    · obtain ⟨b, off, rfl, hbb, hc⟩ := HRR.out.at_ (by omega)
      obtain ⟨gl, d0, d1⟩ := hc n hjl
      have e0 : wr.cell? ⟨b, off + n * 2, none⟩ = some (.int .u64 (G n)) := by rw [ht.cell (p := ⟨b, _, none⟩) hbb]; exact d0
      have e1 : wr.cell? ⟨b, off + n * 2 + 1, none⟩ = some (.bool (near n)) := by rw [ht.cell (p := ⟨b, _, none⟩) hbb]; exact d1
      have hbw : b < wr.heap.size := Nat.lt_of_lt_of_le hbb ht.size
      have cx : wr.cell? ⟨x.gx, 2, none⟩ = some (.slice la x.L.length lc) := by rw [ht.cell (p := ⟨x.gx, 2, none⟩) hgx]; exact cx2
      have hgxw : x.gx < wr.heap.size := Nat.lt_of_lt_of_le hgx ht.size
      clear hc d0 d1 hrl hlt hown ht
      by_cases h30 : n = 30
      · subst h30
        go_wp2_with fail
        go_ret3
        exact .inr ⟨w1, s, x, a, 30, c, rl, rfl, .of HS1.out HB.out hsn hfew (HT.out.alloc _) HRL.out (Nat.le_refl _) HLT.out (own_keep HOW.out ((Still.refl wr).alloc _) (fun _ _ e => e)), HLAY.out⟩
      · have h30' : ¬ (30 : Int) ≤ (n : Int) := by omega
        have hob : ∀ (W : World) (u : Nat), Still wr W → Still wr (W.alloc (.cells #[.int .u64 u] 33)) ∧ (W.alloc (.cells #[.int .u64 u] 33)).ownsRow w2.heap.size 33 1 (.slice a n c) n (M.u64l rl) := fun W u hW => ⟨hW.alloc _, own_keep HOW.out (hW.alloc _) (fun _ _ e => e)⟩
        have HOB := Lib.hid hob
        have hdone : ∀ (W : World) (u g' c' : Nat), u < 18446744073709551616 → Still w2 W → W.ownsRow w2.heap.size 33 1 (.slice (some ⟨g', 0, none⟩) (n + 1) c') (n + 1) (M.u64l rl ++ [.int .u64 u]) → ∃ (j : Nat) (a' : Option Addr) (n' c'' : Nat) (rl' : List Nat), (Value.int .i64 ((n : Int) + 1) = .int .i64 j ∧ Value.slice (some ⟨g', 0, none⟩) (n + 1) c' = .slice a' n' c'' ∧ rl'.length = n' ∧ n' = j ∧ j ≤ n2 ∧ j ≤ 30 ∧ (∀ u ∈ rl', u < 18446744073709551616) ∧ W.ownsRow w2.heap.size 33 1 (.slice a' n' c'') n' (M.u64l rl') ∧ Still w2 W) := fun W u g' c' hu hW ho =>
          ⟨n + 1, _, _, _, rl ++ [u], by go_num, rfl, by simp [HRL.out], rfl, by omega, by omega, fun v hv => by
            rcases List.mem_append.1 hv with hv | hv
            · exact HLT.out v hv
            · obtain rfl : v = u := by simpa using hv
              exact hu, by simpa [M.u64l] using ho, hW⟩
        have HDN := Lib.hid hdone
        have HGL := Lib.hid gl
        obtain ⟨v, hv⟩ : ∃ v, G n = v := ⟨_, rfl⟩
        rw [hv] at e0 HGL
        clear hob hdone gl hv
        cases hnr : near n with
        | false =>
          rw [hnr] at e1
          clear hnr
          have HW2 : Hid (Still wr (wr.alloc (.cells #[.int .u64 v, .bool false] 90))) := (Still.refl wr).alloc _
          have HN2 := Lib.hid (one_new (wr.alloc (.cells #[.int .u64 v, .bool false] 90)) 33 (.int .u64 v) (wr.heap.size + 1) (by simp))
          go_wp2_with (first
            | (at_builtin; refine wpList_append_form rfl (.tmp 62) (.tmp 64) 24 rfl w2.heap.size 33 1 8 (.int .u64 0) Try.underlying24 infoWord rfl (by decide) a n c _ rfl (HOB.out _ v HW2.out).2 ⟨wr.heap.size + 1, 0, none⟩ 1 1 [.int .u64 v] rfl rfl HN2.out (by simp [Value.oneCell']) (by decide) (by unfold maxLen; omega) (by omega) (by have := HT.out.size; simp; omega) ?_
               intro g9 c9 w9 hown9 ht9 hnew9))
          go_roundw
          case rel => exact HDN.out w9 v g9 c9 HGL.out (Still.own_turn (HT.out.trans (HOB.out _ v HW2.out).1) ht9.out (HOB.out _ v HW2.out).2) hown9.out
          case measure => simp [intOf]; omega
        | true =>
          rw [hnr] at e1
          clear hnr
          by_cases hL : x.L.length = 0
          · rw [hL] at cx
            have HW2 : Hid (Still wr (wr.alloc (.cells #[.int .u64 v, .bool true] 90))) := (Still.refl wr).alloc _
            have HN2 := Lib.hid (one_new (wr.alloc (.cells #[.int .u64 v, .bool true] 90)) 33 (.int .u64 v) (wr.heap.size + 1) (by simp))
            clear cx2 hL
            go_wp2_with (first
              | (at_builtin; refine wpList_append_form rfl (.tmp 62) (.tmp 64) 24 rfl w2.heap.size 33 1 8 (.int .u64 0) Try.underlying24 infoWord rfl (by decide) a n c _ rfl (HOB.out _ v HW2.out).2 ⟨wr.heap.size + 1, 0, none⟩ 1 1 [.int .u64 v] rfl rfl HN2.out (by simp [Value.oneCell']) (by decide) (by unfold maxLen; omega) (by omega) (by have := HT.out.size; simp; omega) ?_
                 intro g9 c9 w9 hown9 ht9 hnew9))
            go_roundw
            case rel => exact HDN.out w9 v g9 c9 HGL.out (Still.own_turn (HT.out.trans (HOB.out _ v HW2.out).1) ht9.out (HOB.out _ v HW2.out).2) hown9.out
            case measure => simp [intOf]; omega
          · rcases HB.out.rf.lv_form with ⟨_, h0⟩ | ⟨g, cap, h1, hg, hb, hle, hm, hf, hc⟩
            · rw [h0] at hL; simp at hL
            have hqm : v % x.L.length < x.L.length := Nat.mod_lt _ (by omega)
            obtain ⟨oo, ho⟩ : ∃ o, x.L[v % x.L.length]? = some o := ⟨_, List.getElem?_eq_getElem hqm⟩
            obtain ⟨d0, _⟩ := hc _ oo ho
            have hla : la = some ⟨g, 0, none⟩ := by have := HLV.out; rw [h1] at this; injection this with e; exact e.symm
            subst hla
            obtain ⟨jj, hjj⟩ : ∃ j, v % x.L.length = j := ⟨_, rfl⟩
            have q1 : ((v : Int) % (x.L.length : Int)) = (jj : Int) := by rw [← hjj]; simp
            have q2 : (v : Int).tmod (x.L.length : Int) = (jj : Int) := by rw [← q1]; exact Int.tmod_eq_emod_of_nonneg (by omega)
            rw [hjj] at d0 hqm
            have htop := ((HB.out.sim.tile.get ho).2)
            have hnn := HB.out.hp.n_le
            have htt := HB.out.hp.top_le
            have hat : oo.at_ ≤ 65536 := by omega
            obtain ⟨y, hy⟩ : ∃ y, oo.at_ * 2 = y := ⟨_, rfl⟩
            have hy1 : (oo.at_ : Int) * 2 = (y : Int) := by omega
            have hy2 : y < 18446744073709551616 := by omega
            have hy4 : y < 4294967296 := by omega
            have hz : ((x.L.length : Int) == 0) = false := beq_eq_false_iff_ne.2 (by omega)
            have hy3 : IntKind.u64.wrap (y : Int) = (y : Int) := by rw [IntKind.wrap_u64]; omega
            have hw1 : IntKind.u64.wrap (oo.at_ : Int) = (oo.at_ : Int) := by rw [IntKind.wrap_u64]; omega
            have hw2 : IntKind.u64.wrap (x.L.length : Int) = (x.L.length : Int) := by rw [IntKind.wrap_u64]; omega
            have hw3 : IntKind.i64.wrap (jj : Int) = (jj : Int) := by rw [IntKind.wrap_i64]; omega
            have HY2 := Lib.hid hy2
            have d0' : wr.cell? ⟨g, jj * 5, none⟩ = some (.int .i64 oo.at_) := by rw [HT.out.cell (p := ⟨g, _, none⟩) hg]; exact d0
            have hgw : g < wr.heap.size := Nat.lt_of_lt_of_le hg HT.out.size
            have hLp : (0 : Int) < (x.L.length : Int) := by omega
            have HFEW := Lib.hid hfew
            clear hc h1 ho hm hf hjj htop htt hle hy hnn hb d0 cx2 hL
            go_wp2_with fail
            go_quiet (fail)
            have HW2 : Hid (Still wr ((wr.alloc (.cells #[.int .u64 v, .bool true] 90)).drewN nq)) := ((Still.refl wr).alloc _).drewN nq
            have HN2 := Lib.hid (one_new ((wr.alloc (.cells #[.int .u64 v, .bool true] 90)).drewN nq) 33 (.int .u64 y) (wr.heap.size + 1) (by simp))
            clear q1 q2 hy1 hy3 hw1 hw2 hw3 hz
            go_wp2_with (first
              | (at_builtin; refine wpList_append_form rfl (.tmp 62) (.tmp 64) 24 rfl w2.heap.size 33 1 8 (.int .u64 0) Try.underlying24 infoWord rfl (by decide) a n c _ rfl (HOB.out _ y HW2.out).2 ⟨wr.heap.size + 1, 0, none⟩ 1 1 [.int .u64 y] rfl rfl HN2.out (by simp [Value.oneCell']) (by decide) (by unfold maxLen; omega) (by omega) (by have := HT.out.size; simp; omega) ?_
                 intro g9 c9 w9 hown9 ht9 hnew9))
            go_roundw
            case rel => exact HDN.out w9 y g9 c9 HY2.out (Still.own_turn (HT.out.trans (HOB.out _ y HW2.out).1) ht9.out (HOB.out _ y HW2.out).2) hown9.out
            case measure => simp [intOf]; omega
    · obtain rfl : n = n2 := by omega
      clear hrl hlt hown ht
      go_wp2_with fail
      go_ret3
      exact .inr ⟨w1, s, x, a, n, c, rl, rfl, .of HS1.out HB.out hsn hfew HT.out HRL.out hj30 HLT.out HOW.out, HLAY.out⟩
end Go.Proofs.Ythfkgkddklnnhaa
/- The laws' case of layer 3 as an argument; Made of any case. -/
namespace Go.Proofs.Ythfkgkddklnnhaa
set_option linter.unusedVariables false
open Go.ChangeShapes Go.WideShapes Go.ChangeAt Go.RowKit Go.Deep

structure IsRts (w : World) (a : Option Addr) (len cap : Nat) (G : Nat → Nat) (near : Nat → Bool) : Prop where
  le : len ≤ cap
  cap_le : cap ≤ maxLen
  rts : Rts w a len G near
theorem slice_form {H : Type} {enc : TypeId × Value → H} {w : World} {base : Nat} {spare : Nat → Bool} {held : Bool} {t e : TypeId} {fuel : Nat} {v : Value} {x : DataW H × List MemPlace} (ht : Try.prog.underlying t = some (.slice e))
    (h : DataW.trod enc Try.prog w base spare held fuel t [v] = some x) : ∃ a n c, v = .slice a n c := by
  rcases open_slice ht h with ⟨hcs, _⟩ | ⟨ad, l, c, m, n, D, Pl, hcs, _⟩
  · simp at hcs; exact ⟨_, _, _, hcs⟩
  · simp at hcs; exact ⟨_, _, _, hcs⟩
theorem open_rts {H : Type} {enc : TypeId × Value → H} {w : World} {fuel : Nat} {a : Option Addr} {len cap : Nat} {x : DataW H × List MemPlace}
    (h : DataW.trod enc Try.prog w 0 (fun _ => true) true fuel 46 [.slice a len cap] = some x) : ∃ G near, IsRts w a len cap G near := by
  rcases open_slice_pairs Try.underlying46 Try.underlying90 (by kernel_rfl) rfl rfl (by kernel_rfl) (by kernel_rfl) h with ⟨hcs, _⟩ | ⟨ad, l, c, m, n, V0, V1, D0, D1, P0, P1, hcs, _, hl, hm, hmm, hx, hcell⟩
  · simp at hcs
    obtain ⟨rfl, rfl, rfl⟩ := hcs
    exact ⟨fun _ => 0, fun _ => false, Nat.le_refl _, Nat.zero_le _, ⟨fun h => absurd h (Nat.lt_irrefl _)⟩⟩
  · simp at hcs
    obtain ⟨rfl, rfl, rfl⟩ := hcs
    simp at hmm
    subst hmm
    have hk : ∀ i, ∃ (k : Nat) (n : Bool), i < m → V0 i = .int .u64 k ∧ V1 i = .bool n ∧ k < 18446744073709551616 := by
      intro i
      by_cases hi : i < m
      · obtain ⟨_, _, t0, t1⟩ := hcell i hi
        obtain ⟨k, e0, _, w0⟩ := DataW.trod_int Try.underlying33 t0
        obtain ⟨n, e1, _⟩ := DataW.trod_bool Try.underlying4 t1
        simp at e0 e1
        have w0' : 0 ≤ k ∧ k ≤ 18446744073709551615 := by simpa [Lit.wf, IntKind.min, IntKind.max, IntKind.signed, IntKind.bits] using w0
        obtain ⟨u, rfl⟩ := Int.eq_ofNat_of_zero_le w0'.1
        exact ⟨u, n, fun _ => ⟨e0, e1, by omega⟩⟩
      · exact ⟨0, false, fun h => absurd h hi⟩
    refine ⟨fun i => Classical.choose (hk i), fun i => Classical.choose (Classical.choose_spec (hk i)), hl, hm, ⟨fun h0 => ?_⟩⟩
    have hs := fun i => Classical.choose_spec (Classical.choose_spec (hk i))
    obtain ⟨b, off, spot⟩ := ad
    have c0 := (hcell 0 (by omega)).1
    have hspot : spot = none := by simpa [Addr.add] using World.cell?_spot c0
    subst hspot
    refine ⟨b, off, rfl, World.block_lt_of_cell? w ⟨b, off + 0 * 2, none⟩ (by rw [← Go.WideShapes.add_plain]; exact c0), fun i hi => ?_⟩
    obtain ⟨g0, g1, g2⟩ := hs i (by omega)
    obtain ⟨c0, c1, _, _⟩ := hcell i (by omega)
    rw [Go.WideShapes.add_plain] at c0 c1
    exact ⟨g2, c0.trans (congrArg some g0), by rw [Nat.add_assoc]; exact c1.trans (congrArg some g1)⟩
/-- A case: three slices. -/
structure IsCase (w : World) (a0 : Option Addr) (n0 c0 : Nat) (K N : Nat → Int) (a1 : Option Addr) (n1 c1 : Nat) (F : Nat → OpR) (a2 : Option Addr) (n2 c2 : Nat) (G : Nat → Nat) (near : Nat → Bool) : Prop where
  lays : IsLays w a0 n0 c0 K N
  ops : IsOps w a1 n1 c1 F
  rts : IsRts w a2 n2 c2 G near
theorem cellsLays : Try.prog.cellsOf 22 = 1 := by kernel_rfl
theorem cellsOps : Try.prog.cellsOf 23 = 1 := by kernel_rfl
theorem cellsRts : Try.prog.cellsOf 46 = 1 := by kernel_rfl
theorem cellsCase : Try.prog.cellsOf 48 = 3 := by kernel_rfl
theorem list3 {α : Type} : ∀ (l : List α), l.length = 3 → ∃ a b c, l = [a, b, c]
  | [a, b, c], _ => ⟨a, b, c, rfl⟩
theorem case_cells {H : Type} {enc : TypeId × Value → H} {w : World} {fuel : Nat} {cs : List Value} {x : DataW H × List MemPlace}
    (h : DataW.trod enc Try.prog w 0 (fun _ => true) true fuel 48 cs = some x) : ∃ (a0 : Option Addr) (n0 c0 : Nat) (K N : Nat → Int) (a1 : Option Addr) (n1 c1 : Nat) (F : Nat → OpR) (a2 : Option Addr) (n2 c2 : Nat) (G : Nat → Nat) (near : Nat → Bool), IsCase w a0 n0 c0 K N a1 n1 c1 F a2 n2 c2 G near ∧ cs = [.slice a0 n0 c0, .slice a1 n1 c1, .slice a2 n2 c2] := by
  obtain ⟨xs, n, _, _, hlen, hxl, hg⟩ := DataW.trod_struct Try.underlying48 h
  rw [cellsCase] at hlen
  obtain ⟨v0, v1, v2, rfl⟩ := list3 cs hlen
  have hx : ∀ i, i < 3 → ∃ y, xs[i]? = some y := fun i hi => ⟨_, List.getElem?_eq_getElem (by rw [hxl]; exact hi)⟩
  obtain ⟨y0, g0⟩ := hx 0 (by decide)
  obtain ⟨y1, g1⟩ := hx 1 (by decide)
  obtain ⟨y2, g2⟩ := hx 2 (by decide)
  have h0 := (hg 0 _ rfl).trans g0
  have h1 := (hg 1 _ rfl).trans g1
  have h2 := (hg 2 _ rfl).trans g2
  simp only [List.getElem_toArray, List.getElem_cons_zero, List.getElem_cons_succ, cellsLays, cellsOps, cellsRts, List.drop_zero, List.drop_succ_cons, List.take_succ_cons, List.take_zero] at h0 h1 h2
  obtain ⟨a0, n0, c0, rfl⟩ := slice_form Try.underlying22 h0
  obtain ⟨a1, n1, c1, rfl⟩ := slice_form Try.underlying23 h1
  obtain ⟨a2, n2, c2, rfl⟩ := slice_form Try.underlying46 h2
  obtain ⟨K, N, w0⟩ := open_lays h0
  obtain ⟨F, w1⟩ := open_ops h1
  obtain ⟨G, near, w2⟩ := open_rts h2
  exact ⟨a0, n0, c0, K, N, a1, n1, c1, F, a2, n2, c2, G, near, ⟨w0, w1, w2⟩, rfl⟩
theorem made3_any {w : World} {a0 : Option Addr} {n0 c0 : Nat} {K N : Nat → Int} {a1 : Option Addr} {n1 c1 : Nat} {F : Nat → OpR} {a2 : Option Addr} {n2 c2 : Nat} {G : Nat → Nat} {near : Nat → Bool} (h : IsCase w a0 n0 c0 K N a1 n1 c1 F a2 n2 c2 G near) (W : World) (hW : Still w W) :
    Calls Try.prog 16 #[.agg #[.slice a0 n0 c0, .slice a1 n1 c1, .slice a2 n2 c2]] W (Made3 W n0 K N) := by
  have hL : ∀ V, Still w V → Lays V a0 n0 K N := fun V t => h.lays.lays.still t
  have hO : ∀ V, Still w V → Ops V a1 n1 F := fun V t => h.ops.ops.below (Still.below t)
  have hR : Rts W a2 n2 G near := h.rts.rts.below (Still.below hW)
  by_cases hl : 512 < n0
  · exact made3_nil K N _ _ _ _ _ _ _ _ _ _ fun V t => made_big 1500 _ _ _ _ _ _ V (by decide) hl h.lays.le h.lays.cap_le
  · by_cases hg : ∀ j, j < n0 → M.mayBe (K j) (N j) = true
    · exact made3_ok K N _ _ _ _ _ _ _ _ _ G near W (fun V t => made_at 1500 _ _ _ K N _ _ _ F V (by decide) (by omega) (hL V (hW.trans t)) hg (hO V (hW.trans t)) h.ops.le h.ops.cap_le) hR h.rts.le h.rts.cap_le
    · exact made3_nil K N _ _ _ _ _ _ _ _ _ _ fun V t => made_bad 1500 _ _ _ K N _ _ _ V (by decide) (by omega) (hL V (hW.trans t)) hg
end Go.Proofs.Ythfkgkddklnnhaa
/- The document's Fit; the laws' alike. -/
namespace Go.Proofs.Ythfkgkddklnnhaa
set_option linter.unusedVariables false
open Go.ChangeShapes Go.WideShapes Go.ChangeAt Go.RowKit
open M (W)

/-- Numbers that can be read in a row. -/
structure ReadL (w : World) (a : Option Addr) (l : List Nat) : Prop where
  at_ : 0 < l.length → ∃ b off, a = some ⟨b, off, none⟩ ∧ b < w.heap.size ∧ ∀ i, i < l.length → w.cell? ⟨b, off + i, none⟩ = some (.int .u64 (l.getD i 0 : Nat))
theorem ReadL.still {w w' : World} {a : Option Addr} {l : List Nat} (h : ReadL w a l) (t : Still w w') : ReadL w' a l :=
  ⟨fun h0 => by
    obtain ⟨b, off, e, hb, hc⟩ := h.at_ h0
    exact ⟨b, off, e, Nat.lt_of_lt_of_le hb t.size, fun i hi => by rw [t.cell (p := ⟨b, _, none⟩) hb]; exact hc i hi⟩⟩
theorem ReadL.of_que {w : World} {base : Nat} {a : Option Addr} {n c : Nat} {l : List Nat} (h : Que w base 33 a n c (M.u64l l)) : ReadL w a l ∧ ∀ b off, a = some ⟨b, off, none⟩ → base ≤ b := by
  have hq := h
  obtain ⟨hl, hn, hc, ⟨h1, h2⟩ | ⟨g, off, cur, h1, hb, hg, hs, ht⟩⟩ := h
  · refine ⟨⟨fun h0 => ?_⟩, fun b off e => by rw [h1] at e; simp at e⟩
    have : l.length = n := by simpa using hl
    omega
  · subst h1
    refine ⟨⟨fun h0 => ⟨g, off, rfl, (Array.getElem?_eq_some_iff.1 hg).1, fun i hi => ?_⟩⟩, fun b o e => by injection e with e; injection e with e1 e2; omega⟩
    have := hq.cells i (.int .u64 (l.getD i 0 : Nat)) (by
      rw [List.getElem?_map, List.getElem?_eq_getElem hi, List.getD_eq_getElem?_getD, List.getElem?_eq_getElem hi]; rfl)
    rwa [Addr.add_lit] at this
theorem ReadL.of_row {w : World} {g : Nat} {l : List Nat} (h : w.rowIs g 33 l.length (fun i => .int .u64 (l.getD i 0 : Nat))) : ReadL w (some ⟨g, 0, none⟩) l :=
  ⟨fun h0 => ⟨g, 0, rfl, h.lt, fun i hi => by rw [Nat.zero_add]; exact h.cell (i := i) hi⟩⟩
theorem getD_lt64 {l : List Nat} (h : ∀ v ∈ l, v < 18446744073709551616) (i : Nat) : l.getD i 0 < 18446744073709551616 := by
  rw [List.getD_eq_getElem?_getD]
  cases hh : l[i]? with
  | none => simp
  | some v => simpa using h v (List.mem_of_getElem? hh)
theorem Cased.que {w w1 w' : World} {s : St} {x : Rf} {a : Option Addr} {n c : Nat} {rl : List Nat} (h : Cased w w1 s x a n c rl w') : ∃ B, Que w' B 33 a n c (M.u64l rl) ∧ s.g < B ∧ s.gw < B ∧ w1.heap.size ≤ B := by
  obtain ⟨B, ho, h1, h2, h3⟩ := h.own
  exact ⟨B, .of_own ho, h1, h2, h3⟩
theorem Cased.root {w w1 w' : World} {s : St} {x : Rf} {a : Option Addr} {n c : Nat} {rl : List Nat} (h : Cased w w1 s x a n c rl w') : RootL w' s a rl := by
  obtain ⟨B, hq, h1, h2, h3⟩ := h.que
  obtain ⟨hr, hb⟩ := ReadL.of_que hq
  refine ⟨fun h0 => ?_, getD_lt64 h.lt, by have := h.len; have := h.le; omega⟩
  obtain ⟨b, off, e, hl, hc⟩ := hr.at_ h0
  exact ⟨b, off, e, hl, by have := hb b off e; omega, hc⟩
set_option maxHeartbeats 1000000 in
theorem fit_any {B : Nat} (x : Rf) (a : Option Addr) (n c : Nat) (rl : List Nat) (w : World) (h : RfIs B w x) (hr : ReadL w a rl) (hn : rl.length = n) (hnc : n ≤ c) (hc : c ≤ maxLen) (hlt : ∀ v ∈ rl, v < 18446744073709551616) :
    Calls Try.prog 19 #[x.ptr, .slice a n c] w fun e w' => Still w w' ∧ ((e = .returned (.bool true) ∧ ∀ v ∈ rl, x.fits (v : Nat) = true) ∨ (e = .returned (.bool false) ∧ ∃ v ∈ rl, x.fits (v : Nat) = false)) := by
  have HH := Lib.hid h
  have HR := Lib.hid hr
  have HN := Lib.hid hn
  have HLT := Lib.hid hlt
  unfold maxLen at hc
  clear h hr hn hlt
  go_enter Try.func19, Try.ntmps19
  go_wp2_with fail
  go_loopw [9] (fun v wr => ∃ j : Nat, v = .int .i64 j ∧ j ≤ n ∧ Still w wr ∧ ∀ i, i < j → x.fits (rl.getD i 0 : Nat) = true) (fun v _ => n - (intOf v).toNat)
  case atStart => exact ⟨0, rfl, by omega, Still.refl _, fun i hi => by omega⟩
  case round =>
    obtain ⟨j, rfl, hj, ht, hf⟩ := hrel
    have HT := Lib.hid ht
    have HF := Lib.hid hf
    by_cases hlt : j < n
    · obtain ⟨b, off, rfl, hb, hcell⟩ := (HR.out.still ht).at_ (by have := HN.out; omega)
      have cj := hcell j (by have := HN.out; omega)
      have hjm : rl.getD j 0 ∈ rl := getD_mem (by have := HN.out; omega)
      have hv := HLT.out _ hjm
      have HX := refFits_any x (rl.getD j 0 : Nat) wr (HH.out.still ht) (by omega) (by omega)
      have HJM := Lib.hid hjm
      obtain ⟨v, hvv⟩ : ∃ v, rl.getD j 0 = v := ⟨_, rfl⟩
      have HVV := Lib.hid hvv
      rw [hvv] at cj HX hv
      clear hcell hjm hvv ht hf
      cases hx : x.fits (v : Nat) with
      | true =>
        rw [hx] at HX
        have HX2 := Lib.hid HX
        have HXX := Lib.hid hx
        clear HX hx
        go_wp2_with fail
        refine HX2.out.mono ?_; rintro e w2 ⟨rfl, t2⟩
        have HT2 := Lib.hid t2
        clear t2
        go_wp2_with fail
        go_roundw
        case rel => exact ⟨j + 1, by go_num, by omega, HT.out.trans HT2.out, fun i hi => by
          by_cases e : i = j
          · subst e; rw [HVV.out]; exact HXX.out
          · exact HF.out i (by omega)⟩
        case measure => simp [intOf]; omega
      | false =>
        rw [hx] at HX
        have HX2 := Lib.hid HX
        have HXX := Lib.hid hx
        clear HX hx
        go_wp2_with fail
        refine HX2.out.mono ?_; rintro e w2 ⟨rfl, t2⟩
        have HT2 := Lib.hid t2
        clear t2
        go_wp2_with fail
        go_ret
        exact ⟨HT.out.trans HT2.out, .inr ⟨rfl, v, by rw [← HVV.out]; exact HJM.out, HXX.out⟩⟩
    · obtain rfl : j = n := by omega
      clear ht hf
      go_wp2_with fail
      go_ret
      refine ⟨HT.out, .inl ⟨rfl, fun v hv => ?_⟩⟩
      obtain ⟨i, hi, rfl⟩ := List.mem_iff_getElem.1 hv
      have := HF.out i (by have := HN.out; omega)
      rwa [List.getD_eq_getElem?_getD, List.getElem?_eq_getElem hi] at this
end Go.Proofs.Ythfkgkddklnnhaa
/- The laws' alike: of the same numbers it says so. -/
namespace Go.Proofs.Ythfkgkddklnnhaa
set_option linter.unusedVariables false
open Go.ChangeShapes Go.WideShapes Go.ChangeAt Go.RowKit
open M (W)

set_option maxRecDepth 100000 in
set_option maxHeartbeats 2000000 in
theorem alike_same (a a' : Option Addr) (n c c' : Nat) (l : List Nat) (w : World) (h : ReadL w a l) (h' : ReadL w a' l) (hn : l.length = n) (hc : n ≤ c) (hc' : n ≤ c') (hb : n ≤ 65536) (hlt : ∀ v ∈ l, v < 18446744073709551616) :
    Calls Try.prog 21 #[.slice a n c, .slice a' n c'] w fun e w' => e = .returned (.bool true) ∧ Still w w' := by
  have HR := Lib.hid h
  have HR' := Lib.hid h'
  have HN := Lib.hid hn
  have HLT := Lib.hid hlt
  have hne : ((n : Int) != n) = false := by simp
  clear h h' hn hlt
  go_enter Try.func21, Try.ntmps21
  go_wp2_with fail
  go_loopw [13] (fun v wr => ∃ j : Nat, v = .int .i64 j ∧ j ≤ n ∧ Still w wr) (fun v _ => n - (intOf v).toNat)
  case atStart => exact ⟨0, rfl, by omega, Still.refl _⟩
  case round =>
    obtain ⟨j, rfl, hj, ht⟩ := hrel
    have HT := Lib.hid ht
    by_cases hlt : j < n
    · obtain ⟨b, off, rfl, hb1, hcell⟩ := (HR.out.still ht).at_ (by have := HN.out; omega)
      obtain ⟨b', off', rfl, hb2, hcell'⟩ := (HR'.out.still ht).at_ (by have := HN.out; omega)
      have cj := hcell j (by have := HN.out; omega)
      have cj' := hcell' j (by have := HN.out; omega)
      obtain ⟨v, hvv⟩ : ∃ v, l.getD j 0 = v := ⟨_, rfl⟩
      rw [hvv] at cj cj'
      have hvn : ((v : Int) != v) = false := by simp
      clear hcell hcell' ht hvv
      go_wp2_with fail
      go_quiet (fail)
      go_wp2_with fail
      go_roundw
      case rel => exact ⟨j + 1, by go_num, by omega, HT.out.drewN nq⟩
      case measure => simp [intOf]; omega
    · obtain rfl : j = n := by omega
      clear ht
      go_wp2_with fail
      go_ret
      exact ⟨rfl, HT.out⟩
end Go.Proofs.Ythfkgkddklnnhaa
